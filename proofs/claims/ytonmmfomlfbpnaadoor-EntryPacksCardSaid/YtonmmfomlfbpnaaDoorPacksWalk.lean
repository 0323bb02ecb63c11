/-
  The law EntryPacks: its walk.
-/
import Derived.Test.YtonmmfomlfbpnaaDoorEnt3
import Derived.Test.YtonmmfomlfbpnaaDoorEnt5
namespace Go.Proofs.YtonmmfomlfbpnaaDoor
open Go.RowKit
set_option linter.unusedVariables false

set_option maxHeartbeats 1600000 in
theorem packs_walk (v r w x u s d : Bool) (f a : Int) (k : Bool) (W : World) (hT : BT W) :
    Calls Tryd.prog 3 #[ent v r w x u s d f, .int .i64 a, .bool k] W fun e W' => e = .returned (.bool true) ∧ Below W.heap.size W W' := by
  have C1 := pack_any v r w x u s d f
  have C2 := rpack_any v r w x u s d f
  have C3 := leaf_any v r w x u s d f
  have C4 := rleaf_any v r w x u s d f
  have C5 := allows_any v r w x u s d f a k
  have C6 := rallows_any v r w x u s d f a k
  have C7 := names_any
  generalize packN v r w x u s d f = pn at *
  generalize packE v r w x u s d f = pe at *
  generalize leafP v r x = L at *
  generalize allowP v r w x u a k = A at *
  have HT : Hid (BT W) := hT
  clear hT
  unfold ent at *
  go_enter Tryd.func3, Tryd.ntmps3
  go_wp2_with fail
  refine (C1 _ (HT.out.below (((Below.refl _ _).alloc (Nat.le_refl _) _).alloc (by simp) _))).mono ?_
  rintro e w1 ⟨rfl, hb1⟩
  have HB1 : Hid (Below W.heap.size W w1) := (((Below.refl _ _).alloc (Nat.le_refl _) _).alloc (by simp) _).trans (hb1.mono (by simp; omega))
  obtain ⟨hc1, hf1⟩ := bcell hb1
  simp only [World.size_alloc] at hc1 hf1
  have hs1 : W.heap.size + 1 < w1.heap.size := by have := hb1.size; simp at this; omega
  have HC1 : Hid (Below (W.heap.size + 2) _ w1) := (by simpa [World.size_alloc] using hb1 : Below (W.heap.size + 1 + 1) _ w1)
  clear hb1 C1
  go_wp2_with fail
  refine (C2 _).mono ?_
  rintro e w2 ⟨rfl, hb2⟩
  have HC2 : Hid (Below (W.heap.size + 2) _ w2) := HC1.out.trans (hb2.mono (by omega))
  have HB2 : Hid (Below W.heap.size W w2) := HB1.out.trans (hb2.mono (by omega))
  have hs2 : W.heap.size + 1 < w2.heap.size := by have := hb2.size; omega
  obtain ⟨hc2, hf2⟩ := bcell HC2.out
  clear hb2 C2 hc1 hf1 HB1 HC1
  go_wp2_with fail
  have hne := above_here w2
  have hab : ∀ (s : Above w2) b o, b < W.heap.size + 2 → s.wld.cell? ⟨b, o, none⟩ = _ := fun s b o h => (s.bel.cell (p := ⟨b, o, none⟩) (by show b < _; omega)).trans (hc2 b o h)
  refine wp_region_above (by kernel_rfl) (by kernel_rfl) ?_
  repeat (first
    | go_big_quiet_skip
    | (go_big_quiet_want; go_big_quiet_op; go_big_quiet_on))
  (go_big_quiet_want; go_big_quiet_op; apply Exists.intro; refine ⟨fun s => ?_, ?_⟩; exact above_call s (C3 _); go_big_quiet_on)
  repeat (first
    | go_big_quiet_skip
    | (go_big_quiet_want; go_big_quiet_op; go_big_quiet_on))
  (go_big_quiet_want; go_big_quiet_op; apply Exists.intro; refine ⟨fun s => ?_, ?_⟩; exact above_call s (C4 _); go_big_quiet_on)
  repeat (first
    | go_big_quiet_skip
    | (go_big_quiet_want; go_big_quiet_op; go_big_quiet_on))
  (go_big_quiet_want; go_big_quiet_op; apply Exists.intro; refine ⟨fun s => ?_, ?_⟩; exact above_call s (C5 _); go_big_quiet_on)
  repeat (first
    | go_big_quiet_skip
    | (go_big_quiet_want; go_big_quiet_op; go_big_quiet_on))
  (go_big_quiet_want; go_big_quiet_op; apply Exists.intro; refine ⟨fun s => ?_, ?_⟩; exact above_call s (C6 _); go_big_quiet_on)
  repeat (first
    | go_big_quiet_skip
    | (go_big_quiet_want; go_big_quiet_op; go_big_quiet_on))
  (go_big_quiet_want; go_big_quiet_op; apply Exists.intro; refine ⟨fun s => ?_, ?_⟩; exact above_same s (C7 _); go_big_quiet_on)
  repeat (first
    | go_big_quiet_skip
    | (go_big_quiet_want; go_big_quiet_op; go_big_quiet_on))
  refine wpQuiet_nil ?_
  rintro _ ⟨s, rfl⟩
  have HB3 : Hid (Below W.heap.size W s.wld) := HB2.out.trans (s.bel.mono (by omega))
  go_wp2_with fail
  go_ret
  exact ⟨rfl, HB3.out⟩
end Go.Proofs.YtonmmfomlfbpnaaDoor
