/-
  The law EntryAllows: its walk. The statement that compares leaves its order open, and what it calls lays new blocks: it is walked once, in every world that has those that were there.
-/
import Derived.Test.YtonmmfomlfbpnaaEnt
namespace Go.Proofs.Ytonmmfomlfbpnaa
open Go.RowKit
set_option linter.unusedVariables false

/-- a world that has all blocks of another one as they were -/
structure Above (W : World) where
  wld : World
  bel : Below W.heap.size W wld

theorem above_here (W : World) : Nonempty (Above W) := ⟨⟨W, Below.refl _ _⟩⟩

theorem wp_region_above {P : Program} {id : Nat} {Q : Exit → Act → World → Prop} {a : Act} {w : World} {l : List Oper} (hm : P.follows .mixedOrders = true) (hB : Region.lexB .any l.toArray = true)
    (h : wpQuiet P l.toArray (fun w' => ∃ s : Above w, w' = s.wld) (fun a' => ∀ w', (∃ s : Above w, w' = s.wld) → Q .normal a' w') l a) : (Code.region id l.toArray true).wp P Q a w :=
  wp_region_quiet (C := fun w' => ∃ s : Above w, w' = s.wld) hm hB ⟨⟨_, (Below.refl _ _).drew⟩, rfl⟩ (by simpa using h)

theorem above_call {P : Program} {f : FuncId} {args : Array Value} {W : World} {v : Value} (s : Above W)
    (h : Calls P f args s.wld fun e w' => e = .returned v ∧ Below s.wld.heap.size s.wld w') : Calls P f args s.wld fun e w'' => e = .returned v ∧ ∃ s' : Above W, w'' = s'.wld :=
  h.mono fun _ w' ⟨he, hb⟩ => ⟨he, ⟨w', s.bel.trans (hb.mono s.bel.size)⟩, rfl⟩

set_option maxHeartbeats 4000000 in
theorem walk (v r w x u s d : Bool) (f : Int) (k : Bool) (W : World) :
    Calls Try.prog 3 #[ent v r w x u s d f, .bool k] W fun e W' => e = .returned (.bool true) ∧ Below W.heap.size W W' := by
  have C1 := fun a => allows_any true false false false false false false f a k
  have C2 := fun a => allows_any false false false false false false false 0 a k
  have C3 := fun a => allows_any v r w x u s d f a k
  have C4 := allows_any true true true true k false false 0 2 k
  have C5 := allows_any true true true true k false false 0 2 (!k)
  have C6 := leaf_any true false false false false false false f
  have e4 : allowP true true true true k 2 k = true := by simp [allowP, leafP, grantP]
  have e5 : allowP true true true true k 2 (!k) = false := by cases k <;> rfl
  have e6 : leafP true false false = false := rfl
  have e1 : ∀ a, allowP true false false false false a k = false := fun a => rfl
  have e2 : ∀ a, allowP false false false false false a k = false := fun a => rfl
  simp only [e1] at C1
  simp only [e2] at C2
  rw [e4] at C4
  rw [e5] at C5
  rw [e6] at C6
  clear e1 e2 e4 e5 e6
  unfold ent at *
  go_enter Try.func3, Try.ntmps3
  go_wp2_with fail
  go_loopw [6] (fun i w' => ∃ n : Nat, n ≤ 3 ∧ i = .int .i64 n ∧ Below (W.heap.size + 2) ((W.alloc (.cells #[.bool v, .bool r, .bool w, .bool x, .bool u, .bool s, .bool d, .int .i64 f] 23)).alloc (.cells #[.bool true, .bool false, .bool false, .bool false, .bool false, .bool false, .bool false, .int .i64 f] 23)) w') (fun i _ => 3 - (intOf i).toNat)
  case atStart => exact ⟨0, by omega, rfl, Below.refl _ _⟩
  case round =>
    obtain ⟨n, hn, rfl, hb⟩ := hrel
    have hs : W.heap.size + 1 < wr.heap.size := by have := hb.size; simp at this; omega
    have HB : Hid (Below (W.heap.size + 2) _ wr) := hb
    obtain ⟨hc, hf⟩ := bcell hb
    clear hb
    obtain rfl | rfl | rfl | rfl : n = 0 ∨ n = 1 ∨ n = 2 ∨ n = 3 := by omega
    · go_wp2_with fail
      refine (C1 _ _).mono ?_
      rintro e w1 ⟨rfl, hb1⟩
      have hs1 : W.heap.size + 1 < w1.heap.size := by have := hb1.size; omega
      have HB1 : Hid (Below (W.heap.size + 2) _ w1) := HB.out.trans (hb1.mono (by omega))
      clear hb1 hc hf
      go_wp2_with fail
      refine (C2 _ _).mono ?_
      rintro e w2 ⟨rfl, hb2⟩
      have hs2 : W.heap.size + 1 < w2.heap.size := by have := hb2.size; omega
      have HB2 : Hid (Below (W.heap.size + 2) _ w2) := HB1.out.trans (hb2.mono (by omega))
      obtain ⟨hc2, hf2⟩ := bcell HB2.out
      clear hb2 C1 C2 C4 C5 C6 HB HB1
      have C3 := C3 0
      have hne := above_here w2
      have hab : ∀ (s : Above w2) b o, b < W.heap.size + 2 → s.wld.cell? ⟨b, o, none⟩ = _ := fun s b o h => (s.bel.cell (p := ⟨b, o, none⟩) (by show b < _; omega)).trans (hc2 b o h)
      cases v <;> cases r <;> cases x
      all_goals
        simp [allowP, leafP, grantP] at C3
        go_wp2_with fail
        refine wp_region_above (by kernel_rfl) (by kernel_rfl) ?_
        repeat (first
          | go_big_quiet_skip
          | (go_big_quiet_want; go_big_quiet_op; go_big_quiet_on)
          | (go_big_quiet_want; go_big_quiet_op; apply Exists.intro; refine ⟨fun s => ?_, ?_⟩; exact above_call s (C3 _); go_big_quiet_on))
        refine wpQuiet_nil ?_
        rintro _ ⟨s, rfl⟩
        go_wp2_with fail
        go_roundw
        case rel => exact ⟨1, by omega, rfl, HB2.out.trans (s.bel.mono (by omega))⟩
        case measure => simp [intOf]
    · go_wp2_with fail
      refine (C1 _ _).mono ?_
      rintro e w1 ⟨rfl, hb1⟩
      have hs1 : W.heap.size + 1 < w1.heap.size := by have := hb1.size; omega
      have HB1 : Hid (Below (W.heap.size + 2) _ w1) := HB.out.trans (hb1.mono (by omega))
      clear hb1 hc hf
      go_wp2_with fail
      refine (C2 _ _).mono ?_
      rintro e w2 ⟨rfl, hb2⟩
      have hs2 : W.heap.size + 1 < w2.heap.size := by have := hb2.size; omega
      have HB2 : Hid (Below (W.heap.size + 2) _ w2) := HB1.out.trans (hb2.mono (by omega))
      obtain ⟨hc2, hf2⟩ := bcell HB2.out
      clear hb2 C1 C2 C4 C5 C6 HB HB1
      have C3 := C3 1
      have hne := above_here w2
      have hab : ∀ (s : Above w2) b o, b < W.heap.size + 2 → s.wld.cell? ⟨b, o, none⟩ = _ := fun s b o h => (s.bel.cell (p := ⟨b, o, none⟩) (by show b < _; omega)).trans (hc2 b o h)
      cases v <;> cases r <;> cases x
      all_goals
        simp [allowP, leafP, grantP] at C3
        go_wp2_with fail
        refine wp_region_above (by kernel_rfl) (by kernel_rfl) ?_
        repeat (first
          | go_big_quiet_skip
          | (go_big_quiet_want; go_big_quiet_op; go_big_quiet_on)
          | (go_big_quiet_want; go_big_quiet_op; apply Exists.intro; refine ⟨fun s => ?_, ?_⟩; exact above_call s (C3 _); go_big_quiet_on))
        refine wpQuiet_nil ?_
        rintro _ ⟨s, rfl⟩
        go_wp2_with fail
        go_roundw
        case rel => exact ⟨2, by omega, rfl, HB2.out.trans (s.bel.mono (by omega))⟩
        case measure => simp [intOf]
    · go_wp2_with fail
      refine (C1 _ _).mono ?_
      rintro e w1 ⟨rfl, hb1⟩
      have hs1 : W.heap.size + 1 < w1.heap.size := by have := hb1.size; omega
      have HB1 : Hid (Below (W.heap.size + 2) _ w1) := HB.out.trans (hb1.mono (by omega))
      clear hb1 hc hf
      go_wp2_with fail
      refine (C2 _ _).mono ?_
      rintro e w2 ⟨rfl, hb2⟩
      have hs2 : W.heap.size + 1 < w2.heap.size := by have := hb2.size; omega
      have HB2 : Hid (Below (W.heap.size + 2) _ w2) := HB1.out.trans (hb2.mono (by omega))
      obtain ⟨hc2, hf2⟩ := bcell HB2.out
      clear hb2 C1 C2 C4 C5 C6 HB HB1
      have C3 := C3 2
      have hne := above_here w2
      have hab : ∀ (s : Above w2) b o, b < W.heap.size + 2 → s.wld.cell? ⟨b, o, none⟩ = _ := fun s b o h => (s.bel.cell (p := ⟨b, o, none⟩) (by show b < _; omega)).trans (hc2 b o h)
      cases v <;> cases r <;> cases x <;> cases w
      all_goals
        simp [allowP, leafP, grantP] at C3
        go_wp2_with fail
        refine wp_region_above (by kernel_rfl) (by kernel_rfl) ?_
        repeat (first
          | go_big_quiet_skip
          | (go_big_quiet_want; go_big_quiet_op; go_big_quiet_on)
          | (go_big_quiet_want; go_big_quiet_op; apply Exists.intro; refine ⟨fun s => ?_, ?_⟩; exact above_call s (C3 _); go_big_quiet_on))
        refine wpQuiet_nil ?_
        rintro _ ⟨s, rfl⟩
        go_wp2_with fail
        go_roundw
        case rel => exact ⟨3, by omega, rfl, HB2.out.trans (s.bel.mono (by omega))⟩
        case measure => simp [intOf]
    · go_wp2_with fail
      refine (C4 _).mono ?_
      rintro e w1 ⟨rfl, hb1⟩
      obtain ⟨hc1, hf1⟩ := bcell hb1
      simp only [World.size_alloc] at hc1 hf1
      have hs1 : wr.heap.size < w1.heap.size := by have := hb1.size; simp at this; omega
      have HB1 : Hid (Below (W.heap.size + 2) _ w1) := (HB.out.alloc (by omega) _).trans (hb1.mono (by simp; omega))
      clear hb1
      go_wp2_with fail
      refine (C5 _).mono ?_
      rintro e w2 ⟨rfl, hb2⟩
      have hs2 : wr.heap.size < w2.heap.size := by have := hb2.size; omega
      have HB2 : Hid (Below (W.heap.size + 2) _ w2) := HB1.out.trans (hb2.mono (by omega))
      obtain ⟨hc2, hf2⟩ := bcell HB2.out
      clear hb2
      go_wp2_with fail
      refine (C6 _).mono ?_
      rintro e w3 ⟨rfl, hb3⟩
      have HB3 : Hid (Below (W.heap.size + 2) _ w3) := HB2.out.trans (hb3.mono (by omega))
      clear hb3
      go_wp2_with fail
      go_ret
      exact ⟨rfl, (((Below.refl _ _).alloc (Nat.le_refl _) _).alloc (by simp) _).trans (HB3.out.mono (by omega))⟩
end Go.Proofs.Ytonmmfomlfbpnaa
