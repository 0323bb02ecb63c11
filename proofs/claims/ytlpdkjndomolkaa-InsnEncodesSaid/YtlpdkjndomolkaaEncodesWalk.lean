/-
  The law InsnEncodes: its walk. Its last statement leaves its order open, and what it calls lays new blocks: it is walked once, in every world that has those that were there.
-/
import Derived.Test.YtlpdkjndomolkaaWalks16
import Derived.Test.YtlpdkjndomolkaaDecodesWalk
import Derived.Deep.QuietTactic
import Derived.BigQuiet
namespace Go.Proofs.Ytlpdkjndomolkaa
open Go.RowKit
set_option linter.unusedVariables false

/-- a world that has all blocks of another one as they were -/
structure Above (W : World) where
  wld : World
  bel : Below W.heap.size W wld

theorem above_here (W : World) : Nonempty (Above W) := ⟨⟨W, Below.refl _ _⟩⟩

theorem wp_region_above {P : Program} {id : Nat} {Q : Exit → Act → World → Prop} {a : Act} {w : World} {l : List Oper} (hm : P.follows .mixedOrders = true) (hB : Region.lexB .any l.toArray = true)
    (h : wpQuiet P l.toArray (fun w' => ∃ s : Above w, w' = s.wld) (fun a' => ∀ w', (∃ s : Above w, w' = s.wld) → Q .normal a' w') l a) : (Code.region id l.toArray true).wp P Q a w :=
  wp_region_quiet (C := fun w' => ∃ s : Above w, w' = s.wld) hm hB ⟨⟨_, (Below.refl _ _).drew⟩, rfl⟩ (by simpa using h)

theorem above_call {P : Program} {f : FuncId} {args : Array Value} {W : World} {v : Value} (s : Above W)
    (h : Calls P f args s.wld fun e w' => e = .returned v ∧ Below s.wld.heap.size s.wld w') : Calls P f args s.wld fun e w'' => e = .returned v ∧ ∃ s' : Above W, w'' = s'.wld :=
  h.mono fun _ w' ⟨he, hb⟩ => ⟨he, ⟨w', s.bel.trans (hb.mono s.bel.size)⟩, rfl⟩

theorem above_same {P : Program} {f : FuncId} {args : Array Value} {W : World} {v : Value} (s : Above W)
    (h : Calls P f args s.wld fun e w' => e = .returned v ∧ w' = s.wld) : Calls P f args s.wld fun e w'' => e = .returned v ∧ ∃ s' : Above W, w'' = s'.wld :=
  h.mono fun _ w' ⟨he, hb⟩ => ⟨he, s, hb⟩

theorem encodes_known (a0 a1 a2 a3 a4 : Int) (wa : (Lit.int .i64 a0).wf = true) (hk : 0 ≤ shapeR a0) (w : World) :
    Calls Try.prog 3 #[ins a0 a1 a2 a3 a4] w fun e w' => e = .returned (.bool true) ∧ Below w.heap.size w w' := by
  have C1 := encode_any a0 a1 a2 a3 a4 wa
  have C2 := rencode_any a0 a1 a2 a3 a4
  have C3 := shape_any a0
  have C4 := rshape_any a0
  have C5 := valid_any a0 a1 a2 a3 a4 wa
  have C6 := rvalid_any a0 a1 a2 a3 a4
  have C7 := names_any
  have e1 : shapeN a0 = shapeR a0 := by unfold shapeN; rw [if_neg (by omega)]
  have e2 : shapeB a0 = true := by unfold shapeB; simpa using hk
  rw [e1, e2] at C3
  clear e1 e2
  generalize encW a0 a1 a2 a3 a4 = ew at *
  generalize encE a0 a1 a2 a3 a4 = ee at *
  generalize validP a0 a1 a2 a3 a4 = vp at *
  generalize shapeR a0 = sh at *
  unfold ins at *
  go_enter Try.func3, Try.ntmps3
  go_wp2_with fail
  refine (C1 _).mono ?_
  rintro e w1 ⟨rfl, hb1⟩
  have HB1 : Hid (Below _ _ w1) := hb1
  obtain ⟨hcc1, hff1⟩ := bcell hb1
  simp only [World.size_alloc] at hcc1 hff1
  clear hb1 C1
  go_wp2_with fail
  refine (C2 _).mono ?_
  rintro e w2 ⟨rfl, hb2⟩
  have HB2 : Hid (Below _ _ w2) := HB1.out.trans (hb2.mono HB1.out.size)
  have HW : Hid (Below w.heap.size w w2) := ((Below.refl _ _).alloc (Nat.le_refl _) _).trans (HB2.out.mono (by simp))
  have hs2 : w.heap.size < w2.heap.size := by have := HB2.out.size; simp at this; omega
  obtain ⟨hcc2, hff2⟩ := bcell HB2.out
  simp only [World.size_alloc] at hcc2 hff2
  clear hb2 C2 hcc1 hff1 HB1 HB2
  go_wp2_with fail
  refine (C3 _).mono ?_
  rintro e w3 ⟨rfl, rfl⟩
  clear C3
  go_wp2_with fail
  refine (C4 _).mono ?_
  rintro e w3 ⟨rfl, rfl⟩
  clear C4
  go_wp2_with fail
  have hne := above_here w3
  have hab : ∀ (s : Above w3) b o, b < w3.heap.size → s.wld.cell? ⟨b, o, none⟩ = w3.cell? ⟨b, o, none⟩ := fun s b o h => s.bel.cell (p := ⟨b, o, none⟩) h
  refine wp_region_above (by kernel_rfl) (by kernel_rfl) ?_
  repeat (first
    | go_big_quiet_skip
    | (go_big_quiet_want; go_big_quiet_op; go_big_quiet_on)
    | (go_big_quiet_want; go_big_quiet_op; apply Exists.intro; refine ⟨fun s => ?_, ?_⟩; (first | exact above_call s (C5 _) | exact above_call s (C6 _) | exact above_same s (C7 _)); go_big_quiet_on))
  refine wpQuiet_nil ?_
  rintro _ ⟨s, rfl⟩
  go_wp2_with fail
  go_ret
  exact ⟨rfl, HW.out.trans (s.bel.mono (by omega))⟩

theorem encodes_none (a0 a1 a2 a3 a4 : Int) (wa : (Lit.int .i64 a0).wf = true) (hk : shapeR a0 = -1) (w : World) :
    Calls Try.prog 3 #[ins a0 a1 a2 a3 a4] w fun e w' => e = .returned (.bool true) ∧ Below w.heap.size w w' := by
  have C1 := encode_any a0 a1 a2 a3 a4 wa
  have C2 := rencode_any a0 a1 a2 a3 a4
  have C3 := shape_any a0
  have C4 := rshape_any a0
  have C5 := valid_any a0 a1 a2 a3 a4 wa
  have C6 := rvalid_any a0 a1 a2 a3 a4
  have C7 := names_any
  have e1 : shapeN a0 = 0 := by unfold shapeN; rw [if_pos (by omega)]
  have e2 : shapeB a0 = false := by unfold shapeB; rw [hk]; rfl
  rw [e1, e2] at C3
  rw [hk] at C4
  clear e1 e2 hk
  generalize encW a0 a1 a2 a3 a4 = ew at *
  generalize encE a0 a1 a2 a3 a4 = ee at *
  generalize validP a0 a1 a2 a3 a4 = vp at *
  unfold ins at *
  go_enter Try.func3, Try.ntmps3
  go_wp2_with fail
  refine (C1 _).mono ?_
  rintro e w1 ⟨rfl, hb1⟩
  have HB1 : Hid (Below _ _ w1) := hb1
  obtain ⟨hcc1, hff1⟩ := bcell hb1
  simp only [World.size_alloc] at hcc1 hff1
  clear hb1 C1
  go_wp2_with fail
  refine (C2 _).mono ?_
  rintro e w2 ⟨rfl, hb2⟩
  have HB2 : Hid (Below _ _ w2) := HB1.out.trans (hb2.mono HB1.out.size)
  have HW : Hid (Below w.heap.size w w2) := ((Below.refl _ _).alloc (Nat.le_refl _) _).trans (HB2.out.mono (by simp))
  have hs2 : w.heap.size < w2.heap.size := by have := HB2.out.size; simp at this; omega
  obtain ⟨hcc2, hff2⟩ := bcell HB2.out
  simp only [World.size_alloc] at hcc2 hff2
  clear hb2 C2 hcc1 hff1 HB1 HB2
  go_wp2_with fail
  refine (C3 _).mono ?_
  rintro e w3 ⟨rfl, rfl⟩
  clear C3
  go_wp2_with fail
  refine (C4 _).mono ?_
  rintro e w3 ⟨rfl, rfl⟩
  clear C4
  go_wp2_with fail
  have hne := above_here w3
  have hab : ∀ (s : Above w3) b o, b < w3.heap.size → s.wld.cell? ⟨b, o, none⟩ = w3.cell? ⟨b, o, none⟩ := fun s b o h => s.bel.cell (p := ⟨b, o, none⟩) h
  refine wp_region_above (by kernel_rfl) (by kernel_rfl) ?_
  repeat (first
    | go_big_quiet_skip
    | (go_big_quiet_want; go_big_quiet_op; go_big_quiet_on)
    | (go_big_quiet_want; go_big_quiet_op; apply Exists.intro; refine ⟨fun s => ?_, ?_⟩; (first | exact above_call s (C5 _) | exact above_call s (C6 _) | exact above_same s (C7 _)); go_big_quiet_on))
  refine wpQuiet_nil ?_
  rintro _ ⟨s, rfl⟩
  go_wp2_with fail
  go_ret
  exact ⟨rfl, HW.out.trans (s.bel.mono (by omega))⟩

theorem encodes_any (a0 a1 a2 a3 a4 : Int) (wa : (Lit.int .i64 a0).wf = true) (w : World) :
    Calls Try.prog 3 #[ins a0 a1 a2 a3 a4] w fun e w' => e = .returned (.bool true) ∧ Below w.heap.size w w' := by
  by_cases h : 0 ≤ shapeR a0
  · exact encodes_known a0 a1 a2 a3 a4 wa h w
  · exact encodes_none a0 a1 a2 a3 a4 wa (by have := shape_cases a0; omega) w
end Go.Proofs.Ytlpdkjndomolkaa
