/-
  The document's Encode and Decode: their contracts.
-/
import Derived.Test.YtkckobbedpccfaaDoorIWalks15
namespace Go.Proofs.YtkckobbedpccfaaDoor.I
open Go.RowKit
set_option linter.unusedVariables false
set_option maxRecDepth 100000

theorem rencode_no (op rd rs1 rs2 imm : Int) (hv : validP op rd rs1 rs2 imm = false) (w : World) :
    Calls Tryd.prog 11 #[ins op rd rs1 rs2 imm] w fun e w' => e = .returned (.tuple #[.int .u32 0, .int .i64 10]) ∧ Below w.heap.size w w' := by
  have C0 := rvalid_any op rd rs1 rs2 imm
  rw [hv] at C0
  unfold ins at *
  go_enter Tryd.func11, Tryd.ntmps11
  go_wp2_with fail
  refine (C0 _).mono ?_
  rintro e w1 ⟨rfl, hb1⟩
  have HB : Hid (Below w.heap.size w w1) := ((Below.refl _ _).alloc (Nat.le_refl _) _).trans (hb1.mono (by simp))
  clear hb1 C0
  go_wp2_with fail
  go_ret2
  exact ⟨rfl, HB.out⟩

theorem rencode_long (op rd rs1 rs2 imm : Int) (hv : validP op rd rs1 rs2 imm = true) (h5 : shapeR op = 5) (w : World) :
    Calls Tryd.prog 11 #[ins op rd rs1 rs2 imm] w fun e w' => e = .returned (.tuple #[.int .u32 (wordP op rd rs1 rs2 imm), .int .i64 0]) ∧ Below w.heap.size w w' := by
  have C0 := rvalid_any op rd rs1 rs2 imm
  rw [hv] at C0
  obtain ⟨o1, o2, d1, d2, s1, s2, t1, t2, hl, hsh⟩ := valid_facts hv
  have C5 := rshape_any op
  have HW : Hid (wordP op rd rs1 rs2 imm = op * 67108864 + rd * 4194304 + imm % 262144) := by
    show _ = _
    unfold wordP
    rw [if_pos h5]
  rw [h5] at C5
  clear hl hsh h5
  unfold ins at *
  go_enter Tryd.func11, Tryd.ntmps11
  go_wp2_with fail
  refine (C0 _).mono ?_
  rintro e w1 ⟨rfl, hb1⟩
  have HB : Hid (Below w.heap.size w w1) := ((Below.refl _ _).alloc (Nat.le_refl _) _).trans (hb1.mono (by simp))
  obtain ⟨hcc, hff⟩ := bcell hb1
  have hs1 : w.heap.size < w1.heap.size := by have := hb1.size; simp at this; omega
  simp only [World.size_alloc] at hcc hff
  clear hb1 C0 hv
  go_wp2_with fail
  refine (rpl26 op (by omega) (by omega) _).mono ?_
  rintro e w2 ⟨rfl, rfl⟩
  go_wp2_with fail
  refine (rpl22 _ rd (by omega) (by omega) (by omega) d1 d2 _).mono ?_
  rintro e w2 ⟨rfl, rfl⟩
  go_wp2_with fail
  refine (C5 _).mono ?_
  rintro e w2 ⟨rfl, rfl⟩
  clear C5
  go_wp2_with fail
  refine (rpl0l _ imm (by omega) (by omega) (by omega) _).mono ?_
  rintro e w2 ⟨rfl, rfl⟩
  go_wp2_with fail
  go_ret2
  exact ⟨ret_ii HW.out.symm rfl, HB.out⟩

theorem rencode_short (op rd rs1 rs2 imm : Int) (hv : validP op rd rs1 rs2 imm = true) (h5 : shapeR op ≠ 5) (w : World) :
    Calls Tryd.prog 11 #[ins op rd rs1 rs2 imm] w fun e w' => e = .returned (.tuple #[.int .u32 (wordP op rd rs1 rs2 imm), .int .i64 0]) ∧ Below w.heap.size w w' := by
  have C0 := rvalid_any op rd rs1 rs2 imm
  rw [hv] at C0
  obtain ⟨o1, o2, d1, d2, s1, s2, t1, t2, hl, hsh⟩ := valid_facts hv
  have C5 := rshape_any op
  have HW : Hid (wordP op rd rs1 rs2 imm = op * 67108864 + rd * 4194304 + rs1 * 262144 + rs2 * 16384 + imm % 16384) := by
    show _ = _
    unfold wordP
    rw [if_neg h5]
  clear hl hsh
  unfold ins at *
  generalize shapeR op = sh at *
  go_enter Tryd.func11, Tryd.ntmps11
  go_wp2_with fail
  refine (C0 _).mono ?_
  rintro e w1 ⟨rfl, hb1⟩
  have HB : Hid (Below w.heap.size w w1) := ((Below.refl _ _).alloc (Nat.le_refl _) _).trans (hb1.mono (by simp))
  obtain ⟨hcc, hff⟩ := bcell hb1
  have hs1 : w.heap.size < w1.heap.size := by have := hb1.size; simp at this; omega
  simp only [World.size_alloc] at hcc hff
  clear hb1 C0 hv
  go_wp2_with fail
  refine (rpl26 op (by omega) (by omega) _).mono ?_
  rintro e w2 ⟨rfl, rfl⟩
  go_wp2_with fail
  refine (rpl22 _ rd (by omega) (by omega) (by omega) d1 d2 _).mono ?_
  rintro e w2 ⟨rfl, rfl⟩
  go_wp2_with fail
  refine (C5 _).mono ?_
  rintro e w2 ⟨rfl, rfl⟩
  clear C5
  have e5 : (sh == 5) = false := beq_eq_false_iff_ne.2 h5
  go_wp2_with fail
  refine (rpl18 _ rs1 (by omega) (by omega) (by omega) s1 s2 _).mono ?_
  rintro e w2 ⟨rfl, rfl⟩
  go_wp2_with fail
  refine (rpl14 _ rs2 (by omega) (by omega) (by omega) t1 t2 _).mono ?_
  rintro e w2 ⟨rfl, rfl⟩
  go_wp2_with fail
  refine (rpl0s _ imm (by omega) (by omega) (by omega) _).mono ?_
  rintro e w2 ⟨rfl, rfl⟩
  go_wp2_with fail
  go_ret2
  exact ⟨ret_ii HW.out.symm rfl, HB.out⟩

theorem rencode_any (op rd rs1 rs2 imm : Int) (w : World) :
    Calls Tryd.prog 11 #[ins op rd rs1 rs2 imm] w fun e w' => e = .returned (.tuple #[.int .u32 (encW op rd rs1 rs2 imm), .int .i64 (encE op rd rs1 rs2 imm)]) ∧ Below w.heap.size w w' := by
  unfold encW encE
  cases hv : validP op rd rs1 rs2 imm
  · exact rencode_no op rd rs1 rs2 imm hv w
  · by_cases h5 : shapeR op = 5
    · exact rencode_long op rd rs1 rs2 imm hv h5 w
    · exact rencode_short op rd rs1 rs2 imm hv h5 w
end Go.Proofs.YtkckobbedpccfaaDoor.I
