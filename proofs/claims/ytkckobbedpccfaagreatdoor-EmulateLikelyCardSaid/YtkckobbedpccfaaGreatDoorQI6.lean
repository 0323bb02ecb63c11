/-
  The document's Valid: the contract.
  The document's Encode and Decode: their contracts.
-/
import Derived.Test.YtkckobbedpccfaaGreatDoorQI5
namespace Go.Proofs.YtkckobbedpccfaaGreatDoor.I
open Go.RowKit
set_option linter.unusedVariables false
set_option maxRecDepth 100000

theorem validR_form (op rd rs1 rs2 imm : Int) (hs : ¬ shapeR op < 0) :
    validR op rd rs1 rs2 imm = (regR rd && (regR rs1 && (regR rs2 && (immR op imm && ((rdP op || rd == 0) && ((rs1P op || rs1 == 0) && (rs2P op || rs2 == 0))))))) := by
  unfold validR
  cases regR rd <;> cases regR rs1 <;> cases regR rs2 <;> cases immR op imm <;> simp [hs, Bool.and_assoc]

theorem rvalid_sn (op rd rs1 rs2 imm : Int) (hs : shapeR op = -1) (w : World) :
    Calls Tryz.prog 13 #[ins op rd rs1 rs2 imm] w fun e w' => e = .returned (.bool (validR op rd rs1 rs2 imm)) ∧ Below w.heap.size w w' := by
  have C0 := rshape_any op
  rw [hs] at C0
  have hv : validR op rd rs1 rs2 imm = false := by unfold validR; rw [if_pos (Or.inl (by omega))]
  rw [hv]
  clear hs hv
  unfold ins
  go_enter Tryz.func13, Tryz.ntmps13
  go_wp2_with fail
  refine (C0 _).mono ?_
  rintro e w1 ⟨rfl, rfl⟩
  go_wp2_with fail
  go_ret
  exact ⟨rfl, (Below.refl _ _).alloc (Nat.le_refl _) _⟩

theorem rvalid_s0 (op rd rs1 rs2 imm : Int) (hs : shapeR op = 0) (w : World) :
    Calls Tryz.prog 13 #[ins op rd rs1 rs2 imm] w fun e w' => e = .returned (.bool (validR op rd rs1 rs2 imm)) ∧ Below w.heap.size w w' := by
  have C0 := rshape_any op
  have C1 := rreg_any rd
  have C2 := rreg_any rs1
  have C3 := rreg_any rs2
  have C4 := rimm_any op imm
  rw [hs] at C0
  rw [validR_form op rd rs1 rs2 imm (by omega)]
  have e1 : rdP op = false := by simp [rdP, hs]
  have e2 : rs1P op = false := by simp [rs1P, hs]
  have e3 : rs2P op = false := by simp [rs2P, hs]
  rw [e1, e2, e3]
  clear hs e1 e2 e3
  generalize regR rd = r1 at *
  generalize regR rs1 = r2 at *
  generalize regR rs2 = r3 at *
  generalize immR op imm = r4 at *
  unfold ins
  go_enter Tryz.func13, Tryz.ntmps13
  go_wp2_with fail
  refine (C0 _).mono ?_
  rintro e w1 ⟨rfl, rfl⟩
  go_wp2_with fail
  refine (C1 _).mono ?_
  rintro e w1 ⟨rfl, rfl⟩
  cases r1
  · go_wp2_with fail
    go_ret
    exact ⟨rfl, (Below.refl _ _).alloc (Nat.le_refl _) _⟩
  go_wp2_with fail
  refine (C2 _).mono ?_
  rintro e w1 ⟨rfl, rfl⟩
  cases r2
  · go_wp2_with fail
    go_ret
    exact ⟨rfl, (Below.refl _ _).alloc (Nat.le_refl _) _⟩
  go_wp2_with fail
  refine (C3 _).mono ?_
  rintro e w1 ⟨rfl, rfl⟩
  cases r3
  · go_wp2_with fail
    go_ret
    exact ⟨rfl, (Below.refl _ _).alloc (Nat.le_refl _) _⟩
  go_wp2_with fail
  refine (C4 _).mono ?_
  rintro e w1 ⟨rfl, rfl⟩
  cases r4
  · go_wp2_with fail
    go_ret
    exact ⟨rfl, (Below.refl _ _).alloc (Nat.le_refl _) _⟩
  clear C0 C1 C2 C3 C4
  go_wp2_with fail
  all_goals
    go_ret
    refine ⟨ret_bool ?_, (Below.refl _ _).alloc (Nat.le_refl _) _⟩
    first
      | (simp_all; done)
      | (simp_all; omega)

theorem rvalid_s1 (op rd rs1 rs2 imm : Int) (hs : shapeR op = 1) (w : World) :
    Calls Tryz.prog 13 #[ins op rd rs1 rs2 imm] w fun e w' => e = .returned (.bool (validR op rd rs1 rs2 imm)) ∧ Below w.heap.size w w' := by
  have C0 := rshape_any op
  have C1 := rreg_any rd
  have C2 := rreg_any rs1
  have C3 := rreg_any rs2
  have C4 := rimm_any op imm
  rw [hs] at C0
  rw [validR_form op rd rs1 rs2 imm (by omega)]
  have e1 : rdP op = true := by simp [rdP, hs]
  have e2 : rs1P op = true := by simp [rs1P, hs]
  have e3 : rs2P op = !(op == 37) := by unfold rs2P; rw [hs]; by_cases h : op = 37 <;> simp [h]
  rw [e1, e2, e3]
  clear hs e1 e2 e3
  generalize regR rd = r1 at *
  generalize regR rs1 = r2 at *
  generalize regR rs2 = r3 at *
  generalize immR op imm = r4 at *
  unfold ins
  go_enter Tryz.func13, Tryz.ntmps13
  go_wp2_with fail
  refine (C0 _).mono ?_
  rintro e w1 ⟨rfl, rfl⟩
  go_wp2_with fail
  refine (C1 _).mono ?_
  rintro e w1 ⟨rfl, rfl⟩
  cases r1
  · go_wp2_with fail
    go_ret
    exact ⟨rfl, (Below.refl _ _).alloc (Nat.le_refl _) _⟩
  go_wp2_with fail
  refine (C2 _).mono ?_
  rintro e w1 ⟨rfl, rfl⟩
  cases r2
  · go_wp2_with fail
    go_ret
    exact ⟨rfl, (Below.refl _ _).alloc (Nat.le_refl _) _⟩
  go_wp2_with fail
  refine (C3 _).mono ?_
  rintro e w1 ⟨rfl, rfl⟩
  cases r3
  · go_wp2_with fail
    go_ret
    exact ⟨rfl, (Below.refl _ _).alloc (Nat.le_refl _) _⟩
  go_wp2_with fail
  refine (C4 _).mono ?_
  rintro e w1 ⟨rfl, rfl⟩
  cases r4
  · go_wp2_with fail
    go_ret
    exact ⟨rfl, (Below.refl _ _).alloc (Nat.le_refl _) _⟩
  clear C0 C1 C2 C3 C4
  go_wp2_with fail
  all_goals
    go_ret
    refine ⟨ret_bool ?_, (Below.refl _ _).alloc (Nat.le_refl _) _⟩
    first
      | (simp_all; done)
      | (simp_all; omega)

theorem rvalid_s2 (op rd rs1 rs2 imm : Int) (hs : shapeR op = 2) (w : World) :
    Calls Tryz.prog 13 #[ins op rd rs1 rs2 imm] w fun e w' => e = .returned (.bool (validR op rd rs1 rs2 imm)) ∧ Below w.heap.size w w' := by
  have C0 := rshape_any op
  have C1 := rreg_any rd
  have C2 := rreg_any rs1
  have C3 := rreg_any rs2
  have C4 := rimm_any op imm
  rw [hs] at C0
  rw [validR_form op rd rs1 rs2 imm (by omega)]
  have e1 : rdP op = true := by simp [rdP, hs]
  have e2 : rs1P op = true := by simp [rs1P, hs]
  have e3 : rs2P op = false := by simp [rs2P, hs]
  rw [e1, e2, e3]
  clear hs e1 e2 e3
  generalize regR rd = r1 at *
  generalize regR rs1 = r2 at *
  generalize regR rs2 = r3 at *
  generalize immR op imm = r4 at *
  unfold ins
  go_enter Tryz.func13, Tryz.ntmps13
  go_wp2_with fail
  refine (C0 _).mono ?_
  rintro e w1 ⟨rfl, rfl⟩
  go_wp2_with fail
  refine (C1 _).mono ?_
  rintro e w1 ⟨rfl, rfl⟩
  cases r1
  · go_wp2_with fail
    go_ret
    exact ⟨rfl, (Below.refl _ _).alloc (Nat.le_refl _) _⟩
  go_wp2_with fail
  refine (C2 _).mono ?_
  rintro e w1 ⟨rfl, rfl⟩
  cases r2
  · go_wp2_with fail
    go_ret
    exact ⟨rfl, (Below.refl _ _).alloc (Nat.le_refl _) _⟩
  go_wp2_with fail
  refine (C3 _).mono ?_
  rintro e w1 ⟨rfl, rfl⟩
  cases r3
  · go_wp2_with fail
    go_ret
    exact ⟨rfl, (Below.refl _ _).alloc (Nat.le_refl _) _⟩
  go_wp2_with fail
  refine (C4 _).mono ?_
  rintro e w1 ⟨rfl, rfl⟩
  cases r4
  · go_wp2_with fail
    go_ret
    exact ⟨rfl, (Below.refl _ _).alloc (Nat.le_refl _) _⟩
  clear C0 C1 C2 C3 C4
  go_wp2_with fail
  all_goals
    go_ret
    refine ⟨ret_bool ?_, (Below.refl _ _).alloc (Nat.le_refl _) _⟩
    first
      | (simp_all; done)
      | (simp_all; omega)

theorem rvalid_s3 (op rd rs1 rs2 imm : Int) (hs : shapeR op = 3) (w : World) :
    Calls Tryz.prog 13 #[ins op rd rs1 rs2 imm] w fun e w' => e = .returned (.bool (validR op rd rs1 rs2 imm)) ∧ Below w.heap.size w w' := by
  have C0 := rshape_any op
  have C1 := rreg_any rd
  have C2 := rreg_any rs1
  have C3 := rreg_any rs2
  have C4 := rimm_any op imm
  rw [hs] at C0
  rw [validR_form op rd rs1 rs2 imm (by omega)]
  have e1 : rdP op = false := by simp [rdP, hs]
  have e2 : rs1P op = true := by simp [rs1P, hs]
  have e3 : rs2P op = true := by simp [rs2P, hs]
  rw [e1, e2, e3]
  clear hs e1 e2 e3
  generalize regR rd = r1 at *
  generalize regR rs1 = r2 at *
  generalize regR rs2 = r3 at *
  generalize immR op imm = r4 at *
  unfold ins
  go_enter Tryz.func13, Tryz.ntmps13
  go_wp2_with fail
  refine (C0 _).mono ?_
  rintro e w1 ⟨rfl, rfl⟩
  go_wp2_with fail
  refine (C1 _).mono ?_
  rintro e w1 ⟨rfl, rfl⟩
  cases r1
  · go_wp2_with fail
    go_ret
    exact ⟨rfl, (Below.refl _ _).alloc (Nat.le_refl _) _⟩
  go_wp2_with fail
  refine (C2 _).mono ?_
  rintro e w1 ⟨rfl, rfl⟩
  cases r2
  · go_wp2_with fail
    go_ret
    exact ⟨rfl, (Below.refl _ _).alloc (Nat.le_refl _) _⟩
  go_wp2_with fail
  refine (C3 _).mono ?_
  rintro e w1 ⟨rfl, rfl⟩
  cases r3
  · go_wp2_with fail
    go_ret
    exact ⟨rfl, (Below.refl _ _).alloc (Nat.le_refl _) _⟩
  go_wp2_with fail
  refine (C4 _).mono ?_
  rintro e w1 ⟨rfl, rfl⟩
  cases r4
  · go_wp2_with fail
    go_ret
    exact ⟨rfl, (Below.refl _ _).alloc (Nat.le_refl _) _⟩
  clear C0 C1 C2 C3 C4
  go_wp2_with fail
  all_goals
    go_ret
    refine ⟨ret_bool ?_, (Below.refl _ _).alloc (Nat.le_refl _) _⟩
    first
      | (simp_all; done)
      | (simp_all; omega)

theorem rvalid_s4 (op rd rs1 rs2 imm : Int) (hs : shapeR op = 4) (w : World) :
    Calls Tryz.prog 13 #[ins op rd rs1 rs2 imm] w fun e w' => e = .returned (.bool (validR op rd rs1 rs2 imm)) ∧ Below w.heap.size w w' := by
  have C0 := rshape_any op
  have C1 := rreg_any rd
  have C2 := rreg_any rs1
  have C3 := rreg_any rs2
  have C4 := rimm_any op imm
  rw [hs] at C0
  rw [validR_form op rd rs1 rs2 imm (by omega)]
  have e1 : rdP op = false := by simp [rdP, hs]
  have e2 : rs1P op = true := by simp [rs1P, hs]
  have e3 : rs2P op = true := by simp [rs2P, hs]
  rw [e1, e2, e3]
  clear hs e1 e2 e3
  generalize regR rd = r1 at *
  generalize regR rs1 = r2 at *
  generalize regR rs2 = r3 at *
  generalize immR op imm = r4 at *
  unfold ins
  go_enter Tryz.func13, Tryz.ntmps13
  go_wp2_with fail
  refine (C0 _).mono ?_
  rintro e w1 ⟨rfl, rfl⟩
  go_wp2_with fail
  refine (C1 _).mono ?_
  rintro e w1 ⟨rfl, rfl⟩
  cases r1
  · go_wp2_with fail
    go_ret
    exact ⟨rfl, (Below.refl _ _).alloc (Nat.le_refl _) _⟩
  go_wp2_with fail
  refine (C2 _).mono ?_
  rintro e w1 ⟨rfl, rfl⟩
  cases r2
  · go_wp2_with fail
    go_ret
    exact ⟨rfl, (Below.refl _ _).alloc (Nat.le_refl _) _⟩
  go_wp2_with fail
  refine (C3 _).mono ?_
  rintro e w1 ⟨rfl, rfl⟩
  cases r3
  · go_wp2_with fail
    go_ret
    exact ⟨rfl, (Below.refl _ _).alloc (Nat.le_refl _) _⟩
  go_wp2_with fail
  refine (C4 _).mono ?_
  rintro e w1 ⟨rfl, rfl⟩
  cases r4
  · go_wp2_with fail
    go_ret
    exact ⟨rfl, (Below.refl _ _).alloc (Nat.le_refl _) _⟩
  clear C0 C1 C2 C3 C4
  go_wp2_with fail
  all_goals
    go_ret
    refine ⟨ret_bool ?_, (Below.refl _ _).alloc (Nat.le_refl _) _⟩
    first
      | (simp_all; done)
      | (simp_all; omega)

theorem rvalid_s5 (op rd rs1 rs2 imm : Int) (hs : shapeR op = 5) (w : World) :
    Calls Tryz.prog 13 #[ins op rd rs1 rs2 imm] w fun e w' => e = .returned (.bool (validR op rd rs1 rs2 imm)) ∧ Below w.heap.size w w' := by
  have C0 := rshape_any op
  have C1 := rreg_any rd
  have C2 := rreg_any rs1
  have C3 := rreg_any rs2
  have C4 := rimm_any op imm
  rw [hs] at C0
  rw [validR_form op rd rs1 rs2 imm (by omega)]
  have e1 : rdP op = true := by simp [rdP, hs]
  have e2 : rs1P op = false := by simp [rs1P, hs]
  have e3 : rs2P op = false := by simp [rs2P, hs]
  rw [e1, e2, e3]
  clear hs e1 e2 e3
  generalize regR rd = r1 at *
  generalize regR rs1 = r2 at *
  generalize regR rs2 = r3 at *
  generalize immR op imm = r4 at *
  unfold ins
  go_enter Tryz.func13, Tryz.ntmps13
  go_wp2_with fail
  refine (C0 _).mono ?_
  rintro e w1 ⟨rfl, rfl⟩
  go_wp2_with fail
  refine (C1 _).mono ?_
  rintro e w1 ⟨rfl, rfl⟩
  cases r1
  · go_wp2_with fail
    go_ret
    exact ⟨rfl, (Below.refl _ _).alloc (Nat.le_refl _) _⟩
  go_wp2_with fail
  refine (C2 _).mono ?_
  rintro e w1 ⟨rfl, rfl⟩
  cases r2
  · go_wp2_with fail
    go_ret
    exact ⟨rfl, (Below.refl _ _).alloc (Nat.le_refl _) _⟩
  go_wp2_with fail
  refine (C3 _).mono ?_
  rintro e w1 ⟨rfl, rfl⟩
  cases r3
  · go_wp2_with fail
    go_ret
    exact ⟨rfl, (Below.refl _ _).alloc (Nat.le_refl _) _⟩
  go_wp2_with fail
  refine (C4 _).mono ?_
  rintro e w1 ⟨rfl, rfl⟩
  cases r4
  · go_wp2_with fail
    go_ret
    exact ⟨rfl, (Below.refl _ _).alloc (Nat.le_refl _) _⟩
  clear C0 C1 C2 C3 C4
  go_wp2_with fail
  all_goals
    go_ret
    refine ⟨ret_bool ?_, (Below.refl _ _).alloc (Nat.le_refl _) _⟩
    first
      | (simp_all; done)
      | (simp_all; omega)

theorem rvalid_s6 (op rd rs1 rs2 imm : Int) (hs : shapeR op = 6) (w : World) :
    Calls Tryz.prog 13 #[ins op rd rs1 rs2 imm] w fun e w' => e = .returned (.bool (validR op rd rs1 rs2 imm)) ∧ Below w.heap.size w w' := by
  have C0 := rshape_any op
  have C1 := rreg_any rd
  have C2 := rreg_any rs1
  have C3 := rreg_any rs2
  have C4 := rimm_any op imm
  rw [hs] at C0
  rw [validR_form op rd rs1 rs2 imm (by omega)]
  have e1 : rdP op = false := by simp [rdP, hs]
  have e2 : rs1P op = true := by simp [rs1P, hs]
  have e3 : rs2P op = false := by simp [rs2P, hs]
  rw [e1, e2, e3]
  clear hs e1 e2 e3
  generalize regR rd = r1 at *
  generalize regR rs1 = r2 at *
  generalize regR rs2 = r3 at *
  generalize immR op imm = r4 at *
  unfold ins
  go_enter Tryz.func13, Tryz.ntmps13
  go_wp2_with fail
  refine (C0 _).mono ?_
  rintro e w1 ⟨rfl, rfl⟩
  go_wp2_with fail
  refine (C1 _).mono ?_
  rintro e w1 ⟨rfl, rfl⟩
  cases r1
  · go_wp2_with fail
    go_ret
    exact ⟨rfl, (Below.refl _ _).alloc (Nat.le_refl _) _⟩
  go_wp2_with fail
  refine (C2 _).mono ?_
  rintro e w1 ⟨rfl, rfl⟩
  cases r2
  · go_wp2_with fail
    go_ret
    exact ⟨rfl, (Below.refl _ _).alloc (Nat.le_refl _) _⟩
  go_wp2_with fail
  refine (C3 _).mono ?_
  rintro e w1 ⟨rfl, rfl⟩
  cases r3
  · go_wp2_with fail
    go_ret
    exact ⟨rfl, (Below.refl _ _).alloc (Nat.le_refl _) _⟩
  go_wp2_with fail
  refine (C4 _).mono ?_
  rintro e w1 ⟨rfl, rfl⟩
  cases r4
  · go_wp2_with fail
    go_ret
    exact ⟨rfl, (Below.refl _ _).alloc (Nat.le_refl _) _⟩
  clear C0 C1 C2 C3 C4
  go_wp2_with fail
  all_goals
    go_ret
    refine ⟨ret_bool ?_, (Below.refl _ _).alloc (Nat.le_refl _) _⟩
    first
      | (simp_all; done)
      | (simp_all; omega)

theorem rvalid_any (op rd rs1 rs2 imm : Int) (w : World) :
    Calls Tryz.prog 13 #[ins op rd rs1 rs2 imm] w fun e w' => e = .returned (.bool (validP op rd rs1 rs2 imm)) ∧ Below w.heap.size w w' := by
  rw [← valid_same]
  rcases shape_cases op with ⟨e, _⟩ | ⟨e, _⟩ | ⟨e, _⟩ | ⟨e, _⟩ | ⟨e, _⟩ | ⟨e, _⟩ | ⟨e, _⟩ | ⟨e, _⟩
  · exact rvalid_s1 op rd rs1 rs2 imm e w
  · exact rvalid_s2 op rd rs1 rs2 imm e w
  · exact rvalid_s3 op rd rs1 rs2 imm e w
  · exact rvalid_s4 op rd rs1 rs2 imm e w
  · exact rvalid_s5 op rd rs1 rs2 imm e w
  · exact rvalid_s6 op rd rs1 rs2 imm e w
  · exact rvalid_s0 op rd rs1 rs2 imm e w
  · exact rvalid_sn op rd rs1 rs2 imm e w
end Go.Proofs.YtkckobbedpccfaaGreatDoor.I
namespace Go.Proofs.YtkckobbedpccfaaGreatDoor.I
open Go.RowKit
set_option linter.unusedVariables false
set_option maxRecDepth 100000

theorem rencode_no (op rd rs1 rs2 imm : Int) (hv : validP op rd rs1 rs2 imm = false) (w : World) :
    Calls Tryz.prog 5 #[ins op rd rs1 rs2 imm] w fun e w' => e = .returned (.tuple #[.int .u32 0, .int .i64 10]) ∧ Below w.heap.size w w' := by
  have C0 := rvalid_any op rd rs1 rs2 imm
  rw [hv] at C0
  unfold ins at *
  go_enter Tryz.func5, Tryz.ntmps5
  go_wp2_with fail
  refine (C0 _).mono ?_
  rintro e w1 ⟨rfl, hb1⟩
  have HB : Hid (Below w.heap.size w w1) := ((Below.refl _ _).alloc (Nat.le_refl _) _).trans (hb1.mono (by simp))
  clear hb1 C0
  go_wp2_with fail
  go_ret2
  exact ⟨rfl, HB.out⟩

theorem rencode_long (op rd rs1 rs2 imm : Int) (hv : validP op rd rs1 rs2 imm = true) (h5 : shapeR op = 5) (w : World) :
    Calls Tryz.prog 5 #[ins op rd rs1 rs2 imm] w fun e w' => e = .returned (.tuple #[.int .u32 (wordP op rd rs1 rs2 imm), .int .i64 0]) ∧ Below w.heap.size w w' := by
  have C0 := rvalid_any op rd rs1 rs2 imm
  rw [hv] at C0
  obtain ⟨o1, o2, d1, d2, s1, s2, t1, t2, hl, hsh⟩ := valid_facts hv
  have C5 := rshape_any op
  have HW : Hid (wordP op rd rs1 rs2 imm = op * 67108864 + rd * 4194304 + imm % 262144) := by
    show _ = _
    unfold wordP
    rw [if_pos h5]
  rw [h5] at C5
  clear hl hsh h5
  unfold ins at *
  go_enter Tryz.func5, Tryz.ntmps5
  go_wp2_with fail
  refine (C0 _).mono ?_
  rintro e w1 ⟨rfl, hb1⟩
  have HB : Hid (Below w.heap.size w w1) := ((Below.refl _ _).alloc (Nat.le_refl _) _).trans (hb1.mono (by simp))
  obtain ⟨hcc, hff⟩ := bcell hb1
  have hs1 : w.heap.size < w1.heap.size := by have := hb1.size; simp at this; omega
  simp only [World.size_alloc] at hcc hff
  clear hb1 C0 hv
  go_wp2_with fail
  refine (rpl26 op (by omega) (by omega) _).mono ?_
  rintro e w2 ⟨rfl, rfl⟩
  go_wp2_with fail
  refine (rpl22 _ rd (by omega) (by omega) (by omega) d1 d2 _).mono ?_
  rintro e w2 ⟨rfl, rfl⟩
  go_wp2_with fail
  refine (C5 _).mono ?_
  rintro e w2 ⟨rfl, rfl⟩
  clear C5
  go_wp2_with fail
  refine (rpl0l _ imm (by omega) (by omega) (by omega) _).mono ?_
  rintro e w2 ⟨rfl, rfl⟩
  go_wp2_with fail
  go_ret2
  exact ⟨ret_ii HW.out.symm rfl, HB.out⟩

theorem rencode_short (op rd rs1 rs2 imm : Int) (hv : validP op rd rs1 rs2 imm = true) (h5 : shapeR op ≠ 5) (w : World) :
    Calls Tryz.prog 5 #[ins op rd rs1 rs2 imm] w fun e w' => e = .returned (.tuple #[.int .u32 (wordP op rd rs1 rs2 imm), .int .i64 0]) ∧ Below w.heap.size w w' := by
  have C0 := rvalid_any op rd rs1 rs2 imm
  rw [hv] at C0
  obtain ⟨o1, o2, d1, d2, s1, s2, t1, t2, hl, hsh⟩ := valid_facts hv
  have C5 := rshape_any op
  have HW : Hid (wordP op rd rs1 rs2 imm = op * 67108864 + rd * 4194304 + rs1 * 262144 + rs2 * 16384 + imm % 16384) := by
    show _ = _
    unfold wordP
    rw [if_neg h5]
  clear hl hsh
  unfold ins at *
  generalize shapeR op = sh at *
  go_enter Tryz.func5, Tryz.ntmps5
  go_wp2_with fail
  refine (C0 _).mono ?_
  rintro e w1 ⟨rfl, hb1⟩
  have HB : Hid (Below w.heap.size w w1) := ((Below.refl _ _).alloc (Nat.le_refl _) _).trans (hb1.mono (by simp))
  obtain ⟨hcc, hff⟩ := bcell hb1
  have hs1 : w.heap.size < w1.heap.size := by have := hb1.size; simp at this; omega
  simp only [World.size_alloc] at hcc hff
  clear hb1 C0 hv
  go_wp2_with fail
  refine (rpl26 op (by omega) (by omega) _).mono ?_
  rintro e w2 ⟨rfl, rfl⟩
  go_wp2_with fail
  refine (rpl22 _ rd (by omega) (by omega) (by omega) d1 d2 _).mono ?_
  rintro e w2 ⟨rfl, rfl⟩
  go_wp2_with fail
  refine (C5 _).mono ?_
  rintro e w2 ⟨rfl, rfl⟩
  clear C5
  have e5 : (sh == 5) = false := beq_eq_false_iff_ne.2 h5
  go_wp2_with fail
  refine (rpl18 _ rs1 (by omega) (by omega) (by omega) s1 s2 _).mono ?_
  rintro e w2 ⟨rfl, rfl⟩
  go_wp2_with fail
  refine (rpl14 _ rs2 (by omega) (by omega) (by omega) t1 t2 _).mono ?_
  rintro e w2 ⟨rfl, rfl⟩
  go_wp2_with fail
  refine (rpl0s _ imm (by omega) (by omega) (by omega) _).mono ?_
  rintro e w2 ⟨rfl, rfl⟩
  go_wp2_with fail
  go_ret2
  exact ⟨ret_ii HW.out.symm rfl, HB.out⟩

theorem rencode_any (op rd rs1 rs2 imm : Int) (w : World) :
    Calls Tryz.prog 5 #[ins op rd rs1 rs2 imm] w fun e w' => e = .returned (.tuple #[.int .u32 (encW op rd rs1 rs2 imm), .int .i64 (encE op rd rs1 rs2 imm)]) ∧ Below w.heap.size w w' := by
  unfold encW encE
  cases hv : validP op rd rs1 rs2 imm
  · exact rencode_no op rd rs1 rs2 imm hv w
  · by_cases h5 : shapeR op = 5
    · exact rencode_long op rd rs1 rs2 imm hv h5 w
    · exact rencode_short op rd rs1 rs2 imm hv h5 w
end Go.Proofs.YtkckobbedpccfaaGreatDoor.I
