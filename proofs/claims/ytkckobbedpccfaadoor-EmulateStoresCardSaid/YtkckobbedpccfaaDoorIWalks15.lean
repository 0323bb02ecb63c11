/-
  The document's Valid: the contract.
-/
import Derived.Test.YtkckobbedpccfaaDoorIWalks14
namespace Go.Proofs.YtkckobbedpccfaaDoor.I
open Go.RowKit
set_option linter.unusedVariables false
set_option maxRecDepth 100000

theorem validR_form (op rd rs1 rs2 imm : Int) (hs : ¬ shapeR op < 0) :
    validR op rd rs1 rs2 imm = (regR rd && (regR rs1 && (regR rs2 && (immR op imm && ((rdP op || rd == 0) && ((rs1P op || rs1 == 0) && (rs2P op || rs2 == 0))))))) := by
  unfold validR
  cases regR rd <;> cases regR rs1 <;> cases regR rs2 <;> cases immR op imm <;> simp [hs, Bool.and_assoc]

theorem rvalid_sn (op rd rs1 rs2 imm : Int) (hs : shapeR op = -1) (w : World) :
    Calls Tryd.prog 19 #[ins op rd rs1 rs2 imm] w fun e w' => e = .returned (.bool (validR op rd rs1 rs2 imm)) ∧ Below w.heap.size w w' := by
  have C0 := rshape_any op
  rw [hs] at C0
  have hv : validR op rd rs1 rs2 imm = false := by unfold validR; rw [if_pos (Or.inl (by omega))]
  rw [hv]
  clear hs hv
  unfold ins
  go_enter Tryd.func19, Tryd.ntmps19
  go_wp2_with fail
  refine (C0 _).mono ?_
  rintro e w1 ⟨rfl, rfl⟩
  go_wp2_with fail
  go_ret
  exact ⟨rfl, (Below.refl _ _).alloc (Nat.le_refl _) _⟩

theorem rvalid_s0 (op rd rs1 rs2 imm : Int) (hs : shapeR op = 0) (w : World) :
    Calls Tryd.prog 19 #[ins op rd rs1 rs2 imm] w fun e w' => e = .returned (.bool (validR op rd rs1 rs2 imm)) ∧ Below w.heap.size w w' := by
  have C0 := rshape_any op
  have C1 := rreg_any rd
  have C2 := rreg_any rs1
  have C3 := rreg_any rs2
  have C4 := rimm_any op imm
  rw [hs] at C0
  rw [validR_form op rd rs1 rs2 imm (by omega)]
  have e1 : rdP op = false := by simp [rdP, hs]
  have e2 : rs1P op = false := by simp [rs1P, hs]
  have e3 : rs2P op = false := by simp [rs2P, hs]
  rw [e1, e2, e3]
  clear hs e1 e2 e3
  generalize regR rd = r1 at *
  generalize regR rs1 = r2 at *
  generalize regR rs2 = r3 at *
  generalize immR op imm = r4 at *
  unfold ins
  go_enter Tryd.func19, Tryd.ntmps19
  go_wp2_with fail
  refine (C0 _).mono ?_
  rintro e w1 ⟨rfl, rfl⟩
  go_wp2_with fail
  refine (C1 _).mono ?_
  rintro e w1 ⟨rfl, rfl⟩
  cases r1
  · go_wp2_with fail
    go_ret
    exact ⟨rfl, (Below.refl _ _).alloc (Nat.le_refl _) _⟩
  go_wp2_with fail
  refine (C2 _).mono ?_
  rintro e w1 ⟨rfl, rfl⟩
  cases r2
  · go_wp2_with fail
    go_ret
    exact ⟨rfl, (Below.refl _ _).alloc (Nat.le_refl _) _⟩
  go_wp2_with fail
  refine (C3 _).mono ?_
  rintro e w1 ⟨rfl, rfl⟩
  cases r3
  · go_wp2_with fail
    go_ret
    exact ⟨rfl, (Below.refl _ _).alloc (Nat.le_refl _) _⟩
  go_wp2_with fail
  refine (C4 _).mono ?_
  rintro e w1 ⟨rfl, rfl⟩
  cases r4
  · go_wp2_with fail
    go_ret
    exact ⟨rfl, (Below.refl _ _).alloc (Nat.le_refl _) _⟩
  clear C0 C1 C2 C3 C4
  go_wp2_with fail
  all_goals
    go_ret
    refine ⟨ret_bool ?_, (Below.refl _ _).alloc (Nat.le_refl _) _⟩
    first
      | (simp_all; done)
      | (simp_all; omega)

theorem rvalid_s1 (op rd rs1 rs2 imm : Int) (hs : shapeR op = 1) (w : World) :
    Calls Tryd.prog 19 #[ins op rd rs1 rs2 imm] w fun e w' => e = .returned (.bool (validR op rd rs1 rs2 imm)) ∧ Below w.heap.size w w' := by
  have C0 := rshape_any op
  have C1 := rreg_any rd
  have C2 := rreg_any rs1
  have C3 := rreg_any rs2
  have C4 := rimm_any op imm
  rw [hs] at C0
  rw [validR_form op rd rs1 rs2 imm (by omega)]
  have e1 : rdP op = true := by simp [rdP, hs]
  have e2 : rs1P op = true := by simp [rs1P, hs]
  have e3 : rs2P op = !(op == 37) := by unfold rs2P; rw [hs]; by_cases h : op = 37 <;> simp [h]
  rw [e1, e2, e3]
  clear hs e1 e2 e3
  generalize regR rd = r1 at *
  generalize regR rs1 = r2 at *
  generalize regR rs2 = r3 at *
  generalize immR op imm = r4 at *
  unfold ins
  go_enter Tryd.func19, Tryd.ntmps19
  go_wp2_with fail
  refine (C0 _).mono ?_
  rintro e w1 ⟨rfl, rfl⟩
  go_wp2_with fail
  refine (C1 _).mono ?_
  rintro e w1 ⟨rfl, rfl⟩
  cases r1
  · go_wp2_with fail
    go_ret
    exact ⟨rfl, (Below.refl _ _).alloc (Nat.le_refl _) _⟩
  go_wp2_with fail
  refine (C2 _).mono ?_
  rintro e w1 ⟨rfl, rfl⟩
  cases r2
  · go_wp2_with fail
    go_ret
    exact ⟨rfl, (Below.refl _ _).alloc (Nat.le_refl _) _⟩
  go_wp2_with fail
  refine (C3 _).mono ?_
  rintro e w1 ⟨rfl, rfl⟩
  cases r3
  · go_wp2_with fail
    go_ret
    exact ⟨rfl, (Below.refl _ _).alloc (Nat.le_refl _) _⟩
  go_wp2_with fail
  refine (C4 _).mono ?_
  rintro e w1 ⟨rfl, rfl⟩
  cases r4
  · go_wp2_with fail
    go_ret
    exact ⟨rfl, (Below.refl _ _).alloc (Nat.le_refl _) _⟩
  clear C0 C1 C2 C3 C4
  go_wp2_with fail
  all_goals
    go_ret
    refine ⟨ret_bool ?_, (Below.refl _ _).alloc (Nat.le_refl _) _⟩
    first
      | (simp_all; done)
      | (simp_all; omega)

theorem rvalid_s2 (op rd rs1 rs2 imm : Int) (hs : shapeR op = 2) (w : World) :
    Calls Tryd.prog 19 #[ins op rd rs1 rs2 imm] w fun e w' => e = .returned (.bool (validR op rd rs1 rs2 imm)) ∧ Below w.heap.size w w' := by
  have C0 := rshape_any op
  have C1 := rreg_any rd
  have C2 := rreg_any rs1
  have C3 := rreg_any rs2
  have C4 := rimm_any op imm
  rw [hs] at C0
  rw [validR_form op rd rs1 rs2 imm (by omega)]
  have e1 : rdP op = true := by simp [rdP, hs]
  have e2 : rs1P op = true := by simp [rs1P, hs]
  have e3 : rs2P op = false := by simp [rs2P, hs]
  rw [e1, e2, e3]
  clear hs e1 e2 e3
  generalize regR rd = r1 at *
  generalize regR rs1 = r2 at *
  generalize regR rs2 = r3 at *
  generalize immR op imm = r4 at *
  unfold ins
  go_enter Tryd.func19, Tryd.ntmps19
  go_wp2_with fail
  refine (C0 _).mono ?_
  rintro e w1 ⟨rfl, rfl⟩
  go_wp2_with fail
  refine (C1 _).mono ?_
  rintro e w1 ⟨rfl, rfl⟩
  cases r1
  · go_wp2_with fail
    go_ret
    exact ⟨rfl, (Below.refl _ _).alloc (Nat.le_refl _) _⟩
  go_wp2_with fail
  refine (C2 _).mono ?_
  rintro e w1 ⟨rfl, rfl⟩
  cases r2
  · go_wp2_with fail
    go_ret
    exact ⟨rfl, (Below.refl _ _).alloc (Nat.le_refl _) _⟩
  go_wp2_with fail
  refine (C3 _).mono ?_
  rintro e w1 ⟨rfl, rfl⟩
  cases r3
  · go_wp2_with fail
    go_ret
    exact ⟨rfl, (Below.refl _ _).alloc (Nat.le_refl _) _⟩
  go_wp2_with fail
  refine (C4 _).mono ?_
  rintro e w1 ⟨rfl, rfl⟩
  cases r4
  · go_wp2_with fail
    go_ret
    exact ⟨rfl, (Below.refl _ _).alloc (Nat.le_refl _) _⟩
  clear C0 C1 C2 C3 C4
  go_wp2_with fail
  all_goals
    go_ret
    refine ⟨ret_bool ?_, (Below.refl _ _).alloc (Nat.le_refl _) _⟩
    first
      | (simp_all; done)
      | (simp_all; omega)

theorem rvalid_s3 (op rd rs1 rs2 imm : Int) (hs : shapeR op = 3) (w : World) :
    Calls Tryd.prog 19 #[ins op rd rs1 rs2 imm] w fun e w' => e = .returned (.bool (validR op rd rs1 rs2 imm)) ∧ Below w.heap.size w w' := by
  have C0 := rshape_any op
  have C1 := rreg_any rd
  have C2 := rreg_any rs1
  have C3 := rreg_any rs2
  have C4 := rimm_any op imm
  rw [hs] at C0
  rw [validR_form op rd rs1 rs2 imm (by omega)]
  have e1 : rdP op = false := by simp [rdP, hs]
  have e2 : rs1P op = true := by simp [rs1P, hs]
  have e3 : rs2P op = true := by simp [rs2P, hs]
  rw [e1, e2, e3]
  clear hs e1 e2 e3
  generalize regR rd = r1 at *
  generalize regR rs1 = r2 at *
  generalize regR rs2 = r3 at *
  generalize immR op imm = r4 at *
  unfold ins
  go_enter Tryd.func19, Tryd.ntmps19
  go_wp2_with fail
  refine (C0 _).mono ?_
  rintro e w1 ⟨rfl, rfl⟩
  go_wp2_with fail
  refine (C1 _).mono ?_
  rintro e w1 ⟨rfl, rfl⟩
  cases r1
  · go_wp2_with fail
    go_ret
    exact ⟨rfl, (Below.refl _ _).alloc (Nat.le_refl _) _⟩
  go_wp2_with fail
  refine (C2 _).mono ?_
  rintro e w1 ⟨rfl, rfl⟩
  cases r2
  · go_wp2_with fail
    go_ret
    exact ⟨rfl, (Below.refl _ _).alloc (Nat.le_refl _) _⟩
  go_wp2_with fail
  refine (C3 _).mono ?_
  rintro e w1 ⟨rfl, rfl⟩
  cases r3
  · go_wp2_with fail
    go_ret
    exact ⟨rfl, (Below.refl _ _).alloc (Nat.le_refl _) _⟩
  go_wp2_with fail
  refine (C4 _).mono ?_
  rintro e w1 ⟨rfl, rfl⟩
  cases r4
  · go_wp2_with fail
    go_ret
    exact ⟨rfl, (Below.refl _ _).alloc (Nat.le_refl _) _⟩
  clear C0 C1 C2 C3 C4
  go_wp2_with fail
  all_goals
    go_ret
    refine ⟨ret_bool ?_, (Below.refl _ _).alloc (Nat.le_refl _) _⟩
    first
      | (simp_all; done)
      | (simp_all; omega)

theorem rvalid_s4 (op rd rs1 rs2 imm : Int) (hs : shapeR op = 4) (w : World) :
    Calls Tryd.prog 19 #[ins op rd rs1 rs2 imm] w fun e w' => e = .returned (.bool (validR op rd rs1 rs2 imm)) ∧ Below w.heap.size w w' := by
  have C0 := rshape_any op
  have C1 := rreg_any rd
  have C2 := rreg_any rs1
  have C3 := rreg_any rs2
  have C4 := rimm_any op imm
  rw [hs] at C0
  rw [validR_form op rd rs1 rs2 imm (by omega)]
  have e1 : rdP op = false := by simp [rdP, hs]
  have e2 : rs1P op = true := by simp [rs1P, hs]
  have e3 : rs2P op = true := by simp [rs2P, hs]
  rw [e1, e2, e3]
  clear hs e1 e2 e3
  generalize regR rd = r1 at *
  generalize regR rs1 = r2 at *
  generalize regR rs2 = r3 at *
  generalize immR op imm = r4 at *
  unfold ins
  go_enter Tryd.func19, Tryd.ntmps19
  go_wp2_with fail
  refine (C0 _).mono ?_
  rintro e w1 ⟨rfl, rfl⟩
  go_wp2_with fail
  refine (C1 _).mono ?_
  rintro e w1 ⟨rfl, rfl⟩
  cases r1
  · go_wp2_with fail
    go_ret
    exact ⟨rfl, (Below.refl _ _).alloc (Nat.le_refl _) _⟩
  go_wp2_with fail
  refine (C2 _).mono ?_
  rintro e w1 ⟨rfl, rfl⟩
  cases r2
  · go_wp2_with fail
    go_ret
    exact ⟨rfl, (Below.refl _ _).alloc (Nat.le_refl _) _⟩
  go_wp2_with fail
  refine (C3 _).mono ?_
  rintro e w1 ⟨rfl, rfl⟩
  cases r3
  · go_wp2_with fail
    go_ret
    exact ⟨rfl, (Below.refl _ _).alloc (Nat.le_refl _) _⟩
  go_wp2_with fail
  refine (C4 _).mono ?_
  rintro e w1 ⟨rfl, rfl⟩
  cases r4
  · go_wp2_with fail
    go_ret
    exact ⟨rfl, (Below.refl _ _).alloc (Nat.le_refl _) _⟩
  clear C0 C1 C2 C3 C4
  go_wp2_with fail
  all_goals
    go_ret
    refine ⟨ret_bool ?_, (Below.refl _ _).alloc (Nat.le_refl _) _⟩
    first
      | (simp_all; done)
      | (simp_all; omega)

theorem rvalid_s5 (op rd rs1 rs2 imm : Int) (hs : shapeR op = 5) (w : World) :
    Calls Tryd.prog 19 #[ins op rd rs1 rs2 imm] w fun e w' => e = .returned (.bool (validR op rd rs1 rs2 imm)) ∧ Below w.heap.size w w' := by
  have C0 := rshape_any op
  have C1 := rreg_any rd
  have C2 := rreg_any rs1
  have C3 := rreg_any rs2
  have C4 := rimm_any op imm
  rw [hs] at C0
  rw [validR_form op rd rs1 rs2 imm (by omega)]
  have e1 : rdP op = true := by simp [rdP, hs]
  have e2 : rs1P op = false := by simp [rs1P, hs]
  have e3 : rs2P op = false := by simp [rs2P, hs]
  rw [e1, e2, e3]
  clear hs e1 e2 e3
  generalize regR rd = r1 at *
  generalize regR rs1 = r2 at *
  generalize regR rs2 = r3 at *
  generalize immR op imm = r4 at *
  unfold ins
  go_enter Tryd.func19, Tryd.ntmps19
  go_wp2_with fail
  refine (C0 _).mono ?_
  rintro e w1 ⟨rfl, rfl⟩
  go_wp2_with fail
  refine (C1 _).mono ?_
  rintro e w1 ⟨rfl, rfl⟩
  cases r1
  · go_wp2_with fail
    go_ret
    exact ⟨rfl, (Below.refl _ _).alloc (Nat.le_refl _) _⟩
  go_wp2_with fail
  refine (C2 _).mono ?_
  rintro e w1 ⟨rfl, rfl⟩
  cases r2
  · go_wp2_with fail
    go_ret
    exact ⟨rfl, (Below.refl _ _).alloc (Nat.le_refl _) _⟩
  go_wp2_with fail
  refine (C3 _).mono ?_
  rintro e w1 ⟨rfl, rfl⟩
  cases r3
  · go_wp2_with fail
    go_ret
    exact ⟨rfl, (Below.refl _ _).alloc (Nat.le_refl _) _⟩
  go_wp2_with fail
  refine (C4 _).mono ?_
  rintro e w1 ⟨rfl, rfl⟩
  cases r4
  · go_wp2_with fail
    go_ret
    exact ⟨rfl, (Below.refl _ _).alloc (Nat.le_refl _) _⟩
  clear C0 C1 C2 C3 C4
  go_wp2_with fail
  all_goals
    go_ret
    refine ⟨ret_bool ?_, (Below.refl _ _).alloc (Nat.le_refl _) _⟩
    first
      | (simp_all; done)
      | (simp_all; omega)

theorem rvalid_s6 (op rd rs1 rs2 imm : Int) (hs : shapeR op = 6) (w : World) :
    Calls Tryd.prog 19 #[ins op rd rs1 rs2 imm] w fun e w' => e = .returned (.bool (validR op rd rs1 rs2 imm)) ∧ Below w.heap.size w w' := by
  have C0 := rshape_any op
  have C1 := rreg_any rd
  have C2 := rreg_any rs1
  have C3 := rreg_any rs2
  have C4 := rimm_any op imm
  rw [hs] at C0
  rw [validR_form op rd rs1 rs2 imm (by omega)]
  have e1 : rdP op = false := by simp [rdP, hs]
  have e2 : rs1P op = true := by simp [rs1P, hs]
  have e3 : rs2P op = false := by simp [rs2P, hs]
  rw [e1, e2, e3]
  clear hs e1 e2 e3
  generalize regR rd = r1 at *
  generalize regR rs1 = r2 at *
  generalize regR rs2 = r3 at *
  generalize immR op imm = r4 at *
  unfold ins
  go_enter Tryd.func19, Tryd.ntmps19
  go_wp2_with fail
  refine (C0 _).mono ?_
  rintro e w1 ⟨rfl, rfl⟩
  go_wp2_with fail
  refine (C1 _).mono ?_
  rintro e w1 ⟨rfl, rfl⟩
  cases r1
  · go_wp2_with fail
    go_ret
    exact ⟨rfl, (Below.refl _ _).alloc (Nat.le_refl _) _⟩
  go_wp2_with fail
  refine (C2 _).mono ?_
  rintro e w1 ⟨rfl, rfl⟩
  cases r2
  · go_wp2_with fail
    go_ret
    exact ⟨rfl, (Below.refl _ _).alloc (Nat.le_refl _) _⟩
  go_wp2_with fail
  refine (C3 _).mono ?_
  rintro e w1 ⟨rfl, rfl⟩
  cases r3
  · go_wp2_with fail
    go_ret
    exact ⟨rfl, (Below.refl _ _).alloc (Nat.le_refl _) _⟩
  go_wp2_with fail
  refine (C4 _).mono ?_
  rintro e w1 ⟨rfl, rfl⟩
  cases r4
  · go_wp2_with fail
    go_ret
    exact ⟨rfl, (Below.refl _ _).alloc (Nat.le_refl _) _⟩
  clear C0 C1 C2 C3 C4
  go_wp2_with fail
  all_goals
    go_ret
    refine ⟨ret_bool ?_, (Below.refl _ _).alloc (Nat.le_refl _) _⟩
    first
      | (simp_all; done)
      | (simp_all; omega)

theorem rvalid_any (op rd rs1 rs2 imm : Int) (w : World) :
    Calls Tryd.prog 19 #[ins op rd rs1 rs2 imm] w fun e w' => e = .returned (.bool (validP op rd rs1 rs2 imm)) ∧ Below w.heap.size w w' := by
  rw [← valid_same]
  rcases shape_cases op with ⟨e, _⟩ | ⟨e, _⟩ | ⟨e, _⟩ | ⟨e, _⟩ | ⟨e, _⟩ | ⟨e, _⟩ | ⟨e, _⟩ | ⟨e, _⟩
  · exact rvalid_s1 op rd rs1 rs2 imm e w
  · exact rvalid_s2 op rd rs1 rs2 imm e w
  · exact rvalid_s3 op rd rs1 rs2 imm e w
  · exact rvalid_s4 op rd rs1 rs2 imm e w
  · exact rvalid_s5 op rd rs1 rs2 imm e w
  · exact rvalid_s6 op rd rs1 rs2 imm e w
  · exact rvalid_s0 op rd rs1 rs2 imm e w
  · exact rvalid_sn op rd rs1 rs2 imm e w
end Go.Proofs.YtkckobbedpccfaaDoor.I
