/-
  The document's shapes, numbers and Valid: their contracts.
  The document's numbers that an operation may have: the contract.
-/
import Derived.Test.YtkckobbedpccfaaGreatDoorQI4
namespace Go.Proofs.YtkckobbedpccfaaGreatDoor.I
open Go.RowKit
set_option linter.unusedVariables false
set_option maxRecDepth 100000

theorem rsh0 (op : Int) (h1 : op ≤ 0) (w : World) :
    Calls Tryz.prog 15 #[.int .i64 op] w fun e w' => e = .returned (.int .i64 (-1)) ∧ w' = w := by
  go_enter Tryz.func15, Tryz.ntmps15
  go_wp2
  all_goals
    go_ret
    first
      | exact ⟨rfl, rfl⟩
      | (exfalso; simp only [beq_iff_eq, beq_eq_false_iff_ne] at *; omega)
theorem rsh1 (op : Int) (h0 : 1 ≤ op) (h1 : op ≤ 13) (w : World) :
    Calls Tryz.prog 15 #[.int .i64 op] w fun e w' => e = .returned (.int .i64 (1)) ∧ w' = w := by
  go_enter Tryz.func15, Tryz.ntmps15
  go_wp2
  all_goals
    go_ret
    first
      | exact ⟨rfl, rfl⟩
      | (exfalso; simp only [beq_iff_eq, beq_eq_false_iff_ne] at *; omega)
theorem rsh2 (op : Int) (h0 : 14 ≤ op) (h1 : op ≤ 21) (w : World) :
    Calls Tryz.prog 15 #[.int .i64 op] w fun e w' => e = .returned (.int .i64 (2)) ∧ w' = w := by
  go_enter Tryz.func15, Tryz.ntmps15
  go_wp2
  all_goals
    go_ret
    first
      | exact ⟨rfl, rfl⟩
      | (exfalso; simp only [beq_iff_eq, beq_eq_false_iff_ne] at *; omega)
theorem rsh3 (w : World) :
    Calls Tryz.prog 15 #[.int .i64 22] w fun e w' => e = .returned (.int .i64 (5)) ∧ w' = w := by
  go_enter Tryz.func15, Tryz.ntmps15
  go_wp2
  go_ret
  exact ⟨rfl, rfl⟩
theorem rsh4 (op : Int) (h0 : 23 ≤ op) (h1 : op ≤ 25) (w : World) :
    Calls Tryz.prog 15 #[.int .i64 op] w fun e w' => e = .returned (.int .i64 (2)) ∧ w' = w := by
  go_enter Tryz.func15, Tryz.ntmps15
  go_wp2
  all_goals
    go_ret
    first
      | exact ⟨rfl, rfl⟩
      | (exfalso; simp only [beq_iff_eq, beq_eq_false_iff_ne] at *; omega)
theorem rsh5 (op : Int) (h0 : 26 ≤ op) (h1 : op ≤ 28) (w : World) :
    Calls Tryz.prog 15 #[.int .i64 op] w fun e w' => e = .returned (.int .i64 (3)) ∧ w' = w := by
  go_enter Tryz.func15, Tryz.ntmps15
  go_wp2
  all_goals
    go_ret
    first
      | exact ⟨rfl, rfl⟩
      | (exfalso; simp only [beq_iff_eq] at *; omega)
theorem rsh6 (op : Int) (h0 : 29 ≤ op) (h1 : op ≤ 34) (w : World) :
    Calls Tryz.prog 15 #[.int .i64 op] w fun e w' => e = .returned (.int .i64 (4)) ∧ w' = w := by
  go_enter Tryz.func15, Tryz.ntmps15
  go_wp2
  all_goals
    go_ret
    first
      | exact ⟨rfl, rfl⟩
      | (exfalso; simp only [beq_iff_eq] at *; omega)
theorem rsh7 (w : World) :
    Calls Tryz.prog 15 #[.int .i64 35] w fun e w' => e = .returned (.int .i64 (5)) ∧ w' = w := by
  go_enter Tryz.func15, Tryz.ntmps15
  go_wp2
  go_ret
  exact ⟨rfl, rfl⟩
theorem rsh8 (w : World) :
    Calls Tryz.prog 15 #[.int .i64 36] w fun e w' => e = .returned (.int .i64 (2)) ∧ w' = w := by
  go_enter Tryz.func15, Tryz.ntmps15
  go_wp2
  go_ret
  exact ⟨rfl, rfl⟩
theorem rsh9 (op : Int) (h0 : 37 ≤ op) (h1 : op ≤ 40) (w : World) :
    Calls Tryz.prog 15 #[.int .i64 op] w fun e w' => e = .returned (.int .i64 (1)) ∧ w' = w := by
  go_enter Tryz.func15, Tryz.ntmps15
  go_wp2
  all_goals
    go_ret
    first
      | exact ⟨rfl, rfl⟩
      | (exfalso; simp only [beq_iff_eq, beq_eq_false_iff_ne] at *; omega)
theorem rsh10 (op : Int) (h0 : 41 ≤ op) (h1 : op ≤ 44) (w : World) :
    Calls Tryz.prog 15 #[.int .i64 op] w fun e w' => e = .returned (.int .i64 (0)) ∧ w' = w := by
  go_enter Tryz.func15, Tryz.ntmps15
  go_wp2
  all_goals
    go_ret
    first
      | exact ⟨rfl, rfl⟩
      | (exfalso; simp only [beq_iff_eq, beq_eq_false_iff_ne] at *; omega)
theorem rsh11 (w : World) :
    Calls Tryz.prog 15 #[.int .i64 45] w fun e w' => e = .returned (.int .i64 (6)) ∧ w' = w := by
  go_enter Tryz.func15, Tryz.ntmps15
  go_wp2
  go_ret
  exact ⟨rfl, rfl⟩
theorem rsh12 (op : Int) (h0 : 46 ≤ op) (h1 : op ≤ 48) (w : World) :
    Calls Tryz.prog 15 #[.int .i64 op] w fun e w' => e = .returned (.int .i64 (2)) ∧ w' = w := by
  go_enter Tryz.func15, Tryz.ntmps15
  go_wp2
  all_goals
    go_ret
    first
      | exact ⟨rfl, rfl⟩
      | (exfalso; simp only [beq_iff_eq, beq_eq_false_iff_ne] at *; omega)
theorem rsh13 (op : Int) (h0 : 49 ≤ op) (w : World) :
    Calls Tryz.prog 15 #[.int .i64 op] w fun e w' => e = .returned (.int .i64 (-1)) ∧ w' = w := by
  go_enter Tryz.func15, Tryz.ntmps15
  go_wp2
  all_goals
    go_ret
    first
      | exact ⟨rfl, rfl⟩
      | (exfalso; simp only [beq_iff_eq, beq_eq_false_iff_ne] at *; omega)
theorem rshape_any (op : Int) (w : World) :
    Calls Tryz.prog 15 #[.int .i64 op] w fun e w' => e = .returned (.int .i64 (shapeR op)) ∧ w' = w := by
  rcases shape_cases op with ⟨e, h⟩ | ⟨e, h⟩ | ⟨e, h⟩ | ⟨e, h⟩ | ⟨e, h⟩ | ⟨e, h⟩ | ⟨e, h⟩ | ⟨e, h⟩
  all_goals rw [e]
  · rcases h with ⟨h0, h1⟩ | ⟨h0, h1⟩
    · exact rsh1 op h0 h1 w
    · exact rsh9 op h0 h1 w
  · rcases h with ⟨h0, h1⟩ | ⟨h0, h1⟩ | rfl | ⟨h0, h1⟩
    · exact rsh2 op h0 h1 w
    · exact rsh4 op h0 h1 w
    · exact rsh8 w
    · exact rsh12 op h0 h1 w
  · exact rsh5 op h.1 h.2 w
  · exact rsh6 op h.1 h.2 w
  · rcases h with rfl | rfl
    · exact rsh3 w
    · exact rsh7 w
  · subst h
    exact rsh11 w
  · exact rsh10 op h.1 h.2 w
  · rcases h with h0 | h0
    · exact rsh0 op h0 w
    · exact rsh13 op h0 w

end Go.Proofs.YtkckobbedpccfaaGreatDoor.I
namespace Go.Proofs.YtkckobbedpccfaaGreatDoor.I
open Go.RowKit
set_option linter.unusedVariables false
set_option maxRecDepth 100000

theorem fits14 (v : Int) : fitsW v 14 = hasP (-8192) 8191 v := by
  unfold fitsW hasP
  rw [if_pos (by decide), Bool.eq_iff_iff]
  simp
theorem fits18 (v : Int) : fitsW v 18 = hasP (-131072) 131071 v := by
  unfold fitsW hasP
  rw [if_pos (by decide), Bool.eq_iff_iff]
  simp

theorem rimm_shift (op v : Int) (h0 : 18 ≤ op) (h1 : op ≤ 20) (w : World) :
    Calls Tryz.prog 28 #[.int .i64 op, .int .i64 v] w fun e w' => e = .returned (.bool (hasP 0 63 v)) ∧ w' = w := by
  unfold hasP
  go_enter Tryz.func28, Tryz.ntmps28
  go_wp2
  all_goals
    go_ret
    refine ⟨ret_bool ?_, rfl⟩
    first
      | (simp_all; done)
      | (simp_all; omega)
theorem rimm_ctrl (op v : Int) (h0 : 46 ≤ op) (h1 : op ≤ 48) (w : World) :
    Calls Tryz.prog 28 #[.int .i64 op, .int .i64 v] w fun e w' => e = .returned (.bool (hasP 0 4095 v)) ∧ w' = w := by
  unfold hasP
  go_enter Tryz.func28, Tryz.ntmps28
  go_wp2
  all_goals
    go_ret
    refine ⟨ret_bool ?_, rfl⟩
    first
      | (simp_all; done)
      | (simp_all; omega)
theorem rimm_s2 (op v : Int) (h1 : ¬ (18 ≤ op ∧ op ≤ 20)) (h2 : ¬ (46 ≤ op ∧ op ≤ 48)) (hs : shapeR op = 2) (w : World) :
    Calls Tryz.prog 28 #[.int .i64 op, .int .i64 v] w fun e w' => e = .returned (.bool (hasP (-8192) 8191 v)) ∧ w' = w := by
  have C1 := rshape_any op
  have C2 := rfits_any v 14
  rw [fits14] at C2
  rw [hs] at C1
  clear hs
  generalize hasP (-8192) 8191 v = f at *
  go_enter Tryz.func28, Tryz.ntmps28
  go_wp2_with (first
    | (go_at_call 15; refine (C1 _).mono ?_; rintro e w' ⟨rfl, rfl⟩)
    | (go_at_call 55; refine (C2 _).mono ?_; rintro e w' ⟨rfl, rfl⟩))
  all_goals
    go_ret
    first
      | exact ⟨rfl, rfl⟩
      | (exfalso; omega)
theorem rimm_s3 (op v : Int) (h1 : ¬ (18 ≤ op ∧ op ≤ 20)) (h2 : ¬ (46 ≤ op ∧ op ≤ 48)) (hs : shapeR op = 3) (w : World) :
    Calls Tryz.prog 28 #[.int .i64 op, .int .i64 v] w fun e w' => e = .returned (.bool (hasP (-8192) 8191 v)) ∧ w' = w := by
  have C1 := rshape_any op
  have C2 := rfits_any v 14
  rw [fits14] at C2
  rw [hs] at C1
  clear hs
  generalize hasP (-8192) 8191 v = f at *
  go_enter Tryz.func28, Tryz.ntmps28
  go_wp2_with (first
    | (go_at_call 15; refine (C1 _).mono ?_; rintro e w' ⟨rfl, rfl⟩)
    | (go_at_call 55; refine (C2 _).mono ?_; rintro e w' ⟨rfl, rfl⟩))
  all_goals
    go_ret
    first
      | exact ⟨rfl, rfl⟩
      | (exfalso; omega)
theorem rimm_s4 (op v : Int) (h1 : ¬ (18 ≤ op ∧ op ≤ 20)) (h2 : ¬ (46 ≤ op ∧ op ≤ 48)) (hs : shapeR op = 4) (w : World) :
    Calls Tryz.prog 28 #[.int .i64 op, .int .i64 v] w fun e w' => e = .returned (.bool (hasP (-8192) 8191 v)) ∧ w' = w := by
  have C1 := rshape_any op
  have C2 := rfits_any v 14
  rw [fits14] at C2
  rw [hs] at C1
  clear hs
  generalize hasP (-8192) 8191 v = f at *
  go_enter Tryz.func28, Tryz.ntmps28
  go_wp2_with (first
    | (go_at_call 15; refine (C1 _).mono ?_; rintro e w' ⟨rfl, rfl⟩)
    | (go_at_call 55; refine (C2 _).mono ?_; rintro e w' ⟨rfl, rfl⟩))
  all_goals
    go_ret
    first
      | exact ⟨rfl, rfl⟩
      | (exfalso; omega)
theorem rimm_s5 (op v : Int) (h1 : ¬ (18 ≤ op ∧ op ≤ 20)) (h2 : ¬ (46 ≤ op ∧ op ≤ 48)) (hs : shapeR op = 5) (w : World) :
    Calls Tryz.prog 28 #[.int .i64 op, .int .i64 v] w fun e w' => e = .returned (.bool (hasP (-131072) 131071 v)) ∧ w' = w := by
  have C1 := rshape_any op
  have C2 := rfits_any v 18
  rw [fits18] at C2
  rw [hs] at C1
  clear hs
  generalize hasP (-131072) 131071 v = f at *
  go_enter Tryz.func28, Tryz.ntmps28
  go_wp2_with (first
    | (go_at_call 15; refine (C1 _).mono ?_; rintro e w' ⟨rfl, rfl⟩)
    | (go_at_call 55; refine (C2 _).mono ?_; rintro e w' ⟨rfl, rfl⟩))
  all_goals
    go_ret
    first
      | exact ⟨rfl, rfl⟩
      | (exfalso; omega)
theorem rimm_s1 (op v : Int) (h1 : ¬ (18 ≤ op ∧ op ≤ 20)) (h2 : ¬ (46 ≤ op ∧ op ≤ 48)) (hs : shapeR op = 1) (w : World) :
    Calls Tryz.prog 28 #[.int .i64 op, .int .i64 v] w fun e w' => e = .returned (.bool (v == 0)) ∧ w' = w := by
  have C1 := rshape_any op
  rw [hs] at C1
  clear hs
  go_enter Tryz.func28, Tryz.ntmps28
  go_wp2_with (go_at_call 15; refine (C1 _).mono ?_; rintro e w' ⟨rfl, rfl⟩)
  all_goals
    go_ret
    first
      | exact ⟨rfl, rfl⟩
      | (exfalso; omega)
theorem rimm_s6 (op v : Int) (h1 : ¬ (18 ≤ op ∧ op ≤ 20)) (h2 : ¬ (46 ≤ op ∧ op ≤ 48)) (hs : shapeR op = 6) (w : World) :
    Calls Tryz.prog 28 #[.int .i64 op, .int .i64 v] w fun e w' => e = .returned (.bool (v == 0)) ∧ w' = w := by
  have C1 := rshape_any op
  rw [hs] at C1
  clear hs
  go_enter Tryz.func28, Tryz.ntmps28
  go_wp2_with (go_at_call 15; refine (C1 _).mono ?_; rintro e w' ⟨rfl, rfl⟩)
  all_goals
    go_ret
    first
      | exact ⟨rfl, rfl⟩
      | (exfalso; omega)
theorem rimm_s0 (op v : Int) (h1 : ¬ (18 ≤ op ∧ op ≤ 20)) (h2 : ¬ (46 ≤ op ∧ op ≤ 48)) (hs : shapeR op = 0) (w : World) :
    Calls Tryz.prog 28 #[.int .i64 op, .int .i64 v] w fun e w' => e = .returned (.bool (v == 0)) ∧ w' = w := by
  have C1 := rshape_any op
  rw [hs] at C1
  clear hs
  go_enter Tryz.func28, Tryz.ntmps28
  go_wp2_with (go_at_call 15; refine (C1 _).mono ?_; rintro e w' ⟨rfl, rfl⟩)
  all_goals
    go_ret
    first
      | exact ⟨rfl, rfl⟩
      | (exfalso; omega)
theorem rimm_sn (op v : Int) (h1 : ¬ (18 ≤ op ∧ op ≤ 20)) (h2 : ¬ (46 ≤ op ∧ op ≤ 48)) (hs : shapeR op = -1) (w : World) :
    Calls Tryz.prog 28 #[.int .i64 op, .int .i64 v] w fun e w' => e = .returned (.bool (v == 0)) ∧ w' = w := by
  have C1 := rshape_any op
  rw [hs] at C1
  clear hs
  go_enter Tryz.func28, Tryz.ntmps28
  go_wp2_with (go_at_call 15; refine (C1 _).mono ?_; rintro e w' ⟨rfl, rfl⟩)
  all_goals
    go_ret
    first
      | exact ⟨rfl, rfl⟩
      | (exfalso; omega)
theorem rimm_any (op v : Int) (w : World) :
    Calls Tryz.prog 28 #[.int .i64 op, .int .i64 v] w fun e w' => e = .returned (.bool (immR op v)) ∧ w' = w := by
  unfold immR
  by_cases h1 : 18 ≤ op ∧ op ≤ 20
  · rw [if_pos h1]
    exact rimm_shift op v h1.1 h1.2 w
  · rw [if_neg h1]
    by_cases h2 : 46 ≤ op ∧ op ≤ 48
    · rw [if_pos h2]
      exact rimm_ctrl op v h2.1 h2.2 w
    · rw [if_neg h2]
      rcases shape_cases op with ⟨e, _⟩ | ⟨e, _⟩ | ⟨e, _⟩ | ⟨e, _⟩ | ⟨e, _⟩ | ⟨e, _⟩ | ⟨e, _⟩ | ⟨e, _⟩
      · rw [e]; exact rimm_s1 op v h1 h2 e w
      · rw [e]; exact rimm_s2 op v h1 h2 e w
      · rw [e]; exact rimm_s3 op v h1 h2 e w
      · rw [e]; exact rimm_s4 op v h1 h2 e w
      · rw [e]; exact rimm_s5 op v h1 h2 e w
      · rw [e]; exact rimm_s6 op v h1 h2 e w
      · rw [e]; exact rimm_s0 op v h1 h2 e w
      · rw [e]; exact rimm_sn op v h1 h2 e w
end Go.Proofs.YtkckobbedpccfaaGreatDoor.I
