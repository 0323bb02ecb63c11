/-
  The document's shapes, numbers and Valid: their contracts.
-/
import Derived.Test.YtkckobbedpccfaaDoorIWalks12
namespace Go.Proofs.YtkckobbedpccfaaDoor.I
open Go.RowKit
set_option linter.unusedVariables false
set_option maxRecDepth 100000

theorem rsh0 (op : Int) (h1 : op ≤ 0) (w : World) :
    Calls Tryd.prog 21 #[.int .i64 op] w fun e w' => e = .returned (.int .i64 (-1)) ∧ w' = w := by
  go_enter Tryd.func21, Tryd.ntmps21
  go_wp2
  all_goals
    go_ret
    first
      | exact ⟨rfl, rfl⟩
      | (exfalso; simp only [beq_iff_eq, beq_eq_false_iff_ne] at *; omega)
theorem rsh1 (op : Int) (h0 : 1 ≤ op) (h1 : op ≤ 13) (w : World) :
    Calls Tryd.prog 21 #[.int .i64 op] w fun e w' => e = .returned (.int .i64 (1)) ∧ w' = w := by
  go_enter Tryd.func21, Tryd.ntmps21
  go_wp2
  all_goals
    go_ret
    first
      | exact ⟨rfl, rfl⟩
      | (exfalso; simp only [beq_iff_eq, beq_eq_false_iff_ne] at *; omega)
theorem rsh2 (op : Int) (h0 : 14 ≤ op) (h1 : op ≤ 21) (w : World) :
    Calls Tryd.prog 21 #[.int .i64 op] w fun e w' => e = .returned (.int .i64 (2)) ∧ w' = w := by
  go_enter Tryd.func21, Tryd.ntmps21
  go_wp2
  all_goals
    go_ret
    first
      | exact ⟨rfl, rfl⟩
      | (exfalso; simp only [beq_iff_eq, beq_eq_false_iff_ne] at *; omega)
theorem rsh3 (w : World) :
    Calls Tryd.prog 21 #[.int .i64 22] w fun e w' => e = .returned (.int .i64 (5)) ∧ w' = w := by
  go_enter Tryd.func21, Tryd.ntmps21
  go_wp2
  go_ret
  exact ⟨rfl, rfl⟩
theorem rsh4 (op : Int) (h0 : 23 ≤ op) (h1 : op ≤ 25) (w : World) :
    Calls Tryd.prog 21 #[.int .i64 op] w fun e w' => e = .returned (.int .i64 (2)) ∧ w' = w := by
  go_enter Tryd.func21, Tryd.ntmps21
  go_wp2
  all_goals
    go_ret
    first
      | exact ⟨rfl, rfl⟩
      | (exfalso; simp only [beq_iff_eq, beq_eq_false_iff_ne] at *; omega)
theorem rsh5 (op : Int) (h0 : 26 ≤ op) (h1 : op ≤ 28) (w : World) :
    Calls Tryd.prog 21 #[.int .i64 op] w fun e w' => e = .returned (.int .i64 (3)) ∧ w' = w := by
  go_enter Tryd.func21, Tryd.ntmps21
  go_wp2
  all_goals
    go_ret
    first
      | exact ⟨rfl, rfl⟩
      | (exfalso; simp only [beq_iff_eq] at *; omega)
theorem rsh6 (op : Int) (h0 : 29 ≤ op) (h1 : op ≤ 34) (w : World) :
    Calls Tryd.prog 21 #[.int .i64 op] w fun e w' => e = .returned (.int .i64 (4)) ∧ w' = w := by
  go_enter Tryd.func21, Tryd.ntmps21
  go_wp2
  all_goals
    go_ret
    first
      | exact ⟨rfl, rfl⟩
      | (exfalso; simp only [beq_iff_eq] at *; omega)
theorem rsh7 (w : World) :
    Calls Tryd.prog 21 #[.int .i64 35] w fun e w' => e = .returned (.int .i64 (5)) ∧ w' = w := by
  go_enter Tryd.func21, Tryd.ntmps21
  go_wp2
  go_ret
  exact ⟨rfl, rfl⟩
theorem rsh8 (w : World) :
    Calls Tryd.prog 21 #[.int .i64 36] w fun e w' => e = .returned (.int .i64 (2)) ∧ w' = w := by
  go_enter Tryd.func21, Tryd.ntmps21
  go_wp2
  go_ret
  exact ⟨rfl, rfl⟩
theorem rsh9 (op : Int) (h0 : 37 ≤ op) (h1 : op ≤ 40) (w : World) :
    Calls Tryd.prog 21 #[.int .i64 op] w fun e w' => e = .returned (.int .i64 (1)) ∧ w' = w := by
  go_enter Tryd.func21, Tryd.ntmps21
  go_wp2
  all_goals
    go_ret
    first
      | exact ⟨rfl, rfl⟩
      | (exfalso; simp only [beq_iff_eq, beq_eq_false_iff_ne] at *; omega)
theorem rsh10 (op : Int) (h0 : 41 ≤ op) (h1 : op ≤ 44) (w : World) :
    Calls Tryd.prog 21 #[.int .i64 op] w fun e w' => e = .returned (.int .i64 (0)) ∧ w' = w := by
  go_enter Tryd.func21, Tryd.ntmps21
  go_wp2
  all_goals
    go_ret
    first
      | exact ⟨rfl, rfl⟩
      | (exfalso; simp only [beq_iff_eq, beq_eq_false_iff_ne] at *; omega)
theorem rsh11 (w : World) :
    Calls Tryd.prog 21 #[.int .i64 45] w fun e w' => e = .returned (.int .i64 (6)) ∧ w' = w := by
  go_enter Tryd.func21, Tryd.ntmps21
  go_wp2
  go_ret
  exact ⟨rfl, rfl⟩
theorem rsh12 (op : Int) (h0 : 46 ≤ op) (h1 : op ≤ 48) (w : World) :
    Calls Tryd.prog 21 #[.int .i64 op] w fun e w' => e = .returned (.int .i64 (2)) ∧ w' = w := by
  go_enter Tryd.func21, Tryd.ntmps21
  go_wp2
  all_goals
    go_ret
    first
      | exact ⟨rfl, rfl⟩
      | (exfalso; simp only [beq_iff_eq, beq_eq_false_iff_ne] at *; omega)
theorem rsh13 (op : Int) (h0 : 49 ≤ op) (w : World) :
    Calls Tryd.prog 21 #[.int .i64 op] w fun e w' => e = .returned (.int .i64 (-1)) ∧ w' = w := by
  go_enter Tryd.func21, Tryd.ntmps21
  go_wp2
  all_goals
    go_ret
    first
      | exact ⟨rfl, rfl⟩
      | (exfalso; simp only [beq_iff_eq, beq_eq_false_iff_ne] at *; omega)
theorem rshape_any (op : Int) (w : World) :
    Calls Tryd.prog 21 #[.int .i64 op] w fun e w' => e = .returned (.int .i64 (shapeR op)) ∧ w' = w := by
  rcases shape_cases op with ⟨e, h⟩ | ⟨e, h⟩ | ⟨e, h⟩ | ⟨e, h⟩ | ⟨e, h⟩ | ⟨e, h⟩ | ⟨e, h⟩ | ⟨e, h⟩
  all_goals rw [e]
  · rcases h with ⟨h0, h1⟩ | ⟨h0, h1⟩
    · exact rsh1 op h0 h1 w
    · exact rsh9 op h0 h1 w
  · rcases h with ⟨h0, h1⟩ | ⟨h0, h1⟩ | rfl | ⟨h0, h1⟩
    · exact rsh2 op h0 h1 w
    · exact rsh4 op h0 h1 w
    · exact rsh8 w
    · exact rsh12 op h0 h1 w
  · exact rsh5 op h.1 h.2 w
  · exact rsh6 op h.1 h.2 w
  · rcases h with rfl | rfl
    · exact rsh3 w
    · exact rsh7 w
  · subst h
    exact rsh11 w
  · exact rsh10 op h.1 h.2 w
  · rcases h with h0 | h0
    · exact rsh0 op h0 w
    · exact rsh13 op h0 w

end Go.Proofs.YtkckobbedpccfaaDoor.I
