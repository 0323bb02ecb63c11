/-
  What the functions of package word and of the document's answer do that tell and place fields and signs: their contracts.
-/
import Derived.Test.YtkckobbedpccfaaDoorWalks1
import Derived.Test.YtkckobbedpccfaaDoorMath3
namespace Go.Proofs.YtkckobbedpccfaaDoor
open Go.RowKit
set_option linter.unusedVariables false
theorem within_yes (v a b : Int) (h1 : a ≤ v) (h2 : v ≤ b) (w : World) :
    Calls Tryd.prog 29 #[.int .i64 v, .int .i64 a, .int .i64 b] w fun e w' => e = .returned (.bool true) ∧ w' = w := by
  by_cases e1 : v = a
  · subst e1
    go_enter Tryd.func29, Tryd.ntmps29
    go_wp2_with (go_at_call 39; refine (endsInt_ge _ _ (by omega) _).mono ?_; rintro e w' ⟨rfl, rfl⟩)
    go_ret
    exact ⟨rfl, rfl⟩
  · go_enter Tryd.func29, Tryd.ntmps29
    go_wp2_with fail
    refine (endsInt_lt _ _ (by omega) _).mono ?_
    rintro e w' ⟨rfl, rfl⟩
    go_wp2_with fail
    refine (endsInt_ge _ _ (by omega) _).mono ?_
    rintro e w' ⟨rfl, rfl⟩
    go_wp2_with fail
    go_ret
    exact ⟨rfl, rfl⟩
theorem within_low (v a b : Int) (h1 : v < a) (w : World) :
    Calls Tryd.prog 29 #[.int .i64 v, .int .i64 a, .int .i64 b] w fun e w' => e = .returned (.bool false) ∧ w' = w := by
  have e1 : (v == a) = false := beq_eq_false_iff_ne.2 (by omega)
  by_cases h2 : v ≤ b
  · go_enter Tryd.func29, Tryd.ntmps29
    go_wp2_with (go_at_call 39; refine (endsInt_ge _ _ (by omega) _).mono ?_; rintro e w' ⟨rfl, rfl⟩)
    go_ret
    exact ⟨rfl, rfl⟩
  · go_enter Tryd.func29, Tryd.ntmps29
    go_wp2_with fail
    refine (endsInt_ge _ _ (by omega) _).mono ?_
    rintro e w' ⟨rfl, rfl⟩
    go_wp2_with fail
    refine (endsInt_lt _ _ (by omega) _).mono ?_
    rintro e w' ⟨rfl, rfl⟩
    go_wp2_with fail
    go_ret
    exact ⟨rfl, rfl⟩
theorem within_high (v a b : Int) (h1 : b < v) (w : World) :
    Calls Tryd.prog 29 #[.int .i64 v, .int .i64 a, .int .i64 b] w fun e w' => e = .returned (.bool false) ∧ w' = w := by
  have e1 : (v == b) = false := beq_eq_false_iff_ne.2 (by omega)
  by_cases h2 : a < v
  · go_enter Tryd.func29, Tryd.ntmps29
    go_wp2_with (go_at_call 39; refine (endsInt_lt _ _ (by omega) _).mono ?_; rintro e w' ⟨rfl, rfl⟩)
    go_ret
    exact ⟨rfl, rfl⟩
  · go_enter Tryd.func29, Tryd.ntmps29
    go_wp2_with fail
    refine (endsInt_ge _ _ (by omega) _).mono ?_
    rintro e w' ⟨rfl, rfl⟩
    go_wp2_with fail
    refine (endsInt_lt _ _ (by omega) _).mono ?_
    rintro e w' ⟨rfl, rfl⟩
    by_cases h3 : v = a
    · have e2 : (v == a) = true := beq_iff_eq.2 h3
      subst h3
      go_wp2_with fail
      go_ret
      exact ⟨rfl, rfl⟩
    · have e2 : (v == a) = false := beq_eq_false_iff_ne.2 h3
      go_wp2_with fail
      go_ret
      exact ⟨rfl, rfl⟩
theorem within_any (v a b : Int) (w : World) :
    Calls Tryd.prog 29 #[.int .i64 v, .int .i64 a, .int .i64 b] w fun e w' => e = .returned (.bool (decide (a ≤ v ∧ v ≤ b))) ∧ w' = w := by
  by_cases h1 : a ≤ v
  · by_cases h2 : v ≤ b
    · rw [show decide (a ≤ v ∧ v ≤ b) = true from by simp [h1, h2]]
      exact within_yes v a b h1 h2 w
    · rw [show decide (a ≤ v ∧ v ≤ b) = false from by simp [h2]]
      exact within_high v a b (by omega) w
  · rw [show decide (a ≤ v ∧ v ≤ b) = false from by simp [h1]]
    exact within_low v a b (by omega) w

end Go.Proofs.YtkckobbedpccfaaDoor
