/-
  What the functions of package word and of the document's answer do that tell and place fields and signs: their contracts.
-/
import Derived.Test.YtkckobbedpccfaaDoorIWalks1
import Derived.Test.YtkckobbedpccfaaDoorIMath3
namespace Go.Proofs.YtkckobbedpccfaaDoor.I
open Go.RowKit
set_option linter.unusedVariables false
set_option maxRecDepth 100000
theorem within_yes (v a b : Int) (h1 : a ≤ v) (h2 : v ≤ b) (w : World) :
    Calls Tryd.prog 29 #[.int .i64 v, .int .i64 a, .int .i64 b] w fun e w' => e = .returned (.bool true) ∧ w' = w := by
  by_cases e1 : v = a
  · subst e1
    go_enter Tryd.func29, Tryd.ntmps29
    go_wp2_with (go_at_call 39; refine (endsInt_ge _ _ (by omega) _).mono ?_; rintro e w' ⟨rfl, rfl⟩)
    go_ret
    exact ⟨rfl, rfl⟩
  · go_enter Tryd.func29, Tryd.ntmps29
    go_wp2_with fail
    refine (endsInt_lt _ _ (by omega) _).mono ?_
    rintro e w' ⟨rfl, rfl⟩
    go_wp2_with fail
    refine (endsInt_ge _ _ (by omega) _).mono ?_
    rintro e w' ⟨rfl, rfl⟩
    go_wp2_with fail
    go_ret
    exact ⟨rfl, rfl⟩
theorem within_low (v a b : Int) (h1 : v < a) (w : World) :
    Calls Tryd.prog 29 #[.int .i64 v, .int .i64 a, .int .i64 b] w fun e w' => e = .returned (.bool false) ∧ w' = w := by
  have e1 : (v == a) = false := beq_eq_false_iff_ne.2 (by omega)
  by_cases h2 : v ≤ b
  · go_enter Tryd.func29, Tryd.ntmps29
    go_wp2_with (go_at_call 39; refine (endsInt_ge _ _ (by omega) _).mono ?_; rintro e w' ⟨rfl, rfl⟩)
    go_ret
    exact ⟨rfl, rfl⟩
  · go_enter Tryd.func29, Tryd.ntmps29
    go_wp2_with fail
    refine (endsInt_ge _ _ (by omega) _).mono ?_
    rintro e w' ⟨rfl, rfl⟩
    go_wp2_with fail
    refine (endsInt_lt _ _ (by omega) _).mono ?_
    rintro e w' ⟨rfl, rfl⟩
    go_wp2_with fail
    go_ret
    exact ⟨rfl, rfl⟩
theorem within_high (v a b : Int) (h1 : b < v) (w : World) :
    Calls Tryd.prog 29 #[.int .i64 v, .int .i64 a, .int .i64 b] w fun e w' => e = .returned (.bool false) ∧ w' = w := by
  have e1 : (v == b) = false := beq_eq_false_iff_ne.2 (by omega)
  by_cases h2 : a < v
  · go_enter Tryd.func29, Tryd.ntmps29
    go_wp2_with (go_at_call 39; refine (endsInt_lt _ _ (by omega) _).mono ?_; rintro e w' ⟨rfl, rfl⟩)
    go_ret
    exact ⟨rfl, rfl⟩
  · go_enter Tryd.func29, Tryd.ntmps29
    go_wp2_with fail
    refine (endsInt_ge _ _ (by omega) _).mono ?_
    rintro e w' ⟨rfl, rfl⟩
    go_wp2_with fail
    refine (endsInt_lt _ _ (by omega) _).mono ?_
    rintro e w' ⟨rfl, rfl⟩
    by_cases h3 : v = a
    · have e2 : (v == a) = true := beq_iff_eq.2 h3
      subst h3
      go_wp2_with fail
      go_ret
      exact ⟨rfl, rfl⟩
    · have e2 : (v == a) = false := beq_eq_false_iff_ne.2 h3
      go_wp2_with fail
      go_ret
      exact ⟨rfl, rfl⟩
theorem within_any (v a b : Int) (w : World) :
    Calls Tryd.prog 29 #[.int .i64 v, .int .i64 a, .int .i64 b] w fun e w' => e = .returned (.bool (decide (a ≤ v ∧ v ≤ b))) ∧ w' = w := by
  by_cases h1 : a ≤ v
  · by_cases h2 : v ≤ b
    · rw [show decide (a ≤ v ∧ v ≤ b) = true from by simp [h1, h2]]
      exact within_yes v a b h1 h2 w
    · rw [show decide (a ≤ v ∧ v ≤ b) = false from by simp [h2]]
      exact within_high v a b (by omega) w
  · rw [show decide (a ≤ v ∧ v ≤ b) = false from by simp [h1]]
    exact within_low v a b (by omega) w

theorem isField_yes (t n : Int) (h1 : 0 ≤ t) (h2 : t ≤ 31) (h3 : 1 ≤ n) (h4 : t + n ≤ 32) (w : World) :
    Calls Tryd.prog 42 #[.int .i64 t, .int .i64 n] w fun e w' => e = .returned (.bool true) ∧ w' = w := by
  go_enter Tryd.func42, Tryd.ntmps42
  go_wp2_with (go_at_call 29; refine (within_yes _ _ _ (by omega) (by omega) _).mono ?_; rintro e w' ⟨rfl, rfl⟩)
  go_ret
  exact ⟨rfl, rfl⟩
theorem isField_no (t n : Int) (h : ¬ (0 ≤ t ∧ t ≤ 31 ∧ 1 ≤ n ∧ t + n ≤ 32)) (w : World) :
    Calls Tryd.prog 42 #[.int .i64 t, .int .i64 n] w fun e w' => e = .returned (.bool false) ∧ w' = w := by
  by_cases h1 : t < 0
  · go_enter Tryd.func42, Tryd.ntmps42
    go_wp2_with (go_at_call 29; refine (within_low _ _ _ (by omega) _).mono ?_; rintro e w' ⟨rfl, rfl⟩)
    go_ret
    exact ⟨rfl, rfl⟩
  by_cases h2 : 31 < t
  · go_enter Tryd.func42, Tryd.ntmps42
    go_wp2_with (go_at_call 29; refine (within_high _ _ _ (by omega) _).mono ?_; rintro e w' ⟨rfl, rfl⟩)
    go_ret
    exact ⟨rfl, rfl⟩
  by_cases h3 : n < 1
  · go_enter Tryd.func42, Tryd.ntmps42
    go_wp2_with fail
    refine (within_yes _ _ _ (by omega) (by omega) _).mono ?_
    rintro e w' ⟨rfl, rfl⟩
    go_wp2_with fail
    refine (within_low _ _ _ (by omega) _).mono ?_
    rintro e w' ⟨rfl, rfl⟩
    go_wp2_with fail
    go_ret
    exact ⟨rfl, rfl⟩
  · go_enter Tryd.func42, Tryd.ntmps42
    go_wp2_with fail
    refine (within_yes _ _ _ (by omega) (by omega) _).mono ?_
    rintro e w' ⟨rfl, rfl⟩
    go_wp2_with fail
    refine (within_high _ _ _ (by omega) _).mono ?_
    rintro e w' ⟨rfl, rfl⟩
    go_wp2_with fail
    go_ret
    exact ⟨rfl, rfl⟩
theorem ones_any (n : Nat) (h1 : 1 ≤ n) (h2 : n ≤ 32) (w : World) :
    Calls Tryd.prog 43 #[.int .i64 n] w fun e w' => e = .returned (.int .u32 (2 ^ n - 1)) ∧ w' = w := by
  have HO : Hid ((4294967295 : Int) / 2 ^ (32 - n) = 2 ^ n - 1) := ones32 n h2
  go_enter Tryd.func43, Tryd.ntmps43
  go_wp2
  go_ret
  exact ⟨ret_int HO.out, rfl⟩

theorem field_no (a t n : Int) (h : ¬ (0 ≤ t ∧ t ≤ 31 ∧ 1 ≤ n ∧ t + n ≤ 32)) (w : World) :
    Calls Tryd.prog 33 #[.int .u32 a, .int .i64 t, .int .i64 n] w fun e w' => e = .returned (.int .i64 0) ∧ w' = w := by
  go_enter Tryd.func33, Tryd.ntmps33
  go_wp2_with (go_at_call 42; refine (isField_no _ _ h _).mono ?_; rintro e w' ⟨rfl, rfl⟩)
  go_ret
  exact ⟨rfl, rfl⟩
theorem field_yes (a : Int) (t n : Nat) (ha : 0 ≤ a) (ha' : a ≤ 4294967295) (h3 : 1 ≤ n) (h4 : t + n ≤ 32) (w : World) :
    Calls Tryd.prog 33 #[.int .u32 a, .int .i64 t, .int .i64 n] w fun e w' => e = .returned (.int .i64 (a / 2 ^ t % 2 ^ n)) ∧ w' = w := by
  have hq := Int.ediv_nonneg (b := 2 ^ t) ha (Int.le_of_lt (pow_pos' t))
  have hl := Int.ediv_le_self (2 ^ t) ha
  have e1 := and_ones32 (a / 2 ^ t) n (by omega) hq (by omega)
  have hq2 := Int.emod_nonneg (a / 2 ^ t) (show (2 : Int) ^ n ≠ 0 by have := pow_pos' n; omega)
  have hl2 := emod_le_self (a / 2 ^ t) (2 ^ n) hq (pow_pos' n)
  generalize hF : a / 2 ^ t % 2 ^ n = F at *
  have HF : Hid (a / 2 ^ t % 2 ^ n = F) := hF
  clear hF
  go_enter Tryd.func33, Tryd.ntmps33
  go_wp2_with (first | (go_at_call 42; refine (isField_yes _ _ (by omega) (by omega) (by omega) (by omega) _).mono ?_; rintro e w' ⟨rfl, rfl⟩) | (go_at_call 43; refine (ones_any _ (by omega) (by omega) _).mono ?_; rintro e w' ⟨rfl, rfl⟩))
  go_ret
  exact ⟨rfl, rfl⟩
end Go.Proofs.YtkckobbedpccfaaDoor.I
