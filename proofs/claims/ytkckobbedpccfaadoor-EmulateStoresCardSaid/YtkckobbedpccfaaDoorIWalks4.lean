/-
  What the functions that tell signs and whether a number fits do: their contracts.
-/
import Derived.Test.YtkckobbedpccfaaDoorIWalks2
namespace Go.Proofs.YtkckobbedpccfaaDoor.I
open Go.RowKit
set_option linter.unusedVariables false
set_option maxRecDepth 100000
theorem sign_no (v n : Int) (h : ¬ (1 ≤ n ∧ n ≤ 63)) (w : World) :
    Calls Tryd.prog 45 #[.int .i64 v, .int .i64 n] w fun e w' => e = .returned (.int .i64 0) ∧ w' = w := by
  by_cases h1 : n < 1
  · go_enter Tryd.func45, Tryd.ntmps45
    go_wp2_with (go_at_call 29; refine (within_low _ _ _ (by omega) _).mono ?_; rintro e w' ⟨rfl, rfl⟩)
    go_ret
    exact ⟨rfl, rfl⟩
  · go_enter Tryd.func45, Tryd.ntmps45
    go_wp2_with (go_at_call 29; refine (within_high _ _ _ (by omega) _).mono ?_; rintro e w' ⟨rfl, rfl⟩)
    go_ret
    exact ⟨rfl, rfl⟩
theorem sign_yes (v : Int) (n : Nat) (h1 : 1 ≤ n) (h2 : n ≤ 63) (w : World) :
    Calls Tryd.prog 45 #[.int .i64 v, .int .i64 n] w fun e w' => e = .returned (.int .i64 (signW v n)) ∧ w' = w := by
  have HS : Hid (wrap64 (v * 2 ^ (64 - n)) / 2 ^ (64 - n) = signW v n) := sign_shift v n h1 h2
  go_enter Tryd.func45, Tryd.ntmps45
  go_wp2_with (go_at_call 29; refine (within_yes _ _ _ (by omega) (by omega) _).mono ?_; rintro e w' ⟨rfl, rfl⟩)
  go_ret
  exact ⟨ret_int HS.out, rfl⟩
theorem rfits_no (v n : Int) (h : ¬ (1 ≤ n ∧ n ≤ 63)) (w : World) :
    Calls Tryd.prog 41 #[.int .i64 v, .int .i64 n] w fun e w' => e = .returned (.bool false) ∧ w' = w := by
  by_cases h1 : n < 1
  · have h3 : decide (1 ≤ n) = false := by simp; omega
    go_enter Tryd.func41, Tryd.ntmps41
    go_wp2
    go_ret
    exact ⟨rfl, rfl⟩
  · have h3 : decide (1 ≤ n) = true := by simp; omega
    have h4 : decide (n ≤ 63) = false := by simp; omega
    go_enter Tryd.func41, Tryd.ntmps41
    go_wp2
    go_ret
    exact ⟨rfl, rfl⟩
theorem rfits_yes (v : Int) (n : Nat) (h1 : 1 ≤ n) (h2 : n ≤ 63) (w : World) :
    Calls Tryd.prog 41 #[.int .i64 v, .int .i64 n] w fun e w' => e = .returned (.bool (decide (-(2 ^ (n - 1)) ≤ v ∧ v ≤ 2 ^ (n - 1) - 1))) ∧ w' = w := by
  have e3 := one_shl (n - 1) (by omega)
  have hp := pow_pos' (n - 1)
  have hle : (2 : Int) ^ (n - 1) ≤ 2 ^ 62 := pow_le' (by omega)
  generalize hH : (2 : Int) ^ (n - 1) = H at *
  by_cases c1 : -H ≤ v
  · by_cases c2 : v ≤ H - 1
    · go_enter Tryd.func41, Tryd.ntmps41
      go_wp2
      go_ret
      exact ⟨ret_bool (by simp [c1, c2]), rfl⟩
    · go_enter Tryd.func41, Tryd.ntmps41
      go_wp2
      go_ret
      exact ⟨ret_bool (by simp; omega), rfl⟩
  · go_enter Tryd.func41, Tryd.ntmps41
    go_wp2
    go_ret
    exact ⟨ret_bool (by simp; omega), rfl⟩
end Go.Proofs.YtkckobbedpccfaaDoor.I
