/-
  The document's Field and Sign: their contracts.
-/
import Derived.Test.YtkckobbedpccfaaDoorIWalks16
namespace Go.Proofs.YtkckobbedpccfaaDoor.I
open Go.RowKit
set_option linter.unusedVariables false
set_option maxRecDepth 100000
theorem rfield_no (a t n : Int) (h : ¬ (0 ≤ t ∧ t ≤ 31 ∧ 1 ≤ n ∧ t + n ≤ 32)) (hn0 : -1 ≤ n) (hn : n ≤ 33) (w : World) :
    Calls Tryd.prog 26 #[.int .u32 a, .int .i64 t, .int .i64 n] w fun e w' => e = .returned (.int .i64 0) ∧ w' = w := by
  by_cases h1 : t < 0
  · go_enter Tryd.func26, Tryd.ntmps26
    go_wp2
    go_ret
    exact ⟨rfl, rfl⟩
  by_cases h2 : 31 < t
  · go_enter Tryd.func26, Tryd.ntmps26
    go_wp2
    go_ret
    exact ⟨rfl, rfl⟩
  by_cases h3 : n < 1
  · go_enter Tryd.func26, Tryd.ntmps26
    go_wp2
    go_ret
    exact ⟨rfl, rfl⟩
  by_cases h4 : 32 < n
  · go_enter Tryd.func26, Tryd.ntmps26
    go_wp2
    go_ret
    exact ⟨rfl, rfl⟩
  have h5 : 32 < t + n := by omega
  go_enter Tryd.func26, Tryd.ntmps26
  go_wp2
  go_ret
  exact ⟨rfl, rfl⟩
theorem rfield_yes (a : Int) (t n : Nat) (ha : 0 ≤ a) (ha' : a ≤ 4294967295) (h3 : 1 ≤ n) (h4 : t + n ≤ 32) (w : World) :
    Calls Tryd.prog 26 #[.int .u32 a, .int .i64 t, .int .i64 n] w fun e w' => e = .returned (.int .i64 (a / 2 ^ t % 2 ^ n)) ∧ w' = w := by
  go_enter Tryd.func26, Tryd.ntmps26
  go_wp2
  go_loop [7, 8] (fun v i => ∃ k : Nat, k ≤ n ∧ i = .int .i64 ((k : Int) - 1) ∧ v = .int .i64 (a / 2 ^ (t + k) % 2 ^ (n - k))) (fun _ t => (1 + intOf t).toNat)
  case atStart => exact ⟨n, by omega, rfl, by simp [Int.emod_one]⟩
  case round =>
    obtain ⟨k, hk, rfl, rfl⟩ := hrel
    by_cases hlt : 1 ≤ k
    · obtain ⟨m, rfl⟩ : ∃ m, k = m + 1 := ⟨k - 1, by omega⟩
      have HS : Hid (a / 2 ^ (t + m) % 2 ^ (n - m) = a / 2 ^ (t + (m + 1)) % 2 ^ (n - (m + 1)) * 2 + a / 2 ^ (t + m) % 2) := by
        show _ = _
        have := field_step a (t + m) (n - (m + 1))
        rw [show n - (m + 1) + 1 = n - m by omega] at this
        rw [this, Nat.add_assoc]
      have hq := Int.ediv_nonneg (b := 2 ^ (t + (m + 1))) ha (Int.le_of_lt (pow_pos' _))
      have hl := Int.ediv_le_self (2 ^ (t + (m + 1))) ha
      have hq2 := Int.emod_nonneg (a / 2 ^ (t + (m + 1))) (show (2 : Int) ^ (n - (m + 1)) ≠ 0 by have := pow_pos' (n - (m + 1)); omega)
      have hl2 := emod_le_self (a / 2 ^ (t + (m + 1))) (2 ^ (n - (m + 1))) hq (pow_pos' _)
      generalize a / 2 ^ (t + (m + 1)) % 2 ^ (n - (m + 1)) = y at *
      have hq3 := Int.ediv_nonneg (b := 2 ^ (t + m)) ha (Int.le_of_lt (pow_pos' _))
      go_wp2
      go_round
      case rel => exact ⟨m, by omega, by go_num, by rw [HS.out]⟩
      case measure => simp [intOf]; omega
    · obtain rfl : k = 0 := by omega
      go_wp2
      go_ret
      exact ⟨rfl, rfl⟩
theorem rsign_no (v n : Int) (h : ¬ (1 ≤ n ∧ n ≤ 63)) (w : World) :
    Calls Tryd.prog 27 #[.int .i64 v, .int .i64 n] w fun e w' => e = .returned (.int .i64 0) ∧ w' = w := by
  by_cases h1 : n < 1
  · go_enter Tryd.func27, Tryd.ntmps27
    go_wp2
    go_ret
    exact ⟨rfl, rfl⟩
  · have h2 : 63 < n := by omega
    go_enter Tryd.func27, Tryd.ntmps27
    go_wp2
    go_ret
    exact ⟨rfl, rfl⟩
theorem rsign_yes (v : Int) (n : Nat) (h1 : 1 ≤ n) (h2 : n ≤ 63) (w : World) :
    Calls Tryd.prog 27 #[.int .i64 v, .int .i64 n] w fun e w' => e = .returned (.int .i64 (signW v n)) ∧ w' = w := by
  have e1 := ones_shl n h2
  have e2 := and_ones64 v n h2
  have e3 := one_shl (n - 1) (by omega)
  have hp := pow_pos' (n - 1)
  have hle : (2 : Int) ^ (n - 1) ≤ 2 ^ 62 := pow_le' (by omega)
  have hh := pow_half n h1
  have hm0 := Int.emod_nonneg v (show (2 : Int) ^ n ≠ 0 by omega)
  have hm1 := Int.emod_lt_of_pos v (show (0 : Int) < 2 ^ n by omega)
  have hm2 : v % 2 ^ n < 2 * 2 ^ (n - 1) := by omega
  clear hh hm1
  rcases sign_cases v n h1 with ⟨c1, c2⟩ | ⟨c1, c2⟩
  · rw [c2]
    clear c2
    generalize (v % 2 ^ n) = m at *
    generalize hH : (2 : Int) ^ (n - 1) = H at *
    go_enter Tryd.func27, Tryd.ntmps27
    go_wp2
    go_ret
    exact ⟨ret_int rfl, rfl⟩
  · rw [c2]
    clear c2
    generalize (v % 2 ^ n) = m at *
    generalize hH : (2 : Int) ^ (n - 1) = H at *
    go_enter Tryd.func27, Tryd.ntmps27
    go_wp2
    go_ret
    exact ⟨ret_int rfl, rfl⟩
theorem rfield_any (a t n : Int) (ha : 0 ≤ a) (ha' : a ≤ 4294967295) (hn0 : -1 ≤ n) (hn : n ≤ 33) (w : World) :
    Calls Tryd.prog 26 #[.int .u32 a, .int .i64 t, .int .i64 n] w fun e w' => e = .returned (.int .i64 (fieldW a t n)) ∧ w' = w := by
  by_cases h : 0 ≤ t ∧ t ≤ 31 ∧ 1 ≤ n ∧ t + n ≤ 32
  · rw [fieldW, if_pos h]
    obtain ⟨T, rfl⟩ := Int.eq_ofNat_of_zero_le h.1
    obtain ⟨N, rfl⟩ := Int.eq_ofNat_of_zero_le (show 0 ≤ n by omega)
    rw [Int.toNat_natCast, Int.toNat_natCast]
    exact rfield_yes a T N ha ha' (by omega) (by omega) w
  · rw [fieldW, if_neg h]
    exact rfield_no a t n h hn0 hn w
theorem rsign_any (v n : Int) (w : World) :
    Calls Tryd.prog 27 #[.int .i64 v, .int .i64 n] w fun e w' => e = .returned (.int .i64 (signWI v n)) ∧ w' = w := by
  by_cases h : 1 ≤ n ∧ n ≤ 63
  · rw [signWI, if_pos h]
    obtain ⟨N, rfl⟩ := Int.eq_ofNat_of_zero_le (show 0 ≤ n by omega)
    rw [Int.toNat_natCast]
    exact rsign_yes v N (by omega) (by omega) w
  · rw [signWI, if_neg h]
    exact rsign_no v n h w
end Go.Proofs.YtkckobbedpccfaaDoor.I
