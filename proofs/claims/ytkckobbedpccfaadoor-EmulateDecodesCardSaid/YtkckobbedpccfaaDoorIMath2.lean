/-
  Plain arithmetic of fields of 32 bits and of numbers with a sign, over no program.
-/
import Derived.Test.YtkckobbedpccfaaDoorIMath
namespace Go.Proofs.YtkckobbedpccfaaDoor.I
open Go.RowKit
set_option linter.unusedVariables false

theorem wraps_u32 (n : Int) (h0 : 0 ≤ n) (h1 : n < 2 ^ 32) : IntKind.u32.wrap n = n := by rw [IntKind.wrap_u32]; omega

theorem pow_pos' (n : Nat) : (0 : Int) < 2 ^ n := Int.pow_pos (by decide)
theorem pow_le' {m n : Nat} (h : m ≤ n) : (2 : Int) ^ m ≤ 2 ^ n := by
  have := Nat.pow_le_pow_right (n := 2) (by decide) h
  have e1 : ((2 ^ m : Nat) : Int) = 2 ^ m := by simp
  have e2 : ((2 ^ n : Nat) : Int) = 2 ^ n := by simp
  rw [← e1, ← e2]; omega
theorem pow_half (N : Nat) (h : 1 ≤ N) : (2 : Int) ^ N = 2 * 2 ^ (N - 1) := by
  obtain ⟨M, rfl⟩ : ∃ M, N = M + 1 := ⟨N - 1, by omega⟩
  rw [Int.pow_succ]; simp; omega

theorem emod_le_self (x m : Int) (h0 : 0 ≤ x) (hm : 0 < m) : x % m ≤ x := by
  have h1 := Int.emod_add_mul_ediv x m
  have h2 : 0 ≤ m * (x / m) := Int.mul_nonneg (Int.le_of_lt hm) (Int.ediv_nonneg h0 (Int.le_of_lt hm))
  omega
theorem ones32 (n : Nat) (h : n ≤ 32) : (4294967295 : Int) / 2 ^ (32 - n) = 2 ^ n - 1 := by
  have e : (4294967296 : Int) = 2 ^ n * 2 ^ (32 - n) := by rw [← Int.pow_add, show n + (32 - n) = 32 by omega]; decide
  have hn := pow_pos' (32 - n)
  have hm := pow_pos' n
  generalize hN : (2 : Int) ^ (32 - n) = N at *
  generalize hM : (2 : Int) ^ n = M at *
  rw [show (4294967295 : Int) = N - 1 + (M - 1) * N by rw [Int.sub_mul, ← e]; omega, Int.add_mul_ediv_right _ _ (by omega), Int.ediv_eq_zero_of_lt (by omega) (by omega)]
  omega

theorem and_ones32 (x : Int) (n : Nat) (h : n ≤ 32) (h0 : 0 ≤ x) (h1 : x ≤ 4294967295) : bits .and .u32 x (2 ^ n - 1) = x % 2 ^ n :=
  bits_mask .u32 32 (by decide) wraps_u32 n h x h0 (by omega)

/-- a field's next bit below -/
theorem field_step (w : Int) (j m : Nat) : w / 2 ^ j % 2 ^ (m + 1) = w / 2 ^ (j + 1) % 2 ^ m * 2 + w / 2 ^ j % 2 := by
  have e : w / 2 ^ (j + 1) = w / 2 ^ j / 2 := by
    rw [Int.pow_succ, Int.ediv_ediv_of_nonneg (Int.le_of_lt (pow_pos' j))]
  rw [e, Int.pow_succ]
  generalize w / 2 ^ j = x
  have hp := pow_pos' m
  generalize (2 : Int) ^ m = P at *
  have h1 := Int.emod_add_mul_ediv x 2
  have h2 := Int.emod_add_mul_ediv (x / 2) P
  have h3 := Int.emod_nonneg (x / 2) (show P ≠ 0 by omega)
  have h4 := Int.emod_lt_of_pos (x / 2) hp
  have h5 : 0 ≤ x % 2 ∧ x % 2 < 2 := by omega
  have e2 : x = (x / 2 % P * 2 + x % 2) + (P * 2) * (x / 2 / P) := by
    generalize x / 2 / P = Q at *
    have : P * 2 * Q = 2 * (P * Q) := by rw [Int.mul_assoc, Int.mul_left_comm]
    omega
  have e3 : x % (P * 2) = (x / 2 % P * 2 + x % 2) := by
    conv => lhs; rw [e2]
    rw [Int.add_mul_emod_self_left]
    exact Int.emod_eq_of_lt (by omega) (by omega)
  exact e3

/-- what Sign tells -/
def signW (v : Int) (N : Nat) : Int := (v + 2 ^ (N - 1)) % 2 ^ N - 2 ^ (N - 1)

theorem sign_shift (v : Int) (N : Nat) (h1 : 1 ≤ N) (h2 : N ≤ 63) : wrap64 (v * 2 ^ (64 - N)) / 2 ^ (64 - N) = signW v N := by
  have e : (18446744073709551616 : Int) = 2 ^ (64 - N) * 2 ^ N := by rw [← Int.pow_add, show (64 - N) + N = 64 by omega]; decide
  have e2 : (9223372036854775808 : Int) = 2 ^ (N - 1) * 2 ^ (64 - N) := by rw [← Int.pow_add, show (N - 1) + (64 - N) = 63 by omega]; decide
  unfold wrap64 signW
  have hk := pow_pos' (64 - N)
  rw [e]
  rw [show v * 2 ^ (64 - N) + 9223372036854775808 = 2 ^ (64 - N) * (v + 2 ^ (N - 1)) by rw [e2, Int.mul_add, Int.mul_comm v, Int.mul_comm (2 ^ (N - 1))]]
  rw [Int.mul_emod_mul_of_pos _ _ hk]
  conv => lhs; rw [show (9223372036854775808 : Int) = 2 ^ (64 - N) * 2 ^ (N - 1) by rw [e2, Int.mul_comm]]
  rw [← Int.mul_sub, Int.mul_ediv_cancel_left _ (by omega)]

theorem sign_cases (v : Int) (N : Nat) (h1 : 1 ≤ N) :
    ((v % 2 ^ N / 2 ^ (N - 1) == 1) = true ∧ signW v N = v % 2 ^ N - 2 ^ (N - 1) - 2 ^ (N - 1)) ∨ ((v % 2 ^ N / 2 ^ (N - 1) == 1) = false ∧ signW v N = v % 2 ^ N) := by
  unfold signW
  rw [pow_half N h1]
  have hp := pow_pos' (N - 1)
  generalize (2 : Int) ^ (N - 1) = H at *
  have h3 := Int.emod_nonneg v (show 2 * H ≠ 0 by omega)
  have h4 := Int.emod_lt_of_pos v (show 0 < 2 * H by omega)
  have h5 := Int.emod_add_mul_ediv v (2 * H)
  have ev : (v + H) % (2 * H) = (v % (2 * H) + H) % (2 * H) := by rw [Int.emod_add_emod]
  generalize v % (2 * H) = m at *
  by_cases hm : m < H
  · right
    have : m / H = 0 := Int.ediv_eq_zero_of_lt h3 hm
    refine ⟨by rw [this]; decide, ?_⟩
    rw [ev, Int.emod_eq_of_lt (by omega) (by omega)]; omega
  · left
    have : m / H = 1 := by
      rw [show m = (m - H) + 1 * H by omega, Int.add_mul_ediv_right _ _ (by omega), Int.ediv_eq_zero_of_lt (by omega) (by omega)]; rfl
    refine ⟨by rw [this]; decide, ?_⟩
    rw [ev, show m + H = (m - H) + 2 * H * 1 by omega, Int.add_mul_emod_self_left, Int.emod_eq_of_lt (by omega) (by omega)]

/-- the lowest bits of a number with a sign -/
theorem and_ones64 (v : Int) (N : Nat) (h : N ≤ 63) : bits .and .i64 v (2 ^ N - 1) = v % 2 ^ N := by
  have hp := pow_pos' N
  have hle : (2 : Int) ^ N ≤ 2 ^ 63 := pow_le' h
  have hm0 := Int.emod_nonneg v (show (2 : Int) ^ N ≠ 0 by omega)
  have hm1 := Int.emod_lt_of_pos v hp
  show IntKind.i64.wrap ((BitVec.ofInt 64 v &&& BitVec.ofInt 64 (2 ^ N - 1)).toNat : Int) = _
  rw [BitVec.toNat_and, BitVec.toNat_ofInt, BitVec.toNat_ofInt]
  have e1 : (((2 : Int) ^ N - 1) % ((2 ^ 64 : Nat) : Int)).toNat = 2 ^ N - 1 := by
    have e0 : ((2 : Int) ^ N - 1) = ((2 ^ N - 1 : Nat) : Int) := by rw [Int.natCast_sub (Nat.two_pow_pos N)]; simp
    rw [e0, ← Int.natCast_emod, Int.toNat_natCast]
    apply Nat.mod_eq_of_lt
    have := Nat.pow_le_pow_right (n := 2) (by decide) h
    have := Nat.two_pow_pos N
    omega
  rw [e1, Nat.and_two_pow_sub_one_eq_mod]
  have e2 : (((v % ((2 ^ 64 : Nat) : Int)).toNat % 2 ^ N : Nat) : Int) = v % 2 ^ N := by
    rw [Int.natCast_emod, Int.toNat_of_nonneg (by omega)]
    have e3 : ((2 ^ N : Nat) : Int) = 2 ^ N := by simp
    rw [e3]
    apply Int.emod_emod_of_dvd
    refine ⟨2 ^ (64 - N), ?_⟩
    rw [← Int.pow_add, show N + (64 - N) = 64 by omega]; rfl
  rw [e2, IntKind.wrap_i64]
  omega

theorem one_shl (N : Nat) (h : N ≤ 62) : wrap64 (2 ^ N) = 2 ^ N := by
  have hp := pow_pos' N
  have hle : (2 : Int) ^ N ≤ 2 ^ 62 := pow_le' h
  exact IntWalk.wrap64_in _ ⟨by omega, by omega⟩
theorem ones_shl (N : Nat) (h : N ≤ 63) : wrap64 (wrap64 (2 ^ N) - 1) = 2 ^ N - 1 := by
  by_cases h2 : N ≤ 62
  · rw [one_shl N h2]
    have hp := pow_pos' N
    have hle : (2 : Int) ^ N ≤ 2 ^ 62 := pow_le' h2
    exact IntWalk.wrap64_in _ ⟨by omega, by omega⟩
  · have : N = 63 := by omega
    subst this; decide +kernel

end Go.Proofs.YtkckobbedpccfaaDoor.I
