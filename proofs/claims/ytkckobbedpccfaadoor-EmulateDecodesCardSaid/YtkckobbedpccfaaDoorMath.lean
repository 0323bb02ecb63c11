/-
  Plain arithmetic of shifts and bits of 64-bit numbers, over no program.
-/
import Derived.RowKit
import Derived.IntWalk
import Derived.Laws.BitsAllLaws
import Derived.Laws.BitsLemmas
namespace Go.Proofs.YtkckobbedpccfaaDoor
open Go.RowKit
set_option linter.unusedVariables false

theorem umax_eq : IntKind.u64.max = 18446744073709551615 := by decide
theorem wraps_u64 (n : Int) (h0 : 0 ≤ n) (h1 : n < 2 ^ 64) : IntKind.u64.wrap n = n := by rw [IntKind.wrap_u64]; omega
theorem and63 (b : Int) (h0 : 0 ≤ b) (h1 : b < 18446744073709551616) : bits .and .u64 b 63 = b % 64 :=
  bits_mask .u64 64 (by decide) wraps_u64 6 (by decide) b h0 (by omega)

theorem ones_shift (m n : Nat) (h : m + n = 64) : (18446744073709551615 : Nat) / 2 ^ n = 2 ^ m - 1 := by
  have e : (18446744073709551616 : Nat) = 2 ^ m * 2 ^ n := by rw [← Nat.pow_add, h]
  have hn : 0 < 2 ^ n := Nat.two_pow_pos n
  have hm : 0 < 2 ^ m := Nat.two_pow_pos m
  apply (Nat.div_eq_iff hn).2
  generalize hN : 2 ^ n = N at *
  generalize hM : 2 ^ m = M at *
  have e2 : (M - 1) * N = M * N - N := by rw [Nat.sub_mul, Nat.one_mul]
  have e3 : N ≤ M * N := Nat.le_mul_of_pos_left _ hm
  omega

theorem fill_nat (m n : Nat) (h : m + n = 64) : (18446744073709551615 : Nat) ^^^ (18446744073709551615 / 2 ^ n) = 2 ^ m * (2 ^ n - 1) := by
  rw [ones_shift m n h]
  have e : (18446744073709551615 : Nat) = 2 ^ 64 - 1 := by decide
  rw [e]
  apply Nat.eq_of_testBit_eq
  intro j
  rw [Nat.testBit_xor, Nat.testBit_two_pow_sub_one, Nat.testBit_two_pow_sub_one, Nat.testBit_two_pow_mul, Nat.testBit_two_pow_sub_one]
  by_cases h1 : j < m
  · have h2 : j < 64 := by omega
    have h3 : ¬ m ≤ j := by omega
    simp [h1, h2, h3]
  · have h3 : m ≤ j := by omega
    by_cases h2 : j < 64
    · have h4 : j - m < n := by omega
      simp [h1, h2, h3, h4]
    · have h4 : ¬ j - m < n := by omega
      simp [h1, h2, h4]

theorem pow_split (m n : Nat) (h : m + n = 64) : (18446744073709551616 : Int) = 2 ^ m * 2 ^ n := by
  rw [← Int.pow_add, h]; decide

theorem sar_pos (a : Int) (n : Nat) (h0 : 0 ≤ a) (h1 : a < 9223372036854775808) : IntKind.u64.wrap (wrap64 a / 2 ^ n) = a / 2 ^ n := by
  have e : wrap64 a = a := IntWalk.wrap64_in a ⟨by omega, by omega⟩
  rw [e, IntKind.wrap_u64]
  have h2 : 0 ≤ a / 2 ^ n := Int.ediv_nonneg h0 (Int.pow_nonneg (by decide))
  have h3 : a / 2 ^ n ≤ a := Int.ediv_le_self _ h0
  omega

theorem sar_neg (a : Int) (m n : Nat) (h : m + n = 64) (h0 : 9223372036854775808 ≤ a) (h1 : a < 18446744073709551616) :
    bits .or .u64 (a / 2 ^ n) (bits .xor .u64 IntKind.u64.max (18446744073709551615 / 2 ^ n)) = IntKind.u64.wrap (wrap64 a / 2 ^ n) := by
  obtain ⟨A, rfl⟩ := Int.eq_ofNat_of_zero_le (show 0 ≤ a by omega)
  have e0 : wrap64 (A : Int) = A + -(2 ^ m) * 2 ^ n := by
    have := pow_split m n h
    rw [Int.neg_mul, ← this]; unfold wrap64; omega
  have hn0 : (2 ^ n : Int) ≠ 0 := by have : (0 : Int) < 2 ^ n := Int.pow_pos (by decide); omega
  rw [e0, Int.add_mul_ediv_right _ _ hn0, umax_eq]
  have e1 : (18446744073709551615 : Int) / 2 ^ n = ((18446744073709551615 / 2 ^ n : Nat) : Int) := by simp
  have e2 : (A : Int) / 2 ^ n = ((A / 2 ^ n : Nat) : Int) := by simp
  have hl : (18446744073709551615 : Nat) / 2 ^ n ≤ 18446744073709551615 := Nat.div_le_self _ _
  have hx := u64_xor_nat 18446744073709551615 (18446744073709551615 / 2 ^ n) (by omega) (by omega)
  rw [fill_nat m n h] at hx
  rw [e1, e2]
  rw [show ((18446744073709551615 : Nat) : Int) = 18446744073709551615 from rfl] at hx
  rw [hx]
  have hA : A / 2 ^ n < 2 ^ m := by
    apply (Nat.div_lt_iff_lt_mul (Nat.two_pow_pos n)).2
    rw [← Nat.pow_add, h]; omega
  have hMN : 2 ^ m * 2 ^ n = (18446744073709551616 : Nat) := by rw [← Nat.pow_add, h]
  have hf : 2 ^ m * (2 ^ n - 1) = 18446744073709551616 - 2 ^ m := by rw [Nat.mul_sub, hMN, Nat.mul_one]
  have hm1 : 1 ≤ 2 ^ m := Nat.two_pow_pos m
  have hm2 : 2 ^ m ≤ 18446744073709551616 := by rw [← hMN]; exact Nat.le_mul_of_pos_right _ (Nat.two_pow_pos n)
  rw [u64_or_nat _ _ (by have := Nat.div_le_self A (2 ^ n); omega) (by omega), Nat.or_comm, ← Nat.two_pow_add_eq_or_of_lt hA, hf, IntKind.wrap_u64]
  have hc : ((2 : Int) ^ m) = ((2 ^ m : Nat) : Int) := by simp
  rw [hc]
  generalize 2 ^ m = M at *
  generalize A / 2 ^ n = q at *
  omega

/-- What Shift tells: by its kind, by the lowest six bits of the count. -/
def shiftW (k a b : Int) : Int :=
  if k = 0 then IntKind.u64.wrap (a * 2 ^ (b % 64).toNat) else
  if k = 1 then a / 2 ^ (b % 64).toNat else
  if k = 2 then IntKind.u64.wrap (wrap64 a / 2 ^ (b % 64).toNat) else a

/-- What Less tells. -/
def lessW (a b : Int) (s : Bool) : Bool := if s then decide (wrap64 a < wrap64 b) else decide (a < b)

end Go.Proofs.YtkckobbedpccfaaDoor
