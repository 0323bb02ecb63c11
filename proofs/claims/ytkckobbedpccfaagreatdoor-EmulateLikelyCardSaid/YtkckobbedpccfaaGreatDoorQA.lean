/-
  Plain arithmetic of shifts and bits of 64-bit numbers, over no program.
  Plain arithmetic of fields of 32 bits and of numbers with a sign, over no program.
  Plain arithmetic of placing bits into a word of 32 bits, over no program.
  Plain arithmetic of numbers and their bytes, the lowest first, over no program.
-/
import Derived.RowKit
import Derived.IntWalk
import Derived.Laws.BitsAllLaws
import Derived.Laws.BitsLemmas
namespace Go.Proofs.YtkckobbedpccfaaGreatDoor
open Go.RowKit
set_option linter.unusedVariables false

theorem umax_eq : IntKind.u64.max = 18446744073709551615 := by decide
theorem wraps_u64 (n : Int) (h0 : 0 ≤ n) (h1 : n < 2 ^ 64) : IntKind.u64.wrap n = n := by rw [IntKind.wrap_u64]; omega
theorem and63 (b : Int) (h0 : 0 ≤ b) (h1 : b < 18446744073709551616) : bits .and .u64 b 63 = b % 64 :=
  bits_mask .u64 64 (by decide) wraps_u64 6 (by decide) b h0 (by omega)

theorem ones_shift (m n : Nat) (h : m + n = 64) : (18446744073709551615 : Nat) / 2 ^ n = 2 ^ m - 1 := by
  have e : (18446744073709551616 : Nat) = 2 ^ m * 2 ^ n := by rw [← Nat.pow_add, h]
  have hn : 0 < 2 ^ n := Nat.two_pow_pos n
  have hm : 0 < 2 ^ m := Nat.two_pow_pos m
  apply (Nat.div_eq_iff hn).2
  generalize hN : 2 ^ n = N at *
  generalize hM : 2 ^ m = M at *
  have e2 : (M - 1) * N = M * N - N := by rw [Nat.sub_mul, Nat.one_mul]
  have e3 : N ≤ M * N := Nat.le_mul_of_pos_left _ hm
  omega

theorem fill_nat (m n : Nat) (h : m + n = 64) : (18446744073709551615 : Nat) ^^^ (18446744073709551615 / 2 ^ n) = 2 ^ m * (2 ^ n - 1) := by
  rw [ones_shift m n h]
  have e : (18446744073709551615 : Nat) = 2 ^ 64 - 1 := by decide
  rw [e]
  apply Nat.eq_of_testBit_eq
  intro j
  rw [Nat.testBit_xor, Nat.testBit_two_pow_sub_one, Nat.testBit_two_pow_sub_one, Nat.testBit_two_pow_mul, Nat.testBit_two_pow_sub_one]
  by_cases h1 : j < m
  · have h2 : j < 64 := by omega
    have h3 : ¬ m ≤ j := by omega
    simp [h1, h2, h3]
  · have h3 : m ≤ j := by omega
    by_cases h2 : j < 64
    · have h4 : j - m < n := by omega
      simp [h1, h2, h3, h4]
    · have h4 : ¬ j - m < n := by omega
      simp [h1, h2, h4]

theorem pow_split (m n : Nat) (h : m + n = 64) : (18446744073709551616 : Int) = 2 ^ m * 2 ^ n := by
  rw [← Int.pow_add, h]; decide

theorem sar_pos (a : Int) (n : Nat) (h0 : 0 ≤ a) (h1 : a < 9223372036854775808) : IntKind.u64.wrap (wrap64 a / 2 ^ n) = a / 2 ^ n := by
  have e : wrap64 a = a := IntWalk.wrap64_in a ⟨by omega, by omega⟩
  rw [e, IntKind.wrap_u64]
  have h2 : 0 ≤ a / 2 ^ n := Int.ediv_nonneg h0 (Int.pow_nonneg (by decide))
  have h3 : a / 2 ^ n ≤ a := Int.ediv_le_self _ h0
  omega

theorem sar_neg (a : Int) (m n : Nat) (h : m + n = 64) (h0 : 9223372036854775808 ≤ a) (h1 : a < 18446744073709551616) :
    bits .or .u64 (a / 2 ^ n) (bits .xor .u64 IntKind.u64.max (18446744073709551615 / 2 ^ n)) = IntKind.u64.wrap (wrap64 a / 2 ^ n) := by
  obtain ⟨A, rfl⟩ := Int.eq_ofNat_of_zero_le (show 0 ≤ a by omega)
  have e0 : wrap64 (A : Int) = A + -(2 ^ m) * 2 ^ n := by
    have := pow_split m n h
    rw [Int.neg_mul, ← this]; unfold wrap64; omega
  have hn0 : (2 ^ n : Int) ≠ 0 := by have : (0 : Int) < 2 ^ n := Int.pow_pos (by decide); omega
  rw [e0, Int.add_mul_ediv_right _ _ hn0, umax_eq]
  have e1 : (18446744073709551615 : Int) / 2 ^ n = ((18446744073709551615 / 2 ^ n : Nat) : Int) := by simp
  have e2 : (A : Int) / 2 ^ n = ((A / 2 ^ n : Nat) : Int) := by simp
  have hl : (18446744073709551615 : Nat) / 2 ^ n ≤ 18446744073709551615 := Nat.div_le_self _ _
  have hx := u64_xor_nat 18446744073709551615 (18446744073709551615 / 2 ^ n) (by omega) (by omega)
  rw [fill_nat m n h] at hx
  rw [e1, e2]
  rw [show ((18446744073709551615 : Nat) : Int) = 18446744073709551615 from rfl] at hx
  rw [hx]
  have hA : A / 2 ^ n < 2 ^ m := by
    apply (Nat.div_lt_iff_lt_mul (Nat.two_pow_pos n)).2
    rw [← Nat.pow_add, h]; omega
  have hMN : 2 ^ m * 2 ^ n = (18446744073709551616 : Nat) := by rw [← Nat.pow_add, h]
  have hf : 2 ^ m * (2 ^ n - 1) = 18446744073709551616 - 2 ^ m := by rw [Nat.mul_sub, hMN, Nat.mul_one]
  have hm1 : 1 ≤ 2 ^ m := Nat.two_pow_pos m
  have hm2 : 2 ^ m ≤ 18446744073709551616 := by rw [← hMN]; exact Nat.le_mul_of_pos_right _ (Nat.two_pow_pos n)
  rw [u64_or_nat _ _ (by have := Nat.div_le_self A (2 ^ n); omega) (by omega), Nat.or_comm, ← Nat.two_pow_add_eq_or_of_lt hA, hf, IntKind.wrap_u64]
  have hc : ((2 : Int) ^ m) = ((2 ^ m : Nat) : Int) := by simp
  rw [hc]
  generalize 2 ^ m = M at *
  generalize A / 2 ^ n = q at *
  omega

/-- What Shift tells: by its kind, by the lowest six bits of the count. -/
def shiftW (k a b : Int) : Int :=
  if k = 0 then IntKind.u64.wrap (a * 2 ^ (b % 64).toNat) else
  if k = 1 then a / 2 ^ (b % 64).toNat else
  if k = 2 then IntKind.u64.wrap (wrap64 a / 2 ^ (b % 64).toNat) else a

/-- What Less tells. -/
def lessW (a b : Int) (s : Bool) : Bool := if s then decide (wrap64 a < wrap64 b) else decide (a < b)

end Go.Proofs.YtkckobbedpccfaaGreatDoor
namespace Go.Proofs.YtkckobbedpccfaaGreatDoor
open Go.RowKit
set_option linter.unusedVariables false

theorem wraps_u32 (n : Int) (h0 : 0 ≤ n) (h1 : n < 2 ^ 32) : IntKind.u32.wrap n = n := by rw [IntKind.wrap_u32]; omega

theorem pow_pos' (n : Nat) : (0 : Int) < 2 ^ n := Int.pow_pos (by decide)
theorem pow_le' {m n : Nat} (h : m ≤ n) : (2 : Int) ^ m ≤ 2 ^ n := by
  have := Nat.pow_le_pow_right (n := 2) (by decide) h
  have e1 : ((2 ^ m : Nat) : Int) = 2 ^ m := by simp
  have e2 : ((2 ^ n : Nat) : Int) = 2 ^ n := by simp
  rw [← e1, ← e2]; omega
theorem pow_half (N : Nat) (h : 1 ≤ N) : (2 : Int) ^ N = 2 * 2 ^ (N - 1) := by
  obtain ⟨M, rfl⟩ : ∃ M, N = M + 1 := ⟨N - 1, by omega⟩
  rw [Int.pow_succ]; simp; omega

theorem emod_le_self (x m : Int) (h0 : 0 ≤ x) (hm : 0 < m) : x % m ≤ x := by
  have h1 := Int.emod_add_mul_ediv x m
  have h2 : 0 ≤ m * (x / m) := Int.mul_nonneg (Int.le_of_lt hm) (Int.ediv_nonneg h0 (Int.le_of_lt hm))
  omega
theorem ones32 (n : Nat) (h : n ≤ 32) : (4294967295 : Int) / 2 ^ (32 - n) = 2 ^ n - 1 := by
  have e : (4294967296 : Int) = 2 ^ n * 2 ^ (32 - n) := by rw [← Int.pow_add, show n + (32 - n) = 32 by omega]; decide
  have hn := pow_pos' (32 - n)
  have hm := pow_pos' n
  generalize hN : (2 : Int) ^ (32 - n) = N at *
  generalize hM : (2 : Int) ^ n = M at *
  rw [show (4294967295 : Int) = N - 1 + (M - 1) * N by rw [Int.sub_mul, ← e]; omega, Int.add_mul_ediv_right _ _ (by omega), Int.ediv_eq_zero_of_lt (by omega) (by omega)]
  omega

theorem and_ones32 (x : Int) (n : Nat) (h : n ≤ 32) (h0 : 0 ≤ x) (h1 : x ≤ 4294967295) : bits .and .u32 x (2 ^ n - 1) = x % 2 ^ n :=
  bits_mask .u32 32 (by decide) wraps_u32 n h x h0 (by omega)

/-- a field's next bit below -/
theorem field_step (w : Int) (j m : Nat) : w / 2 ^ j % 2 ^ (m + 1) = w / 2 ^ (j + 1) % 2 ^ m * 2 + w / 2 ^ j % 2 := by
  have e : w / 2 ^ (j + 1) = w / 2 ^ j / 2 := by
    rw [Int.pow_succ, Int.ediv_ediv_of_nonneg (Int.le_of_lt (pow_pos' j))]
  rw [e, Int.pow_succ]
  generalize w / 2 ^ j = x
  have hp := pow_pos' m
  generalize (2 : Int) ^ m = P at *
  have h1 := Int.emod_add_mul_ediv x 2
  have h2 := Int.emod_add_mul_ediv (x / 2) P
  have h3 := Int.emod_nonneg (x / 2) (show P ≠ 0 by omega)
  have h4 := Int.emod_lt_of_pos (x / 2) hp
  have h5 : 0 ≤ x % 2 ∧ x % 2 < 2 := by omega
  have e2 : x = (x / 2 % P * 2 + x % 2) + (P * 2) * (x / 2 / P) := by
    generalize x / 2 / P = Q at *
    have : P * 2 * Q = 2 * (P * Q) := by rw [Int.mul_assoc, Int.mul_left_comm]
    omega
  have e3 : x % (P * 2) = (x / 2 % P * 2 + x % 2) := by
    conv => lhs; rw [e2]
    rw [Int.add_mul_emod_self_left]
    exact Int.emod_eq_of_lt (by omega) (by omega)
  exact e3

/-- what Sign tells -/
def signW (v : Int) (N : Nat) : Int := (v + 2 ^ (N - 1)) % 2 ^ N - 2 ^ (N - 1)

theorem sign_shift (v : Int) (N : Nat) (h1 : 1 ≤ N) (h2 : N ≤ 63) : wrap64 (v * 2 ^ (64 - N)) / 2 ^ (64 - N) = signW v N := by
  have e : (18446744073709551616 : Int) = 2 ^ (64 - N) * 2 ^ N := by rw [← Int.pow_add, show (64 - N) + N = 64 by omega]; decide
  have e2 : (9223372036854775808 : Int) = 2 ^ (N - 1) * 2 ^ (64 - N) := by rw [← Int.pow_add, show (N - 1) + (64 - N) = 63 by omega]; decide
  unfold wrap64 signW
  have hk := pow_pos' (64 - N)
  rw [e]
  rw [show v * 2 ^ (64 - N) + 9223372036854775808 = 2 ^ (64 - N) * (v + 2 ^ (N - 1)) by rw [e2, Int.mul_add, Int.mul_comm v, Int.mul_comm (2 ^ (N - 1))]]
  rw [Int.mul_emod_mul_of_pos _ _ hk]
  conv => lhs; rw [show (9223372036854775808 : Int) = 2 ^ (64 - N) * 2 ^ (N - 1) by rw [e2, Int.mul_comm]]
  rw [← Int.mul_sub, Int.mul_ediv_cancel_left _ (by omega)]

theorem sign_cases (v : Int) (N : Nat) (h1 : 1 ≤ N) :
    ((v % 2 ^ N / 2 ^ (N - 1) == 1) = true ∧ signW v N = v % 2 ^ N - 2 ^ (N - 1) - 2 ^ (N - 1)) ∨ ((v % 2 ^ N / 2 ^ (N - 1) == 1) = false ∧ signW v N = v % 2 ^ N) := by
  unfold signW
  rw [pow_half N h1]
  have hp := pow_pos' (N - 1)
  generalize (2 : Int) ^ (N - 1) = H at *
  have h3 := Int.emod_nonneg v (show 2 * H ≠ 0 by omega)
  have h4 := Int.emod_lt_of_pos v (show 0 < 2 * H by omega)
  have h5 := Int.emod_add_mul_ediv v (2 * H)
  have ev : (v + H) % (2 * H) = (v % (2 * H) + H) % (2 * H) := by rw [Int.emod_add_emod]
  generalize v % (2 * H) = m at *
  by_cases hm : m < H
  · right
    have : m / H = 0 := Int.ediv_eq_zero_of_lt h3 hm
    refine ⟨by rw [this]; decide, ?_⟩
    rw [ev, Int.emod_eq_of_lt (by omega) (by omega)]; omega
  · left
    have : m / H = 1 := by
      rw [show m = (m - H) + 1 * H by omega, Int.add_mul_ediv_right _ _ (by omega), Int.ediv_eq_zero_of_lt (by omega) (by omega)]; rfl
    refine ⟨by rw [this]; decide, ?_⟩
    rw [ev, show m + H = (m - H) + 2 * H * 1 by omega, Int.add_mul_emod_self_left, Int.emod_eq_of_lt (by omega) (by omega)]

/-- the lowest bits of a number with a sign -/
theorem and_ones64 (v : Int) (N : Nat) (h : N ≤ 63) : bits .and .i64 v (2 ^ N - 1) = v % 2 ^ N := by
  have hp := pow_pos' N
  have hle : (2 : Int) ^ N ≤ 2 ^ 63 := pow_le' h
  have hm0 := Int.emod_nonneg v (show (2 : Int) ^ N ≠ 0 by omega)
  have hm1 := Int.emod_lt_of_pos v hp
  show IntKind.i64.wrap ((BitVec.ofInt 64 v &&& BitVec.ofInt 64 (2 ^ N - 1)).toNat : Int) = _
  rw [BitVec.toNat_and, BitVec.toNat_ofInt, BitVec.toNat_ofInt]
  have e1 : (((2 : Int) ^ N - 1) % ((2 ^ 64 : Nat) : Int)).toNat = 2 ^ N - 1 := by
    have e0 : ((2 : Int) ^ N - 1) = ((2 ^ N - 1 : Nat) : Int) := by rw [Int.natCast_sub (Nat.two_pow_pos N)]; simp
    rw [e0, ← Int.natCast_emod, Int.toNat_natCast]
    apply Nat.mod_eq_of_lt
    have := Nat.pow_le_pow_right (n := 2) (by decide) h
    have := Nat.two_pow_pos N
    omega
  rw [e1, Nat.and_two_pow_sub_one_eq_mod]
  have e2 : (((v % ((2 ^ 64 : Nat) : Int)).toNat % 2 ^ N : Nat) : Int) = v % 2 ^ N := by
    rw [Int.natCast_emod, Int.toNat_of_nonneg (by omega)]
    have e3 : ((2 ^ N : Nat) : Int) = 2 ^ N := by simp
    rw [e3]
    apply Int.emod_emod_of_dvd
    refine ⟨2 ^ (64 - N), ?_⟩
    rw [← Int.pow_add, show N + (64 - N) = 64 by omega]; rfl
  rw [e2, IntKind.wrap_i64]
  omega

theorem one_shl (N : Nat) (h : N ≤ 62) : wrap64 (2 ^ N) = 2 ^ N := by
  have hp := pow_pos' N
  have hle : (2 : Int) ^ N ≤ 2 ^ 62 := pow_le' h
  exact IntWalk.wrap64_in _ ⟨by omega, by omega⟩
theorem ones_shl (N : Nat) (h : N ≤ 63) : wrap64 (wrap64 (2 ^ N) - 1) = 2 ^ N - 1 := by
  by_cases h2 : N ≤ 62
  · rw [one_shl N h2]
    have hp := pow_pos' N
    have hle : (2 : Int) ^ N ≤ 2 ^ 62 := pow_le' h2
    exact IntWalk.wrap64_in _ ⟨by omega, by omega⟩
  · have : N = 63 := by omega
    subst this; decide +kernel

end Go.Proofs.YtkckobbedpccfaaGreatDoor
namespace Go.Proofs.YtkckobbedpccfaaGreatDoor
open Go.RowKit
set_option linter.unusedVariables false

/-- the word with i bits of V laid from t on -/
def placeN (w V t i : Nat) : Nat := (w &&& (4294967295 - (2 ^ i - 1) * 2 ^ t)) ||| (V * 2 ^ t % 4294967296 &&& (2 ^ i - 1) * 2 ^ t)

theorem mask_lt (t i : Nat) (h : t + i ≤ 32) : (2 ^ i - 1) * 2 ^ t < 2 ^ 32 := by
  have h1 : 2 ^ i * 2 ^ t ≤ 2 ^ 32 := by rw [← Nat.pow_add]; exact Nat.pow_le_pow_right (by decide) (by omega)
  have h2 := Nat.two_pow_pos t
  have h3 := Nat.two_pow_pos i
  have h4 : (2 ^ i - 1) * 2 ^ t = 2 ^ i * 2 ^ t - 2 ^ t := by rw [Nat.sub_mul, Nat.one_mul]
  have h5 : 2 ^ t ≤ 2 ^ i * 2 ^ t := Nat.le_mul_of_pos_left _ h3
  omega

theorem testBit_mask (t i j : Nat) : ((2 ^ i - 1) * 2 ^ t).testBit j = (decide (t ≤ j) && decide (j - t < i)) := by
  rw [Nat.testBit_mul_two_pow, Nat.testBit_two_pow_sub_one]
theorem testBit_not32 (m j : Nat) (h : m < 2 ^ 32) : (4294967295 - m).testBit j = (decide (j < 32) && !m.testBit j) := by
  rw [show 4294967295 - m = 2 ^ 32 - (m + 1) by omega, Nat.testBit_two_pow_sub_succ h]

theorem testBit_place (w V t i j : Nat) (hw : w < 2 ^ 32) (h : t + i ≤ 32) :
    (placeN w V t i).testBit j = if t ≤ j ∧ j < t + i then V.testBit (j - t) else w.testBit j := by
  unfold placeN
  rw [Nat.testBit_or, Nat.testBit_and, Nat.testBit_and, testBit_not32 _ _ (mask_lt t i h), testBit_mask]
  rw [show (4294967296 : Nat) = 2 ^ 32 from rfl, Nat.testBit_mod_two_pow, Nat.testBit_mul_two_pow]
  by_cases hj : j < 32
  · by_cases h1 : t ≤ j
    · by_cases h2 : j < t + i
      · have h3 : j - t < i := by omega
        simp [hj, h1, h2, h3]
      · have h3 : ¬ j - t < i := by omega
        simp [hj, h1, h2, h3]
    · simp [hj, h1]
  · have h2 : ¬ (t ≤ j ∧ j < t + i) := by omega
    have h3 : w.testBit j = false := Nat.testBit_lt_two_pow (Nat.lt_of_lt_of_le hw (Nat.pow_le_pow_right (by decide) (by omega)))
    simp [hj, h2, h3]

theorem place_lt (w V t i : Nat) (hw : w < 2 ^ 32) (h : t + i ≤ 32) : placeN w V t i < 4294967296 := by
  unfold placeN
  exact Nat.or_lt_two_pow (n := 32) (Nat.and_lt_two_pow _ (by omega)) (Nat.and_lt_two_pow _ (mask_lt t i h))

theorem place_zero (w V t : Nat) (hw : w < 2 ^ 32) (h : t ≤ 32) : placeN w V t 0 = w := by
  apply Nat.eq_of_testBit_eq
  intro j
  rw [testBit_place w V t 0 j hw (by omega), if_neg (by omega)]

theorem place_yes (w V t i : Nat) (hw : w < 2 ^ 32) (h : t + i < 32) (hb : V.testBit i = true) :
    (placeN w V t i &&& (4294967295 - 2 ^ (t + i))) ||| 2 ^ (t + i) = placeN w V t (i + 1) := by
  have hp : 2 ^ (t + i) < 2 ^ 32 := Nat.pow_lt_pow_right (by decide) h
  apply Nat.eq_of_testBit_eq
  intro j
  rw [Nat.testBit_or, Nat.testBit_and, testBit_not32 _ _ hp, testBit_place w V t i j hw (by omega), testBit_place w V t (i + 1) j hw (by omega), Nat.testBit_two_pow]
  by_cases e : t + i = j
  · subst e
    have : t ≤ t + i ∧ t + i < t + (i + 1) := by omega
    rw [if_pos this, show t + i - t = i by omega, hb]; simp
  · have hiff : (t ≤ j ∧ j < t + (i + 1)) ↔ (t ≤ j ∧ j < t + i) := by omega
    by_cases hj : j < 32
    · simp [e, hj, hiff]
    · have h3 : w.testBit j = false := Nat.testBit_lt_two_pow (Nat.lt_of_lt_of_le hw (Nat.pow_le_pow_right (by decide) (by omega)))
      have h4 : ¬ (t ≤ j ∧ j < t + i) := by omega
      simp [e, hj, hiff, h3, h4]
theorem place_no (w V t i : Nat) (hw : w < 2 ^ 32) (h : t + i < 32) (hb : V.testBit i = false) :
    (placeN w V t i &&& (4294967295 - 2 ^ (t + i))) = placeN w V t (i + 1) := by
  have hp : 2 ^ (t + i) < 2 ^ 32 := Nat.pow_lt_pow_right (by decide) h
  apply Nat.eq_of_testBit_eq
  intro j
  rw [Nat.testBit_and, testBit_not32 _ _ hp, testBit_place w V t i j hw (by omega), testBit_place w V t (i + 1) j hw (by omega), Nat.testBit_two_pow]
  by_cases e : t + i = j
  · subst e
    have : t ≤ t + i ∧ t + i < t + (i + 1) := by omega
    rw [if_pos this, show t + i - t = i by omega, hb]; simp
  · have hiff : (t ≤ j ∧ j < t + (i + 1)) ↔ (t ≤ j ∧ j < t + i) := by omega
    by_cases hj : j < 32
    · simp [e, hj, hiff]
    · have h3 : w.testBit j = false := Nat.testBit_lt_two_pow (Nat.lt_of_lt_of_le hw (Nat.pow_le_pow_right (by decide) (by omega)))
      have h4 : ¬ (t ≤ j ∧ j < t + i) := by omega
      simp [e, hj, hiff, h3, h4]

theorem and1 (x : Int) : bits .and .i64 x 1 = x % 2 := and_ones64 x 1 (by decide)

theorem bit_of (v : Int) (i : Nat) (hi : i < 32) : (v / 2 ^ i % 2 == 1) = (v % 4294967296).toNat.testBit i := by
  have hV0 : 0 ≤ v % 4294967296 := by omega
  obtain ⟨V, hV⟩ := Int.eq_ofNat_of_zero_le hV0
  rw [hV, Int.toNat_natCast, Nat.testBit_eq_decide_div_mod_eq]
  have hp := pow_pos' i
  have e : (4294967296 : Int) = 2 ^ (31 - i) * 2 * 2 ^ i := by
    rw [← Int.pow_succ, ← Int.pow_add, show 31 - i + 1 + i = 32 by omega]; decide
  have ev : v = (V : Int) + (2 ^ (31 - i) * 2 * (v / 4294967296)) * 2 ^ i := by
    have h := Int.emod_add_mul_ediv v 4294967296
    rw [Int.mul_right_comm (2 ^ (31 - i) * 2), ← e, ← hV]; omega
  have e2 : v / 2 ^ i % 2 = ((V / 2 ^ i % 2 : Nat) : Int) := by
    conv => lhs; rw [ev]
    rw [Int.add_mul_ediv_right _ _ (by omega), Int.mul_right_comm, Int.add_mul_emod_self_right]
    simp
  rw [e2, Bool.eq_iff_iff]
  simp only [beq_iff_eq, decide_eq_true_eq]
  omega

theorem place_word (w V t n : Nat) (v : Int) (hV : v % 4294967296 = V) (hw : w < 2 ^ 32) (h : t + n ≤ 32) :
    bits .or .u32 (bits .andNot .u32 (w : Int) (((2 ^ n - 1) * 2 ^ t : Nat) : Int)) (bits .and .u32 (IntKind.u32.wrap (IntKind.u32.wrap v * 2 ^ t)) (((2 ^ n - 1) * 2 ^ t : Nat) : Int)) = (placeN w V t n : Int) := by
  have hm := mask_lt t n h
  have e1 : IntKind.u32.wrap (IntKind.u32.wrap v * 2 ^ t) = ((V * 2 ^ t % 4294967296 : Nat) : Int) := by
    rw [IntKind.wrap_u32, IntKind.wrap_u32, hV]; simp
  rw [e1, u32_andNot_nat _ _ (by omega) (by omega), u32_and_nat _ _ (by omega) (by omega)]
  have h1 : w &&& (4294967295 - (2 ^ n - 1) * 2 ^ t) < 2 ^ 32 := Nat.and_lt_two_pow _ (by omega)
  have h2 : V * 2 ^ t % 4294967296 &&& (2 ^ n - 1) * 2 ^ t < 2 ^ 32 := Nat.and_lt_two_pow _ hm
  rw [u32_or_nat _ _ h1 h2]
  rfl
theorem mask_wrap (t n : Nat) (h : t + n ≤ 32) : IntKind.u32.wrap ((2 ^ n - 1) * 2 ^ t) = (((2 ^ n - 1) * 2 ^ t : Nat) : Int) := by
  have hm := mask_lt t n h
  have e : ((2 : Int) ^ n - 1) * 2 ^ t = (((2 ^ n - 1) * 2 ^ t : Nat) : Int) := by
    rw [Int.natCast_mul, Int.natCast_sub (Nat.two_pow_pos n)]; simp
  rw [e, IntKind.wrap_u32]
  omega
theorem bit_wrap (j : Nat) (h : j < 32) : IntKind.u32.wrap (2 ^ j) = ((2 ^ j : Nat) : Int) := by
  have hp : 2 ^ j < 2 ^ 32 := Nat.pow_lt_pow_right (by decide) h
  have e : (2 : Int) ^ j = ((2 ^ j : Nat) : Int) := by simp
  rw [e, IntKind.wrap_u32]
  generalize 2 ^ j = X at *
  omega
theorem place_step_not (w V t i : Nat) (hw : w < 2 ^ 32) (h : t + i < 32) :
    bits .andNot .u32 (placeN w V t i : Int) ((2 ^ (t + i) : Nat) : Int) = ((placeN w V t i &&& (4294967295 - 2 ^ (t + i)) : Nat) : Int) := by
  have hp : 2 ^ (t + i) < 2 ^ 32 := Nat.pow_lt_pow_right (by decide) h
  exact u32_andNot_nat _ _ (place_lt w V t i hw (by omega)) (by omega)
theorem place_step_or (w V t i : Nat) (hw : w < 2 ^ 32) (h : t + i < 32) :
    bits .or .u32 ((placeN w V t i &&& (4294967295 - 2 ^ (t + i)) : Nat) : Int) ((2 ^ (t + i) : Nat) : Int) = (((placeN w V t i &&& (4294967295 - 2 ^ (t + i))) ||| 2 ^ (t + i) : Nat) : Int) := by
  have hp : 2 ^ (t + i) < 2 ^ 32 := Nat.pow_lt_pow_right (by decide) h
  have h1 : placeN w V t i &&& (4294967295 - 2 ^ (t + i)) < 2 ^ 32 := Nat.and_lt_two_pow _ (Nat.lt_of_le_of_lt (Nat.sub_le _ _) (by decide))
  exact u32_or_nat _ _ h1 (by omega)
end Go.Proofs.YtkckobbedpccfaaGreatDoor
namespace Go.Proofs.YtkckobbedpccfaaGreatDoor
open Go.RowKit
set_option linter.unusedVariables false

/-- the number of m bytes from place k on -/
def leFrom (zs : List Int) : Nat → Nat → Int
  | _, 0 => 0
  | k, m + 1 => zs.getD k 0 + 256 * leFrom zs (k + 1) m

theorem leFrom_snoc (zs : List Int) : ∀ m k, leFrom zs k (m + 1) = leFrom zs k m + zs.getD (k + m) 0 * 2 ^ (8 * m)
  | 0, k => by simp [leFrom]
  | m + 1, k => by
    have ih := leFrom_snoc zs m (k + 1)
    rw [leFrom, ih, leFrom, show k + 1 + m = k + (m + 1) by omega, show 8 * (m + 1) = 8 * m + 8 by omega, Int.pow_add, Int.mul_add, Int.mul_left_comm]
    rw [show (2 : Int) ^ 8 = 256 from rfl, Int.mul_comm 256 (2 ^ (8 * m))]
    omega

def Bytes (zs : List Int) : Prop := ∀ i, 0 ≤ zs.getD i 0 ∧ zs.getD i 0 ≤ 255

theorem leFrom_bound (zs : List Int) (h : Bytes zs) : ∀ m k, 0 ≤ leFrom zs k m ∧ leFrom zs k m < 2 ^ (8 * m)
  | 0, k => by simp [leFrom]
  | m + 1, k => by
    have ih := leFrom_bound zs h m (k + 1)
    have hz := h k
    rw [leFrom, show 8 * (m + 1) = 8 * m + 8 by omega, Int.pow_add, show (2 : Int) ^ 8 = 256 from rfl]
    generalize leFrom zs (k + 1) m = x at *
    generalize (2 : Int) ^ (8 * m) = P at *
    omega

/-- a byte laid above what is below it -/
theorem or_byte (v z : Int) (m : Nat) (hm : m < 8) (hv0 : 0 ≤ v) (hv : v < 2 ^ (8 * m)) (hz0 : 0 ≤ z) (hz : z ≤ 255) :
    bits .or .u64 v (IntKind.u64.wrap (z * 2 ^ (8 * m))) = v + z * 2 ^ (8 * m) := by
  have hp := pow_pos' (8 * m)
  have hle : (2 : Int) ^ (8 * m) ≤ 2 ^ 56 := pow_le' (by omega)
  have hle2 : z * 2 ^ (8 * m) ≤ 255 * 2 ^ (8 * m) := Int.mul_le_mul_of_nonneg_right hz (by omega)
  have hge : 0 ≤ z * 2 ^ (8 * m) := Int.mul_nonneg hz0 (by omega)
  have hw : IntKind.u64.wrap (z * 2 ^ (8 * m)) = z * 2 ^ (8 * m) := by
    rw [IntKind.wrap_u64]
    generalize z * 2 ^ (8 * m) = x at *
    generalize (2 : Int) ^ (8 * m) = P at *
    omega
  rw [hw]
  have hc : bits .or .u64 v (z * 2 ^ (8 * m)) = bits .or .u64 (z * 2 ^ (8 * m)) v := by
    rw [u64_or _ _ hv0 (by generalize (2 : Int) ^ (8 * m) = P at *; omega) hge (by generalize z * 2 ^ (8 * m) = x at *; generalize (2 : Int) ^ (8 * m) = P at *; omega),
      u64_or _ _ hge (by generalize z * 2 ^ (8 * m) = x at *; generalize (2 : Int) ^ (8 * m) = P at *; omega) hv0 (by generalize (2 : Int) ^ (8 * m) = P at *; omega), Nat.or_comm]
  rw [hc, bits_join .u64 64 (by decide) wraps_u64 (8 * m) (z * 2 ^ (8 * m)) v hge (by simp) (by generalize z * 2 ^ (8 * m) = x at *; generalize (2 : Int) ^ (8 * m) = P at *; omega) hv0 hv (by generalize (2 : Int) ^ (8 * m) = P at *; omega)]
  omega

/-- what a load of n bytes tells of the number that stands there -/
def extW (n : Int) (v : Int) : Int := if n = 4 ∧ 2147483648 ≤ v then v + 18446744069414584320 else v

theorem ext_shift (v : Int) (h0 : 0 ≤ v) (h1 : v < 18446744073709551616) : shiftW 2 (IntKind.u64.wrap (v * 2 ^ 0)) 0 = v := by
  rw [show shiftW 2 (IntKind.u64.wrap (v * 2 ^ 0)) 0 = IntKind.u64.wrap (wrap64 (IntKind.u64.wrap (v * 2 ^ 0)) / 2 ^ 0) from rfl]
  simp only [IntKind.wrap_u64, wrap64, Int.pow_zero, Int.mul_one, Int.ediv_one]
  omega
theorem ext_shift4 (v : Int) (h0 : 0 ≤ v) (h1 : v < 4294967296) : shiftW 2 (IntKind.u64.wrap (v * 2 ^ 32)) 32 = extW 4 v := by
  rw [show shiftW 2 (IntKind.u64.wrap (v * 2 ^ 32)) 32 = IntKind.u64.wrap (wrap64 (IntKind.u64.wrap (v * 2 ^ 32)) / 2 ^ 32) from rfl]
  have e : (2 : Int) ^ 32 = 4294967296 := rfl
  have hX : IntKind.u64.wrap (v * 2 ^ 32) = v * 4294967296 := by rw [IntKind.wrap_u64, e]; omega
  rw [hX, e]
  by_cases h : v < 2147483648
  · have h2 : wrap64 (v * 4294967296) = v * 4294967296 := by unfold wrap64; omega
    rw [h2, Int.mul_ediv_cancel _ (by decide), IntKind.wrap_u64, extW, if_neg (by omega)]
    omega
  · have h2 : wrap64 (v * 4294967296) = (v - 4294967296) * 4294967296 := by unfold wrap64; omega
    rw [h2, Int.mul_ediv_cancel _ (by decide), IntKind.wrap_u64, extW, if_pos (by omega)]
    omega

/-- the byte of v at place i -/
def byteAt (v : Int) (i : Nat) : Int := v / 2 ^ (8 * i) % 256
def bytesOf (v : Int) (n : Nat) : List Int := (List.range n).map (byteAt v)

theorem byteAt_bound (v : Int) (i : Nat) : 0 ≤ byteAt v i ∧ byteAt v i ≤ 255 := by unfold byteAt; omega
theorem bytesOf_getD (v : Int) (n i : Nat) (h : i < n) : (bytesOf v n).getD i 0 = byteAt v i := by
  simp [bytesOf, h]
theorem bytesOf_bytes (v : Int) (n : Nat) : Bytes (bytesOf v n) := by
  intro i
  by_cases h : i < n
  · rw [bytesOf_getD v n i h]; exact byteAt_bound v i
  · have : (bytesOf v n).getD i 0 = 0 := by simp [bytesOf, h]
    omega
theorem le_bytes (v : Int) (n : Nat) : ∀ m, m ≤ n → leFrom (bytesOf v n) 0 m = v % 2 ^ (8 * m)
  | 0, _ => by simp [leFrom, Int.emod_one]
  | m + 1, h => by
    rw [leFrom_snoc, le_bytes v n m (by omega), Nat.zero_add, bytesOf_getD v n m (by omega), byteAt, show 8 * (m + 1) = 8 * m + 8 by omega, Int.pow_add, show (2 : Int) ^ 8 = 256 from rfl]
    have hp := pow_pos' (8 * m)
    generalize (2 : Int) ^ (8 * m) = P at *
    have h1 := Int.emod_add_mul_ediv v P
    have h2 := Int.emod_add_mul_ediv (v / P) 256
    have h3 := Int.emod_nonneg v (show P ≠ 0 by omega)
    have h4 := Int.emod_lt_of_pos v hp
    have e2 : v = (v % P + v / P % 256 * P) + (P * 256) * (v / P / 256) := by
      have e3 : P * 256 * (v / P / 256) = P * (256 * (v / P / 256)) := by rw [Int.mul_assoc]
      have e4 : v / P % 256 * P + P * (256 * (v / P / 256)) = P * (v / P) := by
        rw [Int.mul_comm (v / P % 256) P, ← Int.mul_add, h2]
      omega
    have h5 : 0 ≤ v / P % 256 ∧ v / P % 256 < 256 := by omega
    have h6 : v / P % 256 * P ≤ 255 * P := Int.mul_le_mul_of_nonneg_right (by omega) (by omega)
    have h7 : 0 ≤ v / P % 256 * P := Int.mul_nonneg h5.1 (by omega)
    have e5 : v % (P * 256) = v % P + v / P % 256 * P := by
      conv => lhs; rw [e2]
      rw [Int.add_mul_emod_self_left]
      exact Int.emod_eq_of_lt (by omega) (by omega)
    exact e5.symm
end Go.Proofs.YtkckobbedpccfaaGreatDoor
