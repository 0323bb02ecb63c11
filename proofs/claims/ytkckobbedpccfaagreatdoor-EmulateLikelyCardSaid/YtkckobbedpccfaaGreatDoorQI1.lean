/-
  Plain arithmetic of shifts and bits of 64-bit numbers, over no program.
  Plain arithmetic of fields of 32 bits and of numbers with a sign, over no program.
  Plain arithmetic of placing bits into a word of 32 bits, over no program.
  Instructions and their words in plain arithmetic, over no program: shapes, what may stand in which field, the word and what is read out of it.
-/
import Derived.RowKit
import Derived.IntWalk
import Derived.Laws.BitsAllLaws
import Derived.Laws.BitsLemmas
namespace Go.Proofs.YtkckobbedpccfaaGreatDoor.I
open Go.RowKit
set_option linter.unusedVariables false

theorem umax_eq : IntKind.u64.max = 18446744073709551615 := by decide
theorem wraps_u64 (n : Int) (h0 : 0 ≤ n) (h1 : n < 2 ^ 64) : IntKind.u64.wrap n = n := by rw [IntKind.wrap_u64]; omega
theorem and63 (b : Int) (h0 : 0 ≤ b) (h1 : b < 18446744073709551616) : bits .and .u64 b 63 = b % 64 :=
  bits_mask .u64 64 (by decide) wraps_u64 6 (by decide) b h0 (by omega)

theorem ones_shift (m n : Nat) (h : m + n = 64) : (18446744073709551615 : Nat) / 2 ^ n = 2 ^ m - 1 := by
  have e : (18446744073709551616 : Nat) = 2 ^ m * 2 ^ n := by rw [← Nat.pow_add, h]
  have hn : 0 < 2 ^ n := Nat.two_pow_pos n
  have hm : 0 < 2 ^ m := Nat.two_pow_pos m
  apply (Nat.div_eq_iff hn).2
  generalize hN : 2 ^ n = N at *
  generalize hM : 2 ^ m = M at *
  have e2 : (M - 1) * N = M * N - N := by rw [Nat.sub_mul, Nat.one_mul]
  have e3 : N ≤ M * N := Nat.le_mul_of_pos_left _ hm
  omega

theorem fill_nat (m n : Nat) (h : m + n = 64) : (18446744073709551615 : Nat) ^^^ (18446744073709551615 / 2 ^ n) = 2 ^ m * (2 ^ n - 1) := by
  rw [ones_shift m n h]
  have e : (18446744073709551615 : Nat) = 2 ^ 64 - 1 := by decide
  rw [e]
  apply Nat.eq_of_testBit_eq
  intro j
  rw [Nat.testBit_xor, Nat.testBit_two_pow_sub_one, Nat.testBit_two_pow_sub_one, Nat.testBit_two_pow_mul, Nat.testBit_two_pow_sub_one]
  by_cases h1 : j < m
  · have h2 : j < 64 := by omega
    have h3 : ¬ m ≤ j := by omega
    simp [h1, h2, h3]
  · have h3 : m ≤ j := by omega
    by_cases h2 : j < 64
    · have h4 : j - m < n := by omega
      simp [h1, h2, h3, h4]
    · have h4 : ¬ j - m < n := by omega
      simp [h1, h2, h4]

theorem pow_split (m n : Nat) (h : m + n = 64) : (18446744073709551616 : Int) = 2 ^ m * 2 ^ n := by
  rw [← Int.pow_add, h]; decide

theorem sar_pos (a : Int) (n : Nat) (h0 : 0 ≤ a) (h1 : a < 9223372036854775808) : IntKind.u64.wrap (wrap64 a / 2 ^ n) = a / 2 ^ n := by
  have e : wrap64 a = a := IntWalk.wrap64_in a ⟨by omega, by omega⟩
  rw [e, IntKind.wrap_u64]
  have h2 : 0 ≤ a / 2 ^ n := Int.ediv_nonneg h0 (Int.pow_nonneg (by decide))
  have h3 : a / 2 ^ n ≤ a := Int.ediv_le_self _ h0
  omega

theorem sar_neg (a : Int) (m n : Nat) (h : m + n = 64) (h0 : 9223372036854775808 ≤ a) (h1 : a < 18446744073709551616) :
    bits .or .u64 (a / 2 ^ n) (bits .xor .u64 IntKind.u64.max (18446744073709551615 / 2 ^ n)) = IntKind.u64.wrap (wrap64 a / 2 ^ n) := by
  obtain ⟨A, rfl⟩ := Int.eq_ofNat_of_zero_le (show 0 ≤ a by omega)
  have e0 : wrap64 (A : Int) = A + -(2 ^ m) * 2 ^ n := by
    have := pow_split m n h
    rw [Int.neg_mul, ← this]; unfold wrap64; omega
  have hn0 : (2 ^ n : Int) ≠ 0 := by have : (0 : Int) < 2 ^ n := Int.pow_pos (by decide); omega
  rw [e0, Int.add_mul_ediv_right _ _ hn0, umax_eq]
  have e1 : (18446744073709551615 : Int) / 2 ^ n = ((18446744073709551615 / 2 ^ n : Nat) : Int) := by simp
  have e2 : (A : Int) / 2 ^ n = ((A / 2 ^ n : Nat) : Int) := by simp
  have hl : (18446744073709551615 : Nat) / 2 ^ n ≤ 18446744073709551615 := Nat.div_le_self _ _
  have hx := u64_xor_nat 18446744073709551615 (18446744073709551615 / 2 ^ n) (by omega) (by omega)
  rw [fill_nat m n h] at hx
  rw [e1, e2]
  rw [show ((18446744073709551615 : Nat) : Int) = 18446744073709551615 from rfl] at hx
  rw [hx]
  have hA : A / 2 ^ n < 2 ^ m := by
    apply (Nat.div_lt_iff_lt_mul (Nat.two_pow_pos n)).2
    rw [← Nat.pow_add, h]; omega
  have hMN : 2 ^ m * 2 ^ n = (18446744073709551616 : Nat) := by rw [← Nat.pow_add, h]
  have hf : 2 ^ m * (2 ^ n - 1) = 18446744073709551616 - 2 ^ m := by rw [Nat.mul_sub, hMN, Nat.mul_one]
  have hm1 : 1 ≤ 2 ^ m := Nat.two_pow_pos m
  have hm2 : 2 ^ m ≤ 18446744073709551616 := by rw [← hMN]; exact Nat.le_mul_of_pos_right _ (Nat.two_pow_pos n)
  rw [u64_or_nat _ _ (by have := Nat.div_le_self A (2 ^ n); omega) (by omega), Nat.or_comm, ← Nat.two_pow_add_eq_or_of_lt hA, hf, IntKind.wrap_u64]
  have hc : ((2 : Int) ^ m) = ((2 ^ m : Nat) : Int) := by simp
  rw [hc]
  generalize 2 ^ m = M at *
  generalize A / 2 ^ n = q at *
  omega

/-- What Shift tells: by its kind, by the lowest six bits of the count. -/
def shiftW (k a b : Int) : Int :=
  if k = 0 then IntKind.u64.wrap (a * 2 ^ (b % 64).toNat) else
  if k = 1 then a / 2 ^ (b % 64).toNat else
  if k = 2 then IntKind.u64.wrap (wrap64 a / 2 ^ (b % 64).toNat) else a

/-- What Less tells. -/
def lessW (a b : Int) (s : Bool) : Bool := if s then decide (wrap64 a < wrap64 b) else decide (a < b)

end Go.Proofs.YtkckobbedpccfaaGreatDoor.I
namespace Go.Proofs.YtkckobbedpccfaaGreatDoor.I
open Go.RowKit
set_option linter.unusedVariables false

theorem wraps_u32 (n : Int) (h0 : 0 ≤ n) (h1 : n < 2 ^ 32) : IntKind.u32.wrap n = n := by rw [IntKind.wrap_u32]; omega

theorem pow_pos' (n : Nat) : (0 : Int) < 2 ^ n := Int.pow_pos (by decide)
theorem pow_le' {m n : Nat} (h : m ≤ n) : (2 : Int) ^ m ≤ 2 ^ n := by
  have := Nat.pow_le_pow_right (n := 2) (by decide) h
  have e1 : ((2 ^ m : Nat) : Int) = 2 ^ m := by simp
  have e2 : ((2 ^ n : Nat) : Int) = 2 ^ n := by simp
  rw [← e1, ← e2]; omega
theorem pow_half (N : Nat) (h : 1 ≤ N) : (2 : Int) ^ N = 2 * 2 ^ (N - 1) := by
  obtain ⟨M, rfl⟩ : ∃ M, N = M + 1 := ⟨N - 1, by omega⟩
  rw [Int.pow_succ]; simp; omega

theorem emod_le_self (x m : Int) (h0 : 0 ≤ x) (hm : 0 < m) : x % m ≤ x := by
  have h1 := Int.emod_add_mul_ediv x m
  have h2 : 0 ≤ m * (x / m) := Int.mul_nonneg (Int.le_of_lt hm) (Int.ediv_nonneg h0 (Int.le_of_lt hm))
  omega
theorem ones32 (n : Nat) (h : n ≤ 32) : (4294967295 : Int) / 2 ^ (32 - n) = 2 ^ n - 1 := by
  have e : (4294967296 : Int) = 2 ^ n * 2 ^ (32 - n) := by rw [← Int.pow_add, show n + (32 - n) = 32 by omega]; decide
  have hn := pow_pos' (32 - n)
  have hm := pow_pos' n
  generalize hN : (2 : Int) ^ (32 - n) = N at *
  generalize hM : (2 : Int) ^ n = M at *
  rw [show (4294967295 : Int) = N - 1 + (M - 1) * N by rw [Int.sub_mul, ← e]; omega, Int.add_mul_ediv_right _ _ (by omega), Int.ediv_eq_zero_of_lt (by omega) (by omega)]
  omega

theorem and_ones32 (x : Int) (n : Nat) (h : n ≤ 32) (h0 : 0 ≤ x) (h1 : x ≤ 4294967295) : bits .and .u32 x (2 ^ n - 1) = x % 2 ^ n :=
  bits_mask .u32 32 (by decide) wraps_u32 n h x h0 (by omega)

/-- a field's next bit below -/
theorem field_step (w : Int) (j m : Nat) : w / 2 ^ j % 2 ^ (m + 1) = w / 2 ^ (j + 1) % 2 ^ m * 2 + w / 2 ^ j % 2 := by
  have e : w / 2 ^ (j + 1) = w / 2 ^ j / 2 := by
    rw [Int.pow_succ, Int.ediv_ediv_of_nonneg (Int.le_of_lt (pow_pos' j))]
  rw [e, Int.pow_succ]
  generalize w / 2 ^ j = x
  have hp := pow_pos' m
  generalize (2 : Int) ^ m = P at *
  have h1 := Int.emod_add_mul_ediv x 2
  have h2 := Int.emod_add_mul_ediv (x / 2) P
  have h3 := Int.emod_nonneg (x / 2) (show P ≠ 0 by omega)
  have h4 := Int.emod_lt_of_pos (x / 2) hp
  have h5 : 0 ≤ x % 2 ∧ x % 2 < 2 := by omega
  have e2 : x = (x / 2 % P * 2 + x % 2) + (P * 2) * (x / 2 / P) := by
    generalize x / 2 / P = Q at *
    have : P * 2 * Q = 2 * (P * Q) := by rw [Int.mul_assoc, Int.mul_left_comm]
    omega
  have e3 : x % (P * 2) = (x / 2 % P * 2 + x % 2) := by
    conv => lhs; rw [e2]
    rw [Int.add_mul_emod_self_left]
    exact Int.emod_eq_of_lt (by omega) (by omega)
  exact e3

/-- what Sign tells -/
def signW (v : Int) (N : Nat) : Int := (v + 2 ^ (N - 1)) % 2 ^ N - 2 ^ (N - 1)

theorem sign_shift (v : Int) (N : Nat) (h1 : 1 ≤ N) (h2 : N ≤ 63) : wrap64 (v * 2 ^ (64 - N)) / 2 ^ (64 - N) = signW v N := by
  have e : (18446744073709551616 : Int) = 2 ^ (64 - N) * 2 ^ N := by rw [← Int.pow_add, show (64 - N) + N = 64 by omega]; decide
  have e2 : (9223372036854775808 : Int) = 2 ^ (N - 1) * 2 ^ (64 - N) := by rw [← Int.pow_add, show (N - 1) + (64 - N) = 63 by omega]; decide
  unfold wrap64 signW
  have hk := pow_pos' (64 - N)
  rw [e]
  rw [show v * 2 ^ (64 - N) + 9223372036854775808 = 2 ^ (64 - N) * (v + 2 ^ (N - 1)) by rw [e2, Int.mul_add, Int.mul_comm v, Int.mul_comm (2 ^ (N - 1))]]
  rw [Int.mul_emod_mul_of_pos _ _ hk]
  conv => lhs; rw [show (9223372036854775808 : Int) = 2 ^ (64 - N) * 2 ^ (N - 1) by rw [e2, Int.mul_comm]]
  rw [← Int.mul_sub, Int.mul_ediv_cancel_left _ (by omega)]

theorem sign_cases (v : Int) (N : Nat) (h1 : 1 ≤ N) :
    ((v % 2 ^ N / 2 ^ (N - 1) == 1) = true ∧ signW v N = v % 2 ^ N - 2 ^ (N - 1) - 2 ^ (N - 1)) ∨ ((v % 2 ^ N / 2 ^ (N - 1) == 1) = false ∧ signW v N = v % 2 ^ N) := by
  unfold signW
  rw [pow_half N h1]
  have hp := pow_pos' (N - 1)
  generalize (2 : Int) ^ (N - 1) = H at *
  have h3 := Int.emod_nonneg v (show 2 * H ≠ 0 by omega)
  have h4 := Int.emod_lt_of_pos v (show 0 < 2 * H by omega)
  have h5 := Int.emod_add_mul_ediv v (2 * H)
  have ev : (v + H) % (2 * H) = (v % (2 * H) + H) % (2 * H) := by rw [Int.emod_add_emod]
  generalize v % (2 * H) = m at *
  by_cases hm : m < H
  · right
    have : m / H = 0 := Int.ediv_eq_zero_of_lt h3 hm
    refine ⟨by rw [this]; decide, ?_⟩
    rw [ev, Int.emod_eq_of_lt (by omega) (by omega)]; omega
  · left
    have : m / H = 1 := by
      rw [show m = (m - H) + 1 * H by omega, Int.add_mul_ediv_right _ _ (by omega), Int.ediv_eq_zero_of_lt (by omega) (by omega)]; rfl
    refine ⟨by rw [this]; decide, ?_⟩
    rw [ev, show m + H = (m - H) + 2 * H * 1 by omega, Int.add_mul_emod_self_left, Int.emod_eq_of_lt (by omega) (by omega)]

/-- the lowest bits of a number with a sign -/
theorem and_ones64 (v : Int) (N : Nat) (h : N ≤ 63) : bits .and .i64 v (2 ^ N - 1) = v % 2 ^ N := by
  have hp := pow_pos' N
  have hle : (2 : Int) ^ N ≤ 2 ^ 63 := pow_le' h
  have hm0 := Int.emod_nonneg v (show (2 : Int) ^ N ≠ 0 by omega)
  have hm1 := Int.emod_lt_of_pos v hp
  show IntKind.i64.wrap ((BitVec.ofInt 64 v &&& BitVec.ofInt 64 (2 ^ N - 1)).toNat : Int) = _
  rw [BitVec.toNat_and, BitVec.toNat_ofInt, BitVec.toNat_ofInt]
  have e1 : (((2 : Int) ^ N - 1) % ((2 ^ 64 : Nat) : Int)).toNat = 2 ^ N - 1 := by
    have e0 : ((2 : Int) ^ N - 1) = ((2 ^ N - 1 : Nat) : Int) := by rw [Int.natCast_sub (Nat.two_pow_pos N)]; simp
    rw [e0, ← Int.natCast_emod, Int.toNat_natCast]
    apply Nat.mod_eq_of_lt
    have := Nat.pow_le_pow_right (n := 2) (by decide) h
    have := Nat.two_pow_pos N
    omega
  rw [e1, Nat.and_two_pow_sub_one_eq_mod]
  have e2 : (((v % ((2 ^ 64 : Nat) : Int)).toNat % 2 ^ N : Nat) : Int) = v % 2 ^ N := by
    rw [Int.natCast_emod, Int.toNat_of_nonneg (by omega)]
    have e3 : ((2 ^ N : Nat) : Int) = 2 ^ N := by simp
    rw [e3]
    apply Int.emod_emod_of_dvd
    refine ⟨2 ^ (64 - N), ?_⟩
    rw [← Int.pow_add, show N + (64 - N) = 64 by omega]; rfl
  rw [e2, IntKind.wrap_i64]
  omega

theorem one_shl (N : Nat) (h : N ≤ 62) : wrap64 (2 ^ N) = 2 ^ N := by
  have hp := pow_pos' N
  have hle : (2 : Int) ^ N ≤ 2 ^ 62 := pow_le' h
  exact IntWalk.wrap64_in _ ⟨by omega, by omega⟩
theorem ones_shl (N : Nat) (h : N ≤ 63) : wrap64 (wrap64 (2 ^ N) - 1) = 2 ^ N - 1 := by
  by_cases h2 : N ≤ 62
  · rw [one_shl N h2]
    have hp := pow_pos' N
    have hle : (2 : Int) ^ N ≤ 2 ^ 62 := pow_le' h2
    exact IntWalk.wrap64_in _ ⟨by omega, by omega⟩
  · have : N = 63 := by omega
    subst this; decide +kernel

end Go.Proofs.YtkckobbedpccfaaGreatDoor.I
namespace Go.Proofs.YtkckobbedpccfaaGreatDoor.I
open Go.RowKit
set_option linter.unusedVariables false

/-- the word with i bits of V laid from t on -/
def placeN (w V t i : Nat) : Nat := (w &&& (4294967295 - (2 ^ i - 1) * 2 ^ t)) ||| (V * 2 ^ t % 4294967296 &&& (2 ^ i - 1) * 2 ^ t)

theorem mask_lt (t i : Nat) (h : t + i ≤ 32) : (2 ^ i - 1) * 2 ^ t < 2 ^ 32 := by
  have h1 : 2 ^ i * 2 ^ t ≤ 2 ^ 32 := by rw [← Nat.pow_add]; exact Nat.pow_le_pow_right (by decide) (by omega)
  have h2 := Nat.two_pow_pos t
  have h3 := Nat.two_pow_pos i
  have h4 : (2 ^ i - 1) * 2 ^ t = 2 ^ i * 2 ^ t - 2 ^ t := by rw [Nat.sub_mul, Nat.one_mul]
  have h5 : 2 ^ t ≤ 2 ^ i * 2 ^ t := Nat.le_mul_of_pos_left _ h3
  omega

theorem testBit_mask (t i j : Nat) : ((2 ^ i - 1) * 2 ^ t).testBit j = (decide (t ≤ j) && decide (j - t < i)) := by
  rw [Nat.testBit_mul_two_pow, Nat.testBit_two_pow_sub_one]
theorem testBit_not32 (m j : Nat) (h : m < 2 ^ 32) : (4294967295 - m).testBit j = (decide (j < 32) && !m.testBit j) := by
  rw [show 4294967295 - m = 2 ^ 32 - (m + 1) by omega, Nat.testBit_two_pow_sub_succ h]

theorem testBit_place (w V t i j : Nat) (hw : w < 2 ^ 32) (h : t + i ≤ 32) :
    (placeN w V t i).testBit j = if t ≤ j ∧ j < t + i then V.testBit (j - t) else w.testBit j := by
  unfold placeN
  rw [Nat.testBit_or, Nat.testBit_and, Nat.testBit_and, testBit_not32 _ _ (mask_lt t i h), testBit_mask]
  rw [show (4294967296 : Nat) = 2 ^ 32 from rfl, Nat.testBit_mod_two_pow, Nat.testBit_mul_two_pow]
  by_cases hj : j < 32
  · by_cases h1 : t ≤ j
    · by_cases h2 : j < t + i
      · have h3 : j - t < i := by omega
        simp [hj, h1, h2, h3]
      · have h3 : ¬ j - t < i := by omega
        simp [hj, h1, h2, h3]
    · simp [hj, h1]
  · have h2 : ¬ (t ≤ j ∧ j < t + i) := by omega
    have h3 : w.testBit j = false := Nat.testBit_lt_two_pow (Nat.lt_of_lt_of_le hw (Nat.pow_le_pow_right (by decide) (by omega)))
    simp [hj, h2, h3]

theorem place_lt (w V t i : Nat) (hw : w < 2 ^ 32) (h : t + i ≤ 32) : placeN w V t i < 4294967296 := by
  unfold placeN
  exact Nat.or_lt_two_pow (n := 32) (Nat.and_lt_two_pow _ (by omega)) (Nat.and_lt_two_pow _ (mask_lt t i h))

theorem place_zero (w V t : Nat) (hw : w < 2 ^ 32) (h : t ≤ 32) : placeN w V t 0 = w := by
  apply Nat.eq_of_testBit_eq
  intro j
  rw [testBit_place w V t 0 j hw (by omega), if_neg (by omega)]

theorem place_yes (w V t i : Nat) (hw : w < 2 ^ 32) (h : t + i < 32) (hb : V.testBit i = true) :
    (placeN w V t i &&& (4294967295 - 2 ^ (t + i))) ||| 2 ^ (t + i) = placeN w V t (i + 1) := by
  have hp : 2 ^ (t + i) < 2 ^ 32 := Nat.pow_lt_pow_right (by decide) h
  apply Nat.eq_of_testBit_eq
  intro j
  rw [Nat.testBit_or, Nat.testBit_and, testBit_not32 _ _ hp, testBit_place w V t i j hw (by omega), testBit_place w V t (i + 1) j hw (by omega), Nat.testBit_two_pow]
  by_cases e : t + i = j
  · subst e
    have : t ≤ t + i ∧ t + i < t + (i + 1) := by omega
    rw [if_pos this, show t + i - t = i by omega, hb]; simp
  · have hiff : (t ≤ j ∧ j < t + (i + 1)) ↔ (t ≤ j ∧ j < t + i) := by omega
    by_cases hj : j < 32
    · simp [e, hj, hiff]
    · have h3 : w.testBit j = false := Nat.testBit_lt_two_pow (Nat.lt_of_lt_of_le hw (Nat.pow_le_pow_right (by decide) (by omega)))
      have h4 : ¬ (t ≤ j ∧ j < t + i) := by omega
      simp [e, hj, hiff, h3, h4]
theorem place_no (w V t i : Nat) (hw : w < 2 ^ 32) (h : t + i < 32) (hb : V.testBit i = false) :
    (placeN w V t i &&& (4294967295 - 2 ^ (t + i))) = placeN w V t (i + 1) := by
  have hp : 2 ^ (t + i) < 2 ^ 32 := Nat.pow_lt_pow_right (by decide) h
  apply Nat.eq_of_testBit_eq
  intro j
  rw [Nat.testBit_and, testBit_not32 _ _ hp, testBit_place w V t i j hw (by omega), testBit_place w V t (i + 1) j hw (by omega), Nat.testBit_two_pow]
  by_cases e : t + i = j
  · subst e
    have : t ≤ t + i ∧ t + i < t + (i + 1) := by omega
    rw [if_pos this, show t + i - t = i by omega, hb]; simp
  · have hiff : (t ≤ j ∧ j < t + (i + 1)) ↔ (t ≤ j ∧ j < t + i) := by omega
    by_cases hj : j < 32
    · simp [e, hj, hiff]
    · have h3 : w.testBit j = false := Nat.testBit_lt_two_pow (Nat.lt_of_lt_of_le hw (Nat.pow_le_pow_right (by decide) (by omega)))
      have h4 : ¬ (t ≤ j ∧ j < t + i) := by omega
      simp [e, hj, hiff, h3, h4]

theorem and1 (x : Int) : bits .and .i64 x 1 = x % 2 := and_ones64 x 1 (by decide)

theorem bit_of (v : Int) (i : Nat) (hi : i < 32) : (v / 2 ^ i % 2 == 1) = (v % 4294967296).toNat.testBit i := by
  have hV0 : 0 ≤ v % 4294967296 := by omega
  obtain ⟨V, hV⟩ := Int.eq_ofNat_of_zero_le hV0
  rw [hV, Int.toNat_natCast, Nat.testBit_eq_decide_div_mod_eq]
  have hp := pow_pos' i
  have e : (4294967296 : Int) = 2 ^ (31 - i) * 2 * 2 ^ i := by
    rw [← Int.pow_succ, ← Int.pow_add, show 31 - i + 1 + i = 32 by omega]; decide
  have ev : v = (V : Int) + (2 ^ (31 - i) * 2 * (v / 4294967296)) * 2 ^ i := by
    have h := Int.emod_add_mul_ediv v 4294967296
    rw [Int.mul_right_comm (2 ^ (31 - i) * 2), ← e, ← hV]; omega
  have e2 : v / 2 ^ i % 2 = ((V / 2 ^ i % 2 : Nat) : Int) := by
    conv => lhs; rw [ev]
    rw [Int.add_mul_ediv_right _ _ (by omega), Int.mul_right_comm, Int.add_mul_emod_self_right]
    simp
  rw [e2, Bool.eq_iff_iff]
  simp only [beq_iff_eq, decide_eq_true_eq]
  omega

theorem place_word (w V t n : Nat) (v : Int) (hV : v % 4294967296 = V) (hw : w < 2 ^ 32) (h : t + n ≤ 32) :
    bits .or .u32 (bits .andNot .u32 (w : Int) (((2 ^ n - 1) * 2 ^ t : Nat) : Int)) (bits .and .u32 (IntKind.u32.wrap (IntKind.u32.wrap v * 2 ^ t)) (((2 ^ n - 1) * 2 ^ t : Nat) : Int)) = (placeN w V t n : Int) := by
  have hm := mask_lt t n h
  have e1 : IntKind.u32.wrap (IntKind.u32.wrap v * 2 ^ t) = ((V * 2 ^ t % 4294967296 : Nat) : Int) := by
    rw [IntKind.wrap_u32, IntKind.wrap_u32, hV]; simp
  rw [e1, u32_andNot_nat _ _ (by omega) (by omega), u32_and_nat _ _ (by omega) (by omega)]
  have h1 : w &&& (4294967295 - (2 ^ n - 1) * 2 ^ t) < 2 ^ 32 := Nat.and_lt_two_pow _ (by omega)
  have h2 : V * 2 ^ t % 4294967296 &&& (2 ^ n - 1) * 2 ^ t < 2 ^ 32 := Nat.and_lt_two_pow _ hm
  rw [u32_or_nat _ _ h1 h2]
  rfl
theorem mask_wrap (t n : Nat) (h : t + n ≤ 32) : IntKind.u32.wrap ((2 ^ n - 1) * 2 ^ t) = (((2 ^ n - 1) * 2 ^ t : Nat) : Int) := by
  have hm := mask_lt t n h
  have e : ((2 : Int) ^ n - 1) * 2 ^ t = (((2 ^ n - 1) * 2 ^ t : Nat) : Int) := by
    rw [Int.natCast_mul, Int.natCast_sub (Nat.two_pow_pos n)]; simp
  rw [e, IntKind.wrap_u32]
  omega
theorem bit_wrap (j : Nat) (h : j < 32) : IntKind.u32.wrap (2 ^ j) = ((2 ^ j : Nat) : Int) := by
  have hp : 2 ^ j < 2 ^ 32 := Nat.pow_lt_pow_right (by decide) h
  have e : (2 : Int) ^ j = ((2 ^ j : Nat) : Int) := by simp
  rw [e, IntKind.wrap_u32]
  generalize 2 ^ j = X at *
  omega
theorem place_step_not (w V t i : Nat) (hw : w < 2 ^ 32) (h : t + i < 32) :
    bits .andNot .u32 (placeN w V t i : Int) ((2 ^ (t + i) : Nat) : Int) = ((placeN w V t i &&& (4294967295 - 2 ^ (t + i)) : Nat) : Int) := by
  have hp : 2 ^ (t + i) < 2 ^ 32 := Nat.pow_lt_pow_right (by decide) h
  exact u32_andNot_nat _ _ (place_lt w V t i hw (by omega)) (by omega)
theorem place_step_or (w V t i : Nat) (hw : w < 2 ^ 32) (h : t + i < 32) :
    bits .or .u32 ((placeN w V t i &&& (4294967295 - 2 ^ (t + i)) : Nat) : Int) ((2 ^ (t + i) : Nat) : Int) = (((placeN w V t i &&& (4294967295 - 2 ^ (t + i))) ||| 2 ^ (t + i) : Nat) : Int) := by
  have hp : 2 ^ (t + i) < 2 ^ 32 := Nat.pow_lt_pow_right (by decide) h
  have h1 : placeN w V t i &&& (4294967295 - 2 ^ (t + i)) < 2 ^ 32 := Nat.and_lt_two_pow _ (Nat.lt_of_le_of_lt (Nat.sub_le _ _) (by decide))
  exact u32_or_nat _ _ h1 (by omega)
end Go.Proofs.YtkckobbedpccfaaGreatDoor.I
namespace Go.Proofs.YtkckobbedpccfaaGreatDoor.I
open Go.RowKit
set_option linter.unusedVariables false

/-- the shape of an operation; -1: there is none -/
def shapeR (op : Int) : Int :=
  if 1 ≤ op ∧ op ≤ 13 ∨ 37 ≤ op ∧ op ≤ 40 then 1
  else if 14 ≤ op ∧ op ≤ 21 ∨ 23 ≤ op ∧ op ≤ 25 ∨ op = 36 ∨ 46 ≤ op ∧ op ≤ 48 then 2
  else if 26 ≤ op ∧ op ≤ 28 then 3
  else if 29 ≤ op ∧ op ≤ 34 then 4
  else if op = 22 ∨ op = 35 then 5
  else if op = 45 then 6
  else if 41 ≤ op ∧ op ≤ 44 then 0
  else -1
def shapeN (op : Int) : Int := if shapeR op < 0 then 0 else shapeR op
def shapeB (op : Int) : Bool := decide (0 ≤ shapeR op)

/-- all that there is to know of a shape -/
theorem shape_cases (op : Int) :
    (shapeR op = 1 ∧ (1 ≤ op ∧ op ≤ 13 ∨ 37 ≤ op ∧ op ≤ 40)) ∨
    (shapeR op = 2 ∧ (14 ≤ op ∧ op ≤ 21 ∨ 23 ≤ op ∧ op ≤ 25 ∨ op = 36 ∨ 46 ≤ op ∧ op ≤ 48)) ∨
    (shapeR op = 3 ∧ (26 ≤ op ∧ op ≤ 28)) ∨ (shapeR op = 4 ∧ (29 ≤ op ∧ op ≤ 34)) ∨ (shapeR op = 5 ∧ (op = 22 ∨ op = 35)) ∨
    (shapeR op = 6 ∧ op = 45) ∨ (shapeR op = 0 ∧ (41 ≤ op ∧ op ≤ 44)) ∨ (shapeR op = -1 ∧ (op ≤ 0 ∨ 49 ≤ op)) := by
  unfold shapeR
  by_cases h1 : 1 ≤ op ∧ op ≤ 13 ∨ 37 ≤ op ∧ op ≤ 40
  · exact Or.inl ⟨if_pos h1, h1⟩
  · rw [if_neg h1]
    refine Or.inr ?_
    by_cases h2 : 14 ≤ op ∧ op ≤ 21 ∨ 23 ≤ op ∧ op ≤ 25 ∨ op = 36 ∨ 46 ≤ op ∧ op ≤ 48
    · exact Or.inl ⟨if_pos h2, h2⟩
    · rw [if_neg h2]
      refine Or.inr ?_
      by_cases h3 : 26 ≤ op ∧ op ≤ 28
      · exact Or.inl ⟨if_pos h3, h3⟩
      · rw [if_neg h3]
        refine Or.inr ?_
        by_cases h4 : 29 ≤ op ∧ op ≤ 34
        · exact Or.inl ⟨if_pos h4, h4⟩
        · rw [if_neg h4]
          refine Or.inr ?_
          by_cases h5 : op = 22 ∨ op = 35
          · exact Or.inl ⟨if_pos h5, h5⟩
          · rw [if_neg h5]
            refine Or.inr ?_
            by_cases h6 : op = 45
            · exact Or.inl ⟨if_pos h6, h6⟩
            · rw [if_neg h6]
              refine Or.inr ?_
              by_cases h7 : 41 ≤ op ∧ op ≤ 44
              · exact Or.inl ⟨if_pos h7, h7⟩
              · rw [if_neg h7]
                exact Or.inr ⟨rfl, by omega⟩

theorem shape_none (op : Int) (h : op ≤ 0 ∨ 49 ≤ op) : shapeR op = -1 := by
  have := shape_cases op
  omega

def rdP (op : Int) : Bool := decide (shapeR op = 1 ∨ shapeR op = 2 ∨ shapeR op = 5)
def rs1P (op : Int) : Bool := decide (shapeR op = 1 ∨ shapeR op = 2 ∨ shapeR op = 3 ∨ shapeR op = 4 ∨ shapeR op = 6)
def rs2P (op : Int) : Bool := decide (shapeR op = 1 ∧ op ≠ 37 ∨ shapeR op = 3 ∨ shapeR op = 4)
def loP (op : Int) : Int :=
  if 18 ≤ op ∧ op ≤ 20 ∨ 46 ≤ op ∧ op ≤ 48 then 0 else if shapeR op = 2 ∨ shapeR op = 3 ∨ shapeR op = 4 then -8192 else if shapeR op = 5 then -131072 else 0
def hiP (op : Int) : Int :=
  if 18 ≤ op ∧ op ≤ 20 then 63 else if 46 ≤ op ∧ op ≤ 48 then 4095 else if shapeR op = 2 ∨ shapeR op = 3 ∨ shapeR op = 4 then 8191 else if shapeR op = 5 then 131071 else 0

def regP (v : Int) (has : Bool) : Bool := v == 0 || (has && decide (1 ≤ v) && decide (v ≤ 15))
def hasP (lo hi v : Int) : Bool := decide (lo ≤ v) && decide (v ≤ hi)
def validP (op rd rs1 rs2 imm : Int) : Bool :=
  shapeB op && regP rd (rdP op) && regP rs1 (rs1P op) && regP rs2 (rs2P op) && hasP (loP op) (hiP op) imm

def regR (v : Int) : Bool := decide (0 ≤ v) && decide (v ≤ 15)
def immR (op v : Int) : Bool :=
  if 18 ≤ op ∧ op ≤ 20 then hasP 0 63 v else if 46 ≤ op ∧ op ≤ 48 then hasP 0 4095 v
  else if shapeR op = 2 ∨ shapeR op = 3 ∨ shapeR op = 4 then hasP (-8192) 8191 v else if shapeR op = 5 then hasP (-131072) 131071 v else v == 0
def validR (op rd rs1 rs2 imm : Int) : Bool :=
  if shapeR op < 0 ∨ regR rd = false ∨ regR rs1 = false ∨ regR rs2 = false ∨ immR op imm = false then false
  else (rdP op || rd == 0) && (rs1P op || rs1 == 0) && (rs2P op || rs2 == 0)

theorem reg_iff (v : Int) (b : Bool) : regP v b = (regR v && (b || v == 0)) := by
  unfold regP regR
  cases b
  · by_cases h : v = 0
    · subst h; rfl
    · simp [h]
  · rw [Bool.eq_iff_iff]
    simp
    omega
theorem imm_iff (op v : Int) : hasP (loP op) (hiP op) v = immR op v := by
  unfold loP hiP immR
  have h0 : hasP 0 0 v = (v == 0) := by
    unfold hasP
    rw [Bool.eq_iff_iff]
    simp
    omega
  by_cases h1 : 18 ≤ op ∧ op ≤ 20
  · rw [if_pos (Or.inl h1), if_pos h1, if_pos h1]
  · by_cases h2 : 46 ≤ op ∧ op ≤ 48
    · rw [if_pos (Or.inr h2), if_neg h1, if_neg h1, if_pos h2, if_pos h2]
    · rw [if_neg (by omega), if_neg h1, if_neg h1, if_neg h2, if_neg h2]
      by_cases h3 : shapeR op = 2 ∨ shapeR op = 3 ∨ shapeR op = 4
      · rw [if_pos h3, if_pos h3, if_pos h3]
      · rw [if_neg h3, if_neg h3, if_neg h3]
        by_cases h4 : shapeR op = 5
        · rw [if_pos h4, if_pos h4, if_pos h4]
        · rw [if_neg h4, if_neg h4, if_neg h4, h0]

theorem valid_same (op rd rs1 rs2 imm : Int) : validR op rd rs1 rs2 imm = validP op rd rs1 rs2 imm := by
  unfold validR validP
  rw [reg_iff, reg_iff, reg_iff, imm_iff]
  unfold shapeB
  by_cases hs : shapeR op < 0
  · rw [if_pos (Or.inl hs)]
    simp [show ¬ 0 ≤ shapeR op by omega]
  · have hs' : 0 ≤ shapeR op := by omega
    cases h1 : regR rd <;> cases h2 : regR rs1 <;> cases h3 : regR rs2 <;> cases h4 : immR op imm <;> simp [hs, hs']

/-- what is known of a valid instruction -/
theorem valid_facts {op rd rs1 rs2 imm : Int} (h : validP op rd rs1 rs2 imm = true) :
    1 ≤ op ∧ op ≤ 48 ∧ 0 ≤ rd ∧ rd ≤ 15 ∧ 0 ≤ rs1 ∧ rs1 ≤ 15 ∧ 0 ≤ rs2 ∧ rs2 ≤ 15 ∧ (shapeR op = 5 → rs1 = 0 ∧ rs2 = 0 ∧ -131072 ≤ imm ∧ imm ≤ 131071) ∧ (shapeR op ≠ 5 → -8192 ≤ imm ∧ imm ≤ 8191) := by
  have hc := shape_cases op
  unfold validP at h
  rw [reg_iff, reg_iff, reg_iff] at h
  simp only [Bool.and_eq_true, shapeB, decide_eq_true_eq, regR, hasP] at h
  obtain ⟨⟨⟨⟨h0, ⟨h1, h1'⟩, h2⟩, ⟨h3, h3'⟩, h4⟩, ⟨h5, h5'⟩, h6⟩, h7, h8⟩ := h
  refine ⟨by omega, by omega, by omega, by omega, by omega, by omega, by omega, by omega, fun e => ?_, fun e => ?_⟩
  · have ho : op = 22 ∨ op = 35 := by omega
    have e1 : rs1P op = false := by simp [rs1P, e]
    have e2 : rs2P op = false := by simp [rs2P, e]
    rw [e1] at h4
    rw [e2] at h6
    have e3 : loP op = -131072 := by unfold loP; rw [if_neg (by omega), if_neg (by omega), if_pos e]
    have e4 : hiP op = 131071 := by unfold hiP; rw [if_neg (by omega), if_neg (by omega), if_neg (by omega), if_pos e]
    simp at h4 h6
    omega
  · have e3 : -8192 ≤ loP op := by
      unfold loP
      split
      · decide
      · split
        · decide
        · decide
    have e4 : hiP op ≤ 8191 := by
      unfold hiP
      split
      · decide
      · split
        · decide
        · split
          · decide
          · decide
    omega

/-- the word of an instruction -/
def wordP (op rd rs1 rs2 imm : Int) : Int :=
  if shapeR op = 5 then op * 67108864 + rd * 4194304 + imm % 262144 else op * 67108864 + rd * 4194304 + rs1 * 262144 + rs2 * 16384 + imm % 16384

theorem valid_long {op rd rs1 rs2 imm : Int} (h5 : shapeR op = 5) (h : validP op rd rs1 rs2 imm = true) : rs1 = 0 ∧ rs2 = 0 :=
  let f := (valid_facts h).2.2.2.2.2.2.2.2.1 h5
  ⟨f.1, f.2.1⟩

theorem word_range {op rd rs1 rs2 imm : Int} (h : validP op rd rs1 rs2 imm = true) : 0 ≤ wordP op rd rs1 rs2 imm ∧ wordP op rd rs1 rs2 imm ≤ 4294967295 := by
  have f := valid_facts h
  unfold wordP
  split <;> omega

theorem word_inj {op rd rs1 rs2 imm op' rd' rs1' rs2' imm' : Int} (h : validP op rd rs1 rs2 imm = true) (h' : validP op' rd' rs1' rs2' imm' = true)
    (e : wordP op rd rs1 rs2 imm = wordP op' rd' rs1' rs2' imm') : op = op' ∧ rd = rd' ∧ rs1 = rs1' ∧ rs2 = rs2' ∧ imm = imm' := by
  have f := valid_facts h
  have f' := valid_facts h'
  have eo : op = op' := by
    unfold wordP at e
    split at e <;> split at e <;> omega
  subst eo
  unfold wordP at e
  by_cases h5 : shapeR op = 5
  · rw [if_pos h5, if_pos h5] at e
    have g := f.2.2.2.2.2.2.2.2.1 h5
    have g' := f'.2.2.2.2.2.2.2.2.1 h5
    refine ⟨rfl, ?_, ?_, ?_, ?_⟩ <;> omega
  · rw [if_neg h5, if_neg h5] at e
    have g := f.2.2.2.2.2.2.2.2.2 h5
    have g' := f'.2.2.2.2.2.2.2.2.2 h5
    refine ⟨rfl, ?_, ?_, ?_, ?_⟩ <;> omega

/-- what stands in a word -/
def opW (w : Int) : Int := w / 67108864 % 64
def rdW (w : Int) : Int := w / 4194304 % 16
def rs1W (w : Int) : Int := w / 262144 % 16
def rs2W (w : Int) : Int := if shapeR (opW w) = 5 then 0 else w / 16384 % 16
def immW (w : Int) : Int := if shapeR (opW w) = 5 then (w % 262144 + 131072) % 262144 - 131072 else (w % 16384 + 8192) % 16384 - 8192
def validW (w : Int) : Bool := validP (opW w) (rdW w) (rs1W w) (rs2W w) (immW w)

/-- the word of what was read out of a word is that word -/
theorem word_back (w : Int) (h0 : 0 ≤ w) (h1 : w ≤ 4294967295) (h : validW w = true) : wordP (opW w) (rdW w) (rs1W w) (rs2W w) (immW w) = w := by
  have f := valid_facts h
  by_cases h5 : shapeR (opW w) = 5
  · have g := f.2.2.2.2.2.2.2.2.1 h5
    unfold wordP
    rw [if_pos h5]
    unfold immW
    rw [if_pos h5]
    have g1 := g.1
    unfold rs1W at g1
    unfold opW rdW
    omega
  · unfold wordP
    rw [if_neg h5]
    unfold immW rs2W
    rw [if_neg h5, if_neg h5]
    unfold opW rdW rs1W
    omega

/-- what is read out of a valid instruction's word is that instruction -/
theorem insn_back {op rd rs1 rs2 imm : Int} (h : validP op rd rs1 rs2 imm = true) :
    opW (wordP op rd rs1 rs2 imm) = op ∧ rdW (wordP op rd rs1 rs2 imm) = rd ∧ rs1W (wordP op rd rs1 rs2 imm) = rs1 ∧ rs2W (wordP op rd rs1 rs2 imm) = rs2 ∧ immW (wordP op rd rs1 rs2 imm) = imm := by
  have f := valid_facts h
  by_cases h5 : shapeR op = 5
  · have g := f.2.2.2.2.2.2.2.2.1 h5
    have ew : wordP op rd rs1 rs2 imm = op * 67108864 + rd * 4194304 + imm % 262144 := by unfold wordP; rw [if_pos h5]
    have eo : opW (wordP op rd rs1 rs2 imm) = op := by rw [ew]; unfold opW; omega
    refine ⟨eo, ?_, ?_, ?_, ?_⟩
    · rw [ew]; unfold rdW; omega
    · rw [ew]; unfold rs1W; omega
    · unfold rs2W; rw [eo, if_pos h5]; omega
    · unfold immW; rw [eo, if_pos h5, ew]; omega
  · have g := f.2.2.2.2.2.2.2.2.2 h5
    have ew : wordP op rd rs1 rs2 imm = op * 67108864 + rd * 4194304 + rs1 * 262144 + rs2 * 16384 + imm % 16384 := by unfold wordP; rw [if_neg h5]
    have eo : opW (wordP op rd rs1 rs2 imm) = op := by rw [ew]; unfold opW; omega
    refine ⟨eo, ?_, ?_, ?_, ?_⟩
    · rw [ew]; unfold rdW; omega
    · rw [ew]; unfold rs1W; omega
    · unfold rs2W; rw [eo, if_neg h5, ew]; omega
    · unfold immW; rw [eo, if_neg h5, ew]; omega

/-- the document's way to read a long one: without rs1 -/
theorem long_same (w : Int) (h0 : 0 ≤ w) (h1 : w ≤ 4294967295) (h5 : shapeR (opW w) = 5) :
    validW w = true ↔ (validP (opW w) (rdW w) 0 0 (immW w) = true ∧ wordP (opW w) (rdW w) 0 0 (immW w) = w) := by
  have e2 : rs2W w = 0 := by unfold rs2W; rw [if_pos h5]
  constructor
  · intro h
    have e1 := (valid_long h5 h).1
    have hb := word_back w h0 h1 h
    unfold validW at h
    rw [e1, e2] at h hb
    exact ⟨h, hb⟩
  · rintro ⟨h, hb⟩
    have e1 : rs1W w = 0 := by
      have f := (insn_back h).2.2.1
      rw [hb] at f
      exact f
    unfold validW
    rw [e1, e2]
    exact h
end Go.Proofs.YtkckobbedpccfaaGreatDoor.I
