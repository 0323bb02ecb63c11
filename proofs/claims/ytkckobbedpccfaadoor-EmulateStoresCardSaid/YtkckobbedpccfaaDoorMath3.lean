/-
  Plain arithmetic of placing bits into a word of 32 bits, over no program.
-/
import Derived.Test.YtkckobbedpccfaaDoorMath2
namespace Go.Proofs.YtkckobbedpccfaaDoor
open Go.RowKit
set_option linter.unusedVariables false

/-- the word with i bits of V laid from t on -/
def placeN (w V t i : Nat) : Nat := (w &&& (4294967295 - (2 ^ i - 1) * 2 ^ t)) ||| (V * 2 ^ t % 4294967296 &&& (2 ^ i - 1) * 2 ^ t)

theorem mask_lt (t i : Nat) (h : t + i ≤ 32) : (2 ^ i - 1) * 2 ^ t < 2 ^ 32 := by
  have h1 : 2 ^ i * 2 ^ t ≤ 2 ^ 32 := by rw [← Nat.pow_add]; exact Nat.pow_le_pow_right (by decide) (by omega)
  have h2 := Nat.two_pow_pos t
  have h3 := Nat.two_pow_pos i
  have h4 : (2 ^ i - 1) * 2 ^ t = 2 ^ i * 2 ^ t - 2 ^ t := by rw [Nat.sub_mul, Nat.one_mul]
  have h5 : 2 ^ t ≤ 2 ^ i * 2 ^ t := Nat.le_mul_of_pos_left _ h3
  omega

theorem testBit_mask (t i j : Nat) : ((2 ^ i - 1) * 2 ^ t).testBit j = (decide (t ≤ j) && decide (j - t < i)) := by
  rw [Nat.testBit_mul_two_pow, Nat.testBit_two_pow_sub_one]
theorem testBit_not32 (m j : Nat) (h : m < 2 ^ 32) : (4294967295 - m).testBit j = (decide (j < 32) && !m.testBit j) := by
  rw [show 4294967295 - m = 2 ^ 32 - (m + 1) by omega, Nat.testBit_two_pow_sub_succ h]

theorem testBit_place (w V t i j : Nat) (hw : w < 2 ^ 32) (h : t + i ≤ 32) :
    (placeN w V t i).testBit j = if t ≤ j ∧ j < t + i then V.testBit (j - t) else w.testBit j := by
  unfold placeN
  rw [Nat.testBit_or, Nat.testBit_and, Nat.testBit_and, testBit_not32 _ _ (mask_lt t i h), testBit_mask]
  rw [show (4294967296 : Nat) = 2 ^ 32 from rfl, Nat.testBit_mod_two_pow, Nat.testBit_mul_two_pow]
  by_cases hj : j < 32
  · by_cases h1 : t ≤ j
    · by_cases h2 : j < t + i
      · have h3 : j - t < i := by omega
        simp [hj, h1, h2, h3]
      · have h3 : ¬ j - t < i := by omega
        simp [hj, h1, h2, h3]
    · simp [hj, h1]
  · have h2 : ¬ (t ≤ j ∧ j < t + i) := by omega
    have h3 : w.testBit j = false := Nat.testBit_lt_two_pow (Nat.lt_of_lt_of_le hw (Nat.pow_le_pow_right (by decide) (by omega)))
    simp [hj, h2, h3]

theorem place_lt (w V t i : Nat) (hw : w < 2 ^ 32) (h : t + i ≤ 32) : placeN w V t i < 4294967296 := by
  unfold placeN
  exact Nat.or_lt_two_pow (n := 32) (Nat.and_lt_two_pow _ (by omega)) (Nat.and_lt_two_pow _ (mask_lt t i h))

theorem place_zero (w V t : Nat) (hw : w < 2 ^ 32) (h : t ≤ 32) : placeN w V t 0 = w := by
  apply Nat.eq_of_testBit_eq
  intro j
  rw [testBit_place w V t 0 j hw (by omega), if_neg (by omega)]

theorem place_yes (w V t i : Nat) (hw : w < 2 ^ 32) (h : t + i < 32) (hb : V.testBit i = true) :
    (placeN w V t i &&& (4294967295 - 2 ^ (t + i))) ||| 2 ^ (t + i) = placeN w V t (i + 1) := by
  have hp : 2 ^ (t + i) < 2 ^ 32 := Nat.pow_lt_pow_right (by decide) h
  apply Nat.eq_of_testBit_eq
  intro j
  rw [Nat.testBit_or, Nat.testBit_and, testBit_not32 _ _ hp, testBit_place w V t i j hw (by omega), testBit_place w V t (i + 1) j hw (by omega), Nat.testBit_two_pow]
  by_cases e : t + i = j
  · subst e
    have : t ≤ t + i ∧ t + i < t + (i + 1) := by omega
    rw [if_pos this, show t + i - t = i by omega, hb]; simp
  · have hiff : (t ≤ j ∧ j < t + (i + 1)) ↔ (t ≤ j ∧ j < t + i) := by omega
    by_cases hj : j < 32
    · simp [e, hj, hiff]
    · have h3 : w.testBit j = false := Nat.testBit_lt_two_pow (Nat.lt_of_lt_of_le hw (Nat.pow_le_pow_right (by decide) (by omega)))
      have h4 : ¬ (t ≤ j ∧ j < t + i) := by omega
      simp [e, hj, hiff, h3, h4]
theorem place_no (w V t i : Nat) (hw : w < 2 ^ 32) (h : t + i < 32) (hb : V.testBit i = false) :
    (placeN w V t i &&& (4294967295 - 2 ^ (t + i))) = placeN w V t (i + 1) := by
  have hp : 2 ^ (t + i) < 2 ^ 32 := Nat.pow_lt_pow_right (by decide) h
  apply Nat.eq_of_testBit_eq
  intro j
  rw [Nat.testBit_and, testBit_not32 _ _ hp, testBit_place w V t i j hw (by omega), testBit_place w V t (i + 1) j hw (by omega), Nat.testBit_two_pow]
  by_cases e : t + i = j
  · subst e
    have : t ≤ t + i ∧ t + i < t + (i + 1) := by omega
    rw [if_pos this, show t + i - t = i by omega, hb]; simp
  · have hiff : (t ≤ j ∧ j < t + (i + 1)) ↔ (t ≤ j ∧ j < t + i) := by omega
    by_cases hj : j < 32
    · simp [e, hj, hiff]
    · have h3 : w.testBit j = false := Nat.testBit_lt_two_pow (Nat.lt_of_lt_of_le hw (Nat.pow_le_pow_right (by decide) (by omega)))
      have h4 : ¬ (t ≤ j ∧ j < t + i) := by omega
      simp [e, hj, hiff, h3, h4]

theorem and1 (x : Int) : bits .and .i64 x 1 = x % 2 := and_ones64 x 1 (by decide)

theorem bit_of (v : Int) (i : Nat) (hi : i < 32) : (v / 2 ^ i % 2 == 1) = (v % 4294967296).toNat.testBit i := by
  have hV0 : 0 ≤ v % 4294967296 := by omega
  obtain ⟨V, hV⟩ := Int.eq_ofNat_of_zero_le hV0
  rw [hV, Int.toNat_natCast, Nat.testBit_eq_decide_div_mod_eq]
  have hp := pow_pos' i
  have e : (4294967296 : Int) = 2 ^ (31 - i) * 2 * 2 ^ i := by
    rw [← Int.pow_succ, ← Int.pow_add, show 31 - i + 1 + i = 32 by omega]; decide
  have ev : v = (V : Int) + (2 ^ (31 - i) * 2 * (v / 4294967296)) * 2 ^ i := by
    have h := Int.emod_add_mul_ediv v 4294967296
    rw [Int.mul_right_comm (2 ^ (31 - i) * 2), ← e, ← hV]; omega
  have e2 : v / 2 ^ i % 2 = ((V / 2 ^ i % 2 : Nat) : Int) := by
    conv => lhs; rw [ev]
    rw [Int.add_mul_ediv_right _ _ (by omega), Int.mul_right_comm, Int.add_mul_emod_self_right]
    simp
  rw [e2, Bool.eq_iff_iff]
  simp only [beq_iff_eq, decide_eq_true_eq]
  omega

theorem place_word (w V t n : Nat) (v : Int) (hV : v % 4294967296 = V) (hw : w < 2 ^ 32) (h : t + n ≤ 32) :
    bits .or .u32 (bits .andNot .u32 (w : Int) (((2 ^ n - 1) * 2 ^ t : Nat) : Int)) (bits .and .u32 (IntKind.u32.wrap (IntKind.u32.wrap v * 2 ^ t)) (((2 ^ n - 1) * 2 ^ t : Nat) : Int)) = (placeN w V t n : Int) := by
  have hm := mask_lt t n h
  have e1 : IntKind.u32.wrap (IntKind.u32.wrap v * 2 ^ t) = ((V * 2 ^ t % 4294967296 : Nat) : Int) := by
    rw [IntKind.wrap_u32, IntKind.wrap_u32, hV]; simp
  rw [e1, u32_andNot_nat _ _ (by omega) (by omega), u32_and_nat _ _ (by omega) (by omega)]
  have h1 : w &&& (4294967295 - (2 ^ n - 1) * 2 ^ t) < 2 ^ 32 := Nat.and_lt_two_pow _ (by omega)
  have h2 : V * 2 ^ t % 4294967296 &&& (2 ^ n - 1) * 2 ^ t < 2 ^ 32 := Nat.and_lt_two_pow _ hm
  rw [u32_or_nat _ _ h1 h2]
  rfl
theorem mask_wrap (t n : Nat) (h : t + n ≤ 32) : IntKind.u32.wrap ((2 ^ n - 1) * 2 ^ t) = (((2 ^ n - 1) * 2 ^ t : Nat) : Int) := by
  have hm := mask_lt t n h
  have e : ((2 : Int) ^ n - 1) * 2 ^ t = (((2 ^ n - 1) * 2 ^ t : Nat) : Int) := by
    rw [Int.natCast_mul, Int.natCast_sub (Nat.two_pow_pos n)]; simp
  rw [e, IntKind.wrap_u32]
  omega
theorem bit_wrap (j : Nat) (h : j < 32) : IntKind.u32.wrap (2 ^ j) = ((2 ^ j : Nat) : Int) := by
  have hp : 2 ^ j < 2 ^ 32 := Nat.pow_lt_pow_right (by decide) h
  have e : (2 : Int) ^ j = ((2 ^ j : Nat) : Int) := by simp
  rw [e, IntKind.wrap_u32]
  generalize 2 ^ j = X at *
  omega
theorem place_step_not (w V t i : Nat) (hw : w < 2 ^ 32) (h : t + i < 32) :
    bits .andNot .u32 (placeN w V t i : Int) ((2 ^ (t + i) : Nat) : Int) = ((placeN w V t i &&& (4294967295 - 2 ^ (t + i)) : Nat) : Int) := by
  have hp : 2 ^ (t + i) < 2 ^ 32 := Nat.pow_lt_pow_right (by decide) h
  exact u32_andNot_nat _ _ (place_lt w V t i hw (by omega)) (by omega)
theorem place_step_or (w V t i : Nat) (hw : w < 2 ^ 32) (h : t + i < 32) :
    bits .or .u32 ((placeN w V t i &&& (4294967295 - 2 ^ (t + i)) : Nat) : Int) ((2 ^ (t + i) : Nat) : Int) = (((placeN w V t i &&& (4294967295 - 2 ^ (t + i))) ||| 2 ^ (t + i) : Nat) : Int) := by
  have hp : 2 ^ (t + i) < 2 ^ 32 := Nat.pow_lt_pow_right (by decide) h
  have h1 : placeN w V t i &&& (4294967295 - 2 ^ (t + i)) < 2 ^ 32 := Nat.and_lt_two_pow _ (Nat.lt_of_le_of_lt (Nat.sub_le _ _) (by decide))
  exact u32_or_nat _ _ h1 (by omega)
end Go.Proofs.YtkckobbedpccfaaDoor
