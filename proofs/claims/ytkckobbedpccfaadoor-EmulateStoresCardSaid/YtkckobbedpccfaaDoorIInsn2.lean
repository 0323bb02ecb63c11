/-
  What is placed into bits that are 0 is added: an instruction's word as a sum.
-/
import Derived.Test.YtkckobbedpccfaaDoorIWalks5
import Derived.Test.YtkckobbedpccfaaDoorIInsn
namespace Go.Proofs.YtkckobbedpccfaaDoor.I
open Go.RowKit
set_option linter.unusedVariables false

theorem placeN_add (A V t n : Nat) (hA : A < 2 ^ 32) (h : t + n ≤ 32) (hm : A % 2 ^ (t + n) = 0) : placeN A V t n = A + V % 2 ^ n * 2 ^ t := by
  obtain ⟨q, rfl⟩ : ∃ q, A = 2 ^ (t + n) * q := ⟨A / 2 ^ (t + n), by have := Nat.div_add_mod A (2 ^ (t + n)); omega⟩
  have hlt : V % 2 ^ n * 2 ^ t < 2 ^ (t + n) := by
    rw [Nat.pow_add, Nat.mul_comm (2 ^ t)]
    exact Nat.mul_lt_mul_of_pos_right (Nat.mod_lt _ (Nat.two_pow_pos n)) (Nat.two_pow_pos t)
  apply Nat.eq_of_testBit_eq
  intro j
  rw [testBit_place _ _ _ _ _ hA h, Nat.testBit_two_pow_mul_add _ hlt, Nat.testBit_two_pow_mul, Nat.testBit_mul_two_pow, Nat.testBit_mod_two_pow]
  by_cases h1 : t ≤ j
  · by_cases h2 : j < t + n
    · have h3 : j - t < n := by omega
      simp [h1, h2, h3]
    · simp [h1, h2]
      intro _
      omega
  · have h2 : j < t + n := by omega
    have h3 : ¬ t + n ≤ j := by omega
    simp [h1, h2, h3]

theorem place_add (a v : Int) (t n : Nat) (h0 : 0 ≤ a) (h1 : a ≤ 4294967295) (hn : 1 ≤ n) (ht : t + n ≤ 32) (hm : a % 2 ^ (t + n) = 0) : placeW a v t n = a + v % 2 ^ n * 2 ^ t := by
  unfold placeW
  rw [if_pos (by omega)]
  obtain ⟨A, rfl⟩ := Int.eq_ofNat_of_zero_le h0
  obtain ⟨V, hV⟩ := Int.eq_ofNat_of_zero_le (Int.emod_nonneg v (show (4294967296 : Int) ≠ 0 by decide))
  rw [Int.toNat_natCast, Int.toNat_natCast, Int.toNat_natCast, hV, Int.toNat_natCast]
  have hm' : A % 2 ^ (t + n) = 0 := by exact_mod_cast hm
  rw [placeN_add A V t n (by omega) ht hm']
  have e : v % 2 ^ n = ((V % 2 ^ n : Nat) : Int) := by
    have hd : (2 : Int) ^ n ∣ 4294967296 := ⟨2 ^ (32 - n), by rw [← Int.pow_add, show n + (32 - n) = 32 by omega]; decide⟩
    rw [← Int.emod_emod_of_dvd v hd, hV]
    simp
  rw [e]
  simp

theorem p26 (v : Int) : placeW 0 v 26 6 = v % 64 * 67108864 := by
  have := place_add 0 v 26 6 (by decide) (by decide) (by decide) (by decide) (by decide)
  simpa using this
theorem p22 (a v : Int) (h0 : 0 ≤ a) (h1 : a ≤ 4294967295) (hm : a % 67108864 = 0) : placeW a v 22 4 = a + v % 16 * 4194304 := by
  have := place_add a v 22 4 h0 h1 (by decide) (by decide) (by simpa using hm)
  simpa using this
theorem p18 (a v : Int) (h0 : 0 ≤ a) (h1 : a ≤ 4294967295) (hm : a % 4194304 = 0) : placeW a v 18 4 = a + v % 16 * 262144 := by
  have := place_add a v 18 4 h0 h1 (by decide) (by decide) (by simpa using hm)
  simpa using this
theorem p14 (a v : Int) (h0 : 0 ≤ a) (h1 : a ≤ 4294967295) (hm : a % 262144 = 0) : placeW a v 14 4 = a + v % 16 * 16384 := by
  have := place_add a v 14 4 h0 h1 (by decide) (by decide) (by simpa using hm)
  simpa using this
theorem p0s (a v : Int) (h0 : 0 ≤ a) (h1 : a ≤ 4294967295) (hm : a % 16384 = 0) : placeW a v 0 14 = a + v % 16384 := by
  have := place_add a v 0 14 h0 h1 (by decide) (by decide) (by simpa using hm)
  simpa using this
theorem p0l (a v : Int) (h0 : 0 ≤ a) (h1 : a ≤ 4294967295) (hm : a % 262144 = 0) : placeW a v 0 18 = a + v % 262144 := by
  have := place_add a v 0 18 h0 h1 (by decide) (by decide) (by simpa using hm)
  simpa using this
end Go.Proofs.YtkckobbedpccfaaDoor.I
