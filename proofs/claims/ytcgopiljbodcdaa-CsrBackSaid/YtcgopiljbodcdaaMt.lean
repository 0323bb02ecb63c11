/-
  Plain arithmetic of bits, over no program.
-/
import Derived.RowKit
import Derived.IntWalk
import Derived.Laws.BitsAllLaws
namespace Go.Proofs.Ytcgopiljbodcdaa
open Go.RowKit
set_option linter.unusedVariables false
theorem and_pow (n k : Nat) : n &&& 2 ^ k = if n.testBit k then 2 ^ k else 0 := by
  apply Nat.eq_of_testBit_eq
  intro i
  rw [Nat.testBit_and, Nat.testBit_two_pow]
  by_cases e : k = i
  · subst e
    cases h : n.testBit k
    · simp
    · simp
  · cases h : n.testBit k
    · simp [e]
    · simp [e]
theorem has_pow (n k : Nat) (hn : n < 18446744073709551616) (hk : k < 64) : (bits .and .u64 (n : Int) ((2 ^ k : Nat) : Int) != 0) = n.testBit k := by
  have hp : 2 ^ k < 18446744073709551616 := by
    have := Nat.pow_lt_pow_right (a := 2) (by decide) hk
    simpa using this
  rw [u64_and_nat n (2 ^ k) hn hp, and_pow]
  have hp0 : 2 ^ k ≠ 0 := Nat.ne_of_gt (Nat.two_pow_pos k)
  cases h : n.testBit k
  · simp
  · rw [if_pos rfl]
    exact bne_iff_ne.2 (Int.natCast_ne_zero.2 hp0)
theorem top_bit (v : Int) (h0 : 0 ≤ v) (h1 : v < 18446744073709551616) : (bits .and .u64 v 9223372036854775808 = 0 ∧ v / 9223372036854775808 = 0) ∨ (bits .and .u64 v 9223372036854775808 ≠ 0 ∧ v / 9223372036854775808 = 1) := by
  obtain ⟨n, rfl⟩ := Int.eq_ofNat_of_zero_le h0
  have e : (bits .and .u64 (n : Int) 9223372036854775808 != 0) = n.testBit 63 := has_pow n 63 (by omega) (by decide)
  by_cases h : n < 9223372036854775808
  · left
    have ht : n.testBit 63 = false := Nat.testBit_lt_two_pow (by omega)
    rw [ht] at e
    exact ⟨by simpa using e, by omega⟩
  · right
    have ht : n.testBit 63 = true := by
      rw [Nat.testBit_eq_decide_div_mod_eq]
      simp
      omega
    rw [ht] at e
    exact ⟨by simpa using e, by omega⟩
/-- the register's number -/
def numP (n : Int) : Nat := ((n.tmod 12 + 12).tmod 12).toNat
theorem numP_lt (n : Int) : numP n < 12 := by
  unfold numP
  have h1 := Int.tmod_lt_of_pos (n.tmod 12 + 12) (show (0 : Int) < 12 by decide)
  omega
theorem tmod_rng (n : Int) : -12 < n.tmod 12 ∧ n.tmod 12 < 12 := by
  have h1 := Int.tmod_lt_of_pos n (show (0 : Int) < 12 by decide)
  have h2 := Int.lt_tmod_of_pos n (show (0 : Int) < 12 by decide)
  exact ⟨h2, h1⟩
theorem numP_eq (n : Int) : (n.tmod 12 + 12).tmod 12 = (numP n : Int) := by
  have := tmod_rng n
  unfold numP
  have h : 0 ≤ (n.tmod 12 + 12).tmod 12 := Int.tmod_nonneg _ (by omega)
  omega
end Go.Proofs.Ytcgopiljbodcdaa
