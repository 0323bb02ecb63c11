/-
  Behind Enter and Leave the bits of Status are as they were: plain arithmetic.
-/
import Derived.Test.YtcgopiljbodcdaaEn
import Derived.Test.YtcgopiljbodcdaaMt
namespace Go.Proofs.Ytcgopiljbodcdaa
open Go.RowKit
set_option linter.unusedVariables false

theorem turn_nat (n b : Nat) (hn : n < 18446744073709551616) (hb : b < 64) (on : Bool) :
    ∃ m : Nat, m < 18446744073709551616 ∧ turnP (n : Int) ((2 ^ b : Nat) : Int) on = (m : Int) ∧ ∀ i, i < 64 → m.testBit i = if i = b then on else n.testBit i := by
  have hp : 2 ^ b < 2 ^ 64 := Nat.pow_lt_pow_right (by decide) hb
  have h64 : (2 ^ 64 : Nat) = 18446744073709551616 := by decide
  cases on
  · refine ⟨n &&& (18446744073709551615 - 2 ^ b), ?_, ?_, fun i hi => ?_⟩
    · exact Nat.lt_of_le_of_lt Nat.and_le_left hn
    · simp only [turnP, Bool.false_eq_true, if_false]
      exact u64_andNot_nat n (2 ^ b) hn (by omega)
    · have e : 18446744073709551615 - 2 ^ b = 2 ^ 64 - (2 ^ b + 1) := by omega
      rw [Nat.testBit_and, e, Nat.testBit_two_pow_sub_succ hp, Nat.testBit_two_pow]
      by_cases q : i = b
      · simp [q]
      · have q' : ¬ b = i := fun e => q e.symm
        simp [q, q', hi]
  · refine ⟨n ||| 2 ^ b, ?_, ?_, fun i hi => ?_⟩
    · rw [← h64] at hn ⊢
      exact Nat.or_lt_two_pow hn hp
    · simp only [turnP, if_true]
      exact u64_or_nat n (2 ^ b) hn (by omega)
    · rw [Nat.testBit_or, Nat.testBit_two_pow]
      by_cases q : i = b
      · simp [q]
      · have q' : ¬ b = i := fun e => q e.symm
        simp [q, q']
theorem turn_at (x : Int) (hx : U x) (b : Nat) (hb : b < 64) (on : Bool) : U (turnP x ((2 ^ b : Nat) : Int) on) ∧ ∀ i, i < 64 → (turnP x ((2 ^ b : Nat) : Int) on).toNat.testBit i = if i = b then on else x.toNat.testBit i := by
  obtain ⟨n, rfl⟩ := Int.eq_ofNat_of_zero_le hx.1
  have hx2 := hx.2
  obtain ⟨m, h1, h2, h3⟩ := turn_nat n b (by omega) hb on
  rw [h2]
  exact ⟨⟨by omega, by omega⟩, by simpa using h3⟩
theorem has_at (x : Int) (hx : U x) (b : Nat) (hb : b < 64) : hasP x ((2 ^ b : Nat) : Int) = x.toNat.testBit b := by
  obtain ⟨n, rfl⟩ := Int.eq_ofNat_of_zero_le hx.1
  have hx2 := hx.2
  exact has_pow n b (by omega) hb
theorem and_at (x y : Int) (hx : U x) (hy : U y) (b : Nat) (hb : b < 64) (h : x.toNat.testBit b = y.toNat.testBit b) : bits .and .u64 x ((2 ^ b : Nat) : Int) = bits .and .u64 y ((2 ^ b : Nat) : Int) := by
  obtain ⟨n, rfl⟩ := Int.eq_ofNat_of_zero_le hx.1
  obtain ⟨m, rfl⟩ := Int.eq_ofNat_of_zero_le hy.1
  have hx2 := hx.2
  have hy2 := hy.2
  have hp : 2 ^ b < 18446744073709551616 := by
    have := Nat.pow_lt_pow_right (a := 2) (by decide) hb
    simpa using this
  rw [u64_and_nat n _ (by omega) hp, u64_and_nat m _ (by omega) hp, and_pow, and_pow]
  simp only [Int.toNat_natCast] at h
  rw [h]
theorem enS_at (s : Int) (hs : U s) (k : Bool) : U (enS s k) ∧ (enS s k).toNat.testBit 1 = false ∧ (enS s k).toNat.testBit 5 = s.toNat.testBit 1 ∧ (enS s k).toNat.testBit 8 = k := by
  have h0 : hasP s 2 = s.toNat.testBit 1 := has_at s hs 1 (by decide)
  obtain ⟨u1, t1⟩ := turn_at s hs 5 (by decide) (hasP s 2)
  obtain ⟨u2, t2⟩ := turn_at _ u1 1 (by decide) false
  obtain ⟨u3, t3⟩ := turn_at _ u2 8 (by decide) k
  refine ⟨u3, (t3 1 (by decide)).trans ?_, (t3 5 (by decide)).trans ?_, (t3 8 (by decide)).trans ?_⟩
  · rw [if_neg (by decide), t2 1 (by decide), if_pos rfl]
  · rw [if_neg (by decide), t2 5 (by decide), if_neg (by decide), t1 5 (by decide), if_pos rfl, h0]
  · rw [if_pos rfl]
theorem enS_off (s : Int) (hs : U s) (k : Bool) : hasP (enS s k) 2 = false := by
  obtain ⟨u, h1, _⟩ := enS_at s hs k
  exact (has_at _ u 1 (by decide)).trans h1
theorem enS_kern (s : Int) (hs : U s) (k : Bool) : hasP (enS s k) 256 = k := by
  obtain ⟨u, _, _, h1⟩ := enS_at s hs k
  exact (has_at _ u 8 (by decide)).trans h1
theorem leS_on (s : Int) (hs : U s) (k : Bool) : bits .and .u64 (leS (enS s k)) 2 = bits .and .u64 s 2 := by
  obtain ⟨u, _, h5, _⟩ := enS_at s hs k
  have h0 : hasP (enS s k) 32 = s.toNat.testBit 1 := (has_at _ u 5 (by decide)).trans h5
  obtain ⟨u1, t1⟩ := turn_at _ u 1 (by decide) (hasP (enS s k) 32)
  obtain ⟨u2, t2⟩ := turn_at _ u1 5 (by decide) true
  obtain ⟨u3, t3⟩ := turn_at _ u2 8 (by decide) false
  refine and_at (leS (enS s k)) s u3 hs 1 (by decide) ((t3 1 (by decide)).trans ?_)
  rw [if_neg (by decide), t2 1 (by decide), if_neg (by decide), t1 1 (by decide), if_pos rfl, h0]
end Go.Proofs.Ytcgopiljbodcdaa
