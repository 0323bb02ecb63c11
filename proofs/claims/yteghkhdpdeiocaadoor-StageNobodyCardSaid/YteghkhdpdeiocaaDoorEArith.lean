/-
  Plain arithmetic of entries and addresses, over no program.
-/
import Derived.RowKit
import Derived.IntWalk
import Derived.Laws.BitsAllLaws
import Derived.Laws.BitsLemmas
namespace Go.Proofs.YteghkhdpdeiocaaDoor.A
open Go.RowKit
set_option linter.unusedVariables false

def leafP (v r x : Bool) : Bool := v && (r || x)
def grantP (r w x : Bool) (a : Int) : Bool := if a = 0 then x else if a = 1 then r else if a = 2 then w else false
def allowP (v r w x u : Bool) (a : Int) (k : Bool) : Bool := leafP v r x && (u == k) && grantP r w x a


def b2 (b : Bool) : Int := if b then 1 else 0
/-- an entry's number -/
def numP (v r w x u s d : Bool) (f : Int) : Int := b2 v * 2 ^ 0 + b2 r * 2 ^ 1 + b2 w * 2 ^ 2 + b2 x * 2 ^ 3 + b2 u * 2 ^ 4 + b2 s * 2 ^ 5 + b2 d * 2 ^ 6 + f * 1024
/-- may an entry be -/
def mayP (v r w x u s d : Bool) (f : Int) : Bool :=
  if v then decide (0 ≤ f ∧ f < 65536) && (!w || r) && (r || x || (!u && !s && !d)) else !r && !w && !x && !u && !s && !d && decide (f = 0)
def packN (v r w x u s d : Bool) (f : Int) : Int := if mayP v r w x u s d f then numP v r w x u s d f else 0
def packE (v r w x u s d : Bool) (f : Int) : Int := if mayP v r w x u s d f then 0 else 10

theorem may_frame {v r w x u s d : Bool} {f : Int} (h : mayP v r w x u s d f = true) : 0 ≤ f ∧ f < 65536 := by
  unfold mayP at h
  split at h
  · simp at h; omega
  · simp at h; omega

theorem b2_cases (b : Bool) : (b = false ∧ b2 b = 0) ∨ (b = true ∧ b2 b = 1) := by cases b <;> simp [b2]

theorem wraps_u64 (n : Int) (h0 : 0 ≤ n) (h1 : n < 2 ^ 64) : IntKind.u64.wrap n = n := by rw [IntKind.wrap_u64]; omega
theorem and_one (x : Int) (h0 : 0 ≤ x) (h1 : x < 18446744073709551616) : bits .and .u64 x 1 = x % 2 :=
  bits_mask .u64 64 (by decide) wraps_u64 1 (by decide) x h0 (by omega)

theorem or_high (A low k : Nat) (h : low < 2 ^ k) : (2 ^ (k + 1) * A + low) ||| 2 ^ k = 2 ^ (k + 1) * A + low + 2 ^ k := by
  have h2 : low < 2 ^ (k + 1) := by rw [Nat.pow_succ]; omega
  have h3 : 2 ^ k + low < 2 ^ (k + 1) := by rw [Nat.pow_succ]; omega
  have e1 : 2 ^ k ||| low = 2 ^ k + low := by have := Nat.two_pow_add_eq_or_of_lt h 1; simpa using this.symm
  have e2 : (2 ^ (k + 1) * A + low) ||| 2 ^ k = 2 ^ (k + 1) * A + (2 ^ k + low) := by
    rw [Nat.two_pow_add_eq_or_of_lt h3, ← e1, Nat.two_pow_add_eq_or_of_lt h2, Nat.or_assoc, Nat.or_comm low]
  rw [e2]
  omega

/-- a flag that is put where there is none -/
theorem or_flag (F low : Int) (k : Nat) (hF0 : 0 ≤ F) (hF1 : F < 65536) (h0 : 0 ≤ low) (hk : k ≤ 6) (h1 : low < 2 ^ k) : bits .or .u64 (low + F * 1024) (2 ^ k) = low + 2 ^ k + F * 1024 := by
  obtain ⟨F, rfl⟩ := Int.eq_ofNat_of_zero_le hF0
  obtain ⟨low, rfl⟩ := Int.eq_ofNat_of_zero_le h0
  have hl : low < 2 ^ k := by
    have : ((2 ^ k : Nat) : Int) = 2 ^ k := by simp
    rw [← this] at h1; omega
  have hle : 2 ^ k ≤ 2 ^ 6 := Nat.pow_le_pow_right (by decide) hk
  have e0 : ((low : Int) + (F : Int) * 1024) = ((low + F * 1024 : Nat) : Int) := by omega
  have e1 : (2 : Int) ^ k = ((2 ^ k : Nat) : Int) := by simp
  rw [e0, e1, u64_or_nat _ _ (by omega) (by omega)]
  have e2 : low + F * 1024 = 2 ^ (k + 1) * (F * 2 ^ (9 - k)) + low := by
    have : 2 ^ (k + 1) * (F * 2 ^ (9 - k)) = F * (2 ^ (k + 1) * 2 ^ (9 - k)) := by rw [Nat.mul_left_comm]
    rw [this, ← Nat.pow_add, show k + 1 + (9 - k) = 10 by omega]; omega
  rw [e2, or_high _ _ _ hl, ← e2]
  omega

/-- what stands at a bit -/
def flagP (n : Int) (k : Nat) : Bool := decide (n / 2 ^ k % 2 ≠ 0)
def frameP (n : Int) : Int := n / 1024 % 65536
/-- the entry of a number, if it is one -/
def isP (n : Int) : Bool := mayP (flagP n 0) (flagP n 1) (flagP n 2) (flagP n 3) (flagP n 4) (flagP n 5) (flagP n 6) (frameP n) && decide (numP (flagP n 0) (flagP n 1) (flagP n 2) (flagP n 3) (flagP n 4) (flagP n 5) (flagP n 6) (frameP n) = n)

theorem b2_flag (n : Int) (k : Nat) : b2 (flagP n k) = n / 2 ^ k % 2 := by
  unfold b2 flagP
  have : 0 ≤ n / 2 ^ k % 2 ∧ n / 2 ^ k % 2 < 2 := by omega
  by_cases h : n / 2 ^ k % 2 = 0
  · simp [h]
  · simp [h]; omega

theorem b2_inj {a b : Bool} (h : b2 a = b2 b) : a = b := by cases a <;> cases b <;> simp_all [b2]

theorem b2_range (b : Bool) : 0 ≤ b2 b ∧ b2 b ≤ 1 := by cases b <;> simp [b2]

/-- what is packed is seen again -/
theorem flag_num (v r w x u s d : Bool) (f : Int) (h0 : 0 ≤ f) (h1 : f < 65536) :
    flagP (numP v r w x u s d f) 0 = v ∧ flagP (numP v r w x u s d f) 1 = r ∧ flagP (numP v r w x u s d f) 2 = w ∧ flagP (numP v r w x u s d f) 3 = x ∧ flagP (numP v r w x u s d f) 4 = u ∧ flagP (numP v r w x u s d f) 5 = s ∧ flagP (numP v r w x u s d f) 6 = d ∧ frameP (numP v r w x u s d f) = f := by
  have hv := b2_range v
  have hr := b2_range r
  have hw := b2_range w
  have hx := b2_range x
  have hu := b2_range u
  have hs := b2_range s
  have hd := b2_range d
  refine ⟨b2_inj ?_, b2_inj ?_, b2_inj ?_, b2_inj ?_, b2_inj ?_, b2_inj ?_, b2_inj ?_, ?_⟩
  all_goals
    first
      | rw [b2_flag]
      | skip
    unfold numP
    try unfold frameP
    generalize b2 v = v at *
    generalize b2 r = r at *
    generalize b2 w = w at *
    generalize b2 x = x at *
    generalize b2 u = u at *
    generalize b2 s = s at *
    generalize b2 d = d at *
    omega

theorem num_range {v r w x u s d : Bool} {f : Int} (h0 : 0 ≤ f) (h1 : f < 65536) : 0 ≤ numP v r w x u s d f ∧ numP v r w x u s d f < 67108864 := by
  have hv := b2_range v
  have hr := b2_range r
  have hw := b2_range w
  have hx := b2_range x
  have hu := b2_range u
  have hs := b2_range s
  have hd := b2_range d
  unfold numP
  omega
end Go.Proofs.YteghkhdpdeiocaaDoor.A
