/-
  Plainly: what may come to a processor, and which is the first.
-/
import Derived.Test.YtncjhdhfhojohaaBase
namespace Go.Proofs.Ytncjhdhfhojohaa
set_option linter.unusedVariables false
/-- what holds of each controller that a call made -/
structure Ok (z : Z) : Prop where
  n1 : 1 ≤ z.n
  n4 : z.n ≤ 4
  p0 : z.P 0 = false
  t : ∀ s, s < 17 → -1 ≤ z.T s
/-- may it come? -/
def may (z : Z) (s v : Nat) : Bool := z.P s && (decide (z.T s = -1) && (z.E s v && decide (z.B v < z.W s)))
/-- the best among the first n sources -/
def best (z : Z) (v : Nat) : Nat → Nat
  | 0 => 0
  | i + 1 => if may z (i + 1) v = true ∧ (best z v i = 0 ∨ z.W (best z v i) < z.W (i + 1)) then i + 1 else best z v i
/-- the first that may come -/
def fst (z : Z) (v : Nat) : Nat := best z v 16
/-- what is best among the first n -/
def Bst (z : Z) (v n b : Nat) : Prop :=
  (b = 0 ∧ ∀ j, 1 ≤ j → j ≤ n → may z j v = false) ∨
  (1 ≤ b ∧ b ≤ n ∧ may z b v = true ∧ ∀ j, 1 ≤ j → j ≤ n → may z j v = true → z.W j ≤ z.W b ∧ (j < b → z.W j < z.W b))
theorem best_is (z : Z) (v n : Nat) : Bst z v n (best z v n) := by
  induction n with
  | zero => exact .inl ⟨rfl, fun j h1 h2 => by omega⟩
  | succ n ih =>
    unfold best
    by_cases c : may z (n + 1) v = true ∧ (best z v n = 0 ∨ z.W (best z v n) < z.W (n + 1))
    · rw [if_pos c]
      obtain ⟨c1, c2⟩ := c
      refine .inr ⟨by omega, by omega, c1, fun j h1 h2 h3 => ?_⟩
      by_cases e : j = n + 1
      · subst e
        exact ⟨Int.le_refl _, fun h => by omega⟩
      · obtain ⟨b0, b1⟩ | ⟨b1, b2, b3, b4⟩ := ih
        · rw [b1 j h1 (by omega)] at h3
          cases h3
        · have := (b4 j h1 (by omega) h3).1
          have : z.W (best z v n) < z.W (n + 1) := by
            obtain c2 | c2 := c2
            · omega
            · exact c2
          exact ⟨by omega, fun _ => by omega⟩
    · rw [if_neg c]
      obtain ⟨b0, b1⟩ | ⟨b1, b2, b3, b4⟩ := ih
      · refine .inl ⟨b0, fun j h1 h2 => ?_⟩
        by_cases e : j = n + 1
        · subst e
          cases h : may z (n + 1) v
          · rfl
          · exact absurd ⟨h, .inl b0⟩ c
        · exact b1 j h1 (by omega)
      · refine .inr ⟨b1, by omega, b3, fun j h1 h2 h3 => ?_⟩
        by_cases e : j = n + 1
        · subst e
          have h4 : ¬ z.W (best z v n) < z.W (n + 1) := fun h => c ⟨h3, .inr h⟩
          exact ⟨by omega, fun h => by omega⟩
        · exact b4 j h1 (by omega) h3
theorem fst_le (z : Z) (v : Nat) : fst z v ≤ 16 := by
  obtain ⟨h, _⟩ | ⟨_, h, _⟩ := best_is z v 16
  · unfold fst
    omega
  · exact h
theorem bst_one (z : Z) (v b c : Nat) (h : Bst z v 16 b) (k : Bst z v 16 c) : b = c := by
  obtain ⟨h0, h1⟩ | ⟨h1, h2, h3, h4⟩ := h
  · obtain ⟨k0, k1⟩ | ⟨k1, k2, k3, k4⟩ := k
    · omega
    · rw [h1 c k1 k2] at k3
      cases k3
  · obtain ⟨k0, k1⟩ | ⟨k1, k2, k3, k4⟩ := k
    · rw [k1 b h1 h2] at h3
      cases h3
    · have x := h4 c k1 k2 k3
      have y := k4 b h1 h2 h3
      obtain l | l | l : b < c ∨ b = c ∨ c < b := by omega
      · have := y.2 l
        have := x.1
        omega
      · exact l
      · have := x.2 l
        have := y.1
        omega
theorem may_ex {z : Z} {s v : Nat} (h : may z s v = true) : z.P s = true := by
  unfold may at h
  simp only [Bool.and_eq_true] at h
  exact h.1
theorem may_0 {z : Z} (k : Ok z) (v : Nat) : may z 0 v = false := by
  unfold may
  rw [k.p0]
  rfl
/-- sought by two loops: each ahead of s has one ahead of it, s has none -/
theorem fst_of {z : Z} (k : Ok z) (v s : Nat) (h : s < 17) (hs : may z s v = true) (h1 : ∀ j, j < s → may z j v = true → ∃ i, i < 17 ∧ may z i v = true ∧ z.W j < z.W i)
    (h2 : ∀ i, i < 17 → may z i v = true → ¬ z.W s < z.W i) : fst z v = s := by
  refine bst_one z v _ _ (best_is z v 16) (.inr ⟨?_, by omega, hs, fun j j1 j2 j3 => ⟨?_, fun l => ?_⟩⟩)
  · cases s with
    | zero => rw [may_0 k] at hs; cases hs
    | succ s => omega
  · have := h2 j (by omega) j3
    omega
  · obtain ⟨i, i1, i2, i3⟩ := h1 j l j3
    have := h2 i i1 i2
    omega
theorem fst_no {z : Z} (k : Ok z) (v : Nat) (h1 : ∀ j, j < 17 → may z j v = true → ∃ i, i < 17 ∧ may z i v = true ∧ z.W j < z.W i) : fst z v = 0 := by
  obtain ⟨b0, b1⟩ | ⟨b1, b2, b3, b4⟩ := best_is z v 16
  · exact b0
  · obtain ⟨i, i1, i2, i3⟩ := h1 _ (by omega) b3
    by_cases e : i = 0
    · subst e
      rw [may_0 k] at i2
      cases i2
    · have := (b4 i (by omega) (by omega) i2).1
      omega
end Go.Proofs.Ytncjhdhfhojohaa
