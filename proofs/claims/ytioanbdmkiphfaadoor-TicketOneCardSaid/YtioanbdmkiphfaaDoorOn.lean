/-
  Tickets, by plain numbers: at most one holds the lock.
-/
import Derived.Test.YtioanbdmkiphfaaDoorTn
namespace Go.Proofs.YtioanbdmkiphfaaDoor
set_option linter.unusedVariables false

structure P1 (n : Nat) (S T : Nat → Int) (A B : Int) (i : Nat) : Prop where
  b0 : 0 ≤ B
  ab : B ≤ A
  ai : A ≤ i
  st : ∀ c, c < n → S c = 0 ∨ S c = 2 ∨ S c = 3
  tk : ∀ c, c < n → S c ≠ 0 → B ≤ T c ∧ T c < A
  hd : ∀ c, c < n → S c = 3 → T c = B
  ne : ∀ c d, c < n → d < n → c ≠ d → S c ≠ 0 → S d ≠ 0 → T c ≠ T d
variable {n : Nat} {S T : Nat → Int} {A B : Int} {i : Nat}
theorem P1.more (h : P1 n S T A B i) : P1 n S T A B (i + 1) := ⟨h.b0, h.ab, by have := h.ai; omega, h.st, h.tk, h.hd, h.ne⟩
theorem P1.begun (n : Nat) : P1 n (fun _ => 0) (fun _ => 0) 0 0 0 :=
  ⟨by decide, by decide, by decide, fun _ _ => .inl rfl, fun _ _ e => absurd rfl e, fun _ _ e => by simp at e, fun _ _ _ _ _ e => absurd rfl e⟩
/-- a ticket is drawn -/
theorem P1.draw (h : P1 n S T A B i) (c : Nat) (hc : c < n) (hs : S c = 0) : P1 n (upd S c 2) (upd T c A) (A + 1) B (i + 1) := by
  refine ⟨h.b0, by have := h.ab; omega, by have := h.ai; omega, fun d hd => ?_, fun d hd e => ?_, fun d hd e => ?_, fun d e hd he hne a1 a2 => ?_⟩
  · by_cases e : d = c
    · rw [e, upd_self]; exact .inr (.inl rfl)
    · rw [upd_ne _ _ e]; exact h.st d hd
  · by_cases e' : d = c
    · rw [e', upd_self]; have := h.ab; omega
    · rw [upd_ne _ _ e'] at e ⊢; have := h.tk d hd e; omega
  · by_cases e' : d = c
    · rw [e', upd_self] at e; omega
    · rw [upd_ne _ _ e'] at e ⊢; exact h.hd d hd e
  · by_cases e1 : d = c
    · have e2 : e ≠ c := fun e2 => hne (e1.trans e2.symm)
      rw [e1, upd_self, upd_ne _ _ e2]
      rw [upd_ne _ _ e2] at a2
      have := h.tk e he a2
      omega
    · rw [upd_ne _ _ e1] at a1 ⊢
      by_cases e2 : e = c
      · rw [e2, upd_self]
        have := h.tk d hd a1
        omega
      · rw [upd_ne _ _ e2] at a2 ⊢
        exact h.ne d e hd he hne a1 a2
/-- who is next holds it -/
theorem P1.hold (h : P1 n S T A B i) (c : Nat) (hc : c < n) (hs : S c = 2) (hT : T c = B) : P1 n (upd S c 3) T A B (i + 1) := by
  have tt : ∀ d, upd S c 3 d ≠ 0 → S d ≠ 0 := fun d e => by
    by_cases hd : d = c
    · rw [hd, hs]; decide
    · rwa [upd_ne _ _ hd] at e
  refine ⟨h.b0, h.ab, by have := h.ai; omega, fun d hd => ?_, fun d hd e => h.tk d hd (tt d e), fun d hd e => ?_, fun d e hd he hne a1 a2 => h.ne d e hd he hne (tt d a1) (tt e a2)⟩
  · by_cases e : d = c
    · rw [e, upd_self]; exact .inr (.inr rfl)
    · rw [upd_ne _ _ e]; exact h.st d hd
  · by_cases e' : d = c
    · rw [e']; exact hT
    · rw [upd_ne _ _ e'] at e; exact h.hd d hd e
/-- it is let go -/
theorem P1.free (h : P1 n S T A B i) (c : Nat) (hc : c < n) (hs : S c = 3) : P1 n (upd S c 0) T A (B + 1) (i + 1) := by
  have hc0 : S c ≠ 0 := by rw [hs]; decide
  have hT : T c = B := h.hd c hc hs
  have hT' := h.tk c hc hc0
  have oth : ∀ d, upd S c 0 d ≠ 0 → d ≠ c ∧ S d ≠ 0 := fun d e => by
    by_cases hd : d = c
    · rw [hd, upd_self] at e; exact absurd rfl e
    · rw [upd_ne _ _ hd] at e; exact ⟨hd, e⟩
  refine ⟨by have := h.b0; omega, by omega, by have := h.ai; omega, fun d hd => ?_, fun d hd e => ?_, fun d hd e => ?_, fun d e hd he hne a1 a2 => h.ne d e hd he hne (oth d a1).2 (oth e a2).2⟩
  · by_cases e : d = c
    · rw [e, upd_self]; exact .inl rfl
    · rw [upd_ne _ _ e]; exact h.st d hd
  · obtain ⟨e1, e2⟩ := oth d e
    have := h.tk d hd e2
    have := h.ne d c hd hc e1 e2 hc0
    omega
  · by_cases e1 : d = c
    · rw [e1, upd_self] at e; omega
    · rw [upd_ne _ _ e1] at e
      exact absurd ((h.hd d hd e).trans hT.symm) (h.ne d c hd hc e1 (by rw [e]; decide) hc0)
/-- none of the first m cores but c holds it -/
def frB (S : Nat → Int) (c : Nat) : Nat → Bool
  | 0 => true
  | m + 1 => if m ≠ c ∧ (S m = 3 ∨ S m = 4) then false else frB S c m
theorem frB_next (S : Nat → Int) (c m : Nat) : frB S c (m + 1) = if m ≠ c ∧ (S m = 3 ∨ S m = 4) then false else frB S c m := rfl
theorem P1.alone (h : P1 n S T A B i) (c : Nat) (hc : c < n) (hs : S c = 3) : ∀ m, m ≤ n → frB S c m = true
  | 0, _ => rfl
  | m + 1, hm => by
    rw [frB_next, if_neg, h.alone c hc hs m (by omega)]
    rintro ⟨h1, h2⟩
    have hmn : m < n := by omega
    rcases h2 with h2 | h2
    · exact h.ne m c hmn hc h1 (by rw [h2]; decide) (by rw [hs]; decide) ((h.hd m hmn h2).trans (h.hd c hc hs).symm)
    · rcases h.st m hmn with e | e | e <;> omega
end Go.Proofs.YtioanbdmkiphfaaDoor
