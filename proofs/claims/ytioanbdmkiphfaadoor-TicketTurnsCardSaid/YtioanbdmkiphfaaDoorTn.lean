/-
  Tickets, by plain numbers: everybody's turn comes.
-/
import Derived.Test.YtioanbdmkiphfaaDoorNm
namespace Go.Proofs.YtioanbdmkiphfaaDoor
set_option linter.unusedVariables false

theorem upd_self (S : Nat → Int) (d : Nat) (y : Int) : upd S d y d = y := by simp [upd]
theorem upd_ne (S : Nat → Int) {d e : Nat} (y : Int) (h : e ≠ d) : upd S d y e = S e := by simp [upd, h]
theorem upd_same (S : Nat → Int) (d : Nat) : upd S d (S d) = S := by
  funext e
  by_cases h : e = d
  · rw [h, upd_self]
  · rw [upd_ne _ _ h]
theorem upd_upd (S : Nat → Int) (d : Nat) (x y : Int) : upd (upd S d x) d y = upd S d y := by
  funext e
  by_cases h : e = d
  · rw [h, upd_self, upd_self]
  · rw [upd_ne _ _ h, upd_ne _ _ h, upd_ne _ _ h]
/-- what is counted of all cores together -/
def sumW (f : Int → Nat) (S : Nat → Int) : Nat → Nat
  | 0 => 0
  | n + 1 => sumW f S n + f (S n)
theorem sumW_past (f : Int → Nat) (S : Nat → Int) (c : Nat) (y : Int) : ∀ n, n ≤ c → sumW f (upd S c y) n = sumW f S n
  | 0, _ => rfl
  | n + 1, h => by rw [sumW, sumW, sumW_past f S c y n (by omega), upd_ne _ _ (by omega)]
theorem sumW_upd (f : Int → Nat) (S : Nat → Int) (c : Nat) (y : Int) : ∀ n, c < n → sumW f (upd S c y) n + f (S c) = sumW f S n + f y
  | 0, h => by omega
  | n + 1, h => by
    rw [sumW, sumW]
    by_cases e : c = n
    · subst e
      rw [sumW_past f S c y c (Nat.le_refl _), upd_self]
      omega
    · have := sumW_upd f S c y n (by omega)
      rw [upd_ne _ _ (by omega)]
      omega
theorem sumW_all (f : Int → Nat) (S : Nat → Int) (v : Nat) : ∀ n, (∀ c, c < n → f (S c) = v) → sumW f S n = n * v
  | 0, _ => by simp [sumW]
  | n + 1, h => by
    rw [sumW, sumW_all f S v n (fun c hc => h c (by omega)), h n (by omega), Nat.succ_mul]
theorem sumW_zero (f : Int → Nat) (S : Nat → Int) : ∀ n, sumW f S n = 0 → ∀ c, c < n → f (S c) = 0
  | 0, _, c, h => by omega
  | n + 1, h0, c, h => by
    rw [sumW] at h0
    by_cases e : c = n
    · subst e; omega
    · exact sumW_zero f S n (by omega) c (by omega)
/-- how much a core has before it -/
def wt (s : Int) : Nat := if s = 1 then 3 else if s = 2 then 2 else if s = 3 then 2 else if s = 4 then 1 else 0
/-- it has had its turn -/
def outW (s : Int) : Nat := if s = 4 then 1 else if s = 0 then 1 else 0
/-- it has a ticket that counts -/
def tick (s : Int) : Prop := s = 2 ∨ s = 3 ∨ s = 4
structure P2 (n : Nat) (S T : Nat → Int) (A B : Int) : Prop where
  b0 : 0 ≤ B
  ab : B ≤ A
  aw : A + (sumW wt S n : Int) ≤ 24
  st : ∀ c, c < n → S c = 0 ∨ S c = 1 ∨ tick (S c)
  tk : ∀ c, c < n → tick (S c) → B ≤ T c ∧ T c < A
  hd : ∀ c, c < n → S c = 3 ∨ S c = 4 → T c = B
  ne : ∀ c d, c < n → d < n → c ≠ d → tick (S c) → tick (S d) → T c ≠ T d
  ow : ∀ j, B ≤ j → j < A → ∃ c, c < n ∧ tick (S c) ∧ T c = j
variable {n : Nat} {S T : Nat → Int} {A B : Int}
/-- a core's state alone is turned, with a ticket ahead and behind -/
theorem P2.same (h : P2 n S T A B) (c : Nat) (hc : c < n) (y : Int) (hs : tick (S c)) (hy : tick y) (hw : wt y ≤ wt (S c)) (hh : y = 3 ∨ y = 4 → T c = B) : P2 n (upd S c y) T A B := by
  have hu := sumW_upd wt S c y n hc
  have tt : ∀ d, tick (upd S c y d) → tick (S d) := fun d e => by
    by_cases hd : d = c
    · rw [hd]; exact hs
    · rwa [upd_ne _ _ hd] at e
  refine ⟨h.b0, h.ab, by have := h.aw; omega, fun d hd => ?_, fun d hd e => h.tk d hd (tt d e), fun d hd e => ?_, fun d e hd he hne a1 a2 => h.ne d e hd he hne (tt d a1) (tt e a2), fun j h1 h2 => ?_⟩
  · by_cases e : d = c
    · rw [e, upd_self]; exact .inr (.inr hy)
    · rw [upd_ne _ _ e]; exact h.st d hd
  · by_cases e' : d = c
    · subst e'
      rw [upd_self] at e
      exact hh e
    · rw [upd_ne _ _ e'] at e; exact h.hd d hd e
  · obtain ⟨d, hd, ht, hj⟩ := h.ow j h1 h2
    refine ⟨d, hd, ?_, hj⟩
    by_cases e : d = c
    · rw [e, upd_self]; exact hy
    · rwa [upd_ne _ _ e]
theorem P2.inc_a (h : P2 n S T A B) : inc A = A + 1 := inc_small (by have := h.b0; have := h.ab; omega) (by have := h.aw; omega)
theorem P2.inc_b (h : P2 n S T A B) : inc B = B + 1 := inc_small h.b0 (by have := h.ab; have := h.aw; omega)
/-- a ticket is drawn -/
theorem P2.draw (h : P2 n S T A B) (c : Nat) (hc : c < n) (hs : S c = 1) : P2 n (upd S c 2) (upd T c A) (A + 1) B := by
  have hu := sumW_upd wt S c 2 n hc
  rw [hs] at hu
  have hw : wt 1 = 3 ∧ wt 2 = 2 := ⟨rfl, rfl⟩
  refine ⟨h.b0, by have := h.ab; omega, by have := h.aw; omega, fun d hd => ?_, fun d hd e => ?_, fun d hd e => ?_, fun d e hd he hne a1 a2 => ?_, fun j h1 h2 => ?_⟩
  · by_cases e : d = c
    · rw [e, upd_self]; exact .inr (.inr (.inl rfl))
    · rw [upd_ne _ _ e]; exact h.st d hd
  · by_cases e' : d = c
    · rw [e', upd_self]; have := h.ab; omega
    · rw [upd_ne _ _ e'] at e ⊢; have := h.tk d hd e; omega
  · by_cases e' : d = c
    · rw [e', upd_self] at e; omega
    · rw [upd_ne _ _ e'] at e ⊢; exact h.hd d hd e
  · by_cases e1 : d = c
    · have e2 : e ≠ c := fun e2 => hne (e1.trans e2.symm)
      rw [e1, upd_self, upd_ne _ _ e2]
      rw [upd_ne _ _ e2] at a2
      have := h.tk e he a2
      omega
    · rw [upd_ne _ _ e1] at a1 ⊢
      by_cases e2 : e = c
      · rw [e2, upd_self]
        have := h.tk d hd a1
        omega
      · rw [upd_ne _ _ e2] at a2 ⊢
        exact h.ne d e hd he hne a1 a2
  · by_cases hj : j = A
    · exact ⟨c, hc, by rw [upd_self]; exact .inl rfl, by rw [upd_self]; exact hj.symm⟩
    · obtain ⟨d, hd, ht, hj'⟩ := h.ow j h1 (by omega)
      have e : d ≠ c := fun e => by rw [e, hs] at ht; rcases ht with e | e | e <;> omega
      exact ⟨d, hd, by rwa [upd_ne _ _ e], by rwa [upd_ne _ _ e]⟩
/-- a lock is let go -/
theorem P2.free (h : P2 n S T A B) (c : Nat) (hc : c < n) (hs : S c = 4) : P2 n (upd S c 0) T A (B + 1) := by
  have hu := sumW_upd wt S c 0 n hc
  rw [hs] at hu
  have hw : wt 4 = 1 ∧ wt 0 = 0 := ⟨rfl, rfl⟩
  have tc : tick (S c) := .inr (.inr hs)
  have hT : T c = B := h.hd c hc (.inr hs)
  have hT' := h.tk c hc tc
  have t0 : ¬ tick 0 := fun e => by rcases e with e | e | e <;> omega
  have oth : ∀ d, tick (upd S c 0 d) → d ≠ c ∧ tick (S d) := fun d e => by
    by_cases hd : d = c
    · rw [hd, upd_self] at e; exact absurd e t0
    · rw [upd_ne _ _ hd] at e; exact ⟨hd, e⟩
  refine ⟨by have := h.b0; omega, by omega, by have := h.aw; omega, fun d hd => ?_, fun d hd e => ?_, fun d hd e => ?_, fun d e hd he hne a1 a2 => h.ne d e hd he hne (oth d a1).2 (oth e a2).2, fun j h1 h2 => ?_⟩
  · by_cases e : d = c
    · rw [e, upd_self]; exact .inl rfl
    · rw [upd_ne _ _ e]; exact h.st d hd
  · obtain ⟨e1, e2⟩ := oth d e
    have := h.tk d hd e2
    have := h.ne d c hd hc e1 e2 tc
    omega
  · by_cases e1 : d = c
    · rw [e1, upd_self] at e; omega
    · rw [upd_ne _ _ e1] at e
      exact absurd ((h.hd d hd e).trans hT.symm) (h.ne d c hd hc e1 (by rcases e with e | e; exact .inr (.inl e); exact .inr (.inr e)) tc)
  · obtain ⟨d, hd, ht, hj⟩ := h.ow j (by omega) h2
    have e : d ≠ c := fun e => by rw [e, hT] at hj; omega
    exact ⟨d, hd, by rwa [upd_ne _ _ e], hj⟩
/-- a step by any core -/
theorem P2.step (h : P2 n S T A B) (c : Nat) (hc : c < n) : P2 n (upd S c (nS B (S c) (T c))) (upd T c (nT A (S c) (T c))) (nA A (S c)) (nB B (S c)) := by
  rcases h.st c hc with e | e | e | e | e
  · rw [e, show nS B 0 (T c) = 0 from rfl, show nT A 0 (T c) = T c from rfl, show nA A 0 = A from rfl, show nB B 0 = B from rfl, upd_same]
    rw [← e, upd_same]; exact h
  · rw [e, show nS B 1 (T c) = 2 from rfl, show nT A 1 (T c) = A from rfl, show nA A 1 = inc A from rfl, show nB B 1 = B from rfl, h.inc_a]
    exact h.draw c hc e
  · rw [e, show nT A 2 (T c) = T c from rfl, show nA A 2 = A from rfl, show nB B 2 = B from rfl, upd_same]
    by_cases hB : B = T c
    · rw [show nS B 2 (T c) = 3 by simp [nS, hB]]
      exact h.same c hc 3 (.inl e) (.inr (.inl rfl)) (by rw [e]; decide) (fun _ => hB.symm)
    · rw [show nS B 2 (T c) = 2 by simp [nS, hB], ← e, upd_same]; exact h
  · rw [e, show nS B 3 (T c) = 3 from rfl, show nT A 3 (T c) = T c from rfl, show nA A 3 = A from rfl, show nB B 3 = B from rfl, upd_same]
    rw [← e, upd_same]; exact h
  · rw [e, show nS B 4 (T c) = 0 from rfl, show nT A 4 (T c) = T c from rfl, show nA A 4 = A from rfl, show nB B 4 = inc B from rfl, upd_same, h.inc_b]
    exact h.free c hc e
/-- a core whose step does nothing -/
def quiet (S T : Nat → Int) (B : Int) (d : Nat) : Prop := S d = 0 ∨ (S d = 2 ∧ T d ≠ B)
/-- a round's step that ends with the lock held, and is let go at once -/
theorem P2.held (h : P2 n S T A B) (c : Nat) (hc : c < n) (hs : nS B (S c) (T c) = 3) :
    P2 n (upd (upd S c (nS B (S c) (T c))) c 4) (upd T c (nT A (S c) (T c))) (nA A (S c)) (nB B (S c)) ∧ sumW wt (upd (upd S c (nS B (S c) (T c))) c 4) n < sumW wt S n ∧ sumW outW (upd (upd S c (nS B (S c) (T c))) c 4) n = sumW outW S n + 1 := by
  have h1 := h.step c hc
  have hSc : S c = 2 ∨ S c = 3 := by
    rcases h.st c hc with e | e | e | e | e
    · rw [e] at hs; simp [nS] at hs
    · rw [e] at hs; simp [nS] at hs
    · exact .inl e
    · exact .inr e
    · rw [e] at hs; simp [nS] at hs
  have u1 := sumW_upd wt S c 4 n hc
  have u2 := sumW_upd outW S c 4 n hc
  have hw : wt 2 = 2 ∧ wt 3 = 2 ∧ wt 4 = 1 ∧ outW 2 = 0 ∧ outW 3 = 0 ∧ outW 4 = 1 := ⟨rfl, rfl, rfl, rfl, rfl, rfl⟩
  rw [hs] at h1 ⊢
  have t3 : tick (upd S c 3 c) := by rw [upd_self]; exact .inr (.inl rfl)
  have h2 := h1.same c hc 4 t3 (.inr (.inr rfl)) (by rw [upd_self]; decide) (fun _ => h1.hd c hc (.inl (upd_self _ _ _)))
  refine ⟨h2, ?_, ?_⟩ <;> rw [upd_upd] <;> rcases hSc with e | e <;> rw [e] at u1 u2 <;> omega
theorem P2.other (h : P2 n S T A B) (c : Nat) (hc : c < n) (hs : nS B (S c) (T c) ≠ 3) :
    sumW outW (upd S c (nS B (S c) (T c))) n = sumW outW S n ∧ (sumW wt (upd S c (nS B (S c) (T c))) n < sumW wt S n ∨ (upd S c (nS B (S c) (T c)) = S ∧ upd T c (nT A (S c) (T c)) = T ∧ nA A (S c) = A ∧ nB B (S c) = B ∧ quiet S T B c)) := by
  have hw : wt 0 = 0 ∧ wt 1 = 3 ∧ wt 2 = 2 ∧ wt 3 = 2 ∧ wt 4 = 1 ∧ outW 0 = 1 ∧ outW 1 = 0 ∧ outW 2 = 0 ∧ outW 3 = 0 ∧ outW 4 = 1 := ⟨rfl, rfl, rfl, rfl, rfl, rfl, rfl, rfl, rfl, rfl⟩
  have u1 := sumW_upd wt S c (nS B (S c) (T c)) n hc
  have u2 := sumW_upd outW S c (nS B (S c) (T c)) n hc
  rcases h.st c hc with e | e | e | e | e
  · have e1 : nS B (S c) (T c) = S c := by rw [e]; rfl
    rw [e1, upd_same]
    exact ⟨rfl, .inr ⟨rfl, by rw [e, show nT A 0 (T c) = T c from rfl, upd_same], by rw [e]; rfl, by rw [e]; rfl, .inl e⟩⟩
  · have e1 : nS B (S c) (T c) = 2 := by rw [e]; rfl
    rw [e1] at u1 u2 ⊢
    rw [e] at u1 u2
    exact ⟨by omega, .inl (by omega)⟩
  · have hB : T c ≠ B := fun hB => hs (by rw [e]; simp [nS, hB])
    have e1 : nS B (S c) (T c) = S c := by rw [e]; simp [nS, Ne.symm hB]
    rw [e1, upd_same]
    exact ⟨rfl, .inr ⟨rfl, by rw [e, show nT A 2 (T c) = T c from rfl, upd_same], by rw [e]; rfl, by rw [e]; rfl, .inr ⟨e, hB⟩⟩⟩
  · rw [e] at hs; exact absurd rfl hs
  · have e1 : nS B (S c) (T c) = 0 := by rw [e]; rfl
    rw [e1] at u1 u2 ⊢
    rw [e] at u1 u2
    exact ⟨by omega, .inl (by omega)⟩
/-- where nobody moves nobody waits -/
theorem P2.stuck (h : P2 n S T A B) (hq : ∀ d, d < n → quiet S T B d) : sumW wt S n = 0 := by
  have h0 : ∀ d, d < n → wt (S d) = 0 := fun d hd => by
    rcases hq d hd with e | ⟨e, _⟩
    · rw [e]; rfl
    · have := h.tk d hd (.inl e)
      obtain ⟨c, hc, ht, hj⟩ := h.ow B (by omega) (by omega)
      rcases hq c hc with e' | ⟨e', hne⟩
      · rw [e'] at ht; rcases ht with e | e | e <;> omega
      · exact absurd hj hne
  rw [sumW_all wt S 0 n h0]
  omega
/-- all have had their turn -/
theorem P2.all (h : P2 n S T A B) (h0 : sumW wt S n = 0) : sumW outW S n = n := by
  have := sumW_all outW S 1 n (fun c hc => by
    have e := sumW_zero wt S n h0 c hc
    rcases h.st c hc with e' | e' | e' | e' | e' <;> rw [e'] at e ⊢ <;> first | rfl | (exact absurd e (by decide)))
  omega
/-- the beginning -/
theorem P2.begun (n : Nat) (hn : n ≤ 8) (S T : Nat → Int) (h : ∀ c, c < n → S c = 1) : P2 n S T 0 0 ∧ sumW outW S n = 0 ∧ sumW wt S n = 3 * n := by
  have hw := sumW_all wt S 3 n (fun c hc => by rw [h c hc]; rfl)
  have ho := sumW_all outW S 0 n (fun c hc => by rw [h c hc]; rfl)
  have nt : ∀ c, c < n → ¬ tick (S c) := fun c hc e => by rw [h c hc] at e; rcases e with e | e | e <;> omega
  refine ⟨⟨by decide, by decide, by omega, fun c hc => .inr (.inl (h c hc)), fun c hc e => absurd e (nt c hc), fun c hc e => by rw [h c hc] at e; omega, fun c d hc _ _ e => absurd e (nt c hc), fun j h1 h2 => by omega⟩, by omega, by omega⟩
/-- who only steps has not had its turn -/
theorem P2.early (h : P2 n S T A B) (c : Nat) (hc : c < n) (h3 : ∀ d, d < n → S d = 1 ∨ S d = 2 ∨ S d = 3) : ∀ d, d < n → upd S c (nS B (S c) (T c)) d = 1 ∨ upd S c (nS B (S c) (T c)) d = 2 ∨ upd S c (nS B (S c) (T c)) d = 3 := fun d hd => by
  by_cases e : d = c
  · rw [e, upd_self]
    rcases h3 c hc with e' | e' | e' <;> rw [e']
    · exact .inr (.inl rfl)
    · by_cases hB : B = T c
      · exact .inr (.inr (by simp [nS, hB]))
      · exact .inr (.inl (by simp [nS, hB]))
    · exact .inr (.inr rfl)
  · rw [upd_ne _ _ e]; exact h3 d hd
end Go.Proofs.YtioanbdmkiphfaaDoor
