/-
  Two guests' tables side by side: what one call leaves of the other's.
  Whose each frame is, with two guests' tables: counting, by plain functions.
  Whose each frame is, through every call of two guests' tables: by plain functions.
-/
import Derived.Test.YteghkhdpdeiocaaGreatDoorSv
import Derived.Test.YteghkhdpdeiocaaGreatDoorTb
import Derived.Test.YteghkhdpdeiocaaGreatDoorGX
namespace Go.Proofs.YteghkhdpdeiocaaGreatDoor
set_option linter.unusedVariables false
theorem Iv.swap {n : Nat} {z z' : Zs} {y : Tp} (h : Iv n (TF y) z') (o : Out (TF y) z z') (k : Iv n (TF z.x) ⟨z.m, z.S, y⟩) : Iv n (TF z'.x) ⟨z'.m, z'.S, y⟩ := by
  have hro : ∀ f : Nat, TF y f → Tf z'.S (TF z'.x) f := fun f hf => by
    have t := k.tf (f := f) hf
    have a1 := o.kp.n
    have a2 := o.kp.fi
    have a3 := o.kp.cl f hf
    have a4 := o.kp.ti f hf
    exact ⟨by rw [a1]; exact t.n, by rw [a3]; exact t.c, by rw [a4]; exact t.t, by rw [a2]; exact t.fi, fun e => (h.tf e).o hf⟩
  refine ⟨h.n2, h.len, h.ok, h.fst, k.rt, k.lo, fun i j hi hj hl => ?_, fun hr i hi => ?_, k.pn, k.pf, fun f hf => hro f (.inl hf), fun i f hi hf => ⟨hro f (.inr ⟨i, hi, hf⟩), (k.lw i f hi hf).2⟩, k.inj, k.cls, fun f hf => (h.tf hf).c⟩
  · obtain ⟨L, hL⟩ := Int.eq_ofNat_of_zero_le hl
    have e := k.pe i j hi hj hl
    have := o.e L j (.inr ⟨i, hi, hL⟩) hj
    rw [hL, Int.toNat_natCast] at e ⊢
    exact this.trans e
  · obtain ⟨L, hL⟩ := Int.eq_ofNat_of_zero_le hr
    have e := k.re hr i hi
    have := o.e L i (.inl hL) hi
    rw [hL, Int.toNat_natCast] at e ⊢
    exact this.trans e
end Go.Proofs.YteghkhdpdeiocaaGreatDoor
namespace Go.Proofs.YteghkhdpdeiocaaGreatDoor
set_option linter.unusedVariables false
set_option maxRecDepth 100000

def isAt (f : Nat) : Option Pg → Bool
  | none => false
  | some a => decide (a.f = f)
/-- how many pages a frame has -/
def np (pg : Nat → Option Pg) (f : Nat) : Nat := (List.range 1024).countP (fun p => isAt f (pg p))
theorem np_upd (pg : Nat → Option Pg) (f : Nat) {p : Nat} (hp : p < 1024) (o : Option Pg) : np (upd pg p o) f + (if isAt f (pg p) = true then 1 else 0) = np pg f + (if isAt f o = true then 1 else 0) := count_upd (isAt f) pg 1024 p o hp
theorem np_zero {pg : Nat → Option Pg} {f : Nat} (h : ∀ p a, p < 1024 → pg p = some a → a.f ≠ f) : np pg f = 0 := by
  unfold np
  refine List.countP_eq_zero.2 fun p hp => ?_
  cases e : pg p with
  | none => simp [isAt]
  | some a => simpa [isAt] using h p a (List.mem_range.1 hp) e
theorem np_pos {pg : Nat → Option Pg} {p : Nat} {a : Pg} (hp : p < 1024) (h : pg p = some a) : 0 < np pg a.f := by
  unfold np
  refine List.countP_pos_iff.2 ⟨p, List.mem_range.2 hp, ?_⟩
  rw [h]
  simp [isAt]
theorem cnt_other (pg : Nat → Option Pg) {p k : Nat} (h : p / 32 ≠ k) (o : Option Pg) : cnt (upd pg p o) k = cnt pg k := by
  unfold cnt
  refine List.countP_congr fun j hj => ?_
  have := List.mem_range.1 hj
  rw [upd_other _ _ _ (by omega)]
theorem cnt_pos {pg : Nat → Option Pg} {p : Nat} (h : (pg p).isSome = true) : 0 < cnt pg (p / 32) := by
  unfold cnt
  refine List.countP_pos_iff.2 ⟨p % 32, List.mem_range.2 (by omega), ?_⟩
  rw [show 32 * (p / 32) + p % 32 = p by omega]
  exact h
/-- a lower table that is there has pages -/
def Ln (x : Tp) : Prop := ∀ k, k < 32 → 0 ≤ x.lo k → 0 < cnt x.pg k
/-- whose each frame is, how often, and what the pages are -/
structure Wn (gu gu' : Nat) (S : Fs) (x y : Tp) : Prop where
  k : ∀ f, f < S.n → S.cl f = 0 ∨ S.cl f = gu ∨ S.cl f = gu' ∨ S.cl f = 17
  o : ∀ f, f < S.n → S.cl f = gu → S.ti f = 1 + np x.pg f
  o' : ∀ f, f < S.n → S.cl f = gu' → S.ti f = 1 + np y.pg f
  h : ∀ f, f < S.n → S.cl f = 0 → S.fi ≤ f → TF x f ∨ TF y f
  t : ∀ f, f < S.n → S.cl f = 0 → S.ti f = 1
  p : ∀ p a, p < 1024 → x.pg p = some a → a.f < S.n ∧ S.cl a.f = gu
  p' : ∀ p a, p < 1024 → y.pg p = some a → a.f < S.n ∧ S.cl a.f = gu'
/-- the guests are two -/
structure Gs (gu gu' : Nat) : Prop where
  a : 1 ≤ gu ∧ gu ≤ 16
  b : 1 ≤ gu' ∧ gu' ≤ 16
  ne : gu ≠ gu'
theorem Gs.flip {gu gu' : Nat} (g : Gs gu gu') : Gs gu' gu := ⟨g.b, g.a, fun e => g.ne e.symm⟩
section
variable {gu gu' : Nat} {S S' : Fs} {x y : Tp} {n : Nat}
theorem Wn.flip (w : Wn gu gu' S x y) : Wn gu' gu S y x :=
  ⟨fun f hf => by rcases w.k f hf with h | h | h | h <;> simp [h], w.o', w.o, fun f hf h1 h2 => (w.h f hf h1 h2).symm, w.t, w.p', w.p⟩
theorem Wn.congr (w : Wn gu gu' S x y) (hn : S'.n = S.n) (hi : S'.fi = S.fi) (hc : ∀ f, S'.cl f = S.cl f) (ht : ∀ f, S'.ti f = S.ti f) : Wn gu gu' S' x y :=
  ⟨fun f hf => by rw [hc]; exact w.k f (hn ▸ hf), fun f hf h => by rw [ht]; exact w.o f (hn ▸ hf) (hc f ▸ h), fun f hf h => by rw [ht]; exact w.o' f (hn ▸ hf) (hc f ▸ h), fun f hf h h2 => w.h f (hn ▸ hf) (hc f ▸ h) (hi ▸ h2), fun f hf h => by rw [ht]; exact w.t f (hn ▸ hf) (hc f ▸ h),
    fun p a hp h => by rw [hn, hc]; exact w.p p a hp h, fun p a hp h => by rw [hn, hc]; exact w.p' p a hp h⟩
/-- a page set: its frame is had once more -/
theorem Wn.page (w : Wn gu gu' S x y) (g : Gs gu gu') {P F : Nat} (hP : P < 1024) (hF : F < S.n) (hc : S.cl F = gu) (a : Pg) (ha : a.f = F) (hpg : x.pg P = none) : Wn gu gu' (S.set F gu (S.ti F + 1)) { x with pg := upd x.pg P (some a) } y := by
  have cl : ∀ f, (S.set F gu (S.ti F + 1)).cl f = S.cl f := fun f => by
    show upd S.cl F gu f = S.cl f
    by_cases e : f = F
    · subst e; rw [upd_self, hc]
    · rw [upd_other _ _ _ e]
  have g1 := g.a
  have g2 := g.ne
  refine ⟨fun f hf => by rw [cl]; exact w.k f hf, fun f hf h => ?_, fun f hf h => ?_, fun f hf h h2 => w.h f hf (cl f ▸ h) h2, fun f hf h => ?_, fun p b hp h => ?_, fun p b hp h => by rw [cl]; exact w.p' p b hp h⟩
  · rw [cl] at h
    have e1 := np_upd x.pg f hP (some a)
    rw [hpg] at e1
    have e2 := w.o f hf h
    show upd S.ti F (S.ti F + 1) f = 1 + np (upd x.pg P (some a)) f
    by_cases e : f = F
    · subst e
      simp [isAt, ha] at e1
      rw [upd_self]
      omega
    · have : a.f ≠ f := fun e' => e (by omega)
      simp [isAt, this] at e1
      rw [upd_other _ _ _ e]
      omega
  · rw [cl] at h
    have e2 := w.o' f hf h
    show upd S.ti F (S.ti F + 1) f = 1 + np y.pg f
    rw [upd_other _ _ _ (fun e => by subst e; omega)]
    exact e2
  · rw [cl] at h
    show upd S.ti F (S.ti F + 1) f = 1
    rw [upd_other _ _ _ (fun e => by subst e; omega)]
    exact w.t f hf h
  · rw [cl]
    have h' : upd x.pg P (some a) p = some b := h
    by_cases e : p = P
    · subst e
      rw [upd_self] at h'
      cases h'
      rw [ha]
      exact ⟨hF, hc⟩
    · rw [upd_other _ _ _ e] at h'
      exact w.p p b hp h'
/-- a frame of nobody's becomes a lower table's -/
theorem Wn.table (w : Wn gu gu' S x y) (g : Gs gu gu') {t k : Nat} (ht : t < S.n) (hc : S.cl t = 17) (hk : k < 32) (hl : x.lo k < 0) : Wn gu gu' (S.set t 0 1) { x with lo := upd x.lo k (t : Int) } y := by
  have g1 := g.a
  have g2 := g.b
  have ne : ∀ f, S.cl f ≠ 17 → f ≠ t := fun f h e => h (e ▸ hc)
  refine ⟨fun f hf => ?_, fun f hf h => ?_, fun f hf h => ?_, fun f hf h h2 => ?_, fun f hf h => ?_, fun p b hp h => ?_, fun p b hp h => ?_⟩
  · show upd S.cl t 0 f = 0 ∨ upd S.cl t 0 f = gu ∨ upd S.cl t 0 f = gu' ∨ upd S.cl t 0 f = 17
    by_cases e : f = t
    · subst e; rw [upd_self]; exact .inl rfl
    · rw [upd_other _ _ _ e]; exact w.k f hf
  · have h' : upd S.cl t 0 f = gu := h
    have e : f ≠ t := fun e => by subst e; rw [upd_self] at h'; omega
    rw [upd_other _ _ _ e] at h'
    show upd S.ti t 1 f = _
    rw [upd_other _ _ _ e]
    exact w.o f hf h'
  · have h' : upd S.cl t 0 f = gu' := h
    have e : f ≠ t := fun e => by subst e; rw [upd_self] at h'; omega
    rw [upd_other _ _ _ e] at h'
    show upd S.ti t 1 f = _
    rw [upd_other _ _ _ e]
    exact w.o' f hf h'
  · have h' : upd S.cl t 0 f = 0 := h
    by_cases e : f = t
    · subst e
      exact .inl (.inr ⟨k, hk, upd_self _ _ _⟩)
    · rw [upd_other _ _ _ e] at h'
      rcases w.h f hf h' h2 with q | q
      · left
        rcases q with q | ⟨l, hl', q⟩
        · exact .inl q
        · refine .inr ⟨l, hl', ?_⟩
          show upd x.lo k (t : Int) l = f
          rw [upd_other _ _ _ (fun e => by subst e; omega)]
          exact q
      · exact .inr q
  · have h' : upd S.cl t 0 f = 0 := h
    show upd S.ti t 1 f = 1
    by_cases e : f = t
    · subst e; exact upd_self _ _ _
    · rw [upd_other _ _ _ e] at h' ⊢
      exact w.t f hf h'
  · obtain ⟨q1, q2⟩ := w.p p b hp h
    refine ⟨q1, ?_⟩
    show upd S.cl t 0 b.f = gu
    rw [upd_other _ _ _ (ne _ (by omega))]
    exact q2
  · obtain ⟨q1, q2⟩ := w.p' p b hp h
    refine ⟨q1, ?_⟩
    show upd S.cl t 0 b.f = gu'
    rw [upd_other _ _ _ (ne _ (by omega))]
    exact q2
/-- a page taken away: its frame is had once less -/
theorem Wn.unpage (w : Wn gu gu' S x y) (g : Gs gu gu') {P : Nat} {a : Pg} (hP : P < 1024) (hpg : x.pg P = some a) : 2 ≤ S.ti a.f ∧ Wn gu gu' (S.set a.f gu (S.ti a.f - 1)) { x with pg := upd x.pg P none } y := by
  obtain ⟨hF, hc⟩ := w.p P a hP hpg
  have hpos := np_pos hP hpg
  have hti := w.o a.f hF hc
  have cl : ∀ f, (S.set a.f gu (S.ti a.f - 1)).cl f = S.cl f := fun f => by
    show upd S.cl a.f gu f = S.cl f
    by_cases e : f = a.f
    · rw [e, upd_self, hc]
    · rw [upd_other _ _ _ e]
  have g1 := g.a
  have g2 := g.ne
  refine ⟨by omega, fun f hf => by rw [cl]; exact w.k f hf, fun f hf h => ?_, fun f hf h => ?_, fun f hf h h2 => w.h f hf (cl f ▸ h) h2, fun f hf h => ?_, fun p b hp h => ?_, fun p b hp h => by rw [cl]; exact w.p' p b hp h⟩
  · rw [cl] at h
    have e1 := np_upd x.pg f hP none
    rw [hpg] at e1
    have e2 := w.o f hf h
    show upd S.ti a.f (S.ti a.f - 1) f = 1 + np (upd x.pg P none) f
    by_cases e : f = a.f
    · rw [e] at e1 e2 ⊢
      simp [isAt] at e1
      rw [upd_self]
      omega
    · have : a.f ≠ f := fun e' => e e'.symm
      simp [isAt, this] at e1
      rw [upd_other _ _ _ e]
      omega
  · rw [cl] at h
    have e2 := w.o' f hf h
    show upd S.ti a.f (S.ti a.f - 1) f = 1 + np y.pg f
    rw [upd_other _ _ _ (fun e => by rw [e] at h; omega)]
    exact e2
  · rw [cl] at h
    show upd S.ti a.f (S.ti a.f - 1) f = 1
    rw [upd_other _ _ _ (fun e => by rw [e] at h; omega)]
    exact w.t f hf h
  · rw [cl]
    have h' : upd x.pg P none p = some b := h
    by_cases e : p = P
    · subst e
      rw [upd_self] at h'
      cases h'
    · rw [upd_other _ _ _ e] at h'
      exact w.p p b hp h'
/-- a table's frame given back -/
theorem Wn.gone (w : Wn gu gu' S x y) (g : Gs gu gu') {F : Nat} {x' : Tp} (hc : S.cl F = 0) (hpg : x'.pg = x.pg) (hT : ∀ f, TF x f → f ≠ F → TF x' f) : Wn gu gu' (S.set F 17 0) x' y := by
  have g1 := g.a
  have g2 := g.b
  refine ⟨fun f hf => ?_, fun f hf h => ?_, fun f hf h => ?_, fun f hf h h2 => ?_, fun f hf h => ?_, fun p b hp h => ?_, fun p b hp h => ?_⟩
  · show upd S.cl F 17 f = 0 ∨ upd S.cl F 17 f = gu ∨ upd S.cl F 17 f = gu' ∨ upd S.cl F 17 f = 17
    by_cases e : f = F
    · subst e; rw [upd_self]; exact .inr (.inr (.inr rfl))
    · rw [upd_other _ _ _ e]; exact w.k f hf
  · have h' : upd S.cl F 17 f = gu := h
    have e : f ≠ F := fun e => by subst e; rw [upd_self] at h'; omega
    rw [upd_other _ _ _ e] at h'
    show upd S.ti F 0 f = 1 + np x'.pg f
    rw [upd_other _ _ _ e, hpg]
    exact w.o f hf h'
  · have h' : upd S.cl F 17 f = gu' := h
    have e : f ≠ F := fun e => by subst e; rw [upd_self] at h'; omega
    rw [upd_other _ _ _ e] at h'
    show upd S.ti F 0 f = _
    rw [upd_other _ _ _ e]
    exact w.o' f hf h'
  · have h' : upd S.cl F 17 f = 0 := h
    have e : f ≠ F := fun e => by subst e; rw [upd_self] at h'; omega
    rw [upd_other _ _ _ e] at h'
    rcases w.h f hf h' h2 with q | q
    · exact .inl (hT f q e)
    · exact .inr q
  · have h' : upd S.cl F 17 f = 0 := h
    have e : f ≠ F := fun e => by subst e; rw [upd_self] at h'; omega
    rw [upd_other _ _ _ e] at h'
    show upd S.ti F 0 f = 1
    rw [upd_other _ _ _ e]
    exact w.t f hf h'
  · rw [hpg] at h
    obtain ⟨q1, q2⟩ := w.p p b hp h
    refine ⟨q1, ?_⟩
    show upd S.cl F 17 b.f = gu
    rw [upd_other _ _ _ (fun e => by rw [e] at q2; omega)]
    exact q2
  · obtain ⟨q1, q2⟩ := w.p' p b hp h
    refine ⟨q1, ?_⟩
    show upd S.cl F 17 b.f = gu'
    rw [upd_other _ _ _ (fun e => by rw [e] at q2; omega)]
    exact q2
/-- a frame for the guest -/
theorem Wn.give (w : Wn gu gu' S x y) (g : Gs gu gu') {t : Nat} (hc : S.cl t = 17) : Wn gu gu' (S.set t gu 1) x y := by
  have g1 := g.a
  have g2 := g.b
  have g3 := g.ne
  refine ⟨fun f hf => ?_, fun f hf h => ?_, fun f hf h => ?_, fun f hf h h2 => ?_, fun f hf h => ?_, fun p b hp h => ?_, fun p b hp h => ?_⟩
  · show upd S.cl t gu f = 0 ∨ upd S.cl t gu f = gu ∨ upd S.cl t gu f = gu' ∨ upd S.cl t gu f = 17
    by_cases e : f = t
    · subst e; rw [upd_self]; exact .inr (.inl rfl)
    · rw [upd_other _ _ _ e]; exact w.k f hf
  · have h' : upd S.cl t gu f = gu := h
    show upd S.ti t 1 f = 1 + np x.pg f
    by_cases e : f = t
    · subst e
      rw [upd_self, np_zero fun p a hp h3 h4 => by
        have := (w.p p a hp h3).2
        rw [h4] at this
        omega]
    · rw [upd_other _ _ _ e] at h' ⊢
      exact w.o f hf h'
  · have h' : upd S.cl t gu f = gu' := h
    have e : f ≠ t := fun e => by subst e; rw [upd_self] at h'; omega
    rw [upd_other _ _ _ e] at h'
    show upd S.ti t 1 f = _
    rw [upd_other _ _ _ e]
    exact w.o' f hf h'
  · have h' : upd S.cl t gu f = 0 := h
    have e : f ≠ t := fun e => by subst e; rw [upd_self] at h'; omega
    rw [upd_other _ _ _ e] at h'
    exact w.h f hf h' h2
  · have h' : upd S.cl t gu f = 0 := h
    have e : f ≠ t := fun e => by subst e; rw [upd_self] at h'; omega
    rw [upd_other _ _ _ e] at h'
    show upd S.ti t 1 f = 1
    rw [upd_other _ _ _ e]
    exact w.t f hf h'
  · obtain ⟨q1, q2⟩ := w.p p b hp h
    refine ⟨q1, ?_⟩
    show upd S.cl t gu b.f = gu
    rw [upd_other _ _ _ (fun e => by rw [e] at q2; omega)]
    exact q2
  · obtain ⟨q1, q2⟩ := w.p' p b hp h
    refine ⟨q1, ?_⟩
    show upd S.cl t gu b.f = gu'
    rw [upd_other _ _ _ (fun e => by rw [e] at q2; omega)]
    exact q2
/-- a page's rights turned -/
theorem Wn.rights (w : Wn gu gu' S x y) {P : Nat} {a b : Pg} (hP : P < 1024) (hpg : x.pg P = some a) (hb : b.f = a.f) : Wn gu gu' S { x with pg := upd x.pg P (some b) } y := by
  refine ⟨w.k, fun f hf h => ?_, w.o', w.h, w.t, fun p c hp h => ?_, w.p'⟩
  · have e1 := np_upd x.pg f hP (some b)
    rw [hpg, show isAt f (some b) = isAt f (some a) by simp [isAt, hb]] at e1
    have e2 := w.o f hf h
    show S.ti f = 1 + np (upd x.pg P (some b)) f
    omega
  · have h' : upd x.pg P (some b) p = some c := h
    by_cases e : p = P
    · subst e
      rw [upd_self] at h'
      cases h'
      rw [hb]
      exact w.p p a hp hpg
    · rw [upd_other _ _ _ e] at h'
      exact w.p p c hp h'
end
end Go.Proofs.YteghkhdpdeiocaaGreatDoor
namespace Go.Proofs.YteghkhdpdeiocaaGreatDoor
set_option linter.unusedVariables false
set_option maxRecDepth 100000

theorem fr_more {S : Fs} {f gu : Nat} (hi : f < S.n) (ha : gu ≤ 16) (hc : S.cl f = gu) (hf : S.fi ≤ f) (ht : 1 < S.ti f) : frS S f gu = S.set f gu (S.ti f - 1) := by
  obtain ⟨i, a, e1, e2, _, _, _, _, hs⟩ := fr_at (errL_of hi ha hc hf)
  have e1' : i = f := by omega
  have e2' : a = gu := by omega
  subst e1' e2'
  rw [hs, if_pos ht]
theorem fr_last {S : Fs} {f gu : Nat} (hi : f < S.n) (ha : gu ≤ 16) (hc : S.cl f = gu) (hf : S.fi ≤ f) (ht : S.ti f = 1) : frS S f gu = S.set f 17 0 := by
  obtain ⟨i, a, e1, e2, _, _, _, _, hs⟩ := fr_at (errL_of hi ha hc hf)
  have e1' : i = f := by omega
  have e2' : a = gu := by omega
  subst e1' e2'
  rw [hs, if_neg (by omega)]
theorem fi_le {S : Fs} (h : Fst S) {f gu : Nat} (hg : 1 ≤ gu) (hc : S.cl f = gu) : S.fi ≤ f := by
  by_cases e : S.fi ≤ f
  · exact e
  · have := h f (by omega)
    omega
/-- the same frames are the guest's -/
structure Sg (gu : Nat) (S S' : Fs) : Prop where
  n : S'.n = S.n
  fi : S'.fi = S.fi
  c : ∀ f, S'.cl f = gu ↔ S.cl f = gu
theorem Sg.refl (gu : Nat) (S : Fs) : Sg gu S S := ⟨rfl, rfl, fun _ => Iff.rfl⟩
theorem Sg.trans {gu : Nat} {S T R : Fs} (h : Sg gu S T) (k : Sg gu T R) : Sg gu S R := ⟨k.n.trans h.n, k.fi.trans h.fi, fun f => (k.c f).trans (h.c f)⟩
theorem Sg.count {gu : Nat} {S S' : Fs} (h : Sg gu S S') : S'.ct gu = S.ct gu := by
  unfold Fs.ct cn
  rw [h.n]
  refine List.countP_congr fun f _ => ?_
  simp [h.c f]
/-- both guests' tables, and what is counted -/
structure W2 (n gu gu' : Nat) (z : Zs) (y : Tp) : Prop where
  iv : Iv n (TF y) z
  iv' : Iv n (TF z.x) ⟨z.m, z.S, y⟩
  wn : Wn gu gu' z.S z.x y
  ln : Ln z.x
  ln' : Ln y
  nn : z.S.n ≤ n
section
variable {n gu gu' : Nat} {z : Zs} {y : Tp} {O : Nat → Prop}
theorem W2.flip (h : W2 n gu gu' z y) : W2 n gu' gu ⟨z.m, z.S, y⟩ z.x := ⟨h.iv', h.iv, h.wn.flip, h.ln', h.ln, h.nn⟩
theorem W2.step {z' : Zs} (h : W2 n gu gu' z y) (i : Iv n (TF y) z' ∧ Out (TF y) z z') (w : Wn gu gu' z'.S z'.x y ∧ Ln z'.x) : W2 n gu gu' z' y :=
  ⟨i.1, i.1.swap i.2 h.iv', w.1, w.2, h.ln', by rw [i.2.kp.n]; exact h.nn⟩
theorem Ln.page {x : Tp} (h : Ln x) (P : Nat) (a : Pg) (lo : Nat → Int) (hlo : ∀ k, k ≠ P / 32 → lo k = x.lo k) : Ln ⟨x.rt, lo, upd x.pg P (some a)⟩ := by
  intro k hk h0
  show 0 < cnt (upd x.pg P (some a)) k
  by_cases e : k = P / 32
  · subst e
    exact cnt_pos (by rw [upd_self]; rfl)
  · rw [cnt_other _ (fun e' => e e'.symm)]
    exact h k hk (by have h0' : 0 ≤ lo k := h0; rwa [hlo k e] at h0')
theorem Wn.map (i : Iv n O z) (w : Wn gu gu' z.S z.x y) (l : Ln z.x) (nn : z.S.n ≤ n) (g : Gs gu gu') (p f : Int) (a b c : Bool) : Wn gu gu' (mapZ gu n z p f a b c).S (mapZ gu n z p f a b c).x y ∧ Ln (mapZ gu n z p f a b c).x := by
  have g1 := g.a
  unfold mapZ
  by_cases h0 : mapQ gu n z p f a b c = 0
  · rw [if_neg (not_not_intro h0)]
    obtain ⟨hr, P, F, rfl, rfl, hP, hF, hm, hpg, hFn, hcl, hho⟩ := mapQ_ok h0
    rw [Int.toNat_natCast, Int.toNat_natCast]
    have eh : hoS z.S (F : Int) gu = z.S.set F gu (z.S.ti F + 1) := by
      obtain ⟨j, q, e1, e2, _, _, _, hs, _⟩ := ho_at hho
      have e1' : j = F := by omega
      have e2' : q = gu := by omega
      subst e1' e2'
      exact hs
    have wp := w.page g hP hFn hcl ⟨F, a, b, c⟩ rfl hpg
    rw [eh]
    by_cases h1 : raiE n ⟨z.m, z.S.set F gu (z.S.ti F + 1), z.x⟩ (P / 32) = 0
    · rw [if_pos h1]
      by_cases hl : 0 ≤ z.x.lo (P / 32)
      · have ez : raiZ n ⟨z.m, z.S.set F gu (z.S.ti F + 1), z.x⟩ (P / 32) = ⟨z.m, z.S.set F gu (z.S.ti F + 1), z.x⟩ := by unfold raiZ; rw [if_pos hl]
        rw [ez]
        exact ⟨wp, l.page P ⟨F, a, b, c⟩ z.x.lo (fun _ _ => rfl)⟩
      · unfold raiE at h1
        rw [if_neg hl] at h1
        obtain ⟨t, t1, t2, t3, t4, t5, t6⟩ := take_ok h1
        have ez : raiZ n ⟨z.m, z.S.set F gu (z.S.ti F + 1), z.x⟩ (P / 32) = ⟨set8 (takeM n z.m (z.S.set F gu (z.S.ti F + 1))) z.x.rt.toNat (P / 32) (loN (alR (z.S.set F gu (z.S.ti F + 1)) 0)), (z.S.set F gu (z.S.ti F + 1)).set t 0 1, { z.x with lo := upd z.x.lo (P / 32) (t : Int) }⟩ := by
          unfold raiZ
          rw [if_neg hl, if_pos h1, t6, t2]
        rw [ez]
        refine ⟨wp.table g t4 t5 (by omega) (by have : ¬ 0 ≤ z.x.lo (P / 32) := hl; show z.x.lo (P / 32) < 0; omega), ?_⟩
        exact l.page P ⟨F, a, b, c⟩ (upd z.x.lo (P / 32) (t : Int)) (fun k hk => upd_other _ _ _ hk)
    · rw [if_neg h1]
      have hl : ¬ 0 ≤ z.x.lo (P / 32) := fun hl => h1 (by unfold raiE; rw [if_pos hl])
      have ht : takeE n (z.S.set F gu (z.S.ti F + 1)) ≠ 0 := by
        unfold raiE at h1
        rw [if_neg hl] at h1
        exact h1
      have ha : alE (z.S.set F gu (z.S.ti F + 1)) 0 ≠ 0 := fun e => ht (by
        obtain ⟨a, ha, h1, h2, h3, h4, h5⟩ := al_at e
        unfold takeE
        rw [if_neg (not_not_intro e), if_pos (by
          rw [h2]
          have : (z.S.set F gu (z.S.ti F + 1)).n = z.S.n := rfl
          omega)])
      have ez : raiZ n ⟨z.m, z.S.set F gu (z.S.ti F + 1), z.x⟩ (P / 32) = ⟨z.m, z.S.set F gu (z.S.ti F + 1), z.x⟩ := by
        unfold raiZ
        rw [if_neg hl, if_neg ht]
        unfold takeS
        rw [if_pos ha]
      rw [ez]
      have hti := w.o F hFn hcl
      have ef : frS (z.S.set F gu (z.S.ti F + 1)) (F : Int) gu = (z.S.set F gu (z.S.ti F + 1)).set F gu ((z.S.set F gu (z.S.ti F + 1)).ti F - 1) := fr_more hFn g1.2 (upd_self _ _ _) (fi_le i.fst g1.1 hcl) (by show 1 < upd z.S.ti F _ F; rw [upd_self]; omega)
      refine ⟨?_, l⟩
      show Wn gu gu' (frS (z.S.set F gu (z.S.ti F + 1)) (F : Int) gu) z.x y
      rw [ef]
      refine w.congr rfl rfl (fun f => ?_) fun f => ?_
      · show upd (upd z.S.cl F gu) F gu f = z.S.cl f
        by_cases e : f = F
        · subst e; rw [upd_self, hcl]
        · rw [upd_other _ _ _ e, upd_other _ _ _ e]
      · show upd (upd z.S.ti F (z.S.ti F + 1)) F (upd z.S.ti F (z.S.ti F + 1) F - 1) f = z.S.ti f
        by_cases e : f = F
        · subst e; rw [upd_self, upd_self]; omega
        · rw [upd_other _ _ _ e, upd_other _ _ _ e]
  · rw [if_pos h0]
    exact ⟨w, l⟩
theorem Wn.protect (i : Iv n O z) (w : Wn gu gu' z.S z.x y) (l : Ln z.x) (p : Int) (a b c : Bool) : Wn gu gu' (prZ z p a b c).S (prZ z p a b c).x y ∧ Ln (prZ z p a b c).x := by
  unfold prZ
  by_cases h0 : prQ z p a b c = 0
  · rw [if_pos h0]
    obtain ⟨hr, P, q, rfl, hP, hm, hq⟩ := prQ_ok h0
    rw [Int.toNat_natCast, hq]
    exact ⟨w.rights hP hq rfl, l.page P ⟨q.f, a, b, c⟩ z.x.lo (fun _ _ => rfl)⟩
  · rw [if_neg h0]; exact ⟨w, l⟩
theorem Wn.alloc (w : Wn gu gu' z.S z.x y) (g : Gs gu gu') : Wn gu gu' (alS z.S gu) z.x y := by
  by_cases h : alE z.S gu = 0
  · obtain ⟨a, e, _, _, hs, h1, h2⟩ := al_at h
    have : a = gu := by omega
    subst this
    rw [hs]
    exact w.give g h2
  · rw [(al_no h).2]; exact w
/-- behind an Unmap -/
theorem Wn.unmap (i : Iv n O z) (w : Wn gu gu' z.S z.x y) (l : Ln z.x) (g : Gs gu gu') (p : Int) : (Wn gu gu' (unZ gu z p).S (unZ gu z p).x y ∧ Ln (unZ gu z p).x) ∧ Sg gu z.S (unZ gu z p).S ∧ (unZ gu z p).x.rt = z.x.rt ∧ ((unZ gu z p).x.pg = z.x.pg ∨ ∃ P : Nat, p = P ∧ (unZ gu z p).x.pg = upd z.x.pg P none) ∧ (0 ≤ z.x.rt → ∀ P : Nat, p = P → P < 1024 → (unZ gu z p).x.pg P = none) := by
  have g1 := g.a
  unfold unZ
  by_cases h0 : unQ z p = 0
  · rw [if_pos h0]
    obtain ⟨hr, P, q, rfl, hP, hq⟩ := unQ_ok h0
    rw [Int.toNat_natCast]
    obtain ⟨hF, hc⟩ := w.p P q hP hq
    obtain ⟨u1, u2⟩ := w.unpage g hP hq
    have hl := i.has hP hq
    have eA : (unA gu z P).S = z.S.set q.f gu (z.S.ti q.f - 1) := by
      show frS z.S (pgF (z.x.pg P) : Int) gu = _
      rw [hq]
      exact fr_more hF g1.2 hc (fi_le i.fst g1.1 hc) u1
    have sA : Sg gu z.S (unA gu z P).S := by
      rw [eA]
      refine ⟨rfl, rfl, fun f => ?_⟩
      show upd z.S.cl q.f gu f = gu ↔ _
      by_cases e : f = q.f
      · rw [e, upd_self, hc]
      · rw [upd_other _ _ _ e]
    obtain ⟨i1, _⟩ := i.unA g1.1 hP hl
    have wA : Wn gu gu' (unA gu z P).S (unA gu z P).x y := by rw [eA]; exact u2
    have lA : ∀ k, k < 32 → k ≠ P / 32 → 0 ≤ z.x.lo k → 0 < cnt (upd z.x.pg P none) k := fun k hk e h1 => by
      rw [cnt_other _ (fun e' => e e'.symm)]
      exact l k hk h1
    unfold unD
    by_cases hcn : cnt (unA gu z P).x.pg (P / 32) = 0
    · rw [if_pos hcn]
      obtain ⟨F, hFe⟩ := Int.eq_ofNat_of_zero_le hl
      have hk : P / 32 < 32 := by omega
      have T := (i1.lw (P / 32) F hk hFe).1
      have eS : (razZ (unA gu z P) (P / 32)).S = (unA gu z P).S.set F 17 0 := by
        show frS (unA gu z P).S (z.x.lo (P / 32)) 0 = _
        rw [hFe]
        exact fr_last T.n (by decide) T.c T.fi T.t
      refine ⟨⟨?_, fun k hk' h1 => ?_⟩, ?_, rfl, .inr ⟨P, rfl, rfl⟩, fun _ Q e _ => ?_⟩
      · rw [eS]
        refine wA.gone g T.c rfl fun f hf hne => ?_
        rcases hf with hf | ⟨k, hk', hf⟩
        · exact .inl hf
        · refine .inr ⟨k, hk', ?_⟩
          show upd z.x.lo (P / 32) (-1) k = f
          rw [upd_other _ _ _ (fun e => by subst e; have : z.x.lo (P / 32) = f := hf; omega)]
          exact hf
      · have h1' : 0 ≤ upd z.x.lo (P / 32) (-1) k := h1
        by_cases e : k = P / 32
        · subst e; rw [upd_self] at h1'; omega
        · rw [upd_other _ _ _ e] at h1'
          exact lA k hk' e h1'
      · rw [eS]
        refine sA.trans ⟨rfl, rfl, fun f => ?_⟩
        show upd (unA gu z P).S.cl F 17 f = gu ↔ _
        by_cases e : f = F
        · subst e
          rw [upd_self, T.c]
          omega
        · rw [upd_other _ _ _ e]
      · have : Q = P := by omega
        subst this
        exact upd_self _ _ _
    · rw [if_neg hcn]
      refine ⟨⟨wA, fun k hk' h1 => ?_⟩, sA, rfl, .inr ⟨P, rfl, rfl⟩, fun _ Q e _ => ?_⟩
      · by_cases e : k = P / 32
        · subst e
          have : cnt (unA gu z P).x.pg (P / 32) ≠ 0 := hcn
          omega
        · exact lA k hk' e h1
      · have : Q = P := by omega
        subst this
        exact upd_self _ _ _
  · rw [if_neg h0]
    refine ⟨⟨w, l⟩, Sg.refl _ _, rfl, .inl rfl, fun hr Q e hQ => ?_⟩
    unfold unQ at h0
    rw [if_neg (by omega), if_neg (by omega)] at h0
    have e' : p.toNat = Q := by omega
    rw [e'] at h0
    cases hx : z.x.pg Q with
    | none => rfl
    | some _ => rw [hx] at h0; simp at h0
/-- behind Unmap of the first pages -/
theorem Wn.unmaps (i : Iv n O z) (w : Wn gu gu' z.S z.x y) (l : Ln z.x) (g : Gs gu gu') : ∀ P, P ≤ 1024 → (Wn gu gu' (unsZ gu z P).S (unsZ gu z P).x y ∧ Ln (unsZ gu z P).x) ∧ Sg gu z.S (unsZ gu z P).S ∧ (unsZ gu z P).x.rt = z.x.rt ∧ (0 ≤ z.x.rt → ∀ Q, Q < P → (unsZ gu z P).x.pg Q = none)
  | 0, _ => ⟨⟨w, l⟩, Sg.refl _ _, rfl, fun _ Q h => by omega⟩
  | P + 1, hP => by
    obtain ⟨⟨w1, l1⟩, s1, r1, n1⟩ := w.unmaps i l g P (by omega)
    obtain ⟨i1, _⟩ := i.unmaps g.a.1 P
    obtain ⟨k2, s2, r2, p2, n2⟩ := w1.unmap i1 l1 g (P : Int)
    refine ⟨k2, s1.trans s2, r2.trans r1, fun hr Q hQ => ?_⟩
    by_cases e : Q = P
    · subst e
      exact n2 (by rw [r1]; exact hr) Q rfl (by omega)
    · have h3 := n1 hr Q (by omega)
      show (unZ gu (unsZ gu z P) (P : Int)).x.pg Q = none
      rcases p2 with p2 | ⟨R, hR, p2⟩
      · rw [p2]; exact h3
      · rw [p2, upd_other _ _ _ (by omega)]; exact h3
theorem cnt_no {pg : Nat → Option Pg} {k : Nat} (h : ∀ p, p < 1024 → pg p = none) (hk : k < 32) : cnt pg k = 0 := by
  unfold cnt
  refine List.countP_eq_zero.2 fun j hj => ?_
  have := List.mem_range.1 hj
  rw [h _ (by omega)]
  simp
/-- tables that are closed -/
structure Cd (x : Tp) : Prop where
  rt : x.rt = -1
  lo : ∀ k, k < 32 → x.lo k < 0
  pg : ∀ p, p < 1024 → x.pg p = none
theorem Cd.tf {x : Tp} (h : Cd x) (f : Nat) : ¬ TF x f := by
  rintro (e | ⟨k, hk, e⟩)
  · rw [h.rt] at e; omega
  · have := h.lo k hk; omega
theorem Cd.ln {x : Tp} (h : Cd x) : Ln x := fun k hk h0 => by have := h.lo k hk; omega
/-- behind Close -/
theorem Wn.close (i : Iv n O z) (w : Wn gu gu' z.S z.x y) (l : Ln z.x) (g : Gs gu gu') (hr : 0 ≤ z.x.rt) : Wn gu gu' (clZ gu z).S (clZ gu z).x y ∧ Sg gu z.S (clZ gu z).S ∧ Cd (clZ gu z).x := by
  obtain ⟨⟨w1, l1⟩, s1, r1, n1⟩ := w.unmaps i l g 1024 (Nat.le_refl _)
  obtain ⟨i1, _⟩ := i.unmaps g.a.1 1024
  have g1 := g.a
  unfold clZ
  rw [if_neg (by omega)]
  generalize unsZ gu z 1024 = Z at *
  have n1' := n1 hr
  have lo : ∀ k, k < 32 → Z.x.lo k < 0 := fun k hk => by
    by_cases e : 0 ≤ Z.x.lo k
    · have := l1 k hk e
      rw [cnt_no n1' hk] at this
      omega
    · omega
  obtain ⟨R, hR⟩ := Int.eq_ofNat_of_zero_le hr
  have T := i1.ro R (r1.trans hR)
  have eS : (clF Z).S = Z.S.set R 17 0 := by
    show frS Z.S Z.x.rt 0 = _
    rw [r1, hR]
    exact fr_last T.n (by decide) T.c T.fi T.t
  refine ⟨?_, ?_, ⟨rfl, lo, n1'⟩⟩
  · rw [eS]
    refine w1.gone g T.c rfl fun f hf hne => ?_
    rcases hf with hf | hf
    · have : Z.x.rt = (f : Int) := hf
      omega
    · exact .inr hf
  · rw [eS]
    refine s1.trans ⟨rfl, rfl, fun f => ?_⟩
    show upd Z.S.cl R 17 f = gu ↔ _
    by_cases e : f = R
    · subst e
      rw [upd_self, T.c]
      omega
    · rw [upd_other _ _ _ e]
end
/-- all that are somebody's are had once -/
theorem sumT_one {S : Fs} : ∀ j, (∀ f, f < j → S.ti f = if S.cl f = 17 then 0 else 1) → sumT S.ti j + cn S.cl j 17 = j
  | 0, _ => rfl
  | j + 1, h => by
    have := sumT_one (S := S) j fun f hf => h f (by omega)
    rw [cn_succ]
    simp only [sumT]
    rw [h j (by omega)]
    split <;> omega
theorem cn_four {cl : Nat → Nat} {a b : Nat} (h1 : 0 < a) (h2 : 0 < b) (h3 : a ≠ b) (h4 : a < 17) (h5 : b < 17) : ∀ j, (∀ f, f < j → cl f = 0 ∨ cl f = a ∨ cl f = b ∨ cl f = 17) → cn cl j 0 + cn cl j a + cn cl j b + cn cl j 17 = j
  | 0, _ => rfl
  | j + 1, h => by
    have := cn_four (cl := cl) h1 h2 h3 h4 h5 j fun f hf => h f (by omega)
    rw [cn_succ, cn_succ, cn_succ, cn_succ]
    rcases h j (by omega) with e | e | e | e
    · rw [if_pos e, if_neg (by omega), if_neg (by omega), if_neg (by omega)]; omega
    · rw [if_neg (by omega), if_pos e, if_neg (by omega), if_neg (by omega)]; omega
    · rw [if_neg (by omega), if_neg (by omega), if_pos e, if_neg (by omega)]; omega
    · rw [if_neg (by omega), if_neg (by omega), if_neg (by omega), if_pos e]; omega
theorem cn_first {cl : Nat → Nat} {k : Nat} : ∀ j, (∀ f, f < j → (cl f = 0 ↔ f < k)) → cn cl j 0 = min j k
  | 0, _ => by simp [cn]
  | j + 1, h => by
    rw [cn_succ, cn_first j fun f hf => h f (by omega)]
    have := h j (by omega)
    split <;> omega
/-- behind both Closes -/
theorem Wn.counts {S : Fs} {x y : Tp} (w : Wn 1 2 S x y) (ok : Ok S) (fs : Fst S) (cx : Cd x) (cy : Cd y) : S.ct 0 = S.fi ∧ sumT S.ti S.n = S.fi + S.ct 1 + S.ct 2 ∧ S.ct 17 + S.fi + S.ct 1 + S.ct 2 = S.n := by
  have npx : ∀ f, np x.pg f = 0 := fun f => np_zero fun p a hp h => by rw [cx.pg p hp] at h; cases h
  have npy : ∀ f, np y.pg f = 0 := fun f => np_zero fun p a hp h => by rw [cy.pg p hp] at h; cases h
  have h0 : ∀ f, f < S.n → (S.cl f = 0 ↔ f < S.fi) := fun f hf => ⟨fun h => by
    by_cases e : f < S.fi
    · exact e
    · rcases w.h f hf h (by omega) with q | q
      · exact absurd q (cx.tf f)
      · exact absurd q (cy.tf f), fs f⟩
  have e0 := cn_first (cl := S.cl) (k := S.fi) S.n h0
  have hfi := ok.f
  have e1 := sumT_one (S := S) S.n fun f hf => by
    rcases w.k f hf with e | e | e | e
    · rw [if_neg (by omega)]; exact w.t f hf e
    · rw [if_neg (by omega), w.o f hf e, npx]
    · rw [if_neg (by omega), w.o' f hf e, npy]
    · rw [if_pos e]; exact (ok.t f hf).1 e
  have e2 := cn_four (cl := S.cl) (a := 1) (b := 2) (by decide) (by decide) (by decide) (by decide) (by decide) S.n w.k
  unfold Fs.ct
  omega
end Go.Proofs.YteghkhdpdeiocaaGreatDoor
