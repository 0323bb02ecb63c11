/-
  Two virtual processors beside the document's, on one machine: what stands between calls.
-/
import Derived.Test.YtjkaeclemflifaaPa
import Derived.Test.YtjkaeclemflifaaFw
namespace Go.Proofs.Ytjkaeclemflifaa
open Go.RowKit
set_option linter.unusedVariables false
set_option maxRecDepth 100000
/-- blocks of one: its own, its control registers', the document's -/
structure Bk where
  V : Nat
  F : Nat
  Q : Nat
/-- its numbers -/
structure Vq where
  g : Int
  ix : Int
  s : Int
  c : Int
  N : Nat → Int
structure PW (w0 w : World) (a : Mn) (x : Nat → Value) (bk : Nat → Bk) (q : Nat → Vq) (D vr rr : Nat) (u : Nat → Int) : Prop where
  m : MS w a.M a.mb a.cr 2 2 a.o x
  v : ∀ k, k < 2 → VS w (bk k).V (q k).g (bk k).F (q k).ix (q k).s (q k).c (q k).N
  f : ∀ k, k < 2 → ∃ R, FF w (bk k).F R
  r : ∀ k, k < 2 → RV w (bk k).Q (q k).g (q k).ix (q k).s (q k).c (q k).N
  pv : ∃ cs, w.heap[vr]? = some (.cells cs 27 (0, 0)) ∧ ∀ k, k < 2 → cs[k]? = some (.pointer (some ⟨(bk k).V, 0, none⟩))
  pr : ∃ cs, w.heap[rr]? = some (.cells cs 31 (0, 0)) ∧ ∀ k, k < 2 → cs[k]? = some (.pointer (some ⟨(bk k).Q, 0, none⟩))
  us : ∃ cs, w.heap[D]? = some (.cells cs 37 (0, 0)) ∧ cs.size = 2 ∧ ∀ i, i < 2 → cs[i]? = some (.int .i64 (u i))
  on : ∀ k, k < 2 → (q k).s = 2 → ∃ i cb : Nat, i < 2 ∧ (q k).c = i ∧ x i = .pointer (some ⟨cb, 0, none⟩) ∧ CX w cb (q k).g (q k).N (bk k).F
  st : ∀ k, k < 2 → (q k).s = 1 ∨ (q k).s = 2 ∨ (q k).s = 3 ∨ (q k).s = 4
  nu : ∀ i, i < 2 → (u i = 0 → x i = .pointer none) ∧ (u i ≠ 0 → ∃ cb, x i = .pointer (some ⟨cb, 0, none⟩))
  ap : ∀ k l, k < 2 → l < 2 → k ≠ l → (q k).s = 2 → (q l).s = 2 → (q k).c ≠ (q l).c
  vn : ∀ k l, k < 2 → l < 2 → k ≠ l → (bk k).V ≠ (bk l).V
  qn : ∀ k l, k < 2 → l < 2 → k ≠ l → (bk k).Q ≠ (bk l).Q
  ng : ∀ k, k < 2 → 0 ≤ (q k).g
  wN : ∀ k, k < 2 → W18 (q k).N
  bl : Below w0.heap.size w0 w
  wV : ∀ k, k < 2 → w0.heap.size ≤ (bk k).V
  wQ : ∀ k, k < 2 → w0.heap.size ≤ (bk k).Q
  wD : w0.heap.size ≤ D
  wo : ∀ k, a.own 2 k → w0.heap.size ≤ k
/-- one of them is another -/
def uq (q : Nat → Vq) (k : Nat) (v : Vq) : Nat → Vq := fun j => if j = k then v else q j
def uu (u : Nat → Int) (i : Nat) (z : Int) : Nat → Int := fun j => if j = i then z else u j
theorem uq_self (q : Nat → Vq) (k : Nat) (v : Vq) : uq q k v k = v := by simp [uq]
theorem uq_ne (q : Nat → Vq) {k j : Nat} (v : Vq) (h : j ≠ k) : uq q k v j = q j := by simp [uq, h]
section
variable {w0 w w' : World} {a : Mn} {x : Nat → Value} {bk : Nat → Bk} {q : Nat → Vq} {D vr rr : Nat} {u : Nat → Int}
theorem PW.below (h : PW w0 w a x bk q D vr rr u) (hb : Below w.heap.size w w') : PW w0 w' a x bk q D vr rr u := by
  obtain ⟨cv, v1, v2⟩ := h.pv
  obtain ⟨cr, r1, r2⟩ := h.pr
  obtain ⟨cu, u1, u2⟩ := h.us
  exact ⟨h.m.below hb, fun k hk => (h.v k hk).below hb, fun k hk => let ⟨R, f⟩ := h.f k hk; ⟨R, f.below hb⟩, fun k hk => (h.r k hk).below hb, ⟨cv, keepB v1 hb, v2⟩, ⟨cr, keepB r1 hb, r2⟩, ⟨cu, keepB u1 hb, u2⟩,
    fun k hk hs => let ⟨i, cb, e1, e2, e3, e4⟩ := h.on k hk hs; ⟨i, cb, e1, e2, e3, keepB e4 hb⟩, h.st, h.nu, h.ap, h.vn, h.qn, h.ng, h.wN, h.bl.trans (hb.mono h.bl.size), h.wV, h.wQ, h.wD, h.wo⟩
/-- what a call for one of them may turn: its block, the document's, a core, what is used -/
def tn (a : Mn) (bk : Nat → Bk) (D k i : Nat) (j : Nat) : Prop := j = (bk k).V ∨ j = (bk k).Q ∨ j = a.o i ∨ j = D
/-- what stays, whatever it turns of these -/
theorem PW.rest (h : PW w0 w a x bk q D vr rr u) {k i : Nat} (hk : k < 2) (hi : i < 2) (ht : Trn (tn a bk D k i) w w') :
    (∀ l, l < 2 → l ≠ k → VS w' (bk l).V (q l).g (bk l).F (q l).ix (q l).s (q l).c (q l).N) ∧ (∀ l, l < 2 → ∃ R, FF w' (bk l).F R) ∧ (∀ l, l < 2 → l ≠ k → RV w' (bk l).Q (q l).g (q l).ix (q l).s (q l).c (q l).N) ∧
    (∃ cs, w'.heap[vr]? = some (.cells cs 27 (0, 0)) ∧ ∀ k, k < 2 → cs[k]? = some (.pointer (some ⟨(bk k).V, 0, none⟩))) ∧ (∃ cs, w'.heap[rr]? = some (.cells cs 31 (0, 0)) ∧ ∀ k, k < 2 → cs[k]? = some (.pointer (some ⟨(bk k).Q, 0, none⟩))) ∧
    (∀ cb g N F, CX w cb g N F → CX w' cb g N F) ∧ Below w0.heap.size w0 w' := by
  obtain ⟨cv, v1, v2⟩ := h.pv
  obtain ⟨cr, r1, r2⟩ := h.pr
  obtain ⟨cu, u1, u2⟩ := h.us
  obtain ⟨cs, hc⟩ := (h.m.co i hi).ob
  have nt : ∀ (j : Nat) (ds : Array Value) (t : TypeId), w.heap[j]? = some (.cells ds t (0, 0)) → t ≠ 60 → t ≠ 47 → t ≠ 101 → t ≠ 37 → w'.heap[j]? = w.heap[j]? := fun j ds t hj h1 h2 h3 h4 => ht.block j (lt_of_heap hj) (by
    rintro (e | e | e | e)
    · exact ne_typ hj (h.v k hk) h1 e
    · exact ne_typ hj (h.r k hk) h2 e
    · exact ne_typ hj hc h3 e
    · exact ne_typ hj u1 h4 e)
  refine ⟨fun l hl hn => (h.v l hl).keep (ht.block _ (h.v l hl).lt ?_), fun l hl => ?_, fun l hl hn => (h.r l hl).keep (ht.block _ (h.r l hl).lt ?_), ⟨cv, (nt _ _ _ v1 (by decide) (by decide) (by decide) (by decide)).trans v1, v2⟩, ⟨cr, (nt _ _ _ r1 (by decide) (by decide) (by decide) (by decide)).trans r1, r2⟩, fun cb g N F hx => (nt _ _ _ hx (by decide) (by decide) (by decide) (by decide)).trans hx, h.bl.trans (ht.below h.bl.size ?_)⟩
  · rintro (e | e | e | e)
    · exact h.vn l k hl hk hn e
    · exact ne_typ (h.v l hl) (h.r k hk) (by decide) e
    · exact ne_typ (h.v l hl) hc (by decide) e
    · exact ne_typ (h.v l hl) u1 (by decide) e
  · obtain ⟨R, f⟩ := h.f l hl
    obtain ⟨fs, hf, _⟩ := f.blk
    exact ⟨R, f.keep (nt _ _ _ hf (by decide) (by decide) (by decide) (by decide))⟩
  · rintro (e | e | e | e)
    · exact ne_typ (h.r l hl) (h.v k hk) (by decide) e
    · exact h.qn l k hl hk hn e
    · exact ne_typ (h.r l hl) hc (by decide) e
    · exact ne_typ (h.r l hl) u1 (by decide) e
  · rintro j (rfl | rfl | rfl | rfl)
    · exact h.wV k hk
    · exact h.wQ k hk
    · exact h.wo _ (.inr (.inr (.inr ⟨i, hi, rfl⟩)))
    · exact h.wD
/-- the general turn -/
theorem PW.step (h : PW w0 w a x bk q D vr rr u) {k i : Nat} (hk : k < 2) (hi : i < 2) (ht : Trn (tn a bk D k i) w w') {x' : Nat → Value} {v' : Vq} {u' : Nat → Int}
    (hm : MS w' a.M a.mb a.cr 2 2 a.o x') (hv : VS w' (bk k).V v'.g (bk k).F v'.ix v'.s v'.c v'.N) (hr : RV w' (bk k).Q v'.g v'.ix v'.s v'.c v'.N) (hu : ∃ cs, w'.heap[D]? = some (.cells cs 37 (0, 0)) ∧ cs.size = 2 ∧ ∀ i, i < 2 → cs[i]? = some (.int .i64 (u' i)))
    (hs : v'.s = 1 ∨ v'.s = 2 ∨ v'.s = 3 ∨ v'.s = 4) (hon : v'.s = 2 → ∃ i cb : Nat, i < 2 ∧ v'.c = i ∧ x' i = .pointer (some ⟨cb, 0, none⟩) ∧ CX w' cb v'.g v'.N (bk k).F)
    (hx : ∀ l, l < 2 → l ≠ k → (q l).s = 2 → ∀ j : Nat, (q l).c = j → x' j = x j) (hnu : ∀ i, i < 2 → (u' i = 0 → x' i = .pointer none) ∧ (u' i ≠ 0 → ∃ cb, x' i = .pointer (some ⟨cb, 0, none⟩)))
    (hap : ∀ l, l < 2 → l ≠ k → v'.s = 2 → (q l).s = 2 → v'.c ≠ (q l).c) (hg : 0 ≤ v'.g) (hN : W18 v'.N) : PW w0 w' a x' bk (uq q k v') D vr rr u' := by
  obtain ⟨r1, r2, r3, r4, r5, r6, r7⟩ := h.rest hk hi ht
  refine ⟨hm, fun l hl => ?_, r2, fun l hl => ?_, r4, r5, hu, fun l hl e => ?_, fun l hl => ?_, hnu, fun l n hl hn hne e1 e2 => ?_, h.vn, h.qn, fun l hl => ?_, fun l hl => ?_, r7, h.wV, h.wQ, h.wD, h.wo⟩
  · by_cases e : l = k
    · subst e; rw [uq_self]; exact hv
    · rw [uq_ne q v' e]; exact r1 l hl e
  · by_cases e : l = k
    · subst e; rw [uq_self]; exact hr
    · rw [uq_ne q v' e]; exact r3 l hl e
  · by_cases e' : l = k
    · subst e'; rw [uq_self] at e ⊢; exact hon e
    · rw [uq_ne q v' e'] at e ⊢
      obtain ⟨j, cb, q1, q2, q3, q4⟩ := h.on l hl e
      exact ⟨j, cb, q1, q2, (hx l hl e' e j q2).trans q3, r6 _ _ _ _ q4⟩
  · by_cases e : l = k
    · subst e; rw [uq_self]; exact hs
    · rw [uq_ne q v' e]; exact h.st l hl
  · by_cases e : l = k
    · subst e
      rw [uq_self] at e1 ⊢
      rw [uq_ne q v' (Ne.symm hne)] at e2 ⊢
      exact hap n hn (Ne.symm hne) e1 e2
    · by_cases e' : n = k
      · subst e'
        rw [uq_self] at e2 ⊢
        rw [uq_ne q v' e] at e1 ⊢
        exact fun c => hap l hl e e2 e1 c.symm
      · rw [uq_ne q v' e] at e1 ⊢
        rw [uq_ne q v' e'] at e2 ⊢
        exact h.ap l n hl hn hne e1 e2
  · by_cases e : l = k
    · subst e; rw [uq_self]; exact hg
    · rw [uq_ne q v' e]; exact h.ng l hl
  · by_cases e : l = k
    · subst e; rw [uq_self]; exact hN
    · rw [uq_ne q v' e]; exact h.wN l hl
theorem PW.mkeep (h : PW w0 w a x bk q D vr rr u) {k : Nat} (hk : k < 2) (ht : Trn (fun j => j = (bk k).V ∨ j = (bk k).Q ∨ j = D) w w') : MS w' a.M a.mb a.cr 2 2 a.o x := by
  obtain ⟨cu, u1, u2⟩ := h.us
  refine h.m.keep fun j hj ho => ht.block j hj ?_
  rintro (rfl | rfl | rfl)
  · exact h.m.vs (h.v k hk) ho
  · exact h.m.apart (h.r k hk) (by decide) (by decide) (by decide) (by decide) ho
  · exact h.m.apart u1 (by decide) (by decide) (by decide) (by decide) ho
theorem PW.ukeep (h : PW w0 w a x bk q D vr rr u) {k i : Nat} (hk : k < 2) (hi : i < 2) (ht : Trn (fun j => j = (bk k).V ∨ j = (bk k).Q ∨ j = a.o i) w w') : ∃ cs, w'.heap[D]? = some (.cells cs 37 (0, 0)) ∧ cs.size = 2 ∧ ∀ i, i < 2 → cs[i]? = some (.int .i64 (u i)) := by
  obtain ⟨cu, u1, u2, u3⟩ := h.us
  obtain ⟨cs, hc⟩ := (h.m.co i hi).ob
  refine ⟨cu, (ht.block _ (lt_of_heap u1) ?_).trans u1, u2, u3⟩
  rintro (e | e | e)
  · exact ne_typ u1 (h.v k hk) (by decide) e
  · exact ne_typ u1 (h.r k hk) (by decide) e
  · exact ne_typ u1 hc (by decide) e
/-- only it and the document's turned; if it runs, it is as it was -/
theorem PW.turn (h : PW w0 w a x bk q D vr rr u) {k : Nat} (hk : k < 2) (ht : Trn (fun j => j = (bk k).V ∨ j = (bk k).Q) w w') {s : Int} {N : Nat → Int}
    (hv : VS w' (bk k).V (q k).g (bk k).F (q k).ix s (q k).c N) (hr : RV w' (bk k).Q (q k).g (q k).ix s (q k).c N) (hs : s = 1 ∨ s = 2 ∨ s = 3 ∨ s = 4) (h2 : s = 2 → (q k).s = 2 ∧ N = (q k).N) (hN : W18 N) : PW w0 w' a x bk (uq q k ⟨(q k).g, (q k).ix, s, (q k).c, N⟩) D vr rr u := by
  have t4 : Trn (tn a bk D k 0) w w' := ht.mono fun j _ e => e.elim .inl fun e => .inr (.inl e)
  refine h.step hk (by decide) t4 (v' := ⟨(q k).g, (q k).ix, s, (q k).c, N⟩) (h.mkeep hk (ht.mono fun j _ e => e.elim .inl fun e => .inr (.inl e))) hv hr (h.ukeep hk (i := 0) (by decide) (ht.mono fun j _ e => e.elim .inl fun e => .inr (.inl e))) hs (fun e => ?_) (fun l _ _ _ j _ => rfl) h.nu (fun l hl hn e1 e2 => ?_) (h.ng k hk) hN
  · obtain ⟨e2, rfl⟩ := h2 e
    obtain ⟨i, cb, q1, q2, q3, q4⟩ := h.on k hk e2
    exact ⟨i, cb, q1, q2, q3, (h.rest hk (by decide) t4).2.2.2.2.2.1 _ _ _ _ q4⟩
  · exact h.ap k l hk hl (Ne.symm hn) (h2 e1).1 e2
/-- what is used is told anew, of a core that one runs on -/
theorem PW.used (h : PW w0 w a x bk q D vr rr u) {k i : Nat} (hk : k < 2) (hi : i < 2) (h2 : (q k).s = 2) (hc : (q k).c = i) (z : Int) (hz : z ≠ 0) : PW w0 (w.setCell ⟨D, i, none⟩ (.int .i64 z)) a x bk q D vr rr (uu u i z) := by
  obtain ⟨cu, u1, u2, u3⟩ := h.us
  have t := trn_set1 u1 i (.int .i64 z)
  have t4 : Trn (tn a bk D k 0) w (w.setCell ⟨D, i, none⟩ (.int .i64 z)) := t.mono fun j _ e => .inr (.inr (.inr e))
  have e0 : uq q k (q k) = q := by
    funext j
    unfold uq
    split
    · rename_i e; rw [e]
    · rfl
  have := h.step hk (by decide) t4 (v' := q k) (x' := x) (u' := uu u i z) (h.mkeep hk (t.mono fun j _ e => .inr (.inr e))) ((h.v k hk).keep (t.block _ (h.v k hk).lt (ne_typ (h.v k hk) u1 (by decide)))) ((h.r k hk).keep (t.block _ (h.r k hk).lt (ne_typ (h.r k hk) u1 (by decide)))) ⟨_, heap_setCell u1 i _, by simpa using u2, fun j hj => ?_⟩ (h.st k hk) (fun e => ?_) (fun l _ _ _ j _ => rfl) (fun j hj => ?_) (fun l hl hn e1 e2 => h.ap k l hk hl (Ne.symm hn) e1 e2) (h.ng k hk) (h.wN k hk)
  · rw [e0] at this
    exact this
  · rw [Array.getElem?_setIfInBounds]
    unfold uu
    by_cases e : j = i
    · subst e; rw [if_pos rfl, if_pos (by omega), if_pos rfl]
    · rw [if_neg (Ne.symm e), if_neg e]; exact u3 j hj
  · obtain ⟨i', cb, q1, q2, q3, q4⟩ := h.on k hk e
    exact ⟨i', cb, q1, q2, q3, (h.rest hk (by decide) t4).2.2.2.2.2.1 _ _ _ _ q4⟩
  · unfold uu
    by_cases e : j = i
    · subst e
      rw [if_pos rfl]
      obtain ⟨i', cb, q1, q2, q3, q4⟩ := h.on k hk h2
      have : i' = j := by omega
      subst this
      exact ⟨fun e => absurd e hz, fun _ => ⟨cb, q3⟩⟩
    · rw [if_neg e]; exact h.nu j hj
/-- it has entered -/
theorem PW.enter (h : PW w0 w a x bk q D vr rr u) {k i : Nat} (hk : k < 2) (hi : i < 2) (ht : Trn (tn a bk D k i) w w') {cb : Nat} {z : Int} (hz : z ≠ 0)
    (hm : MS w' a.M a.mb a.cr 2 2 a.o (tx x i (.pointer (some ⟨cb, 0, none⟩)))) (hc : CX w' cb (q k).g (q k).N (bk k).F) (hv : VS w' (bk k).V (q k).g (bk k).F (q k).ix 2 i (q k).N) (hr : RV w' (bk k).Q (q k).g (q k).ix 2 i (q k).N)
    (hu : ∃ cs, w'.heap[D]? = some (.cells cs 37 (0, 0)) ∧ cs.size = 2 ∧ ∀ j, j < 2 → cs[j]? = some (.int .i64 (uu u i z j))) (hx : x i = .pointer none) : PW w0 w' a (tx x i (.pointer (some ⟨cb, 0, none⟩))) bk (uq q k ⟨(q k).g, (q k).ix, 2, i, (q k).N⟩) D vr rr (uu u i z) := by
  have no : ∀ l, l < 2 → (q l).s = 2 → ∀ j : Nat, (q l).c = j → j ≠ i := fun l hl e j hj e' => by
    obtain ⟨i', cb', q1, q2, q3, q4⟩ := h.on l hl e
    have : i' = i := by omega
    subst this
    rw [hx] at q3
    cases q3
  refine h.step hk hi ht (v' := ⟨(q k).g, (q k).ix, 2, i, (q k).N⟩) hm hv hr hu (.inr (.inl rfl)) (fun _ => ⟨i, cb, hi, rfl, by simp [tx], hc⟩) (fun l hl hn e j hj => by simp [tx, no l hl e j hj]) (fun j hj => ?_) (fun l hl hn _ e2 => ?_) (h.ng k hk) (h.wN k hk)
  · unfold uu tx
    by_cases e : j = i
    · rw [if_pos e, if_pos e]
      exact ⟨fun e => absurd e hz, fun _ => ⟨cb, rfl⟩⟩
    · rw [if_neg e, if_neg e]; exact h.nu j hj
  · obtain ⟨i', cb', q1, q2, q3, q4⟩ := h.on l hl e2
    have := no l hl e2 i' q2
    show (i : Int) ≠ _
    omega
/-- it has left -/
theorem PW.leave (h : PW w0 w a x bk q D vr rr u) {k i : Nat} (hk : k < 2) (hi : i < 2) (h2 : (q k).s = 2) (hci : (q k).c = i) (ht : Trn (tn a bk D k i) w w')
    (hm : MS w' a.M a.mb a.cr 2 2 a.o (tx x i (.pointer none))) (hv : VS w' (bk k).V (q k).g (bk k).F (q k).ix 1 (-1) (q k).N) (hr : RV w' (bk k).Q (q k).g (q k).ix 1 (-1) (q k).N)
    (hu : ∃ cs, w'.heap[D]? = some (.cells cs 37 (0, 0)) ∧ cs.size = 2 ∧ ∀ j, j < 2 → cs[j]? = some (.int .i64 (uu u i 0 j))) : PW w0 w' a (tx x i (.pointer none)) bk (uq q k ⟨(q k).g, (q k).ix, 1, -1, (q k).N⟩) D vr rr (uu u i 0) := by
  refine h.step hk hi ht (v' := ⟨(q k).g, (q k).ix, 1, -1, (q k).N⟩) hm hv hr hu (.inl rfl) (fun e => by cases e) (fun l hl hn e j hj => ?_) (fun j hj => ?_) (fun l hl hn e _ => by cases e) (h.ng k hk) (h.wN k hk)
  · have := h.ap k l hk hl (Ne.symm hn) h2 e
    have : j ≠ i := fun e' => by subst e'; exact this (hci.trans hj.symm)
    simp [tx, this]
  · unfold uu tx
    by_cases e : j = i
    · rw [if_pos e, if_pos e]
      exact ⟨fun _ => rfl, fun e => absurd rfl e⟩
    · rw [if_neg e, if_neg e]; exact h.nu j hj
end
end Go.Proofs.Ytjkaeclemflifaa
