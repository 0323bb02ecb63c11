/-
  What each call of the law leaves of two virtual processors beside the document's.
-/
import Derived.Test.YtjkaeclemflifaaPc
import Derived.Test.YtjkaeclemflifaaOa
import Derived.Test.YtjkaeclemflifaaIw
namespace Go.Proofs.Ytjkaeclemflifaa
open Go.RowKit
set_option linter.unusedVariables false
set_option maxRecDepth 100000
theorem eqg40' : Try.prog.eqGuardType Try.prog.depth 40 = false := by kernel_rfl
def bk2 (b c : Bk) : Nat → Bk := fun k => if k = 0 then b else c
def q2 (v v' : Vq) : Nat → Vq := fun k => if k = 0 then v else v'
/-- what is made ahead of the calls -/
theorem pw_new {w0 w : World} {a : Mn} {D vr rr : Nat} {b c : Bk} {g g' ix pc : Int} (m : MS w a.M a.mb a.cr 2 2 a.o (fun _ => .pointer none)) (v0 : VS w b.V g b.F ix 1 (-1) (newN pc)) (v1 : VS w c.V g' c.F ix 1 (-1) (newN 0)) {R R' : Nat → Int} (f0 : FF w b.F R) (f1 : FF w c.F R')
    (r0 : RV w b.Q g ix 1 (-1) (newN pc)) (r1 : RV w c.Q g' ix 1 (-1) (newN 0)) (pv : w.heap[vr]? = some (.cells #[.pointer (some ⟨b.V, 0, none⟩), .pointer (some ⟨c.V, 0, none⟩)] 27 (0, 0))) (pr : w.heap[rr]? = some (.cells #[.pointer (some ⟨b.Q, 0, none⟩), .pointer (some ⟨c.Q, 0, none⟩)] 31 (0, 0)))
    (us : w.heap[D]? = some (.cells #[.int .i64 0, .int .i64 0] 37 (0, 0))) (vn : b.V ≠ c.V) (qn : b.Q ≠ c.Q) (hg : 0 ≤ g) (hg' : 0 ≤ g') (hpc : U pc) (bl : Below w0.heap.size w0 w) (wb : w0.heap.size ≤ b.V ∧ w0.heap.size ≤ c.V ∧ w0.heap.size ≤ b.Q ∧ w0.heap.size ≤ c.Q ∧ w0.heap.size ≤ D) (wo : ∀ k, a.own 2 k → w0.heap.size ≤ k) :
    PW w0 w a (fun _ => .pointer none) (bk2 b c) (q2 ⟨g, ix, 1, -1, newN pc⟩ ⟨g', ix, 1, -1, newN 0⟩) D vr rr (fun _ => 0) := by
  have two : ∀ k, k < 2 → k = 0 ∨ k = 1 := fun k h => by omega
  obtain ⟨w1, w2, w3, w4, w5⟩ := wb
  refine ⟨m, fun k hk => ?_, fun k hk => ?_, fun k hk => ?_, ⟨_, pv, fun k hk => ?_⟩, ⟨_, pr, fun k hk => ?_⟩, ⟨_, us, rfl, fun k hk => ?_⟩, fun k hk e => ?_, fun k hk => ?_, fun i hi => ⟨fun _ => rfl, fun e => absurd rfl e⟩, fun k l hk hl hn e => ?_, fun k l hk hl hn => ?_, fun k l hk hl hn => ?_, fun k hk => ?_, fun k hk => ?_, bl, fun k hk => ?_, fun k hk => ?_, w5, wo⟩
  · rcases two k hk with rfl | rfl
    · exact v0
    · exact v1
  · rcases two k hk with rfl | rfl
    · exact ⟨_, f0⟩
    · exact ⟨_, f1⟩
  · rcases two k hk with rfl | rfl
    · exact r0
    · exact r1
  · rcases two k hk with rfl | rfl <;> rfl
  · rcases two k hk with rfl | rfl <;> rfl
  · rcases two k hk with rfl | rfl <;> rfl
  · rcases two k hk with rfl | rfl <;> cases e
  · rcases two k hk with rfl | rfl <;> exact .inl rfl
  · rcases two k hk with rfl | rfl <;> cases e
  · rcases two k hk with rfl | rfl <;> rcases two l hl with rfl | rfl
    · exact absurd rfl hn
    · exact vn
    · exact vn.symm
    · exact absurd rfl hn
  · rcases two k hk with rfl | rfl <;> rcases two l hl with rfl | rfl
    · exact absurd rfl hn
    · exact qn
    · exact qn.symm
    · exact absurd rfl hn
  · rcases two k hk with rfl | rfl
    · exact hg
    · exact hg'
  · rcases two k hk with rfl | rfl
    · exact newN_w hpc
    · exact newN_w ⟨by decide, by decide⟩
  · rcases two k hk with rfl | rfl
    · exact w1
    · exact w2
  · rcases two k hk with rfl | rfl
    · exact w3
    · exact w4
theorem inf42 : (Try.prog.info? 42).map (·.size) = some 21 := by kernel_rfl
theorem inf37 : (Try.prog.info? 37).map (·.size) = some 2 := by kernel_rfl
theorem acA_one (x : Ac) : (acA x).all (·.oneCell') = true := by simp [acA, Value.oneCell']
def zeroAc : Array Value := acA ⟨0, 0, 0, fun _ => 0⟩
theorem zeroAc_eq : zeroAc = #[.int .i64 0, .int .i64 0, .int .i64 0, .int .u64 0, .int .u64 0, .int .u64 0, .int .u64 0, .int .u64 0, .int .u64 0, .int .u64 0, .int .u64 0, .int .u64 0, .int .u64 0, .int .u64 0, .int .u64 0, .int .u64 0, .int .u64 0, .int .u64 0, .int .u64 0, .int .u64 0, .int .i64 0] := by simp [zeroAc, acA, s64, wrap64]
theorem ac_rg {w : World} {A : Nat} {x : Ac} (h : w.heap[A]? = some (.cells (acA x) 42 (0, 0))) : w.rangeAt A 3 (upA x.N).toList := fun j v hv => by
  have hv' : (upA x.N)[j]? = some v := by simpa using hv
  have hj : j < 18 := (Array.getElem?_eq_some_iff.1 hv').1
  rw [cell_at h, ← hv']
  match j, hj with
  | 0, _ | 1, _ | 2, _ | 3, _ | 4, _ | 5, _ | 6, _ | 7, _ | 8, _ | 9, _ | 10, _ | 11, _ | 12, _ | 13, _ | 14, _ | 15, _ | 16, _ | 17, _ => rfl
  | k + 18, h => omega
section
variable {w0 w w' : World} {a : Mn} {x : Nat → Value} {bk : Nat → Bk} {q : Nat → Vq} {D vr rr : Nat} {u : Nat → Int}
theorem PW.rows (h : PW w0 w a x bk q D vr rr u) {k : Nat} (hk : k < 2) : w.cell? ⟨vr, k, none⟩ = some (.pointer (some ⟨(bk k).V, 0, none⟩)) ∧ w.cell? ⟨rr, k, none⟩ = some (.pointer (some ⟨(bk k).Q, 0, none⟩)) := by
  obtain ⟨cv, v1, v2⟩ := h.pv
  obtain ⟨cr, r1, r2⟩ := h.pr
  exact ⟨(cell_at v1 k).trans (v2 k hk), (cell_at r1 k).trans (r2 k hk)⟩
theorem PW.rowsT (h : PW w0 w a x bk q D vr rr u) {k i : Nat} (hk : k < 2) (hi : i < 2) (ht : Trn (tn a bk D k i) w w') : w'.cell? ⟨vr, k, none⟩ = some (.pointer (some ⟨(bk k).V, 0, none⟩)) ∧ w'.cell? ⟨rr, k, none⟩ = some (.pointer (some ⟨(bk k).Q, 0, none⟩)) := by
  obtain ⟨_, _, _, ⟨cv, v1, v2⟩, ⟨cr, r1, r2⟩, _, _⟩ := h.rest hk hi ht
  exact ⟨(cell_at v1 k).trans (v2 k hk), (cell_at r1 k).trans (r2 k hk)⟩
theorem PW.rowsV (h : PW w0 w a x bk q D vr rr u) {k : Nat} (hk : k < 2) (ht : Trn (fun j => j = (bk k).V) w w') : w'.cell? ⟨vr, k, none⟩ = some (.pointer (some ⟨(bk k).V, 0, none⟩)) ∧ w'.cell? ⟨rr, k, none⟩ = some (.pointer (some ⟨(bk k).Q, 0, none⟩)) := h.rowsT hk (i := 0) (by decide) (ht.mono fun j _ e => .inl e)
theorem PW.rowsVQ (h : PW w0 w a x bk q D vr rr u) {k : Nat} (hk : k < 2) {y : World} (ht : Trn (fun j => j = (bk k).V) w y) (ht' : Trn (fun j => j = (bk k).Q) y w') : w'.cell? ⟨vr, k, none⟩ = some (.pointer (some ⟨(bk k).V, 0, none⟩)) ∧ w'.cell? ⟨rr, k, none⟩ = some (.pointer (some ⟨(bk k).Q, 0, none⟩)) := h.rowsT hk (i := 0) (by decide) ((ht.mono fun j _ e => .inl e).trans (ht'.mono fun j _ e => .inr (.inl e)))
theorem PW.rAt (h : PW w0 w a x bk q D vr rr u) {k : Nat} (hk : k < 2) (ht : Trn (fun j => j = (bk k).V) w w') : RV w' (bk k).Q (q k).g (q k).ix (q k).s (q k).c (q k).N := (h.r k hk).keep (ht.block _ (h.r k hk).lt (ne_typ (h.r k hk) (h.v k hk) (by decide)))
theorem PW.rCore (h : PW w0 w a x bk q D vr rr u) {k i : Nat} (hk : k < 2) (hi : i < 2) (ht : Trn (fun j => j = (bk k).V ∨ j = a.o i) w w') : RV w' (bk k).Q (q k).g (q k).ix (q k).s (q k).c (q k).N := by
  obtain ⟨cs, hc⟩ := (h.m.co i hi).ob
  refine (h.r k hk).keep (ht.block _ (h.r k hk).lt ?_)
  rintro (e | e)
  · exact ne_typ (h.r k hk) (h.v k hk) (by decide) e
  · exact ne_typ (h.r k hk) hc (by decide) e
theorem rrQ (h : PW w0 w a x bk q D vr rr u) {k : Nat} (hk : k < 2) : rr ≠ (bk k).Q := by
  obtain ⟨cr, r1, r2⟩ := h.pr
  exact ne_typ r1 (h.r k hk) (by decide)
theorem PW.rowsQ (h : PW w0 w a x bk q D vr rr u) {k : Nat} (hk : k < 2) {y : World} (hS : y.cell? ⟨vr, k, none⟩ = some (.pointer (some ⟨(bk k).V, 0, none⟩)) ∧ y.cell? ⟨rr, k, none⟩ = some (.pointer (some ⟨(bk k).Q, 0, none⟩))) (ht : Trn (fun j => j = (bk k).Q) y w') : w'.cell? ⟨vr, k, none⟩ = some (.pointer (some ⟨(bk k).V, 0, none⟩)) ∧ w'.cell? ⟨rr, k, none⟩ = some (.pointer (some ⟨(bk k).Q, 0, none⟩)) := by
  obtain ⟨cv, v1, v2⟩ := h.pv
  exact ⟨(World.cell?_of_block (ht.block vr (lt_cell hS.1) (ne_typ v1 (h.r k hk) (by decide)))).trans hS.1, (World.cell?_of_block (ht.block rr (lt_cell hS.2) (rrQ h hk))).trans hS.2⟩
theorem PW.akeep (h : PW w0 w a x bk q D vr rr u) {k i : Nat} (hk : k < 2) (hi : i < 2) (ht : Trn (tn a bk D k i) w w') {A : Nat} {cs : Array Value} (ha : w.heap[A]? = some (.cells cs 42 (0, 0))) : w'.heap[A]? = some (.cells cs 42 (0, 0)) := by
  obtain ⟨cu, u1, u2⟩ := h.us
  obtain ⟨os, hc⟩ := (h.m.co i hi).ob
  refine (ht.block _ (lt_of_heap ha) ?_).trans ha
  rintro (e | e | e | e)
  · exact ne_typ ha (h.v k hk) (by decide) e
  · exact ne_typ ha (h.r k hk) (by decide) e
  · exact ne_typ ha hc (by decide) e
  · exact ne_typ ha u1 (by decide) e
theorem PW.akeepV (h : PW w0 w a x bk q D vr rr u) {k : Nat} (hk : k < 2) (ht : Trn (fun j => j = (bk k).V) w w') {A : Nat} {cs : Array Value} (ha : w.heap[A]? = some (.cells cs 42 (0, 0))) : w'.heap[A]? = some (.cells cs 42 (0, 0)) := h.akeep hk (i := 0) (by decide) (ht.mono fun j _ e => .inl e) ha
theorem PW.dkeep (h : PW w0 w a x bk q D vr rr u) {k i : Nat} (hk : k < 2) (hi : i < 2) (ht : Trn (fun j => j = (bk k).V ∨ j = (bk k).Q ∨ j = a.o i) w w') {cs : Array Value} (hu : w.heap[D]? = some (.cells cs 37 (0, 0))) : w'.heap[D]? = some (.cells cs 37 (0, 0)) := by
  obtain ⟨os, hc⟩ := (h.m.co i hi).ob
  refine (ht.block _ (lt_of_heap hu) ?_).trans hu
  rintro (e | e | e)
  · exact ne_typ hu (h.v k hk) (by decide) e
  · exact ne_typ hu (h.r k hk) (by decide) e
  · exact ne_typ hu hc (by decide) e
theorem setS_ok {kd s : Int} (hs : s = 1 ∨ s = 2 ∨ s = 3 ∨ s = 4) (hkd : kd = 0 ∨ kd = 1 ∨ kd = 2) : (setS kd s = 1 ∨ setS kd s = 2 ∨ setS kd s = 3 ∨ setS kd s = 4) ∧ (setS kd s = 2 → s = 2) := by
  rcases hs with rfl | rfl | rfl | rfl <;> rcases hkd with rfl | rfl | rfl <;> decide
theorem PW.acted (h : PW w0 w a x bk q D vr rr u) {k : Nat} (hk : k < 2) (kd : Int) (hkd : kd = 0 ∨ kd = 1 ∨ kd = 2) {y : World} (v1 : VS y (bk k).V (q k).g (bk k).F (q k).ix (setS kd (q k).s) (q k).c (q k).N) (t1 : Trn (fun j => j = (bk k).V) w y)
    (r2 : RV w' (bk k).Q (q k).g (q k).ix (setS kd (q k).s) (q k).c (q k).N) (t2 : Trn (fun j => j = (bk k).Q) y w') : PW w0 w' a x bk (uq q k ⟨(q k).g, (q k).ix, setS kd (q k).s, (q k).c, (q k).N⟩) D vr rr u := by
  have r1 := h.rAt hk t1
  obtain ⟨o1, o2⟩ := setS_ok (h.st k hk) hkd
  exact h.turn hk ((t1.mono fun j _ e => .inl e).trans (t2.mono fun j _ e => .inr e)) (v1.keep (t2.block _ v1.lt (ne_typ v1 r1 (by decide)))) r2 o1 (fun e => ⟨o2 e, rfl⟩) (h.wN k hk)
theorem PW.doBlock (h : PW w0 w a x bk q D vr rr u) {k : Nat} (hk : k < 2) : Calls Try.prog 12 #[.pointer (some ⟨(bk k).V, 0, none⟩)] w fun e w' => e = .returned (.int .i64 (setE 0 (q k).s)) ∧ VS w' (bk k).V (q k).g (bk k).F (q k).ix (setS 0 (q k).s) (q k).c (q k).N ∧ Trn (fun j => j = (bk k).V) w w' := by
  have C := block_v (h.v k hk)
  have e : inE (isS 1 1 0 0 (q k).s) = setE 0 (q k).s ∧ (if isS 1 1 0 0 (q k).s = true then (3 : Int) else (q k).s) = setS 0 (q k).s := by
    rcases h.st k hk with e | e | e | e <;> rw [e] <;> decide
  rw [e.1, e.2] at C
  exact C
theorem PW.doWake (h : PW w0 w a x bk q D vr rr u) {k : Nat} (hk : k < 2) : Calls Try.prog 14 #[.pointer (some ⟨(bk k).V, 0, none⟩)] w fun e w' => e = .returned (.int .i64 (setE 1 (q k).s)) ∧ VS w' (bk k).V (q k).g (bk k).F (q k).ix (setS 1 (q k).s) (q k).c (q k).N ∧ Trn (fun j => j = (bk k).V) w w' := by
  have C := wake_v (h.v k hk)
  have e : inE (isS 1 3 0 0 (q k).s) = setE 1 (q k).s ∧ (if isS 1 3 0 0 (q k).s = true then (1 : Int) else (q k).s) = setS 1 (q k).s := by
    rcases h.st k hk with e | e | e | e <;> rw [e] <;> decide
  rw [e.1, e.2] at C
  exact C
theorem PW.doStop (h : PW w0 w a x bk q D vr rr u) {k : Nat} (hk : k < 2) : Calls Try.prog 15 #[.pointer (some ⟨(bk k).V, 0, none⟩)] w fun e w' => e = .returned (.int .i64 (setE 2 (q k).s)) ∧ VS w' (bk k).V (q k).g (bk k).F (q k).ix (setS 2 (q k).s) (q k).c (q k).N ∧ Trn (fun j => j = (bk k).V) w w' := by
  have C := stop_v (h.v k hk)
  have e : inE (isS 2 1 3 0 (q k).s) = setE 2 (q k).s ∧ (if isS 2 1 3 0 (q k).s = true then (4 : Int) else (q k).s) = setS 2 (q k).s := by
    rcases h.st k hk with e | e | e | e <;> rw [e] <;> decide
  rw [e.1, e.2] at C
  exact C
theorem us_set {y : World} {cs : Array Value} {i : Nat} (hi : i < 2) (z : Int) (n1 : y.heap[D]? = some (.cells cs 37 (0, 0))) (n2 : cs.size = 2) (n3 : ∀ i, i < 2 → cs[i]? = some (.int .i64 (u i))) :
    ∃ cs, (y.setCell ⟨D, i, none⟩ (.int .i64 z)).heap[D]? = some (.cells cs 37 (0, 0)) ∧ cs.size = 2 ∧ ∀ j, j < 2 → cs[j]? = some (.int .i64 (uu u i z j)) := by
  refine ⟨_, heap_setCell n1 i _, by simpa using n2, fun j hj => ?_⟩
  rw [Array.getElem?_setIfInBounds]
  unfold uu
  by_cases e : j = i
  · subst e; rw [if_pos rfl, if_pos (by omega), if_pos rfl]
  · rw [if_neg (Ne.symm e), if_neg e]; exact n3 j hj
theorem PW.entered (h : PW w0 w a x bk q D vr rr u) {k i : Nat} (hk : k < 2) (hi : i < 2) {y : World} (t4 : Trn (tn a bk D k i) w y) {cb : Nat} {z : Int} (hz : z ≠ 0) (m1 : MS y a.M a.mb a.cr 2 2 a.o (tx x i (.pointer (some ⟨cb, 0, none⟩)))) (c1 : CX y cb (q k).g (q k).N (bk k).F)
    (v1 : VS y (bk k).V (q k).g (bk k).F (q k).ix 2 i (q k).N) (r1 : RV y (bk k).Q (q k).g (q k).ix 2 i (q k).N) (hu : ∃ cs, y.heap[D]? = some (.cells cs 37 (0, 0)) ∧ cs.size = 2 ∧ ∀ i, i < 2 → cs[i]? = some (.int .i64 (u i))) (hx : x i = .pointer none) :
    PW w0 (y.setCell ⟨D, i, none⟩ (.int .i64 z)) a (tx x i (.pointer (some ⟨cb, 0, none⟩))) bk (uq q k ⟨(q k).g, (q k).ix, 2, i, (q k).N⟩) D vr rr (uu u i z) := by
  obtain ⟨cs, n1, n2, n3⟩ := hu
  have t := trn_set1 n1 i (.int .i64 z)
  exact h.enter hk hi (t4.trans (t.mono fun j _ e => .inr (.inr (.inr e)))) hz (m1.keep fun j hj ho => t.block j hj fun e => m1.apart n1 (by decide) (by decide) (by decide) (by decide) (e ▸ ho)) ((t.block _ (lt_of_heap c1) (ne_typ c1 n1 (by decide))).trans c1) (v1.keep (t.block _ v1.lt (ne_typ v1 n1 (by decide)))) (r1.keep (t.block _ r1.lt (ne_typ r1 n1 (by decide)))) (us_set hi z n1 n2 n3) hx
theorem PW.left (h : PW w0 w a x bk q D vr rr u) {k i : Nat} (hk : k < 2) (hi : i < 2) (h2 : (q k).s = 2) (hci : (q k).c = i) {y : World} (t4 : Trn (tn a bk D k i) w y) (m1 : MS y a.M a.mb a.cr 2 2 a.o (tx x i (.pointer none)))
    (v1 : VS y (bk k).V (q k).g (bk k).F (q k).ix 1 (-1) (q k).N) (r1 : RV y (bk k).Q (q k).g (q k).ix 2 i (q k).N) (hu : ∃ cs, y.heap[D]? = some (.cells cs 37 (0, 0)) ∧ cs.size = 2 ∧ ∀ i, i < 2 → cs[i]? = some (.int .i64 (u i))) :
    PW w0 (((y.setCell ⟨D, i, none⟩ (.int .i64 0)).setCell ⟨(bk k).Q, 2, none⟩ (.int .i64 1)).setCell ⟨(bk k).Q, 3, none⟩ (.int .i64 (-1))) a (tx x i (.pointer none)) bk (uq q k ⟨(q k).g, (q k).ix, 1, -1, (q k).N⟩) D vr rr (uu u i 0) := by
  obtain ⟨cs, n1, n2, n3⟩ := hu
  have t := trn_set1 n1 i (.int .i64 0)
  have r2 := r1.keep (t.block _ r1.lt (ne_typ r1 n1 (by decide)))
  have r3 := r2.setS 1
  have r4 := r3.1.setC (-1)
  have t34 := r3.2.trans r4.2
  have m2 := m1.keep fun j hj ho => t.block j hj fun e => m1.apart n1 (by decide) (by decide) (by decide) (by decide) (e ▸ ho)
  have v2 := v1.keep (t.block _ v1.lt (ne_typ v1 n1 (by decide)))
  obtain ⟨cs', p1, p2⟩ := us_set hi 0 n1 n2 n3
  refine h.leave hk hi h2 hci ((t4.trans (t.mono fun j _ e => .inr (.inr (.inr e)))).trans (t34.mono fun j _ e => .inr (.inl e))) (m2.keep fun j hj ho => t34.block j hj fun e => m2.apart r2 (by decide) (by decide) (by decide) (by decide) (e ▸ ho)) (v2.keep (t34.block _ v2.lt (ne_typ v2 r2 (by decide)))) r4.1 ⟨cs', (t34.block _ (lt_of_heap p1) (ne_typ p1 r2 (by decide))).trans p1, p2⟩
theorem PW.regsSet (h : PW w0 w a x bk q D vr rr u) {k : Nat} (hk : k < 2) (hs : (q k).s ≠ 2) {N' : Nat → Int} (hN : W18 N') {y y2 : World} (v1 : VS y (bk k).V (q k).g (bk k).F (q k).ix (q k).s (q k).c (al N')) (t1 : Trn (fun j => j = (bk k).V) w y) (r2 : RV y2 (bk k).Q (q k).g (q k).ix (q k).s (q k).c N') (t2 : Trn (fun j => j = (bk k).Q) y.drew y2) :
    PW w0 ((y2.setCell ⟨(bk k).Q, 4, none⟩ (.int .u64 0)).setCell ⟨(bk k).Q, 21, none⟩ (.int .i64 (bits .and .i64 (s64 (N' 17)) 1))) a x bk (uq q k ⟨(q k).g, (q k).ix, (q k).s, (q k).c, al N'⟩) D vr rr u := by
  have r1 := h.rAt hk t1
  obtain ⟨r3, t3⟩ := r2.allow hN
  have t23 := t2.trans t3
  have t1' : Trn (fun j => j = (bk k).V ∨ j = (bk k).Q) w y.drew := (t1.mono fun j _ e => .inl e).drew
  exact h.turn hk (t1'.trans (t23.mono fun j _ e => .inr e)) (VS.keep (w := y.drew) v1 (t23.block _ v1.lt (ne_typ v1 r1 (by decide)))) r3 (h.st k hk) (fun e => absurd e hs) (al_w hN)
end
end Go.Proofs.Ytjkaeclemflifaa
