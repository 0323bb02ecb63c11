/-
  The law's own Enter on both: enters.
-/
import Derived.Test.YtjkaeclemflifaaPb
namespace Go.Proofs.Ytjkaeclemflifaa
open Go.RowKit
set_option linter.unusedVariables false
set_option maxRecDepth 100000
section
variable {w0 w w' : World} {a : Mn} {x : Nat → Value} {bk : Nat → Bk} {q : Nat → Vq} {D vr rr : Nat} {u : Nat → Int}
set_option maxHeartbeats 1600000 in
theorem enters_no (h : PW w0 w a x bk q D vr rr u) {k : Nat} (hk : k < 2) (core : Int) (cs : Array Value) (hcs : cs.size = 2 ∧ ∀ i, i < 2 → cs[i]? = some (.int .i64 (u i))) (hno : (q k).s ≠ 1 ∨ core < 0 ∨ 2 ≤ core ∨ ∃ i : Nat, i < 2 ∧ core = i ∧ u i ≠ 0) :
    Calls Try.prog 16 #[.pointer (some ⟨a.M, 0, none⟩), .pointer (some ⟨(bk k).V, 0, none⟩), .pointer (some ⟨(bk k).Q, 0, none⟩), .int .i64 core, .agg cs] w fun e w' => e = .returned (.bool true) ∧ Below w.heap.size w w' := by
  have b0 := below_box w (.cells cs 37)
  have n0 := heap_alloc_at w (.cells cs 37)
  have h0 := h.below b0
  have HB : Hid (_) := b0
  have HN : Hid (_) := n0
  have HR : Hid (_) := h0.r k hk
  by_cases hs : (q k).s = 1
  · have hv := h0.v k hk
    rw [hs] at hv
    by_cases hc : core < 0 ∨ 2 ≤ core
    · have C1 := enter_arg h0.m hv core (by omega)
      clear h h0 b0 n0 hv hno
      go_enter Try.func16, Try.ntmps16
      go_wp2_with fail
      generalize w.alloc (.cells cs 37) = y at *
      refine C1.mono ?_
      rintro e z ⟨rfl, hz⟩
      have r2 := (RV.below HR.out hz).c2
      rw [hs] at r2
      have rl := (RV.below HR.out hz).lt
      have HZ : Hid (Below w.heap.size w z) := HB.out.trans (hz.mono HB.out.size)
      clear C1 hz HB HN HR
      rcases hc with hc | hc
      · go_wp2_with fail
        go_ret
        exact ⟨rfl, HZ.out⟩
      · have hc0 : ¬ core < 0 := by omega
        go_wp2_with fail
        go_ret
        exact ⟨rfl, HZ.out⟩
    · obtain ⟨i, hi, rfl, hu⟩ : ∃ i : Nat, i < 2 ∧ core = i ∧ u i ≠ 0 := by
        rcases hno with e | e | e | e
        · exact absurd hs e
        · omega
        · omega
        · exact e
      obtain ⟨cb, hx⟩ := (h.nu i hi).2 hu
      obtain ⟨R, hf⟩ := h0.f k hk
      have C1 := enter_there h0.m hv hf (by decide) (by decide) (h.ng k hk) i hi cb hx
      clear h h0 b0 n0 hv hno hf
      go_enter Try.func16, Try.ntmps16
      go_wp2_with fail
      generalize w.alloc (.cells cs 37) = y at *
      refine C1.mono ?_
      rintro e z ⟨rfl, hz⟩
      have r2 := (RV.below HR.out hz).c2
      rw [hs] at r2
      have rl := (RV.below HR.out hz).lt
      have HZ : Hid (Below w.heap.size w z) := HB.out.trans (hz.mono HB.out.size)
      have q1 := (cell_at (keepB HN.out hz) i).trans (hcs.2 i hi)
      have ql := lt_of_heap (keepB HN.out hz)
      have i0 : (0 : Int) ≤ i := by omega
      have i1 : (i : Int) ≤ 1 := by omega
      clear C1 hz HB HN HR hc
      go_wp2_with fail
      go_ret
      exact ⟨rfl, HZ.out⟩
  · have C1 := enter_state h0.m (h0.v k hk) hs (.int .i64 core) (.int .i64 0)
    generalize (q k).s = s at *
    clear h h0 b0 n0 hno
    go_enter Try.func16, Try.ntmps16
    go_wp2_with fail
    generalize w.alloc (.cells cs 37) = y at *
    refine C1.mono ?_
    rintro e z ⟨rfl, hz⟩
    have r2 := (RV.below HR.out hz).c2
    have rl := (RV.below HR.out hz).lt
    have HZ : Hid (Below w.heap.size w z) := HB.out.trans (hz.mono HB.out.size)
    clear C1 hz HB HN HR
    go_wp2_with fail
    go_ret
    exact ⟨rfl, HZ.out⟩
set_option maxHeartbeats 1600000 in
theorem enters_yes (h : PW w0 w a x bk q D vr rr u) {k : Nat} (hk : k < 2) (cs : Array Value) (hcs : cs.size = 2 ∧ ∀ i, i < 2 → cs[i]? = some (.int .i64 (u i))) (hs : (q k).s = 1) (i : Nat) (hi : i < 2) (hu : u i = 0) :
    Calls Try.prog 16 #[.pointer (some ⟨a.M, 0, none⟩), .pointer (some ⟨(bk k).V, 0, none⟩), .pointer (some ⟨(bk k).Q, 0, none⟩), .int .i64 i, .agg cs] w fun e w' => e = .returned (.bool true) ∧ (∃ cb, CX w' cb (q k).g (q k).N (bk k).F ∧ MS w' a.M a.mb a.cr 2 2 a.o (tx x i (.pointer (some ⟨cb, 0, none⟩)))) ∧ VS w' (bk k).V (q k).g (bk k).F (q k).ix 2 i (q k).N ∧ RV w' (bk k).Q (q k).g (q k).ix 2 i (q k).N ∧ Trn (fun j => j = (bk k).V ∨ j = (bk k).Q ∨ j = a.o i) w w' := by
  have b0 := below_box w (.cells cs 37)
  have n0 := heap_alloc_at w (.cells cs 37)
  have h0 := h.below b0
  have HB : Hid (_) := b0
  have HN : Hid (_) := n0
  have hv := h0.v k hk
  rw [hs] at hv
  have hr0 := h0.r k hk
  rw [hs] at hr0
  have HR : Hid (RV (w.alloc (.cells cs 37)) (bk k).Q (q k).g (q k).ix 1 (q k).c (q k).N ∧ VS (w.alloc (.cells cs 37)) (bk k).V (q k).g (bk k).F (q k).ix 1 (q k).c (q k).N ∧ MS (w.alloc (.cells cs 37)) a.M a.mb a.cr 2 2 a.o x) := ⟨hr0, hv, h0.m⟩
  have hx := (h.nu i hi).1 hu
  obtain ⟨R, hf⟩ := h0.f k hk
  have C1 := enter_yes h0.m hv hf (by decide) (by decide) (h.ng k hk) i hi hx
  clear h h0 b0 n0 hv hf hr0
  go_enter Try.func16, Try.ntmps16
  go_wp2_with fail
  generalize w.alloc (.cells cs 37) = y at *
  refine C1.mono ?_
  rintro e z ⟨rfl, ⟨cb, _, hc, hm⟩, hv, ht⟩
  obtain ⟨os, ho⟩ := (HR.out.2.2.co i hi).ob
  have nQ : ¬ ((bk k).Q = (bk k).V ∨ (bk k).Q = a.o i) := by
    rintro (e | e)
    · exact ne_typ HR.out.1 HR.out.2.1 (by decide) e
    · exact ne_typ HR.out.1 ho (by decide) e
  have nB : ¬ (w.heap.size = (bk k).V ∨ w.heap.size = a.o i) := by
    rintro (e | e)
    · exact ne_typ HN.out HR.out.2.1 (by decide) e
    · exact ne_typ HN.out ho (by decide) e
  have hr := RV.keep HR.out.1 (ht.block _ (RV.lt HR.out.1) nQ)
  have kb := (ht.block _ (lt_of_heap HN.out) nB).trans HN.out
  have r2 := hr.c2
  have r3 := hr.c3
  have rl := hr.lt
  have g2 := fz_at hr 2
  have g3 := fz_at hr 3
  have q1 := (cell_at kb i).trans (hcs.2 i hi)
  rw [hu] at q1
  have ql := lt_of_heap kb
  have i0 : (0 : Int) ≤ i := by omega
  have i1 : (i : Int) ≤ 1 := by omega
  have e1 := hr.setS 2
  have e2 := e1.1.setC i
  have t2 := e1.2.trans e2.2
  have HF : Hid ((∃ cb, CX ((z.setCell ⟨(bk k).Q, 2, none⟩ (.int .i64 2)).setCell ⟨(bk k).Q, 3, none⟩ (.int .i64 i)) cb (q k).g (q k).N (bk k).F ∧ MS ((z.setCell ⟨(bk k).Q, 2, none⟩ (.int .i64 2)).setCell ⟨(bk k).Q, 3, none⟩ (.int .i64 i)) a.M a.mb a.cr 2 2 a.o (tx x i (.pointer (some ⟨cb, 0, none⟩)))) ∧ VS ((z.setCell ⟨(bk k).Q, 2, none⟩ (.int .i64 2)).setCell ⟨(bk k).Q, 3, none⟩ (.int .i64 i)) (bk k).V (q k).g (bk k).F (q k).ix 2 i (q k).N ∧ RV ((z.setCell ⟨(bk k).Q, 2, none⟩ (.int .i64 2)).setCell ⟨(bk k).Q, 3, none⟩ (.int .i64 i)) (bk k).Q (q k).g (q k).ix 2 i (q k).N ∧ Trn (fun j => j = (bk k).V ∨ j = (bk k).Q ∨ j = a.o i) w ((z.setCell ⟨(bk k).Q, 2, none⟩ (.int .i64 2)).setCell ⟨(bk k).Q, 3, none⟩ (.int .i64 i))) := by
    refine ⟨⟨cb, (t2.block _ (lt_of_heap hc) (ne_typ hc hr (by decide))).trans hc, hm.keep fun j hj ho => t2.block j hj fun e => hm.apart hr (by decide) (by decide) (by decide) (by decide) (e ▸ ho)⟩, hv.keep (t2.block _ hv.lt (ne_typ hv hr (by decide))), e2.1, ((Trn.of_below HB.out).trans (ht.mono fun j _ e => e.elim .inl fun e => .inr (.inr e))).trans (t2.mono fun j _ e => .inr (.inl e))⟩
  clear C1 hc hm hv ht nQ nB hr kb e1 e2 t2 HB HN HR ho
  go_wp2_with fail
  go_ret
  exact ⟨rfl, HF.out⟩
end
end Go.Proofs.Ytjkaeclemflifaa
