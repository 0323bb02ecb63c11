/-
  What Alloc, Hold, Free, Move and Quota do.
-/
import Derived.Test.YtcnoonhcofnghaaPs
namespace Go.Proofs.Ytcnoonhcofnghaa
open Go.RowKit Go.ChangeMaps
set_option linter.unusedVariables false
set_option maxRecDepth 20000

section
variable {B : Nat} {w w' : World} {D : Nat} {S : Fs}
theorem quota_fx (h : FX B w D S) (o q : Int) (hq : q ≤ 9223372036854775807) : Calls Try.prog 20 #[.pointer (some ⟨D, 0, none⟩), .int .i64 o, .int .i64 q] w fun e w' => e = .returned (.int .i64 (quE o q)) ∧ FX B w' D (quS S o q) ∧ Tu Of B w w' := by
  obtain ⟨r, C, s, h⟩ := h
  have hl := h.ob.lt
  have M := made_fr h
  have O := isowner o w
  by_cases h1 : isO o
  · rw [decide_eq_true h1] at O
    by_cases h2 : 0 ≤ q
    · have e0 : quE o q = 0 := by unfold quE; rw [if_pos ⟨h1, h2⟩]
      obtain ⟨a, rfl⟩ : ∃ a : Nat, o = a := ⟨o.toNat, by have := h1.1; omega⟩
      have ha : (a : Int) < 17 := by have := h1.2; omega
      have fa := h.ob.fz (21 + a)
      have ca := h.ob.cq (k := a) (by omega)
      obtain ⟨o1, t1⟩ := h.ob.setQ (k := a) (by omega) q
      have HE : Hid (FX B (w.setCell ⟨D, 21 + a, none⟩ (.int .i64 q)) D (quS S a q) ∧ Tu Of B w (w.setCell ⟨D, 21 + a, none⟩ (.int .i64 q))) := by
        have hok := quS_ok h.ok (a : Int) q hq
        refine ⟨⟨r, C, s, ?_⟩, h.tuD t1⟩
        unfold quS at hok ⊢
        rw [if_pos e0] at hok ⊢
        exact ⟨o1.congr (fun _ _ => rfl) (fun _ _ => rfl), h.row.keep (t1.block r h.row.lt (Ne.symm h.ne)), fun i hi hc => (h.mp i hi hc).keep (t1.block _ (h.mp i hi hc).lt (h.mne hi hc).1), h.inj, h.s1, h.s2, hok, h.lo⟩
      rw [e0]
      clear h h1 o1 t1 e0
      go_enter Try.func20, Try.ntmps20
      go_wp2_with fail
      refine M.mono ?_
      rintro e w ⟨rfl, rfl⟩
      go_wp2_with fail
      refine O.mono ?_
      rintro e w ⟨rfl, rfl⟩
      go_wp2_with fail
      go_ret
      exact ⟨rfl, HE.out⟩
    · have e0 : quE o q = 2 := by unfold quE; rw [if_neg (fun e => h2 e.2)]
      have HE : Hid (FX B w D (quS S o q) ∧ Tu Of B w w) := by
        unfold quS
        rw [if_neg (by omega)]
        exact ⟨⟨r, C, s, h⟩, Tu.refl _ _ _⟩
      rw [e0]
      clear h h1 e0
      go_enter Try.func20, Try.ntmps20
      go_wp2_with fail
      refine M.mono ?_
      rintro e w ⟨rfl, rfl⟩
      go_wp2_with fail
      refine O.mono ?_
      rintro e w ⟨rfl, rfl⟩
      go_wp2_with fail
      go_ret
      exact ⟨rfl, HE.out⟩
  · rw [decide_eq_false h1] at O
    have e0 : quE o q = 2 := by unfold quE; rw [if_neg (fun e => h1 e.1)]
    have HE : Hid (FX B w D (quS S o q) ∧ Tu Of B w w) := by
      unfold quS
      rw [if_neg (by omega)]
      exact ⟨⟨r, C, s, h⟩, Tu.refl _ _ _⟩
    rw [e0]
    clear h h1 e0
    go_enter Try.func20, Try.ntmps20
    go_wp2_with fail
    refine M.mono ?_
    rintro e w ⟨rfl, rfl⟩
    go_wp2_with fail
    refine O.mono ?_
    rintro e w ⟨rfl, rfl⟩
    go_wp2_with fail
    go_ret
    exact ⟨rfl, HE.out⟩
theorem alloc_fx (h : FX B w D S) (hB : B ≤ w.heap.size) (o : Int) : Calls Try.prog 16 #[.pointer (some ⟨D, 0, none⟩), .int .i64 o] w fun e w' => e = .returned (.tuple #[.int .i64 (alR S o), .int .i64 (alE S o)]) ∧ FX B w' D (alS S o) ∧ Tu Of B w w' := by
  obtain ⟨r, C, s, h⟩ := h
  have hl := h.ob.lt
  have M := made_fr h
  have O := isowner o w
  by_cases h1 : isO o
  · rw [decide_eq_true h1] at O
    obtain ⟨a, rfl⟩ : ∃ a : Nat, o = a := ⟨o.toNat, by have := h1.1; omega⟩
    have ha : a ≤ 16 := by have := h1.2; omega
    have Q := atquota h a ha
    by_cases h2 : S.qu a ≤ S.ct a
    · rw [decide_eq_true h2] at Q
      have e0 : alE S a = 19 := by unfold alE; rw [if_pos h1, Int.toNat_natCast, if_pos h2]
      have e1 : alR S a = 0 := by unfold alR; rw [if_neg (by omega)]
      have e2 : alS S a = S := by unfold alS; rw [if_neg (by omega)]
      rw [e0, e1, e2]
      have HF : Hid (FR B w D r S C s) := h
      clear h h1 h2 e0 e1 e2
      go_enter Try.func16, Try.ntmps16
      go_wp2_with fail
      refine M.mono ?_
      rintro e w ⟨rfl, rfl⟩
      go_wp2_with fail
      refine O.mono ?_
      rintro e w ⟨rfl, rfl⟩
      go_wp2_with fail
      refine Q.mono ?_
      rintro e w1 ⟨rfl, hb⟩
      go_wp2_with fail
      go_ret2
      exact ⟨rfl, ⟨r, C, s, HF.out.below hb⟩, Tu.of_below hb⟩
    · rw [decide_eq_false h2] at Q
      by_cases h3 : S.ct 17 = 0
      · have e0 : alE S a = 20 := by unfold alE; rw [if_pos h1, Int.toNat_natCast, if_neg h2, if_pos h3]
        have e1 : alR S a = 0 := by unfold alR; rw [if_neg (by omega)]
        have e2 : alS S a = S := by unfold alS; rw [if_neg (by omega)]
        rw [e0, e1, e2]
        have HF : Hid (FR B w D r S C s) := h
        clear h h1 h2 e0 e1 e2
        go_enter Try.func16, Try.ntmps16
        go_wp2_with fail
        refine M.mono ?_
        rintro e w ⟨rfl, rfl⟩
        go_wp2_with fail
        refine O.mono ?_
        rintro e w ⟨rfl, rfl⟩
        go_wp2_with fail
        refine Q.mono ?_
        rintro e w1 ⟨rfl, hb⟩
        have H1 : Hid (FR B w1 D r S C s) := HF.out.below hb
        have c17 := H1.out.ob.cc (k := 17) (by decide)
        rw [h3] at c17
        have hl1 := H1.out.ob.lt
        go_wp2_with fail
        go_ret2
        exact ⟨rfl, ⟨r, C, s, H1.out⟩, Tu.of_below hb⟩
      · have e0 : alE S a = 0 := by unfold alE; rw [if_pos h1, Int.toNat_natCast, if_neg h2, if_neg h3]
        have e1 : alR S a = S.lst := by unfold alR; rw [if_pos e0]
        have e2 : alS S a = S.set S.lst a 1 := by unfold alS; rw [if_pos e0, Int.toNat_natCast]
        rw [e0, e1, e2]
        obtain ⟨l1, l2, l3⟩ := S.lst_of (by omega)
        have hct : (0 : Int) < S.ct 17 := by omega
        have HF : Hid (FR B w D r S C s) := h
        clear h h1 h2 e0 e1 e2
        go_enter Try.func16, Try.ntmps16
        go_wp2_with fail
        refine M.mono ?_
        rintro e w ⟨rfl, rfl⟩
        go_wp2_with fail
        refine O.mono ?_
        rintro e w ⟨rfl, rfl⟩
        go_wp2_with fail
        refine Q.mono ?_
        rintro e w1 ⟨rfl, hb⟩
        have H1 : Hid (FR B w1 D r S C s) := HF.out.below hb
        have c17 := H1.out.ob.cc (k := 17) (by decide)
        have hl1 := H1.out.ob.lt
        go_wp2_with fail
        refine (least_fr H1.out (by omega)).mono ?_
        rintro e w2 ⟨rfl, hf2, ht2⟩
        have P := pass_give hf2 (i := S.lst) (b := a) l1 (by omega) ha (by have := hb.size; have := ht2.size; omega)
        rw [l2] at P
        go_wp2_with fail
        refine P.mono ?_
        rintro e w3 ⟨rfl, hf3, ht3⟩
        go_wp2_with fail
        go_ret2
        exact ⟨rfl, hf3, ((Tu.of_below hb).trans ht2).trans ht3⟩
  · rw [decide_eq_false h1] at O
    have e0 : alE S o = 2 := by unfold alE; rw [if_neg h1]
    have e1 : alR S o = 0 := by unfold alR; rw [if_neg (by omega)]
    have e2 : alS S o = S := by unfold alS; rw [if_neg (by omega)]
    rw [e0, e1, e2]
    have HF : Hid (FR B w D r S C s) := h
    clear h h1 e0 e1 e2
    go_enter Try.func16, Try.ntmps16
    go_wp2_with fail
    refine M.mono ?_
    rintro e w ⟨rfl, rfl⟩
    go_wp2_with fail
    refine O.mono ?_
    rintro e w ⟨rfl, rfl⟩
    go_wp2_with fail
    go_ret2
    exact ⟨rfl, ⟨r, C, s, HF.out⟩, Tu.refl _ _ _⟩
/-- a frame's times turned -/
theorem FR.times {r s : Nat} {C : Nat → Nat} (h : FR B w D r S C s) {i t : Nat} (hi : i < S.n) (hc : S.cl i ≠ 17) (ht : 1 ≤ t ∧ t ≤ 65536) : ∃ w', (Instr.mapUpdate 67 (mv S.cl C i) (.int .i64 (S.cl i)) (.int .i64 t)).run Try.prog w = .ok () w' ∧ FX B w' D (S.set i (S.cl i) t) ∧ Tu Of B w w' := by
  rw [mv_map hc]
  obtain ⟨w', h1, h2, h3⟩ := turn_one (h.mp i hi hc) t
  obtain ⟨l1, l2, l3⟩ := h.lo
  have hne := h.mne hi hc
  have hcl : upd S.cl i (S.cl i) = S.cl := by
    funext j
    by_cases e : j = i <;> simp [upd, e]
  have e : S.set i (S.cl i) t = { S with ti := upd S.ti i t } := by unfold Fs.set; rw [hcl]
  have hok := h.ok.set (f := i) (c := S.cl i) (t := t) (h.ok.c i) ⟨fun e => absurd e hc, fun _ => ht⟩
  refine ⟨w', h1, ⟨r, C, s, ?_⟩, ?_⟩
  · rw [e] at hok ⊢
    refine ⟨h.ob.keep (h3.block D h.ob.lt (Ne.symm hne.1)), h.row.keep (h3.block r h.row.lt (Ne.symm hne.2)), fun j hj cj => ?_, h.inj, h.s1, h.s2, hok, h.lo⟩
    show M1 w' (C j) (S.cl j) (upd S.ti i t j)
    by_cases ej : j = i
    · subst ej; rw [upd_self]; exact h2
    · rw [upd_other _ _ _ ej]
      exact (h.mp j hj cj).keep (h3.block _ (h.mp j hj cj).lt (fun e => ej (h.inj j i hj hi cj hc e)))
  · refine Tu.of_trn h3 fun k e => ?_
    subst e
    obtain ⟨x, y, hm, _⟩ := h.mp i hi hc
    exact ⟨l3 i hi hc, fun o ho => by rw [hm] at ho; cases ho; trivial⟩
theorem hold_fx (h : FX B w D S) (f o : Int) : Calls Try.prog 18 #[.pointer (some ⟨D, 0, none⟩), .int .i64 f, .int .i64 o] w fun e w' => e = .returned (.int .i64 (hoE S f o)) ∧ FX B w' D (hoS S f o) ∧ Tu Of B w w' := by
  obtain ⟨r, C, s, h⟩ := h
  have hl := h.ob.lt
  have K := check_fr h f o o
  by_cases h0 : errC S f o o = 0
  · rw [h0] at K
    obtain ⟨i, a, c, rfl, rfl, hac, hi, ha, hcc, hc⟩ := errC_ok h0
    clear hac hcc
    have hok := h.ok
    have tt := (hok.t i hi).2 (by omega)
    have n2 := hok.n2
    have c0 := h.ob.c0
    have cr := h.row.c hi
    have hrl := h.row.lt
    have lk := h.look hi ha
    have hi' : (i : Int) < S.n := by omega
    rw [show lkS S i a = S.ti i by unfold lkS; rw [if_pos hc]] at lk
    by_cases h1 : S.ti i = 65536
    · have e0 : hoE S i a = 18 := by unfold hoE; rw [if_pos h0, Int.toNat_natCast, if_pos h1]
      have e2 : hoS S i a = S := by unfold hoS; rw [if_neg (by omega)]
      rw [e0, e2]
      rw [h1] at lk
      have HF : Hid (FR B w D r S C s) := h
      clear h e0 e2 h0 hok
      go_enter Try.func18, Try.ntmps18
      go_wp2_with fail
      refine K.mono ?_
      rintro e w ⟨rfl, rfl⟩
      go_wp2_with fail
      go_ret
      exact ⟨rfl, ⟨r, C, s, HF.out⟩, Tu.refl _ _ _⟩
    · have e0 : hoE S i a = 0 := by unfold hoE; rw [if_pos h0, Int.toNat_natCast, if_neg h1]
      have e2 : hoS S i a = S.set i (S.cl i) (S.ti i + 1) := by unfold hoS; rw [if_pos e0, Int.toNat_natCast]
      rw [e0, e2]
      obtain ⟨w1, m1, m2, m3⟩ := h.times (t := S.ti i + 1) hi (by omega) (by omega)
      rw [hc] at m1
      have HE : Hid (FX B w1 D (S.set i (S.cl i) (S.ti i + 1)) ∧ Tu Of B w w1) := ⟨m2, m3⟩
      have t1 : ((S.ti i : Nat) : Int) < 65536 := by omega
      clear h e0 e2 h0 m2 m3 hok
      generalize S.ti i = t at *
      rw [show ((t + 1 : Nat) : Int) = (t : Int) + 1 from rfl] at m1
      have t0 : (0 : Int) ≤ (t : Int) := by omega
      clear tt h1
      generalize (t : Int) = x at *
      have t2 : x ≠ 65536 := by omega
      go_enter Try.func18, Try.ntmps18
      go_wp2_with fail
      refine K.mono ?_
      rintro e w ⟨rfl, rfl⟩
      go_wp2_with fail
      go_ret
      exact ⟨rfl, HE.out⟩
  · have e0 : hoE S f o = errC S f o o := by unfold hoE; rw [if_neg h0]
    have e2 : hoS S f o = S := by unfold hoS; rw [if_neg (by omega)]
    rw [e0, e2]
    have HF : Hid (FR B w D r S C s) := h
    clear h e0 e2
    generalize errC S f o o = x at *
    go_enter Try.func18, Try.ntmps18
    go_wp2_with fail
    refine K.mono ?_
    rintro e w ⟨rfl, rfl⟩
    go_wp2_with fail
    go_ret
    exact ⟨rfl, ⟨r, C, s, HF.out⟩, Tu.refl _ _ _⟩
theorem free_fx (h : FX B w D S) (f o : Int) : Calls Try.prog 17 #[.pointer (some ⟨D, 0, none⟩), .int .i64 f, .int .i64 o] w fun e w' => e = .returned (.tuple #[.bool (frB S f o), .int .i64 (errL S f o o)]) ∧ FX B w' D (frS S f o) ∧ Tu Of B w w' := by
  obtain ⟨r, C, s, h⟩ := h
  have hl := h.ob.lt
  have K := loose_fr h f o o
  by_cases h0 : errL S f o o = 0
  · rw [h0] at K
    obtain ⟨h00, _⟩ := errL_ok h0
    obtain ⟨i, a, c, rfl, rfl, hac, hi, ha, hcc, hc⟩ := errC_ok h00
    clear hac hcc
    have hok := h.ok
    have tt := (hok.t i hi).2 (by omega)
    have n2 := hok.n2
    have c0 := h.ob.c0
    have cr := h.row.c hi
    have hrl := h.row.lt
    have lk := h.look hi ha
    have hi' : (i : Int) < S.n := by omega
    rw [show lkS S i a = S.ti i by unfold lkS; rw [if_pos hc]] at lk
    by_cases h1 : 1 < S.ti i
    · have e0 : frB S i a = false := by unfold frB; rw [Int.toNat_natCast, decide_eq_false (show ¬ S.ti i ≤ 1 by omega), Bool.and_false]
      have e2 : frS S i a = S.set i (S.cl i) (S.ti i - 1) := by unfold frS; rw [if_pos h0, Int.toNat_natCast, if_pos h1]
      rw [e0, e2, h0]
      obtain ⟨w1, m1, m2, m3⟩ := h.times (t := S.ti i - 1) hi (by omega) (by omega)
      rw [hc] at m1
      have HE : Hid (FX B w1 D (S.set i (S.cl i) (S.ti i - 1)) ∧ Tu Of B w w1) := ⟨m2, m3⟩
      have t1 : (1 : Int) < ((S.ti i : Nat) : Int) := by omega
      clear h e0 e2 h0 h00 m2 m3 hok
      generalize S.ti i = t at *
      rw [show ((t - 1 : Nat) : Int) = (t : Int) - 1 by omega] at m1
      go_enter Try.func17, Try.ntmps17
      go_wp2_with fail
      refine K.mono ?_
      rintro e w ⟨rfl, rfl⟩
      go_wp2_with fail
      go_ret2
      exact ⟨rfl, HE.out⟩
    · have e0 : frB S i a = true := by unfold frB; rw [Int.toNat_natCast, decide_eq_true (show S.ti i ≤ 1 by omega), h0]; rfl
      have e2 : frS S i a = S.set i 17 0 := by unfold frS; rw [if_pos h0, Int.toNat_natCast, if_neg h1]
      rw [e0, e2, h0]
      have t1 : ((S.ti i : Nat) : Int) ≤ 1 := by omega
      have P := pass_free h hi (by omega)
      rw [hc] at P
      clear h e0 e2 h0 h00 hok
      generalize S.ti i = t at *
      go_enter Try.func17, Try.ntmps17
      go_wp2_with fail
      refine K.mono ?_
      rintro e w ⟨rfl, rfl⟩
      go_wp2_with fail
      refine P.mono ?_
      rintro e w1 ⟨rfl, hf1, ht1⟩
      go_wp2_with fail
      go_ret2
      exact ⟨rfl, hf1, ht1⟩
  · have e0 : frB S f o = false := by unfold frB; rw [decide_eq_false h0, Bool.false_and]
    have e2 : frS S f o = S := by unfold frS; rw [if_neg h0]
    rw [e0, e2]
    have HF : Hid (FR B w D r S C s) := h
    clear h e0 e2
    generalize errL S f o o = x at *
    go_enter Try.func17, Try.ntmps17
    go_wp2_with fail
    refine K.mono ?_
    rintro e w ⟨rfl, rfl⟩
    go_wp2_with fail
    go_ret2
    exact ⟨rfl, ⟨r, C, s, HF.out⟩, Tu.refl _ _ _⟩
theorem move_fx (h : FX B w D S) (hB : B ≤ w.heap.size) (f o b : Int) : Calls Try.prog 19 #[.pointer (some ⟨D, 0, none⟩), .int .i64 f, .int .i64 o, .int .i64 b] w fun e w' => e = .returned (.int .i64 (moE S f o b)) ∧ FX B w' D (moS S f o b) ∧ Tu Of B w w' := by
  obtain ⟨r, C, s, h⟩ := h
  have hl := h.ob.lt
  have K := loose_fr h f o b
  by_cases h0 : errL S f o b = 0
  · rw [h0] at K
    obtain ⟨h00, _⟩ := errL_ok h0
    obtain ⟨i, a, c, rfl, rfl, rfl, hi, ha, hc1, hc⟩ := errC_ok h00
    have hok := h.ok
    have tt := (hok.t i hi).2 (by omega)
    have n2 := hok.n2
    have c0 := h.ob.c0
    have cr := h.row.c hi
    have hrl := h.row.lt
    have lk := h.look hi ha
    have hi' : (i : Int) < S.n := by omega
    rw [show lkS S i a = S.ti i by unfold lkS; rw [if_pos hc]] at lk
    by_cases h1 : 1 < S.ti i
    · have e0 : moE S i a c = 21 := by unfold moE; rw [if_pos h0, Int.toNat_natCast, if_pos h1]
      have e2 : moS S i a c = S := by unfold moS; rw [if_neg (by omega)]
      rw [e0, e2]
      have t1 : (1 : Int) < ((S.ti i : Nat) : Int) := by omega
      have HF : Hid (FR B w D r S C s) := h
      clear h e0 e2 h0 h00 hok
      generalize S.ti i = t at *
      go_enter Try.func19, Try.ntmps19
      go_wp2_with fail
      refine K.mono ?_
      rintro e w ⟨rfl, rfl⟩
      go_wp2_with fail
      go_ret
      exact ⟨rfl, ⟨r, C, s, HF.out⟩, Tu.refl _ _ _⟩
    · have t1 : ((S.ti i : Nat) : Int) ≤ 1 := by omega
      by_cases h2 : a = c
      · subst h2
        have e0 : moE S i a a = 0 := by unfold moE; rw [if_pos h0, Int.toNat_natCast, if_neg h1, if_pos rfl]
        have e2 : moS S i a a = S := by unfold moS; rw [if_neg (fun e => e.2 rfl)]
        rw [e0, e2]
        have HF : Hid (FR B w D r S C s) := h
        clear h e0 e2 h0 h00 hok
        generalize S.ti i = t at *
        go_enter Try.func19, Try.ntmps19
        go_wp2_with fail
        refine K.mono ?_
        rintro e w ⟨rfl, rfl⟩
        go_wp2_with fail
        go_ret
        exact ⟨rfl, ⟨r, C, s, HF.out⟩, Tu.refl _ _ _⟩
      · have h2' : ¬ (a : Int) = c := by omega
        have Q := atquota h c hc1
        by_cases h3 : S.qu c ≤ S.ct c
        · rw [decide_eq_true h3] at Q
          have e0 : moE S i a c = 19 := by unfold moE; rw [if_pos h0, Int.toNat_natCast, Int.toNat_natCast, if_neg h1, if_neg h2', if_pos h3]
          have e2 : moS S i a c = S := by unfold moS; rw [if_neg (by omega)]
          rw [e0, e2]
          have HF : Hid (FR B w D r S C s) := h
          clear h e0 e2 h0 h00 hok h3
          generalize S.ti i = t at *
          go_enter Try.func19, Try.ntmps19
          go_wp2_with fail
          refine K.mono ?_
          rintro e w ⟨rfl, rfl⟩
          go_wp2_with fail
          refine Q.mono ?_
          rintro e w1 ⟨rfl, hb⟩
          go_wp2_with fail
          go_ret
          exact ⟨rfl, ⟨r, C, s, HF.out.below hb⟩, Tu.of_below hb⟩
        · rw [decide_eq_false h3] at Q
          have e0 : moE S i a c = 0 := by unfold moE; rw [if_pos h0, Int.toNat_natCast, Int.toNat_natCast, if_neg h1, if_neg h2', if_neg h3]
          have e2 : moS S i a c = S.set i c 1 := by unfold moS; rw [if_pos ⟨e0, h2'⟩, Int.toNat_natCast, Int.toNat_natCast]
          rw [e0, e2]
          have HF : Hid (∀ w1, Below w.heap.size w w1 → Calls Try.prog 21 #[.pointer (some ⟨D, 0, none⟩), .int .i64 i, .int .i64 a, .int .i64 c] w1 fun e w' => e = .returned (.tuple #[]) ∧ FX B w' D (S.set i c 1) ∧ Tu Of B w1 w') := fun w1 hb => by
            have P := pass_give (h.below hb) hi (b := c) (by omega) hc1 (by have := hb.size; omega)
            rwa [hc] at P
          clear h e0 e2 h0 h00 hok h3
          generalize S.ti i = t at *
          go_enter Try.func19, Try.ntmps19
          go_wp2_with fail
          refine K.mono ?_
          rintro e w ⟨rfl, rfl⟩
          go_wp2_with fail
          refine Q.mono ?_
          rintro e w1 ⟨rfl, hb⟩
          go_wp2_with fail
          refine (HF.out w1 hb).mono ?_
          rintro e w2 ⟨rfl, hf2, ht2⟩
          go_wp2_with fail
          go_ret
          exact ⟨rfl, hf2, (Tu.of_below hb).trans ht2⟩
  · have e0 : moE S f o b = errL S f o b := by unfold moE; rw [if_neg h0]
    have e2 : moS S f o b = S := by unfold moS; rw [if_neg (fun e => h0 (e0 ▸ e.1))]
    rw [e0, e2]
    have HF : Hid (FR B w D r S C s) := h
    clear h e0 e2
    generalize errL S f o b = x at *
    go_enter Try.func19, Try.ntmps19
    go_wp2_with fail
    refine K.mono ?_
    rintro e w ⟨rfl, rfl⟩
    go_wp2_with fail
    go_ret
    exact ⟨rfl, ⟨r, C, s, HF.out⟩, Tu.refl _ _ _⟩
end
end Go.Proofs.Ytcnoonhcofnghaa
