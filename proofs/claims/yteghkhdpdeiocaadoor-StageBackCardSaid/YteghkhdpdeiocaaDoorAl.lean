/-
  What Alloc, Hold, Free, Move and Quota do.
-/
import Derived.Test.YteghkhdpdeiocaaDoorPs
namespace Go.Proofs.YteghkhdpdeiocaaDoor
open Go.RowKit Go.ChangeMaps
set_option linter.unusedVariables false
set_option maxRecDepth 100000

section
variable {B : Nat → Prop} {w w' : World} {D : Nat} {S : Fs}
theorem alloc_fx (h : FX B w D S) (hB : ∀ k, w.heap.size ≤ k → ¬ B k) (o : Int) : Calls Tryd.prog 20 #[.pointer (some ⟨D, 0, none⟩), .int .i64 o] w fun e w' => e = .returned (.tuple #[.int .i64 (alR S o), .int .i64 (alE S o)]) ∧ FX B w' D (alS S o) ∧ Tu Of B w w' := by
  obtain ⟨r, C, s, h⟩ := h
  have hl := h.ob.lt
  have M := made_fr h
  have O := isowner o w
  by_cases h1 : isO o
  · rw [decide_eq_true h1] at O
    obtain ⟨a, rfl⟩ : ∃ a : Nat, o = a := ⟨o.toNat, by have := h1.1; omega⟩
    have ha : a ≤ 16 := by have := h1.2; omega
    have Q := atquota h a ha
    by_cases h2 : S.qu a ≤ S.ct a
    · rw [decide_eq_true h2] at Q
      have e0 : alE S a = 19 := by unfold alE; rw [if_pos h1, Int.toNat_natCast, if_pos h2]
      have e1 : alR S a = 0 := by unfold alR; rw [if_neg (by omega)]
      have e2 : alS S a = S := by unfold alS; rw [if_neg (by omega)]
      rw [e0, e1, e2]
      have HF : Hid (FR B w D r S C s) := h
      clear h h1 h2 e0 e1 e2
      go_enter Tryd.func20, Tryd.ntmps20
      go_wp2_with fail
      refine M.mono ?_
      rintro e w ⟨rfl, rfl⟩
      go_wp2_with fail
      refine O.mono ?_
      rintro e w ⟨rfl, rfl⟩
      go_wp2_with fail
      refine Q.mono ?_
      rintro e w1 ⟨rfl, hb⟩
      go_wp2_with fail
      go_ret2
      exact ⟨rfl, ⟨r, C, s, HF.out.below hb⟩, Tu.of_below hb⟩
    · rw [decide_eq_false h2] at Q
      by_cases h3 : S.ct 17 = 0
      · have e0 : alE S a = 20 := by unfold alE; rw [if_pos h1, Int.toNat_natCast, if_neg h2, if_pos h3]
        have e1 : alR S a = 0 := by unfold alR; rw [if_neg (by omega)]
        have e2 : alS S a = S := by unfold alS; rw [if_neg (by omega)]
        rw [e0, e1, e2]
        have HF : Hid (FR B w D r S C s) := h
        clear h h1 h2 e0 e1 e2
        go_enter Tryd.func20, Tryd.ntmps20
        go_wp2_with fail
        refine M.mono ?_
        rintro e w ⟨rfl, rfl⟩
        go_wp2_with fail
        refine O.mono ?_
        rintro e w ⟨rfl, rfl⟩
        go_wp2_with fail
        refine Q.mono ?_
        rintro e w1 ⟨rfl, hb⟩
        have H1 : Hid (FR B w1 D r S C s) := HF.out.below hb
        have c17 := H1.out.ob.cc (k := 17) (by decide)
        rw [h3] at c17
        have hl1 := H1.out.ob.lt
        go_wp2_with fail
        go_ret2
        exact ⟨rfl, ⟨r, C, s, H1.out⟩, Tu.of_below hb⟩
      · have e0 : alE S a = 0 := by unfold alE; rw [if_pos h1, Int.toNat_natCast, if_neg h2, if_neg h3]
        have e1 : alR S a = S.lst := by unfold alR; rw [if_pos e0]
        have e2 : alS S a = S.set S.lst a 1 := by unfold alS; rw [if_pos e0, Int.toNat_natCast]
        rw [e0, e1, e2]
        obtain ⟨l1, l2, l3⟩ := S.lst_of (by omega)
        have hct : (0 : Int) < S.ct 17 := by omega
        have HF : Hid (FR B w D r S C s) := h
        clear h h1 h2 e0 e1 e2
        go_enter Tryd.func20, Tryd.ntmps20
        go_wp2_with fail
        refine M.mono ?_
        rintro e w ⟨rfl, rfl⟩
        go_wp2_with fail
        refine O.mono ?_
        rintro e w ⟨rfl, rfl⟩
        go_wp2_with fail
        refine Q.mono ?_
        rintro e w1 ⟨rfl, hb⟩
        have H1 : Hid (FR B w1 D r S C s) := HF.out.below hb
        have c17 := H1.out.ob.cc (k := 17) (by decide)
        have hl1 := H1.out.ob.lt
        go_wp2_with fail
        refine (least_fr H1.out (by omega)).mono ?_
        rintro e w2 ⟨rfl, hf2, ht2⟩
        have P := pass_give hf2 (i := S.lst) (b := a) l1 (by omega) ha (fun k hk => hB k (by have := hb.size; have := ht2.size; omega))
        rw [l2] at P
        go_wp2_with fail
        refine P.mono ?_
        rintro e w3 ⟨rfl, hf3, ht3⟩
        go_wp2_with fail
        go_ret2
        exact ⟨rfl, hf3, ((Tu.of_below hb).trans ht2).trans ht3⟩
  · rw [decide_eq_false h1] at O
    have e0 : alE S o = 2 := by unfold alE; rw [if_neg h1]
    have e1 : alR S o = 0 := by unfold alR; rw [if_neg (by omega)]
    have e2 : alS S o = S := by unfold alS; rw [if_neg (by omega)]
    rw [e0, e1, e2]
    have HF : Hid (FR B w D r S C s) := h
    clear h h1 e0 e1 e2
    go_enter Tryd.func20, Tryd.ntmps20
    go_wp2_with fail
    refine M.mono ?_
    rintro e w ⟨rfl, rfl⟩
    go_wp2_with fail
    refine O.mono ?_
    rintro e w ⟨rfl, rfl⟩
    go_wp2_with fail
    go_ret2
    exact ⟨rfl, ⟨r, C, s, HF.out⟩, Tu.refl _ _ _⟩
/-- a frame's times turned -/
theorem FR.times {r s : Nat} {C : Nat → Nat} (h : FR B w D r S C s) {i t : Nat} (hi : i < S.n) (hc : S.cl i ≠ 17) (ht : 1 ≤ t ∧ t ≤ 65536) : ∃ w', (Instr.mapUpdate 29 (mv S.cl C i) (.int .i64 (S.cl i)) (.int .i64 t)).run Tryd.prog w = .ok () w' ∧ FX B w' D (S.set i (S.cl i) t) ∧ Tu Of B w w' := by
  rw [mv_map hc]
  obtain ⟨w', h1, h2, h3⟩ := turn_one (h.mp i hi hc) t
  obtain ⟨l1, l2, l3⟩ := h.lo
  have hne := h.mne hi hc
  have hcl : upd S.cl i (S.cl i) = S.cl := by
    funext j
    by_cases e : j = i <;> simp [upd, e]
  have e : S.set i (S.cl i) t = { S with ti := upd S.ti i t } := by unfold Fs.set; rw [hcl]
  have hok := h.ok.set (f := i) (c := S.cl i) (t := t) (h.ok.c i) ⟨fun e => absurd e hc, fun _ => ht⟩
  refine ⟨w', h1, ⟨r, C, s, ?_⟩, ?_⟩
  · rw [e] at hok ⊢
    refine ⟨h.ob.keep (h3.block D h.ob.lt (Ne.symm hne.1)), h.row.keep (h3.block r h.row.lt (Ne.symm hne.2)), fun j hj cj => ?_, h.inj, h.s1, h.s2, hok, h.lo⟩
    show M1 w' (C j) (S.cl j) (upd S.ti i t j)
    by_cases ej : j = i
    · subst ej; rw [upd_self]; exact h2
    · rw [upd_other _ _ _ ej]
      exact (h.mp j hj cj).keep (h3.block _ (h.mp j hj cj).lt (fun e => ej (h.inj j i hj hi cj hc e)))
  · refine Tu.of_trn h3 fun k e => ?_
    subst e
    obtain ⟨x, y, hm, _⟩ := h.mp i hi hc
    exact ⟨l3 i hi hc, fun o ho => by rw [hm] at ho; cases ho; trivial⟩
theorem hold_fx (h : FX B w D S) (f o : Int) : Calls Tryd.prog 33 #[.pointer (some ⟨D, 0, none⟩), .int .i64 f, .int .i64 o] w fun e w' => e = .returned (.int .i64 (hoE S f o)) ∧ FX B w' D (hoS S f o) ∧ Tu Of B w w' := by
  obtain ⟨r, C, s, h⟩ := h
  have hl := h.ob.lt
  have K := check_fr h f o o
  by_cases h0 : errC S f o o = 0
  · rw [h0] at K
    obtain ⟨i, a, c, rfl, rfl, hac, hi, ha, hcc, hc⟩ := errC_ok h0
    clear hac hcc
    have hok := h.ok
    have tt := (hok.t i hi).2 (by omega)
    have n2 := hok.n2
    have c0 := h.ob.c0
    have cr := h.row.c hi
    have hrl := h.row.lt
    have lk := h.look hi ha
    have hi' : (i : Int) < S.n := by omega
    rw [show lkS S i a = S.ti i by unfold lkS; rw [if_pos hc]] at lk
    by_cases h1 : S.ti i = 65536
    · have e0 : hoE S i a = 18 := by unfold hoE; rw [if_pos h0, Int.toNat_natCast, if_pos h1]
      have e2 : hoS S i a = S := by unfold hoS; rw [if_neg (by omega)]
      rw [e0, e2]
      rw [h1] at lk
      have HF : Hid (FR B w D r S C s) := h
      clear h e0 e2 h0 hok
      go_enter Tryd.func33, Tryd.ntmps33
      go_wp2_with fail
      refine K.mono ?_
      rintro e w ⟨rfl, rfl⟩
      go_wp2_with fail
      go_ret
      exact ⟨rfl, ⟨r, C, s, HF.out⟩, Tu.refl _ _ _⟩
    · have e0 : hoE S i a = 0 := by unfold hoE; rw [if_pos h0, Int.toNat_natCast, if_neg h1]
      have e2 : hoS S i a = S.set i (S.cl i) (S.ti i + 1) := by unfold hoS; rw [if_pos e0, Int.toNat_natCast]
      rw [e0, e2]
      obtain ⟨w1, m1, m2, m3⟩ := h.times (t := S.ti i + 1) hi (by omega) (by omega)
      rw [hc] at m1
      have HE : Hid (FX B w1 D (S.set i (S.cl i) (S.ti i + 1)) ∧ Tu Of B w w1) := ⟨m2, m3⟩
      have t1 : ((S.ti i : Nat) : Int) < 65536 := by omega
      clear h e0 e2 h0 m2 m3 hok
      generalize S.ti i = t at *
      rw [show ((t + 1 : Nat) : Int) = (t : Int) + 1 from rfl] at m1
      have t0 : (0 : Int) ≤ (t : Int) := by omega
      clear tt h1
      generalize (t : Int) = x at *
      have t2 : x ≠ 65536 := by omega
      go_enter Tryd.func33, Tryd.ntmps33
      go_wp2_with fail
      refine K.mono ?_
      rintro e w ⟨rfl, rfl⟩
      go_wp2_with fail
      go_ret
      exact ⟨rfl, HE.out⟩
  · have e0 : hoE S f o = errC S f o o := by unfold hoE; rw [if_neg h0]
    have e2 : hoS S f o = S := by unfold hoS; rw [if_neg (by omega)]
    rw [e0, e2]
    have HF : Hid (FR B w D r S C s) := h
    clear h e0 e2
    generalize errC S f o o = x at *
    go_enter Tryd.func33, Tryd.ntmps33
    go_wp2_with fail
    refine K.mono ?_
    rintro e w ⟨rfl, rfl⟩
    go_wp2_with fail
    go_ret
    exact ⟨rfl, ⟨r, C, s, HF.out⟩, Tu.refl _ _ _⟩
theorem free_fx (h : FX B w D S) (f o : Int) : Calls Tryd.prog 24 #[.pointer (some ⟨D, 0, none⟩), .int .i64 f, .int .i64 o] w fun e w' => e = .returned (.tuple #[.bool (frB S f o), .int .i64 (errL S f o o)]) ∧ FX B w' D (frS S f o) ∧ Tu Of B w w' := by
  obtain ⟨r, C, s, h⟩ := h
  have hl := h.ob.lt
  have K := loose_fr h f o o
  by_cases h0 : errL S f o o = 0
  · rw [h0] at K
    obtain ⟨h00, _⟩ := errL_ok h0
    obtain ⟨i, a, c, rfl, rfl, hac, hi, ha, hcc, hc⟩ := errC_ok h00
    clear hac hcc
    have hok := h.ok
    have tt := (hok.t i hi).2 (by omega)
    have n2 := hok.n2
    have c0 := h.ob.c0
    have cr := h.row.c hi
    have hrl := h.row.lt
    have lk := h.look hi ha
    have hi' : (i : Int) < S.n := by omega
    rw [show lkS S i a = S.ti i by unfold lkS; rw [if_pos hc]] at lk
    by_cases h1 : 1 < S.ti i
    · have e0 : frB S i a = false := by unfold frB; rw [Int.toNat_natCast, decide_eq_false (show ¬ S.ti i ≤ 1 by omega), Bool.and_false]
      have e2 : frS S i a = S.set i (S.cl i) (S.ti i - 1) := by unfold frS; rw [if_pos h0, Int.toNat_natCast, if_pos h1]
      rw [e0, e2, h0]
      obtain ⟨w1, m1, m2, m3⟩ := h.times (t := S.ti i - 1) hi (by omega) (by omega)
      rw [hc] at m1
      have HE : Hid (FX B w1 D (S.set i (S.cl i) (S.ti i - 1)) ∧ Tu Of B w w1) := ⟨m2, m3⟩
      have t1 : (1 : Int) < ((S.ti i : Nat) : Int) := by omega
      clear h e0 e2 h0 h00 m2 m3 hok
      generalize S.ti i = t at *
      rw [show ((t - 1 : Nat) : Int) = (t : Int) - 1 by omega] at m1
      go_enter Tryd.func24, Tryd.ntmps24
      go_wp2_with fail
      refine K.mono ?_
      rintro e w ⟨rfl, rfl⟩
      go_wp2_with fail
      go_ret2
      exact ⟨rfl, HE.out⟩
    · have e0 : frB S i a = true := by unfold frB; rw [Int.toNat_natCast, decide_eq_true (show S.ti i ≤ 1 by omega), h0]; rfl
      have e2 : frS S i a = S.set i 17 0 := by unfold frS; rw [if_pos h0, Int.toNat_natCast, if_neg h1]
      rw [e0, e2, h0]
      have t1 : ((S.ti i : Nat) : Int) ≤ 1 := by omega
      have P := pass_free h hi (by omega)
      rw [hc] at P
      clear h e0 e2 h0 h00 hok
      generalize S.ti i = t at *
      go_enter Tryd.func24, Tryd.ntmps24
      go_wp2_with fail
      refine K.mono ?_
      rintro e w ⟨rfl, rfl⟩
      go_wp2_with fail
      refine P.mono ?_
      rintro e w1 ⟨rfl, hf1, ht1⟩
      go_wp2_with fail
      go_ret2
      exact ⟨rfl, hf1, ht1⟩
  · have e0 : frB S f o = false := by unfold frB; rw [decide_eq_false h0, Bool.false_and]
    have e2 : frS S f o = S := by unfold frS; rw [if_neg h0]
    rw [e0, e2]
    have HF : Hid (FR B w D r S C s) := h
    clear h e0 e2
    generalize errL S f o o = x at *
    go_enter Tryd.func24, Tryd.ntmps24
    go_wp2_with fail
    refine K.mono ?_
    rintro e w ⟨rfl, rfl⟩
    go_wp2_with fail
    go_ret2
    exact ⟨rfl, ⟨r, C, s, HF.out⟩, Tu.refl _ _ _⟩
end
end Go.Proofs.YteghkhdpdeiocaaDoor
