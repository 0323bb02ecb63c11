/-
  What the document's Free, Move and Alloc do.
-/
import Derived.Test.YteghkhdpdeiocaaDoorRc
import Derived.Deep.DeepCutAuto
namespace Go.Proofs.YteghkhdpdeiocaaDoor
open Go.RowKit
set_option linter.unusedVariables false
set_option maxRecDepth 100000

section
variable {B : Nat → Prop} {w w' : World} {R r : Nat} {S : Fs}
/-- a frame's owner turned alone -/
theorem RF.owner (h : RF B w R r S) {i c : Nat} (hi : i < S.n) (hok : Ok (S.set i c (S.ti i))) (hc : c ≠ 17) : RF B (w.setCell ⟨r, i * 2, none⟩ (.int .i64 c)) R r (S.set i c (S.ti i)) ∧ Tu Or B w (w.setCell ⟨r, i * 2, none⟩ (.int .i64 c)) := by
  obtain ⟨rs, r1, r2, r3⟩ := h.row
  have t1 := trn_setCell (fun k => k = r) r1 rfl (i * 2) (.int .i64 c)
  obtain ⟨cs, o1, o2⟩ := h.ob
  refine ⟨⟨⟨cs, (t1.block R h.lt h.ne).trans o1, o2⟩, ⟨_, setCell_eq_setRow w r (i * 2) rs 138 (0, 0) (.int .i64 c) r1 ▸ setRow_heap w r rs _ 138 _ r1, by rw [Array.size_setIfInBounds]; exact r2, fun j hj => ?_⟩, hok, h.lo⟩, h.tu (t1.mono fun k _ e => .inr e)⟩
  have hj' : j < S.n := hj
  refine ⟨?_, ?_⟩
  · show _ = some (Value.int .i64 (if upd S.cl i c j = 17 then (0 : Int) else (upd S.cl i c j : Nat)))
    by_cases e : j = i
    · subst e
      rw [upd_self, if_neg hc, Array.getElem?_setIfInBounds_self_of_lt (by omega)]
    · rw [upd_other _ _ _ e, Array.getElem?_setIfInBounds_ne (by omega)]
      exact (r3 j hj').1
  · show _ = some (Value.int .i64 (upd S.ti i (S.ti i) j : Nat))
    rw [Array.getElem?_setIfInBounds_ne (by omega)]
    by_cases e : j = i
    · subst e
      rw [upd_self]
      exact (r3 j hj').2
    · rw [upd_other _ _ _ e]
      exact (r3 j hj').2
theorem Fs.set_same (S : Fs) (i : Nat) : S.set i (S.cl i) (S.ti i) = S := by
  unfold Fs.set
  have h1 : upd S.cl i (S.cl i) = S.cl := by
    funext j
    by_cases e : j = i <;> simp [upd, e]
  have h2 : upd S.ti i (S.ti i) = S.ti := by
    funext j
    by_cases e : j = i <;> simp [upd, e]
  rw [h1, h2]
/-- a row of two numbers a frame -/
def RW (w : World) (r n : Nat) (fo ft : Nat → Int) : Prop := ∃ rs : Array Value, w.heap[r]? = some (.cells rs 138 (0, 0)) ∧ rs.size = n * 2 ∧ ∀ i, i < n → rs[i * 2]? = some (.int .i64 (fo i)) ∧ rs[i * 2 + 1]? = some (.int .i64 (ft i))
theorem RW.set0 {n : Nat} {fo ft : Nat → Int} (h : RW w r n fo ft) {i : Nat} (hi : i < n) (x : Int) : RW (w.setCell ⟨r, i * 2, none⟩ (.int .i64 x)) r n (upd fo i x) ft ∧ Trn (fun k => k = r) w (w.setCell ⟨r, i * 2, none⟩ (.int .i64 x)) := by
  obtain ⟨rs, r1, r2, r3⟩ := h
  refine ⟨⟨_, setCell_eq_setRow w r (i * 2) rs 138 (0, 0) (.int .i64 x) r1 ▸ setRow_heap w r rs _ 138 _ r1, by rw [Array.size_setIfInBounds]; exact r2, fun j hj => ⟨?_, ?_⟩⟩, trn_setCell (fun k => k = r) r1 rfl _ _⟩
  · by_cases e : j = i
    · subst e
      rw [upd_self, Array.getElem?_setIfInBounds_self_of_lt (by omega)]
    · rw [upd_other _ _ _ e, Array.getElem?_setIfInBounds_ne (by omega)]
      exact (r3 j hj).1
  · rw [Array.getElem?_setIfInBounds_ne (by omega)]
    exact (r3 j hj).2
theorem RW.set1 {n : Nat} {fo ft : Nat → Int} (h : RW w r n fo ft) {i : Nat} (hi : i < n) (x : Int) : RW (w.setCell ⟨r, i * 2 + 1, none⟩ (.int .i64 x)) r n fo (upd ft i x) ∧ Trn (fun k => k = r) w (w.setCell ⟨r, i * 2 + 1, none⟩ (.int .i64 x)) := by
  obtain ⟨rs, r1, r2, r3⟩ := h
  refine ⟨⟨_, setCell_eq_setRow w r (i * 2 + 1) rs 138 (0, 0) (.int .i64 x) r1 ▸ setRow_heap w r rs _ 138 _ r1, by rw [Array.size_setIfInBounds]; exact r2, fun j hj => ⟨?_, ?_⟩⟩, trn_setCell (fun k => k = r) r1 rfl _ _⟩
  · rw [Array.getElem?_setIfInBounds_ne (by omega)]
    exact (r3 j hj).1
  · by_cases e : j = i
    · subst e
      rw [upd_self, Array.getElem?_setIfInBounds_self_of_lt (by omega)]
    · rw [upd_other _ _ _ e, Array.getElem?_setIfInBounds_ne (by omega)]
      exact (r3 j hj).2
theorem RW.c0 {n : Nat} {fo ft : Nat → Int} (h : RW w r n fo ft) {i : Nat} (hi : i < n) : w.cell? ⟨r, i * 2, none⟩ = some (.int .i64 (fo i)) ∧ w.cell? ⟨r, i * 2 + 1, none⟩ = some (.int .i64 (ft i)) ∧ w.frozen? ⟨r, i * 2, none⟩ = false ∧ w.frozen? ⟨r, i * 2 + 1, none⟩ = false ∧ r < w.heap.size := by
  obtain ⟨rs, r1, r2, r3⟩ := h
  exact ⟨by rw [cell_at r1, (r3 i hi).1], by rw [cell_at r1, (r3 i hi).2], froz_at r1 _, froz_at r1 _, lt_of_heap r1⟩
/-- the document's frames behind stores into the row -/
theorem RF.of (h : RF B w R r S) {S' : Fs} (t : Trn (fun k => k = r) w w') (hn : S'.n = S.n) (hf : S'.fi = S.fi) (hq : S'.qu = S.qu) {fo ft : Nat → Int} (hr : RW w' r S.n fo ft) (ho : ∀ i, i < S.n → fo i = rO S' i ∧ ft i = S'.ti i) (hok : Ok S') : RF B w' R r S' ∧ Tu Or B w w' := by
  obtain ⟨cs, o1, o2⟩ := h.ob
  obtain ⟨rs, r1, r2, r3⟩ := hr
  refine ⟨⟨⟨cs, (t.block R h.lt h.ne).trans o1, ?_⟩, ⟨rs, r1, by rw [hn]; exact r2, fun i hi => ?_⟩, hok, h.lo⟩, h.tu (t.mono fun k _ e => .inr e)⟩
  · rw [hn, hf, hq]
    exact o2
  · rw [hn] at hi
    obtain ⟨e1, e2⟩ := ho i hi
    rw [← e1, ← e2]
    exact r3 i hi
theorem rfree (h : RF B w R r S) (f o : Int) : Calls Tryd.prog 69 #[.pointer (some ⟨R, 0, none⟩), .int .i64 f, .int .i64 o] w fun e w' => e = .returned (.tuple #[.bool (frB S f o), .int .i64 (errL S f o o)]) ∧ RF B w' R r (frS S f o) ∧ Tu Or B w w' := by
  have hl := h.lt
  have K := rwrong h f o
  have hok2 := frS_ok h.ok f o
  by_cases h0 : errC S f o o = 0
  · rw [h0] at K
    obtain ⟨i, a, c, rfl, rfl, hac, hi, ha, hcc, hc⟩ := errC_ok h0
    clear hac hcc
    have hok := h.ok
    have tt := (hok.t i hi).2 (by omega)
    have n2 := hok.n2
    have nf := hok.f
    have c0 := h.c0
    have c1 := h.c1
    have hrl := h.rlt
    have hne := h.ne
    have r0 := h.r0 hi
    have r1 := h.r1 hi
    have f0 := h.rfz (i * 2)
    have f1 := h.rfz (i * 2 + 1)
    have hi' : (i : Int) < S.n := by omega
    by_cases h1 : (i : Int) < S.fi
    · have e0 : errL S i a a = 21 := by unfold errL; rw [if_pos h0, if_pos h1]
      have e1 : frB S i a = false := by unfold frB; rw [e0]; rfl
      have e2 : frS S i a = S := by unfold frS; rw [if_neg (by omega)]
      rw [e0, e1, e2]
      have HF : Hid (RF B w R r S) := h
      clear h e0 e1 e2 h0 hok hok2 tt
      go_enter Tryd.func69, Tryd.ntmps69
      go_wp2_with fail
      refine K.mono ?_
      rintro e w ⟨rfl, rfl⟩
      go_wp2_with fail
      go_ret2
      exact ⟨rfl, HF.out, Tu.refl _ _ _⟩
    · have e0 : errL S i a a = 0 := by unfold errL; rw [if_pos h0, if_neg h1]
      by_cases h2 : 1 < S.ti i
      · have e1 : frB S i a = false := by unfold frB; rw [Int.toNat_natCast, decide_eq_false (show ¬ S.ti i ≤ 1 by omega), Bool.and_false]
        have e2 : frS S i a = S.set i (S.cl i) (S.ti i - 1) := by unfold frS; rw [if_pos e0, Int.toNat_natCast, if_pos h2]
        rw [e2] at hok2
        rw [e0, e1, e2]
        have m := h.times hi hok2
        rw [show ((S.ti i - 1 : Nat) : Int) = (S.ti i : Int) - 1 by omega] at m
        have HE : Hid (_) := m
        have r1' : (w.setCell ⟨r, i * 2 + 1, none⟩ (.int .i64 ((S.ti i : Int) - 1))).cell? ⟨r, i * 2 + 1, none⟩ = some (.int .i64 ((S.ti i : Int) - 1)) := by
          have := m.1.r1 (i := i) hi
          rwa [show (((S.set i (S.cl i) (S.ti i - 1)).ti i : Nat) : Int) = (S.ti i : Int) - 1 by rw [show (S.set i (S.cl i) (S.ti i - 1)).ti i = S.ti i - 1 from upd_self _ _ _]; omega] at this
        have c0' := m.1.c0
        have hl' := m.1.lt
        have hrl' := m.1.rlt
        have t1 : (1 : Int) < (S.ti i : Int) := by omega
        have t2 : (S.ti i : Int) ≤ 65536 := by omega
        have hnn : (S.set i (S.cl i) (S.ti i - 1)).n = S.n := rfl
        rw [hnn] at c0'
        clear h e0 e1 e2 h0 hok hok2 tt h2 m hnn
        generalize ((S.ti i : Nat) : Int) = t at *
        go_enter Tryd.func69, Tryd.ntmps69
        go_wp2_with fail
        refine K.mono ?_
        rintro e w ⟨rfl, rfl⟩
        go_wp2_with fail
        go_ret2
        exact ⟨rfl, HE.out⟩
      · have t1 : S.ti i = 1 := by omega
        have e1 : frB S i a = true := by unfold frB; rw [Int.toNat_natCast, decide_eq_true (show S.ti i ≤ 1 by omega), e0]; rfl
        have e2 : frS S i a = S.set i 17 0 := by unfold frS; rw [if_pos e0, Int.toNat_natCast, if_neg h2]
        rw [e2] at hok2
        rw [e0, e1, e2]
        rw [t1] at r1
        have HF : Hid (RF B w R r S) := h
        have HO : Hid (Ok (S.set i 17 0)) := hok2
        clear h e0 e1 e2 h0 hok hok2 tt h2
        go_enter Tryd.func69, Tryd.ntmps69
        go_wp2_with fail
        refine K.mono ?_
        rintro e w ⟨rfl, rfl⟩
        go_upto_region 7 with fail
        have W0 : RW w r S.n (rO S) (fun k => (S.ti k : Int)) := HF.out.row
        obtain ⟨W1, T1⟩ := W0.set1 hi 0
        have c0' : (w.setCell ⟨r, i * 2 + 1, none⟩ (.int .i64 0)).cell? ⟨R, 0, none⟩ = some (.slice (some ⟨r, 0, none⟩) S.n S.n) := by
          obtain ⟨cs, o1, _⟩ := HF.out.ob
          rw [cell_at ((T1.block R HF.out.lt HF.out.ne).trans o1), ← cell_at o1]
          exact c0
        have hl' : R < (w.setCell ⟨r, i * 2 + 1, none⟩ (.int .i64 0)).heap.size := by have := T1.size; omega
        clear c0 c1 r0 r1 f0 f1 hl hrl
        generalize (w.setCell ⟨r, i * 2 + 1, none⟩ (.int .i64 0)) = w1 at *
        obtain ⟨W2, T2⟩ := W1.set0 hi 0
        obtain ⟨W3, T3⟩ := W2.set1 hi 0
        have HE : Hid (_) := HF.out.of (S' := S.set i 17 0) ((T1.trans T2).trans T3) rfl rfl rfl W3 (fun j hj => by
          show upd (rO S) i 0 j = (if upd S.cl i 17 j = 17 then (0 : Int) else (upd S.cl i 17 j : Nat)) ∧ upd (upd (fun k => (S.ti k : Int)) i 0) i 0 j = (upd S.ti i 0 j : Nat)
          by_cases e : j = i
          · subst e
            rw [upd_self, upd_self, upd_self, upd_self]
            exact ⟨rfl, rfl⟩
          · rw [upd_other _ _ _ e, upd_other _ _ _ e, upd_other _ _ _ e, upd_other _ _ _ e, upd_other _ _ _ e]
            exact ⟨rfl, rfl⟩) HO.out
        obtain ⟨d0, d1, d2, d3, d4⟩ := W1.c0 hi
        rw [upd_self] at d1
        clear W0 W1 W2 W3 T1 T2 T3
        go_wp2_with fail
        go_ret2
        exact ⟨rfl, HE.out⟩
  · have e0 : errL S f o o = errC S f o o := by unfold errL; rw [if_neg h0]
    have e1 : frB S f o = false := by unfold frB; rw [e0, decide_eq_false h0, Bool.false_and]
    have e2 : frS S f o = S := by unfold frS; rw [if_neg (by omega)]
    rw [e0, e1, e2]
    have HF : Hid (RF B w R r S) := h
    clear h e0 e1 e2 hok2
    generalize errC S f o o = x at *
    go_enter Tryd.func69, Tryd.ntmps69
    go_wp2_with fail
    refine K.mono ?_
    rintro e w ⟨rfl, rfl⟩
    go_wp2_with fail
    go_ret2
    exact ⟨rfl, HF.out, Tu.refl _ _ _⟩
end
end Go.Proofs.YteghkhdpdeiocaaDoor
