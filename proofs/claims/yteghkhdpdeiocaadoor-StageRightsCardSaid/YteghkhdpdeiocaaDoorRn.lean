/-
  What the document's Alloc and New do.
-/
import Derived.Test.YteghkhdpdeiocaaDoorRm
import Derived.Test.YteghkhdpdeiocaaDoorNw
namespace Go.Proofs.YteghkhdpdeiocaaDoor
open Go.RowKit
set_option linter.unusedVariables false
set_option maxRecDepth 100000

section
variable {B : Nat → Prop} {w w' : World} {R r : Nat} {S : Fs}
set_option maxHeartbeats 800000 in
theorem ralloc (h : RF B w R r S) (o : Int) : Calls Tryd.prog 46 #[.pointer (some ⟨R, 0, none⟩), .int .i64 o] w fun e w' => e = .returned (.tuple #[.int .i64 (alR S o), .int .i64 (alE S o)]) ∧ RF B w' R r (alS S o) ∧ Tu Or B w w' := by
  have hl := h.lt
  have O := rowner o w
  have hok2 := alS_ok h.ok o
  by_cases h1 : isO o
  · rw [decide_eq_true h1] at O
    obtain ⟨a, rfl⟩ : ∃ a : Nat, o = a := ⟨o.toNat, by have := h1.1; omega⟩
    have ha : a ≤ 16 := by have := h1.2; omega
    have ha' : (a : Int) < 17 := by omega
    have Q := rcount h (a : Int)
    have hown : own S a = S.ct a := by unfold own; rw [if_pos h1, Int.toNat_natCast]
    rw [hown] at Q
    have cq := h.cq (k := a) (by omega)
    have hq := h.ok.q a
    have hcl := cn_le S.cl S.n a
    have n2 := h.ok.n2
    have hct : (S.ct a : Int) ≤ 65536 ∧ (0 : Int) ≤ (S.ct a : Int) := by unfold Fs.ct; omega
    obtain ⟨hct, hct0⟩ := hct
    by_cases h2 : S.qu a ≤ S.ct a
    · have e0 : alE S a = 19 := by unfold alE; rw [if_pos h1, Int.toNat_natCast, if_pos h2]
      have e1 : alR S a = 0 := by unfold alR; rw [if_neg (by omega)]
      have e2 : alS S a = S := by unfold alS; rw [if_neg (by omega)]
      rw [e0, e1, e2]
      have HF : Hid (RF B w R r S) := h
      clear h h1 e0 e1 e2 hown hcl hok2
      generalize ((S.ct a : Nat) : Int) = ct at *
      generalize S.qu a = qa at *
      go_enter Tryd.func46, Tryd.ntmps46
      go_wp2_with fail
      refine O.mono ?_
      rintro e w ⟨rfl, rfl⟩
      go_wp2_with fail
      refine Q.mono ?_
      rintro e w ⟨rfl, rfl⟩
      go_wp2_with fail
      go_ret2
      exact ⟨rfl, HF.out, Tu.refl _ _ _⟩
    · have h2' : (S.ct a : Int) < S.qu a := by omega
      have HF : Hid (RF B w R r S) := h
      have c0 := h.c0
      have hrl := h.rlt
      have hu : alE S a = if S.ct 17 = 0 then 20 else 0 := by unfold alE; rw [if_pos h1, Int.toNat_natCast, if_neg h2]
      have H2 : Hid (Ok (alS S a) ∧ alE S a = if S.ct 17 = 0 then 20 else 0) := ⟨hok2, hu⟩
      clear h h1 hown hcl hok2 h2 hu
      obtain ⟨ct, hct1⟩ : ∃ x : Int, (S.ct a : Int) = x := ⟨_, rfl⟩
      obtain ⟨qa, hqa⟩ : ∃ x : Int, S.qu a = x := ⟨_, rfl⟩
      rw [hct1] at Q h2' hct hct0
      rw [hqa] at cq h2' hq
      clear hct1 hqa
      go_enter Tryd.func46, Tryd.ntmps46
      go_wp2_with fail
      refine O.mono ?_
      rintro e w ⟨rfl, rfl⟩
      go_wp2_with fail
      refine Q.mono ?_
      rintro e w ⟨rfl, rfl⟩
      go_wp2_with fail
      go_loopw [8] (fun i wr => ∃ j : Nat, j ≤ S.n ∧ i = .int .i64 j ∧ Hid (∀ k, k < j → S.cl k ≠ 17) ∧ wr = w) (fun i _ => S.n - (intOf i).toNat)
      case atStart => exact ⟨0, by omega, rfl, fun k hk => absurd hk (by omega), rfl⟩
      case round =>
        obtain ⟨j, hj, rfl, HJ, rfl⟩ := hrel
        by_cases hjn : j < S.n
        · have hjn' : (j : Int) < S.n := by omega
          have r0 := HF.out.r0 hjn
          have r1 := HF.out.r1 hjn
          have f0 := HF.out.rfz (j * 2)
          have f1 := HF.out.rfz (j * 2 + 1)
          have tt := HF.out.ok.t j hjn
          by_cases e : S.cl j = 17
          · rw [tt.1 e] at r1
            have hls : S.lst = j := S.lst_eq hjn e HJ.out
            have h17 : ¬ S.ct 17 = 0 := by have := cn_pos S.cl S.n j hjn; rw [e] at this; unfold Fs.ct; omega
            have e0 : alE S a = 0 := by rw [H2.out.2, if_neg h17]
            have e1 : alR S a = j := by unfold alR; rw [if_pos e0, hls]
            have e2 : alS S a = S.set j a 1 := by unfold alS; rw [if_pos e0, hls, Int.toNat_natCast]
            have m := HF.out.both (i := j) (c := a) (t := 1) hjn (by rw [← e2]; exact H2.out.1) (a : Int) (by rw [if_neg (by omega)])
            rw [← e2] at m
            have HE : Hid (_) := m
            have HEe : Hid (alE S a = 0 ∧ alR S a = j) := ⟨e0, e1⟩
            clear m e0 e1 e2 h17 hls tt e
            go_wp2_with fail
            go_ret2
            exact ⟨by rw [HEe.out.1, HEe.out.2]; rfl, HE.out⟩
          · have t1 : (0 : Int) < (S.ti j : Int) := by have := (tt.2 e).1; omega
            have HN : Hid (∀ k, k < j + 1 → S.cl k ≠ 17) := fun k hk => by
              rcases Nat.lt_succ_iff_lt_or_eq.1 hk with h | rfl
              · exact HJ.out k h
              · exact e
            clear tt e
            generalize ((S.ti j : Nat) : Int) = t at *
            go_wp2_with fail
            go_roundw
            case rel => exact ⟨j + 1, by omega, by go_num, HN, trivial⟩
            case measure => simp [intOf]; omega
        · obtain rfl : j = S.n := by omega
          have h17 : S.ct 17 = 0 := by
            rcases Nat.eq_zero_or_pos (S.ct 17) with h | h
            · exact h
            · obtain ⟨f, g1, g2⟩ := cn_some _ _ _ h
              exact absurd g2 (HJ.out f g1)
          have e0 : alE S a = 20 := by rw [H2.out.2, if_pos h17]
          have e1 : alR S a = 0 := by unfold alR; rw [if_neg (by omega)]
          have e2 : alS S a = S := by unfold alS; rw [if_neg (by omega)]
          have HEe : Hid (alE S a = 20 ∧ alR S a = 0 ∧ alS S a = S) := ⟨e0, e1, e2⟩
          clear e0 e1 e2 h17
          go_wp2_with fail
          go_ret2
          exact ⟨by rw [HEe.out.1, HEe.out.2.1]; rfl, by rw [HEe.out.2.2]; exact HF.out, Tu.refl _ _ _⟩
  · rw [decide_eq_false h1] at O
    have e0 : alE S o = 2 := by unfold alE; rw [if_neg h1]
    have e1 : alR S o = 0 := by unfold alR; rw [if_neg (by omega)]
    have e2 : alS S o = S := by unfold alS; rw [if_neg (by omega)]
    rw [e0, e1, e2]
    have HF : Hid (RF B w R r S) := h
    clear h h1 e0 e1 e2 hok2
    go_enter Tryd.func46, Tryd.ntmps46
    go_wp2_with fail
    refine O.mono ?_
    rintro e w ⟨rfl, rfl⟩
    go_wp2_with fail
    go_ret2
    exact ⟨rfl, HF.out, Tu.refl _ _ _⟩
end
theorem info39 : ∃ i, Tryd.prog.info? 138 = some i ∧ i.zero = some (.agg #[.int .i64 0, .int .i64 0]) ∧ i.size = 2 ∧ i.bytes = 16 := by
  have h : (Tryd.prog.info? 138).map (fun i => (i.zero, i.size, i.bytes)) = some (some (.agg #[.int .i64 0, .int .i64 0]), 2, 16) := by kernel_rfl
  obtain ⟨i, hi, hb⟩ := Option.map_eq_some_iff.1 h
  simp only [Prod.mk.injEq] at hb
  exact ⟨i, hi, hb.1, hb.2.1, hb.2.2⟩
theorem make_rrow (w : World) (n : Nat) (hn : n ≤ 65536) : (Instr.makeSlice 134 (.int .i64 n) (.int .i64 n)).run Tryd.prog w = .ok (.slice (some ⟨w.heap.size, 0, none⟩) n n) (w.alloc (.cells (madeCells #[.int .i64 0, .int .i64 0] (n * 2)) 138)) := by
  obtain ⟨i, hi, hz, hs, hb⟩ := info39
  have := run_makeSlice (P := Tryd.prog) w 134 138 i _ Tryd.underlying134 hi hz .i64 .i64 n n (by omega) (by omega) (by rw [hs]; simp; omega) (by rw [hb]; omega) (by omega)
  rw [hs] at this
  exact this
theorem frnew_no (n f : Int) (w : World) (h : ¬ (1 ≤ n ∧ n ≤ 65536 ∧ 0 ≤ f ∧ f ≤ n)) : Calls Tryd.prog 41 #[.int .i64 n, .int .i64 f] w fun e w' => e = .returned (.tuple #[.pointer none, .int .i64 2]) ∧ w' = w := by
  by_cases h1 : n < 1
  · go_enter Tryd.func41, Tryd.ntmps41
    go_wp2_with fail
    go_ret2
    exact ⟨rfl, rfl⟩
  · by_cases h2 : 65536 < n
    · go_enter Tryd.func41, Tryd.ntmps41
      go_wp2_with fail
      go_ret2
      exact ⟨rfl, rfl⟩
    · by_cases h3 : f < 0
      · go_enter Tryd.func41, Tryd.ntmps41
        go_wp2_with fail
        go_ret2
        exact ⟨rfl, rfl⟩
      · have h4 : n < f := by omega
        go_enter Tryd.func41, Tryd.ntmps41
        go_wp2_with fail
        go_ret2
        exact ⟨rfl, rfl⟩
/-- the document's block -/
def RO (w : World) (R r n f : Nat) (qu : Nat → Int) : Prop := ∃ cs : Array Value, w.heap[R]? = some (.cells cs 136 (0, 0)) ∧ cs.size = 19 ∧ cs[0]? = some (.slice (some ⟨r, 0, none⟩) n n) ∧ cs[1]? = some (.int .i64 f) ∧ ∀ k, k < 17 → cs[2 + k]? = some (.int .i64 (qu k))
section
variable {w w' : World} {R r n f : Nat} {qu : Nat → Int}
theorem RO.keep (h : RO w R r n f qu) (hk : w'.heap[R]? = w.heap[R]?) : RO w' R r n f qu := by
  obtain ⟨cs, h1, h2⟩ := h
  exact ⟨cs, hk.trans h1, h2⟩
theorem RO.lt (h : RO w R r n f qu) : R < w.heap.size := by
  obtain ⟨cs, h1, h2⟩ := h
  exact lt_of_heap h1
theorem RO.c0 (h : RO w R r n f qu) : w.cell? ⟨R, 0, none⟩ = some (.slice (some ⟨r, 0, none⟩) n n) := by
  obtain ⟨cs, h, h1, h2, _⟩ := h
  rw [cell_at h, h2]
theorem RO.cq (h : RO w R r n f qu) {k : Nat} (hk : k < 17) : w.cell? ⟨R, 2 + k, none⟩ = some (.int .i64 (qu k)) ∧ w.frozen? ⟨R, 2 + k, none⟩ = false := by
  obtain ⟨cs, h, h1, h2, h3, h4⟩ := h
  exact ⟨by rw [cell_at h, h4 k hk], froz_at h _⟩
theorem RO.set (h : RO w R r n f qu) {k : Nat} (hk : k < 17) (v : Int) : RO (w.setCell ⟨R, 2 + k, none⟩ (.int .i64 v)) R r n f (upd qu k v) ∧ Trn (fun b => b = R) w (w.setCell ⟨R, 2 + k, none⟩ (.int .i64 v)) := by
  obtain ⟨cs, o1, o2, o3, o4, o5⟩ := h
  refine ⟨⟨_, setCell_eq_setRow w R (2 + k) cs 136 (0, 0) (.int .i64 v) o1 ▸ setRow_heap w R cs _ 136 _ o1, by rw [Array.size_setIfInBounds]; exact o2, ?_, ?_, fun j hj => ?_⟩, trn_setCell (fun b => b = R) o1 rfl _ _⟩
  · rw [Array.getElem?_setIfInBounds_ne (by omega)]; exact o3
  · rw [Array.getElem?_setIfInBounds_ne (by omega)]; exact o4
  · by_cases e : j = k
    · subst e
      rw [upd_self, Array.getElem?_setIfInBounds_self_of_lt (by omega)]
    · rw [upd_other _ _ _ e, Array.getElem?_setIfInBounds_ne (by omega)]
      exact o5 j hj
end
/-- the block as New lays it -/
def rb0 (r n f : Nat) : Array Value := #[.slice (some ⟨r, 0, none⟩) n n, .int .i64 f, .int .i64 0, .int .i64 0, .int .i64 0, .int .i64 0, .int .i64 0, .int .i64 0, .int .i64 0, .int .i64 0, .int .i64 0, .int .i64 0, .int .i64 0, .int .i64 0, .int .i64 0, .int .i64 0, .int .i64 0, .int .i64 0, .int .i64 0]
theorem rb0_q (r n f : Nat) : ∀ k, k < 17 → (rb0 r n f)[2 + k]? = some (.int .i64 0)
  | 0, _ => rfl
  | 1, _ => rfl
  | 2, _ => rfl
  | 3, _ => rfl
  | 4, _ => rfl
  | 5, _ => rfl
  | 6, _ => rfl
  | 7, _ => rfl
  | 8, _ => rfl
  | 9, _ => rfl
  | 10, _ => rfl
  | 11, _ => rfl
  | 12, _ => rfl
  | 13, _ => rfl
  | 14, _ => rfl
  | 15, _ => rfl
  | 16, _ => rfl
  | k + 17, h => by omega
theorem rstart (w : World) (n f : Nat) : RO ((w.alloc (.cells (madeCells #[.int .i64 0, .int .i64 0] (n * 2)) 138)).alloc (.cells (rb0 w.heap.size n f) 136)) (w.heap.size + 1) w.heap.size n f (fun _ => 0) ∧
    RW ((w.alloc (.cells (madeCells #[.int .i64 0, .int .i64 0] (n * 2)) 138)).alloc (.cells (rb0 w.heap.size n f) 136)) w.heap.size n (fun _ => 0) (fun i => if i < 0 then 1 else 0) ∧ Below w.heap.size w ((w.alloc (.cells (madeCells #[.int .i64 0, .int .i64 0] (n * 2)) 138)).alloc (.cells (rb0 w.heap.size n f) 136)) := by
  have hs : (w.alloc (.cells (madeCells #[.int .i64 0, .int .i64 0] (n * 2)) 138)).heap.size = w.heap.size + 1 := by simp
  have h1 := heap_alloc_at (w.alloc (.cells (madeCells #[.int .i64 0, .int .i64 0] (n * 2)) 138)) (.cells (rb0 w.heap.size n f) 136)
  rw [hs] at h1
  have h2 := (heap_alloc_past (w.alloc (.cells (madeCells #[.int .i64 0, .int .i64 0] (n * 2)) 138)) (.cells (rb0 w.heap.size n f) 136) (k := w.heap.size) (by omega)).trans (heap_alloc_at w _)
  refine ⟨⟨_, h1, rfl, rfl, rfl, rb0_q _ _ _⟩, ⟨_, h2, by simp [madeCells], fun i hi => ?_⟩, ((Below.refl _ _).alloc (Nat.le_refl _) _).alloc (by simp) _⟩
  have hz : ∀ k, k < n * 2 → (madeCells #[Value.int .i64 0, .int .i64 0] (n * 2))[k]? = some (.int .i64 0) := fun k hk => by
    have e : k % 2 = 0 ∨ k % 2 = 1 := by omega
    rcases e with e | e <;> simp [madeCells, hk, e]
  exact ⟨hz _ (by omega), hz _ (by omega)⟩
set_option maxHeartbeats 800000 in
theorem frnew_yes (n f : Nat) (w : World) (h1 : 1 ≤ n) (h2 : n ≤ 65536) (h3 : f ≤ n) : Calls Tryd.prog 41 #[.int .i64 n, .int .i64 f] w fun e w' => ∃ R r, e = .returned (.tuple #[.pointer (some ⟨R, 0, none⟩), .int .i64 0]) ∧ RF (Lw w.heap.size) w' R r (nwS n f f) ∧ Below w.heap.size w w' := by
  have hmk := make_rrow w n h2
  have HS : Hid (_) := rstart w n f
  have hdd : decide (n < f) = false := decide_eq_false (by omega)
  go_enter Tryd.func41, Tryd.ntmps41
  go_wp2_with fail
  go_loopw [7] (fun i wr => ∃ j : Nat, j ≤ f ∧ i = .int .i64 j ∧ Hid (RO wr (w.heap.size + 1) w.heap.size n f (fun _ => 0) ∧ RW wr w.heap.size n (fun _ => 0) (fun i => if i < j then 1 else 0) ∧ Below w.heap.size w wr)) (fun i _ => f - (intOf i).toNat)
  case atStart => exact ⟨0, by omega, rfl, HS.out⟩
  case round =>
    obtain ⟨j, hj, rfl, HJ⟩ := hrel
    by_cases hjn : j < f
    · have hjn' : (j : Int) < f := by omega
      have hjn2 : (j : Int) < n := by omega
      have c0 := HJ.out.1.c0
      have hl := HJ.out.1.lt
      obtain ⟨d0, d1, d2, d3, d4⟩ := HJ.out.2.1.c0 (i := j) (by omega)
      have HN : Hid (RO (wr.setCell ⟨w.heap.size, j * 2 + 1, none⟩ (.int .i64 1)) (w.heap.size + 1) w.heap.size n f (fun _ => 0) ∧ RW (wr.setCell ⟨w.heap.size, j * 2 + 1, none⟩ (.int .i64 1)) w.heap.size n (fun _ => 0) (fun i => if i < j + 1 then 1 else 0) ∧ Below w.heap.size w (wr.setCell ⟨w.heap.size, j * 2 + 1, none⟩ (.int .i64 1))) := by
        obtain ⟨hO, hR, hB⟩ := HJ.out
        obtain ⟨o1, t1⟩ := hR.set1 (i := j) (by omega) 1
        rw [below_succ] at o1
        exact ⟨hO.keep (t1.block _ hO.lt (by omega)), o1, t1.os.trans hB.os, t1.tape.trans hB.tape, t1.output.trans hB.output, Nat.le_trans hB.size t1.size, fun k hk => (t1.block k (Nat.lt_of_lt_of_le hk hB.size) (by omega)).trans (hB.block k hk)⟩
      clear HJ
      go_wp2_with fail
      go_roundw
      case rel => exact ⟨j + 1, by omega, by go_num, HN.out⟩
      case measure => simp [intOf]; omega
    · obtain rfl : j = f := by omega
      have HF : Hid (RO wr (w.heap.size + 1) w.heap.size n j (fun k => if k < 0 then (n : Int) else 0) ∧ RW wr w.heap.size n (fun _ => 0) (fun i => if i < j then 1 else 0) ∧ Below w.heap.size w wr) := HJ.out
      clear HJ HS
      go_wp2_with fail
      go_loopw [8] (fun i wq => ∃ k : Nat, k ≤ 17 ∧ i = .int .i64 k ∧ Hid (RO wq (w.heap.size + 1) w.heap.size n j (fun q => if q < k then (n : Int) else 0) ∧ RW wq w.heap.size n (fun _ => 0) (fun i => if i < j then 1 else 0) ∧ Below w.heap.size w wq)) (fun i _ => 17 - (intOf i).toNat)
      case atStart => exact ⟨0, by omega, rfl, HF.out⟩
      case round =>
        obtain ⟨k, hk, rfl, HJ⟩ := hrel
        by_cases hkn : k < 17
        · have hkn' : (k : Int) < 17 := by omega
          obtain ⟨cq, fq⟩ := HJ.out.1.cq hkn
          have hl := HJ.out.1.lt
          have HN : Hid (RO (wr.setCell ⟨w.heap.size + 1, 2 + k, none⟩ (.int .i64 n)) (w.heap.size + 1) w.heap.size n j (fun q => if q < k + 1 then (n : Int) else 0) ∧ RW (wr.setCell ⟨w.heap.size + 1, 2 + k, none⟩ (.int .i64 n)) w.heap.size n (fun _ => 0) (fun i => if i < j then 1 else 0) ∧ Below w.heap.size w (wr.setCell ⟨w.heap.size + 1, 2 + k, none⟩ (.int .i64 n))) := by
            obtain ⟨hO, hR, hB⟩ := HJ.out
            obtain ⟨o1, t1⟩ := hO.set hkn (n : Int)
            rw [below_succ] at o1
            obtain ⟨rs, q1, q2⟩ := hR
            exact ⟨o1, ⟨rs, (t1.block _ (lt_of_heap q1) (by omega)).trans q1, q2⟩, t1.os.trans hB.os, t1.tape.trans hB.tape, t1.output.trans hB.output, Nat.le_trans hB.size t1.size, fun k hk => (t1.block k (Nat.lt_of_lt_of_le hk hB.size) (by omega)).trans (hB.block k hk)⟩
          clear HJ
          go_wp2_with fail
          go_roundw
          case rel => exact ⟨k + 1, by omega, by go_num, HN.out⟩
          case measure => simp [intOf]; omega
        · obtain rfl : k = 17 := by omega
          have HE : Hid (RF (Lw w.heap.size) wr (w.heap.size + 1) w.heap.size (nwS n j j) ∧ Below w.heap.size w wr) := by
            obtain ⟨⟨cs, o1, o2, o3, o4, o5⟩, ⟨rs, q1, q2, q3⟩, hB⟩ := HJ.out
            have hcl : ∀ i, (nwS n j j).cl i = if i < j then 0 else 17 := fun i => rfl
            have hti : ∀ i, (nwS n j j).ti i = if i < j then 1 else 0 := fun i => rfl
            refine ⟨⟨⟨cs, o1, o2, o3, o4, fun k hk => (o5 k hk).trans (by simp [hk, nwS])⟩, ⟨rs, q1, q2, fun i hi => ?_⟩, ⟨h1, h2, h3, fun i => ?_, fun i hi => ?_, fun k => by simp only [nwS]; omega⟩, (fun e => by have : w.heap.size + 1 < w.heap.size := e; omega), (fun e => by have : w.heap.size < w.heap.size := e; omega)⟩, hB⟩
            · obtain ⟨e1, e2⟩ := q3 i hi
              rw [e1, e2]
              unfold rO
              rw [hcl, hti]
              by_cases e : i < j
              · simp [e]
              · simp [e]
            · rw [hcl]
              split <;> omega
            · rw [hcl, hti]
              split <;> omega
          clear HJ
          go_wp2_with fail
          go_ret2
          exact ⟨_, _, rfl, HE.out⟩
end Go.Proofs.YteghkhdpdeiocaaDoor
