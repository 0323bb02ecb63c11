/-
  The document's tables: what New does.
-/
import Derived.Test.YteghkhdpdeiocaaDoorRu
namespace Go.Proofs.YteghkhdpdeiocaaDoor
open Go.RowKit Go.Maps
set_option linter.unusedVariables false
set_option maxRecDepth 100000

/-- the document's tables in the heap -/
def UW (w : World) (U : Nat) : Prop := ∃ cs : Array Value, w.heap[U]? = some (.cells cs 144 (0, 0)) ∧ cs.size = 5156
theorem UW.set {w : World} {U : Nat} (h : UW w U) (o : Nat) (v : Value) : UW (w.setCell ⟨U, o, none⟩ v) U ∧ Trn (fun k => k = U) w (w.setCell ⟨U, o, none⟩ v) := by
  obtain ⟨cs, h1, h2⟩ := h
  exact ⟨⟨_, setCell_eq_setRow w U o cs 144 (0, 0) v h1 ▸ setRow_heap w U cs _ 144 _ h1, by simpa using h2⟩, trn_setCell (fun k => k = U) h1 rfl o v⟩
theorem UW.some {w : World} {U : Nat} (h : UW w U) {o : Nat} (ho : o < 5156) : ∃ v, w.cell? ⟨U, o, none⟩ = some v := by
  obtain ⟨cs, h1, h2⟩ := h
  rw [cell_at h1]
  exact ⟨_, Array.getElem?_eq_getElem (by omega)⟩
theorem UW.fz {w : World} {U : Nat} (h : UW w U) (o : Nat) : w.frozen? ⟨U, o, none⟩ = false := by
  obtain ⟨cs, h1, h2⟩ := h
  exact froz_at h1 o
theorem UW.lt {w : World} {U : Nat} (h : UW w U) : U < w.heap.size := by
  obtain ⟨cs, h1, h2⟩ := h
  exact lt_of_heap h1
theorem zc_size : Tryd.zeroCells144.size = 5156 := by kernel_rfl
section
variable {N0 : Nat} {w w' : World} {c h R r n gu : Nat} {m : List Int} {S : Fs}
theorem RZ.other (x : RZ N0 w c h R r m S) {U : Nat} (hU : UW w U) (t : Trn (fun k => k = U) w w') : RZ N0 w' c h R r m S := by
  obtain ⟨cs, h1, h2⟩ := hU
  exact ⟨x.rm.stay (t.block _ x.rm.blt (ne_typ x.rm.cell h1 (by decide))) (t.block _ x.rm.glt (ne_typ x.rm.row h1 (by decide))), x.rf.keep fun k o ho hr => (t.block k (lt_of_heap ho) (fun e => by
    rw [e, h1] at ho
    cases ho
    exact not_or (by decide) hr)).trans ho⟩
set_option maxHeartbeats 1600000 in
theorem rnew_rz (x : RZ N0 w c h R r m S) (hl : m.length = n * 256) (hn : n ≤ 65536) (hg : 1 ≤ gu ∧ gu ≤ 16) (h0 : takeE n S = 0) : Calls Tryd.prog 42 #[.pointer (some ⟨c, 0, none⟩), .pointer (some ⟨R, 0, none⟩), .int .i64 gu] w fun e w1 => ∃ U, e = .returned (.tuple #[.pointer (some ⟨U, 0, none⟩), .int .i64 0]) ∧ RZ N0 w1 c h R r (takeM n m S) (takeS n S) ∧ UW w1 U ∧ w.heap.size ≤ U ∧ Tq N0 (fun k => k = h) w w1 := by
  have C1 := rtable_rz x hl hn
  rw [h0, if_pos rfl] at C1
  have hg1 : (1 : Int) ≤ gu := by omega
  have hg2 : (gu : Int) ≤ 16 := by omega
  clear x hl hn h0 hg
  generalize alR S 0 = t at *
  go_enter Tryd.func42, Tryd.ntmps42
  go_wp2_with fail
  refine C1.mono ?_
  rintro e w1 ⟨rfl, h1, tq1⟩
  have H1 : Hid (RZ N0 w1 c h R r (takeM n m S) (takeS n S) ∧ Tq N0 (fun k => k = h) w w1) := ⟨h1, tq1⟩
  clear h1 tq1 C1
  go_wp2_with fail
  have HU : Hid (RZ N0 (w1.alloc (.cells ((((Tryd.zeroCells144.setIfInBounds 0 (.pointer (some ⟨c, 0, none⟩))).setIfInBounds 1 (.pointer (some ⟨R, 0, none⟩))).setIfInBounds 2 (.int .i64 gu)).setIfInBounds 3 (.int .i64 t)) 144)) c h R r (takeM n m S) (takeS n S) ∧ UW (w1.alloc (.cells ((((Tryd.zeroCells144.setIfInBounds 0 (.pointer (some ⟨c, 0, none⟩))).setIfInBounds 1 (.pointer (some ⟨R, 0, none⟩))).setIfInBounds 2 (.int .i64 gu)).setIfInBounds 3 (.int .i64 t)) 144)) w1.heap.size ∧ Tq N0 (fun k => k = h ∨ k = w1.heap.size) w (w1.alloc (.cells ((((Tryd.zeroCells144.setIfInBounds 0 (.pointer (some ⟨c, 0, none⟩))).setIfInBounds 1 (.pointer (some ⟨R, 0, none⟩))).setIfInBounds 2 (.int .i64 gu)).setIfInBounds 3 (.int .i64 t)) 144))) := by
    have hbl : Below w1.heap.size w1 (w1.alloc (.cells ((((Tryd.zeroCells144.setIfInBounds 0 (.pointer (some ⟨c, 0, none⟩))).setIfInBounds 1 (.pointer (some ⟨R, 0, none⟩))).setIfInBounds 2 (.int .i64 gu)).setIfInBounds 3 (.int .i64 t)) 144)) := (Below.refl _ _).alloc (Nat.le_refl _) _
    exact ⟨H1.out.1.below hbl, ⟨_, heap_alloc_at _ _, by simp only [Array.size_setIfInBounds]; exact zc_size⟩, (H1.out.2.mono fun _ e => .inl e).trans (Tq.of_below hbl)⟩
  generalize hUU : w1.heap.size = U at *
  go_loopw [11] (fun i wr => ∃ j : Nat, j ≤ 32 ∧ i = .int .i64 j ∧ Hid (RZ N0 wr c h R r (takeM n m S) (takeS n S) ∧ UW wr U ∧ Tq N0 (fun k => k = h ∨ k = U) w wr)) (fun i _ => 32 - (intOf i).toNat)
  case atStart => exact ⟨0, by omega, rfl, HU.out⟩
  case round =>
    obtain ⟨j, hj, rfl, HJ⟩ := hrel
    by_cases hj2 : j < 32
    · have hj3 : (j : Int) < 32 := by omega
      obtain ⟨v0, cv⟩ := HJ.out.2.1.some (o := 4 + j) (by omega)
      have cf := HJ.out.2.1.fz (4 + j)
      have cl := HJ.out.2.1.lt
      obtain ⟨u1, t1⟩ := HJ.out.2.1.set (4 + j) (.int .i64 (-1))
      have HN : Hid (RZ N0 (wr.setCell ⟨U, 4 + j, none⟩ (.int .i64 (-1))) c h R r (takeM n m S) (takeS n S) ∧ UW (wr.setCell ⟨U, 4 + j, none⟩ (.int .i64 (-1))) U ∧ Tq N0 (fun k => k = h ∨ k = U) w (wr.setCell ⟨U, 4 + j, none⟩ (.int .i64 (-1)))) := ⟨HJ.out.1.other HJ.out.2.1 t1, u1, HJ.out.2.2.trans (Tq.of_trn t1 fun _ e => .inr e)⟩
      clear u1 t1 HJ
      go_wp2_with fail
      go_roundw
      case rel => exact ⟨j + 1, by omega, by go_num, HN.out⟩
      case measure => simp [intOf]; omega
    · obtain rfl : j = 32 := by omega
      have HK : Hid (Tq N0 (fun k => k = h) w wr) := ⟨HJ.out.2.2.os, HJ.out.2.2.tape, HJ.out.2.2.output, HJ.out.2.2.size, fun k o hk hp hr => HJ.out.2.2.keep k o hk (fun e => e.elim hp (fun e => by
        have h1 := lt_of_heap hk
        have h2 := H1.out.2.size
        omega)) hr⟩
      have hUs : w.heap.size ≤ U := by have := H1.out.2.size; omega
      go_wp2_with fail
      go_ret2
      exact ⟨U, rfl, HJ.out.1, HJ.out.2.1, hUs, HK.out⟩
end
end Go.Proofs.YteghkhdpdeiocaaDoor
