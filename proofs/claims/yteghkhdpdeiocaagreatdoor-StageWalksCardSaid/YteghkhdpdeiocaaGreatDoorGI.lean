/-
  The document's tables: what table and New do.
  The document's tables: what New does.
-/
import Derived.Test.YteghkhdpdeiocaaGreatDoorGU
import Derived.Test.YteghkhdpdeiocaaGreatDoorGH
import Derived.Test.YteghkhdpdeiocaaGreatDoorGC
import Derived.Laws.Tables
namespace Go.Proofs.YteghkhdpdeiocaaGreatDoor
open Go.RowKit Go.Maps
set_option linter.unusedVariables false
set_option maxRecDepth 100000

/-- what has turned of the document's: blocks of P, and its frames -/
structure Tq (N0 : Nat) (P : Nat → Prop) (w w' : World) : Prop where
  os : w'.os = w.os
  tape : w'.tape = w.tape
  output : w'.output = w.output
  size : w.heap.size ≤ w'.heap.size
  keep : ∀ k o, w.heap[k]? = some o → ¬ P k → (k < N0 ∨ ¬ Or o) → w'.heap[k]? = some o
theorem Tq.refl (N0 : Nat) (P : Nat → Prop) (w : World) : Tq N0 P w w := ⟨rfl, rfl, rfl, Nat.le_refl _, fun _ _ h _ _ => h⟩
theorem Tq.trans {N0 : Nat} {P : Nat → Prop} {a b c : World} (h : Tq N0 P a b) (k : Tq N0 P b c) : Tq N0 P a c :=
  ⟨k.os.trans h.os, k.tape.trans h.tape, k.output.trans h.output, Nat.le_trans h.size k.size, fun i o hi hp hr => k.keep i o (h.keep i o hi hp hr) hp hr⟩
theorem Tq.mono {N0 : Nat} {P Q : Nat → Prop} {a b : World} (h : Tq N0 P a b) (hp : ∀ k, P k → Q k) : Tq N0 Q a b := ⟨h.os, h.tape, h.output, h.size, fun i o hi hq hr => h.keep i o hi (fun e => hq (hp i e)) hr⟩
theorem Tq.of_below {N0 : Nat} {P : Nat → Prop} {a b : World} (h : Below a.heap.size a b) : Tq N0 P a b := ⟨h.os, h.tape, h.output, h.size, fun k o hk _ _ => (h.block k (lt_of_heap hk)).trans hk⟩
theorem Tq.of_tu {N0 : Nat} {P : Nat → Prop} {a b : World} (h : Tu Or (Lw N0) a b) : Tq N0 P a b := ⟨h.os, h.tape, h.output, h.size, fun k o hk _ hr => h.keep k o hk hr⟩
theorem Tq.of_grown {N0 : Nat} {P : Nat → Prop} {g : Nat} {a b : World} (h : a.grownBy b (some g)) (hg : P g) : Tq N0 P a b := ⟨h.os, h.tape, h.output, h.size, fun k o hk hp _ => (h.block k (lt_of_heap hk) (fun e => hp (by cases e; exact hg))).trans hk⟩
theorem Tq.of_trn {N0 : Nat} {P S : Nat → Prop} {a b : World} (h : Trn S a b) (hs : ∀ k, S k → P k) : Tq N0 P a b := ⟨h.os, h.tape, h.output, h.size, fun k o hk hp _ => (h.block k (lt_of_heap hk) (fun e => hp (hs k e))).trans hk⟩
theorem Tq.drew {N0 : Nat} {P : Nat → Prop} {a b : World} (h : Tq N0 P a b) : Tq N0 P a b.drew := ⟨h.os, h.tape, h.output, h.size, h.keep⟩
theorem not_or {cs : Array Value} {t : TypeId} {f : Nat × Nat} (h : t ≠ 121 ∧ t ≠ 123) : ¬ Or (.cells cs t f) := by
  rintro (e | e)
  · exact h.1 e
  · exact h.2 e
/-- none -/
def Nn : Nat → Prop := fun _ => False
/-- the document's memory and frames -/
structure RZ (N0 : Nat) (w : World) (c h R r : Nat) (m : List Int) (S : Fs) : Prop where
  rm : RM w c h m
  rf : RF (Lw N0) w R r S
section
variable {N0 : Nat} {w w' : World} {c h R r n gu : Nat} {m : List Int} {S : Fs}
theorem RM.stay {w w' : World} {b g : Nat} {zs : List Int} (h : RM w b g zs) (hb : w'.heap[b]? = w.heap[b]?) (hg : w'.heap[g]? = w.heap[g]?) : RM w' b g zs := ⟨hb.trans h.cell, hg.trans h.row, h.ne, h.bytes, h.pos, h.len⟩
theorem RZ.below (x : RZ N0 w c h R r m S) (hb : Below w.heap.size w w') : RZ N0 w' c h R r m S := ⟨x.rm.below hb, x.rf.below hb⟩
theorem RZ.frames (x : RZ N0 w c h R r m S) {S' : Fs} (hf : RF (Lw N0) w' R r S') (t : Tu Or (Lw N0) w w') : RZ N0 w' c h R r m S' :=
  ⟨x.rm.stay ((t.keep _ _ x.rm.cell (.inr (not_or (by decide)))).trans x.rm.cell.symm) ((t.keep _ _ x.rm.row (.inr (not_or (by decide)))).trans x.rm.row.symm), hf⟩
theorem RZ.mem (x : RZ N0 w c h R r m S) {m' : List Int} (hm : RM w' c h m') (t : w.grownBy w' (some h)) : RZ N0 w' c h R r m' S :=
  ⟨hm, x.rf.keep fun k o ho hr => (t.block k (lt_of_heap ho) (fun e => by
    cases e
    rw [x.rm.row] at ho
    cases ho
    exact not_or (by decide) hr)).trans ho⟩
theorem rtable_rz (x : RZ N0 w c h R r m S) (hl : m.length = n * 256) (hn : n ≤ 65536) : Calls Tryz.prog 49 #[.pointer (some ⟨c, 0, none⟩), .pointer (some ⟨R, 0, none⟩)] w fun e w1 => e = .returned (.tuple #[.int .i64 (if takeE n S = 0 then alR S 0 else 0), .int .i64 (takeE n S)]) ∧ RZ N0 w1 c h R r (takeM n m S) (takeS n S) ∧ Tq N0 (fun k => k = h) w w1 := by
  have C1 := ralloc x.rf 0
  unfold takeM
  by_cases h0 : alE S 0 = 0
  · obtain ⟨a, ha, ha1, aR, aS, l1, l2⟩ := al_at h0
    have CC := fun (W : World) (hS : RZ N0 W c h R r m (alS S 0)) => rmclear_any c h m (alR S 0) W hS.rm
    by_cases h1 : alR S 0 < n
    · have e1 : takeE n S = 0 := by unfold takeE; rw [if_neg (not_not_intro h0), if_pos h1]
      have e2 : takeS n S = alS S 0 := by unfold takeS; rw [if_neg (not_not_intro h0), if_pos h1]
      have e3 : clrE m.length (alR S 0) = 0 := by unfold clrE; rw [if_pos (by omega)]
      rw [e1, e2, if_pos rfl, if_pos rfl]
      simp only [e3] at CC
      rw [h0] at C1
      have HS : Hid (RZ N0 w c h R r m S) := x
      clear x e1 e2 e3 h1 aR aS l1 l2 ha ha1 hl hn
      generalize alR S 0 = y at *
      go_enter Tryz.func49, Tryz.ntmps49
      go_wp2_with fail
      refine C1.mono ?_
      rintro e w1 ⟨rfl, hf, ht⟩
      have H1 : Hid (RZ N0 w1 c h R r m (alS S 0) ∧ Tq N0 (fun k => k = h) w w1) := ⟨HS.out.frames hf ht, Tq.of_tu ht⟩
      clear hf ht C1
      go_wp2_with fail
      refine (CC _ H1.out.1).mono ?_
      rintro e w2 ⟨rfl, hm, hg⟩
      have H2 : Hid (RZ N0 w2 c h R r (clearV m y) (alS S 0) ∧ Tq N0 (fun k => k = h) w w2) := ⟨H1.out.1.mem hm hg, H1.out.2.trans (Tq.of_grown hg rfl)⟩
      clear hm hg
      go_wp2_with fail
      go_ret2
      exact ⟨rfl, H2.out⟩
    · have e1 : takeE n S = 12 := by unfold takeE; rw [if_neg (not_not_intro h0), if_neg h1]
      have e2 : takeS n S = frS (alS S 0) (alR S 0) 0 := by unfold takeS; rw [if_neg (not_not_intro h0), if_neg h1]
      have e3 : clrE m.length (alR S 0) = 12 := by unfold clrE; rw [if_neg (by omega)]
      have e4 : clearV m (alR S 0) = m := by unfold clearV; rw [if_neg (by omega)]
      rw [e1, e2, if_neg (by decide), if_neg (by decide)]
      simp only [e3, e4] at CC
      rw [h0] at C1
      have HS : Hid (RZ N0 w c h R r m S) := x
      clear x e1 e2 e3 e4 h1 aR aS l1 l2 ha ha1 hl hn
      generalize alR S 0 = y at *
      go_enter Tryz.func49, Tryz.ntmps49
      go_wp2_with fail
      refine C1.mono ?_
      rintro e w1 ⟨rfl, hf, ht⟩
      have H1 : Hid (RZ N0 w1 c h R r m (alS S 0) ∧ Tq N0 (fun k => k = h) w w1) := ⟨HS.out.frames hf ht, Tq.of_tu ht⟩
      clear hf ht C1
      go_wp2_with fail
      refine (CC _ H1.out.1).mono ?_
      rintro e w2 ⟨rfl, hm, hg⟩
      have H2 : Hid (RZ N0 w2 c h R r m (alS S 0) ∧ Tq N0 (fun k => k = h) w w2) := ⟨H1.out.1.mem hm hg, H1.out.2.trans (Tq.of_grown hg rfl)⟩
      clear hm hg
      have F := rfree H2.out.1.rf y 0
      go_wp2_with fail
      refine F.mono ?_
      rintro e w3 ⟨rfl, hf, ht⟩
      have H3 : Hid (RZ N0 w3 c h R r m (frS (alS S 0) y 0) ∧ Tq N0 (fun k => k = h) w w3) := ⟨H2.out.1.frames hf ht, H2.out.2.trans (Tq.of_tu ht)⟩
      clear hf ht
      go_wp2_with fail
      go_ret2
      exact ⟨rfl, H3.out⟩
  · have e1 : takeE n S = alE S 0 := by unfold takeE; rw [if_pos h0]
    have e2 : takeS n S = S := by unfold takeS; rw [if_pos h0]
    obtain ⟨a1, a2⟩ := al_no h0
    rw [e1, e2, if_neg h0, if_neg h0]
    rw [a1, a2] at C1
    have HS : Hid (RZ N0 w c h R r m S) := x
    clear x e1 e2 a1 a2 hl hn
    generalize alE S 0 = y at *
    go_enter Tryz.func49, Tryz.ntmps49
    go_wp2_with fail
    refine C1.mono ?_
    rintro e w1 ⟨rfl, hf, ht⟩
    have H1 : Hid (RZ N0 w1 c h R r m S ∧ Tq N0 (fun k => k = h) w w1) := ⟨HS.out.frames hf ht, Tq.of_tu ht⟩
    clear hf ht C1
    go_wp2_with fail
    go_ret2
    exact ⟨rfl, H1.out⟩
theorem built_size (c R : Nat) (gu t : Int) : (Tryz.prog.built 89 [(0, .pointer (some ⟨c, 0, none⟩)), (1, .pointer (some ⟨R, 0, none⟩)), (2, .int .i64 gu), (3, .int .i64 t)]).map (·.size) = some 5156 := by kernel_rfl
end
end Go.Proofs.YteghkhdpdeiocaaGreatDoor
namespace Go.Proofs.YteghkhdpdeiocaaGreatDoor
open Go.RowKit Go.Maps
set_option linter.unusedVariables false
set_option maxRecDepth 100000

/-- the document's tables in the heap -/
def UW (w : World) (U : Nat) : Prop := ∃ cs : Array Value, w.heap[U]? = some (.cells cs 89 (0, 0)) ∧ cs.size = 5156
theorem UW.set {w : World} {U : Nat} (h : UW w U) (o : Nat) (v : Value) : UW (w.setCell ⟨U, o, none⟩ v) U ∧ Trn (fun k => k = U) w (w.setCell ⟨U, o, none⟩ v) := by
  obtain ⟨cs, h1, h2⟩ := h
  exact ⟨⟨_, setCell_eq_setRow w U o cs 89 (0, 0) v h1 ▸ setRow_heap w U cs _ 89 _ h1, by simpa using h2⟩, trn_setCell (fun k => k = U) h1 rfl o v⟩
theorem UW.some {w : World} {U : Nat} (h : UW w U) {o : Nat} (ho : o < 5156) : ∃ v, w.cell? ⟨U, o, none⟩ = some v := by
  obtain ⟨cs, h1, h2⟩ := h
  rw [cell_at h1]
  exact ⟨_, Array.getElem?_eq_getElem (by omega)⟩
theorem UW.fz {w : World} {U : Nat} (h : UW w U) (o : Nat) : w.frozen? ⟨U, o, none⟩ = false := by
  obtain ⟨cs, h1, h2⟩ := h
  exact froz_at h1 o
theorem UW.lt {w : World} {U : Nat} (h : UW w U) : U < w.heap.size := by
  obtain ⟨cs, h1, h2⟩ := h
  exact lt_of_heap h1
theorem zc_size : Tryz.zeroCells89.size = 5156 := by kernel_rfl
section
variable {N0 : Nat} {w w' : World} {c h R r n gu : Nat} {m : List Int} {S : Fs}
theorem RZ.other (x : RZ N0 w c h R r m S) {U : Nat} (hU : UW w U) (t : Trn (fun k => k = U) w w') : RZ N0 w' c h R r m S := by
  obtain ⟨cs, h1, h2⟩ := hU
  exact ⟨x.rm.stay (t.block _ x.rm.blt (ne_typ x.rm.cell h1 (by decide))) (t.block _ x.rm.glt (ne_typ x.rm.row h1 (by decide))), x.rf.keep fun k o ho hr => (t.block k (lt_of_heap ho) (fun e => by
    rw [e, h1] at ho
    cases ho
    exact not_or (by decide) hr)).trans ho⟩
set_option maxHeartbeats 1600000 in
theorem rnew_rz (x : RZ N0 w c h R r m S) (hl : m.length = n * 256) (hn : n ≤ 65536) (hg : 1 ≤ gu ∧ gu ≤ 16) (h0 : takeE n S = 0) : Calls Tryz.prog 19 #[.pointer (some ⟨c, 0, none⟩), .pointer (some ⟨R, 0, none⟩), .int .i64 gu] w fun e w1 => ∃ U, e = .returned (.tuple #[.pointer (some ⟨U, 0, none⟩), .int .i64 0]) ∧ RZ N0 w1 c h R r (takeM n m S) (takeS n S) ∧ UW w1 U ∧ w.heap.size ≤ U ∧ Tq N0 (fun k => k = h) w w1 := by
  have C1 := rtable_rz x hl hn
  rw [h0, if_pos rfl] at C1
  have hg1 : (1 : Int) ≤ gu := by omega
  have hg2 : (gu : Int) ≤ 16 := by omega
  clear x hl hn h0 hg
  generalize alR S 0 = t at *
  go_enter Tryz.func19, Tryz.ntmps19
  go_wp2_with fail
  refine C1.mono ?_
  rintro e w1 ⟨rfl, h1, tq1⟩
  have H1 : Hid (RZ N0 w1 c h R r (takeM n m S) (takeS n S) ∧ Tq N0 (fun k => k = h) w w1) := ⟨h1, tq1⟩
  clear h1 tq1 C1
  go_wp2_with fail
  have HU : Hid (RZ N0 (w1.alloc (.cells ((((Tryz.zeroCells89.setIfInBounds 0 (.pointer (some ⟨c, 0, none⟩))).setIfInBounds 1 (.pointer (some ⟨R, 0, none⟩))).setIfInBounds 2 (.int .i64 gu)).setIfInBounds 3 (.int .i64 t)) 89)) c h R r (takeM n m S) (takeS n S) ∧ UW (w1.alloc (.cells ((((Tryz.zeroCells89.setIfInBounds 0 (.pointer (some ⟨c, 0, none⟩))).setIfInBounds 1 (.pointer (some ⟨R, 0, none⟩))).setIfInBounds 2 (.int .i64 gu)).setIfInBounds 3 (.int .i64 t)) 89)) w1.heap.size ∧ Tq N0 (fun k => k = h ∨ k = w1.heap.size) w (w1.alloc (.cells ((((Tryz.zeroCells89.setIfInBounds 0 (.pointer (some ⟨c, 0, none⟩))).setIfInBounds 1 (.pointer (some ⟨R, 0, none⟩))).setIfInBounds 2 (.int .i64 gu)).setIfInBounds 3 (.int .i64 t)) 89))) := by
    have hbl : Below w1.heap.size w1 (w1.alloc (.cells ((((Tryz.zeroCells89.setIfInBounds 0 (.pointer (some ⟨c, 0, none⟩))).setIfInBounds 1 (.pointer (some ⟨R, 0, none⟩))).setIfInBounds 2 (.int .i64 gu)).setIfInBounds 3 (.int .i64 t)) 89)) := (Below.refl _ _).alloc (Nat.le_refl _) _
    exact ⟨H1.out.1.below hbl, ⟨_, heap_alloc_at _ _, by simp only [Array.size_setIfInBounds]; exact zc_size⟩, (H1.out.2.mono fun _ e => .inl e).trans (Tq.of_below hbl)⟩
  generalize hUU : w1.heap.size = U at *
  go_loopw [11] (fun i wr => ∃ j : Nat, j ≤ 32 ∧ i = .int .i64 j ∧ Hid (RZ N0 wr c h R r (takeM n m S) (takeS n S) ∧ UW wr U ∧ Tq N0 (fun k => k = h ∨ k = U) w wr)) (fun i _ => 32 - (intOf i).toNat)
  case atStart => exact ⟨0, by omega, rfl, HU.out⟩
  case round =>
    obtain ⟨j, hj, rfl, HJ⟩ := hrel
    by_cases hj2 : j < 32
    · have hj3 : (j : Int) < 32 := by omega
      obtain ⟨v0, cv⟩ := HJ.out.2.1.some (o := 4 + j) (by omega)
      have cf := HJ.out.2.1.fz (4 + j)
      have cl := HJ.out.2.1.lt
      obtain ⟨u1, t1⟩ := HJ.out.2.1.set (4 + j) (.int .i64 (-1))
      have HN : Hid (RZ N0 (wr.setCell ⟨U, 4 + j, none⟩ (.int .i64 (-1))) c h R r (takeM n m S) (takeS n S) ∧ UW (wr.setCell ⟨U, 4 + j, none⟩ (.int .i64 (-1))) U ∧ Tq N0 (fun k => k = h ∨ k = U) w (wr.setCell ⟨U, 4 + j, none⟩ (.int .i64 (-1)))) := ⟨HJ.out.1.other HJ.out.2.1 t1, u1, HJ.out.2.2.trans (Tq.of_trn t1 fun _ e => .inr e)⟩
      clear u1 t1 HJ
      go_wp2_with fail
      go_roundw
      case rel => exact ⟨j + 1, by omega, by go_num, HN.out⟩
      case measure => simp [intOf]; omega
    · obtain rfl : j = 32 := by omega
      have HK : Hid (Tq N0 (fun k => k = h) w wr) := ⟨HJ.out.2.2.os, HJ.out.2.2.tape, HJ.out.2.2.output, HJ.out.2.2.size, fun k o hk hp hr => HJ.out.2.2.keep k o hk (fun e => e.elim hp (fun e => by
        have h1 := lt_of_heap hk
        have h2 := H1.out.2.size
        omega)) hr⟩
      have hUs : w.heap.size ≤ U := by have := H1.out.2.size; omega
      go_wp2_with fail
      go_ret2
      exact ⟨U, rfl, HJ.out.1, HJ.out.2.1, hUs, HK.out⟩
end
end Go.Proofs.YteghkhdpdeiocaaGreatDoor
