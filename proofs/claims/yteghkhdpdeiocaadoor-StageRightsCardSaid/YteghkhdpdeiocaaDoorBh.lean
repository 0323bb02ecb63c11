/-
  What begin makes: two guests' tables, the document's beside them.
-/
import Derived.Test.YteghkhdpdeiocaaDoorBg
namespace Go.Proofs.YteghkhdpdeiocaaDoor
open Go.RowKit Go.Maps
set_option linter.unusedVariables false
set_option maxRecDepth 100000

section
variable {B B' P : Nat → Prop} {w0 w w' : World} {b g D T L gu n N1 Q c h R r : Nat} {z : Zs} {m m' : List Int} {S S' : Fs} {q : Array Value}
theorem RF.less {B B' : Nat → Prop} (h : RF B w R r S) (hb : ∀ k, B' k → B k) : RF B' w R r S := ⟨h.ob, h.row, h.ok, fun e => h.lo.1 (hb _ e), fun e => h.lo.2 (hb _ e)⟩
theorem or_of {o : Obj} (h : Or o) : ¬ Of o := fun h2 => of_or h2 h
/-- the document's stands beside what the program does -/
theorem RZ.tn (x : RZ N1 w c h R r m S) (t : Tn P B w w') (hP : ∀ k, P k → k ≠ c ∧ k ≠ h ∧ ∀ o, w.heap[k]? = some o → ¬ Or o) : RZ N1 w' c h R r m S :=
  ⟨x.rm.stay ((t.keep _ _ x.rm.cell (fun e => (hP _ e).1 rfl) (.inr (not_of (by decide)))).trans x.rm.cell.symm) ((t.keep _ _ x.rm.row (fun e => (hP _ e).2.1 rfl) (.inr (not_of (by decide)))).trans x.rm.row.symm), x.rf.keep fun k o ho hr => t.keep k o ho (fun e => (hP k e).2.2 o ho hr) (.inr (or_of hr))⟩
theorem RZ.trn (x : RZ N1 w c h R r m S) (hq : w.heap[Q]? = some (.cells q 67 (0, 0))) (t : Trn (fun k => k = Q) w w') : RZ N1 w' c h R r m S :=
  ⟨x.rm.stay (t.block _ x.rm.blt (ne_typ x.rm.cell hq (by decide))) (t.block _ x.rm.glt (ne_typ x.rm.row hq (by decide))), x.rf.keep fun k o ho hr => (t.block k (lt_of_heap ho) (fun e => by
    rw [e, hq] at ho
    cases ho
    exact not_or (by decide) hr)).trans ho⟩
theorem MF.tq' (x : MF B w b g D m S) (t : Tq N1 (fun k => k = h) w w') (gh : g ≠ h) {zs : List Int} (hr : w.heap[h]? = some (.cells (zs.map (Value.int .u8)).toArray 5 (0, 0))) (n1 : 1 < N1) (h1 : 1 < h) : MF B w' b g D m S := by
  have p0 := x.sz.pos
  obtain ⟨o0, e0⟩ := heap_some (show 0 < w.heap.size by omega)
  obtain ⟨o1, e1⟩ := heap_some (show 1 < w.heap.size by omega)
  refine ⟨x.sz.stay ((t.keep 1 o1 e1 (by omega) (.inl (by omega))).trans e1.symm) t.size, BT.stay x.bt ((t.keep 0 o0 e0 (by omega) (.inl (by omega))).trans e0.symm) t.size, x.mm.stay ((t.keep _ _ x.mm.cell (ne_typ x.mm.cell hr (by decide)) (.inr (not_or (by decide)))).trans x.mm.cell.symm) ((t.keep _ _ x.mm.row gh (.inr (not_or (by decide)))).trans x.mm.row.symm), x.fx.stay fun k o ho hf _ => t.keep k o ho (fun e => by
    rw [e, hr] at ho
    cases ho
    exact not_of (by decide) hf) (.inr (of_or hf)), x.b01, hB_of x.hB t.size, x.g1⟩
theorem SX.tq (x : SX B w b g D T L gu z) (t : Tq N1 (fun k => k = h) w w') (gh : g ≠ h) {zs : List Int} (hr : w.heap[h]? = some (.cells (zs.map (Value.int .u8)).toArray 5 (0, 0))) (n1 : 1 < N1) (h1 : 1 < h) : SX B w' b g D T L gu z := by
  obtain ⟨cs, t1, _⟩ := x.tb.blk
  obtain ⟨es, cl, t2⟩ := x.mp.typ
  exact x.join (x.mf.tq' t gh hr n1 h1) ((t.keep _ _ t1 (ne_typ t1 hr (by decide)) (.inr (not_or (by decide)))).trans t1.symm) ((t.keep _ _ t2 (fun e => ne_map hr t2 e.symm) (.inr id)).trans t2.symm) (fun _ e => e)
theorem SX.trn (x : SX B w b g D T L gu z) (hq : w.heap[Q]? = some (.cells q 67 (0, 0))) (t : Trn (fun k => k = Q) w w') (hQ : 1 < Q) : SX B w' b g D T L gu z := by
  obtain ⟨cs, t1, _⟩ := x.tb.blk
  obtain ⟨es, cl, t2⟩ := x.mp.typ
  have p0 := x.sz.pos
  exact ⟨x.sz.stay (t.block 1 (by omega) (by omega)) t.size, BT.stay x.bt (t.block 0 (by omega) (by omega)) t.size, x.mm.stay (t.block _ x.mm.blt (ne_typ x.mm.cell hq (by decide))) (t.block _ x.mm.glt (ne_typ x.mm.row hq (by decide))), x.fx.stay fun k o ho hr _ => (t.block k (lt_of_heap ho) (fun e => by
    rw [e, hq] at ho
    cases ho
    exact not_of (by decide) hr)).trans ho, x.tb.keep (t.block _ x.tb.lt (ne_typ t1 hq (by decide))), x.mp.keep (t.block _ x.mp.lt (fun e => ne_map hq t2 e.symm)), x.bl, x.b01, hB_of x.hB t.size, x.lo⟩
/-- what stands between the parts of begin -/
structure BJ (w0 w : World) (N1 N2 : Nat) (Q b g c h R r : Nat) (m : List Int) (S : Fs) (q : Array Value) : Prop where
  rz : RZ N1 w c h R r m S
  wb : w.heap[Q]? = some (.cells q 67 (0, 0))
  bel : Below w0.heap.size w0 w
  gh : g ≠ h
  lo : w0.heap.size ≤ g ∧ w0.heap.size ≤ h ∧ w0.heap.size ≤ Q ∧ w0.heap.size ≤ N1 ∧ w0.heap.size ≤ N2 ∧ 1 < w0.heap.size
theorem Tn.bel {N : Nat} (t : Tn P B w w') (hN : N ≤ w.heap.size) (hP : ∀ k, k < N → ¬ P k ∧ B k) : Below N w w' :=
  ⟨t.os, t.tape, t.output, t.size, fun k hk => by
    obtain ⟨o, e⟩ := heap_some (show k < w.heap.size by omega)
    rw [t.keep k o e (hP k hk).1 (.inl (hP k hk).2), e]⟩
theorem Tq.bel {N : Nat} (t : Tq N1 P w w') (hN : N ≤ w.heap.size ∧ N ≤ N1) (hP : ∀ k, k < N → ¬ P k) : Below N w w' :=
  ⟨t.os, t.tape, t.output, t.size, fun k hk => by
    obtain ⟨o, e⟩ := heap_some (show k < w.heap.size by omega)
    rw [t.keep k o e (hP k hk) (.inl (by omega)), e]⟩
/-- the program's New in between -/
theorem BJ.prog {N2 : Nat} (x : BJ w0 w N1 N2 Q b g c h R r m S q) (mm : MM w b g m) (t : Tn (fun k => k = g) B w w') (hB : ∀ k, k < N2 → B k) : BJ w0 w' N1 N2 Q b g c h R r m S q :=
  ⟨x.rz.tn t (fun k e => by
      subst e
      exact ⟨ne_typ mm.row x.rz.rm.cell (by decide), x.gh, fun o ho hr => by
        rw [mm.row] at ho
        cases ho
        exact not_or (by decide) hr⟩), t.keep _ _ x.wb (ne_typ x.wb mm.row (by decide)) (.inr (not_of (by decide))), x.bel.trans (t.bel x.bel.size (fun k hk => ⟨by have := x.lo; omega, hB k (by have := x.lo; omega)⟩)), x.gh, x.lo⟩
/-- the document's New in between -/
theorem BJ.doc {N2 : Nat} (x : BJ w0 w N1 N2 Q b g c h R r m S q) (hz : RZ N1 w' c h R r m' S') (t : Tq N1 (fun k => k = h) w w') : BJ w0 w' N1 N2 Q b g c h R r m' S' q :=
  ⟨hz, t.keep _ _ x.wb (ne_typ x.wb x.rz.rm.row (by decide)) (.inr (not_or (by decide))), x.bel.trans (t.bel ⟨x.bel.size, x.lo.2.2.2.1⟩ (fun k hk => by have := x.lo; omega)), x.gh, x.lo⟩
/-- a cell of the law's block written -/
theorem BJ.set {N2 : Nat} (x : BJ w0 w N1 N2 Q b g c h R r m S q) (o : Nat) (v : Value) : BJ w0 (w.setCell ⟨Q, o, none⟩ v) N1 N2 Q b g c h R r m S (q.setIfInBounds o v) ∧ Trn (fun k => k = Q) w (w.setCell ⟨Q, o, none⟩ v) := by
  have t := trn_setCell (fun k => k = Q) x.wb rfl o v
  exact ⟨⟨x.rz.trn x.wb t, setCell_eq_setRow w Q o q 67 (0, 0) v x.wb ▸ setRow_heap w Q q _ 67 _ x.wb, x.bel.setCell x.lo.2.2.1 _, x.gh, x.lo⟩, t⟩
theorem BJ.drew {N2 : Nat} (x : BJ w0 w N1 N2 Q b g c h R r m S q) : BJ w0 w.drew N1 N2 Q b g c h R r m S q := ⟨x.rz.below (Below.refl _ _).drew, x.wb, x.bel.drew, x.gh, x.lo⟩
end
end Go.Proofs.YteghkhdpdeiocaaDoor
