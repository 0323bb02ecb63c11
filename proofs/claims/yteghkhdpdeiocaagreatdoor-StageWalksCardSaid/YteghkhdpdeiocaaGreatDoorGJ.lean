/-
  Two guests' tables and the document's, as begin makes them.
  What begin makes: two guests' tables, the document's beside them.
  What begin does, where both guests' tables can be made.
-/
import Derived.Test.YteghkhdpdeiocaaGreatDoorTp
import Derived.Test.YteghkhdpdeiocaaGreatDoorGI
import Derived.Test.YteghkhdpdeiocaaGreatDoorSv
namespace Go.Proofs.YteghkhdpdeiocaaGreatDoor
open Go.RowKit Go.Maps
set_option linter.unusedVariables false
set_option maxRecDepth 100000

/-- the block of the law's world: eight pointers -/
def WB (w : World) (Q b D T0 T1 c R U0 U1 : Nat) : Prop := w.heap[Q]? = some (.cells #[.pointer (some ⟨b, 0, none⟩), .pointer (some ⟨D, 0, none⟩), .pointer (some ⟨T0, 0, none⟩), .pointer (some ⟨T1, 0, none⟩), .pointer (some ⟨c, 0, none⟩), .pointer (some ⟨R, 0, none⟩), .pointer (some ⟨U0, 0, none⟩), .pointer (some ⟨U1, 0, none⟩)] 45 (0, 0))
theorem WB.cs {w : World} {Q b D T0 T1 c R U0 U1 : Nat} (h : WB w Q b D T0 T1 c R U0 U1) : w.cell? ⟨Q, 0, none⟩ = some (.pointer (some ⟨b, 0, none⟩)) ∧ w.cell? ⟨Q, 1, none⟩ = some (.pointer (some ⟨D, 0, none⟩)) ∧ w.cell? ⟨Q, 2, none⟩ = some (.pointer (some ⟨T0, 0, none⟩)) ∧ w.cell? ⟨Q, 3, none⟩ = some (.pointer (some ⟨T1, 0, none⟩)) ∧ Q < w.heap.size := by
  unfold WB at h
  refine ⟨?_, ?_, ?_, ?_, lt_of_heap h⟩ <;> rw [cell_at h] <;> rfl
theorem of_or {o : Obj} (h : Of o) : ¬ Or o := by
  cases o with
  | cells cs t f =>
    intro h2
    rcases h with rfl | rfl <;> rcases h2 with h2 | h2 <;> cases h2
  | _ => exact id
section
variable {B B' P : Nat → Prop} {w w' : World} {b g D T L gu n : Nat} {z : Zs} {m m' : List Int} {S S' : Fs}
/-- tables stand beside what is done to others -/
theorem SX.join (h : SX B w b g D T L gu z) (mf : MF B' w' b g D m' S') (hT : w'.heap[T]? = w.heap[T]?) (hL : w'.heap[L]? = w.heap[L]?) (hB : ∀ k, B k → B' k) : SX B' w' b g D T L gu ⟨m', S', z.x⟩ :=
  ⟨mf.sz, mf.bt, mf.mm, mf.fx, h.tb.keep hT, h.mp.keep hL, hB _ h.bl, mf.b01, mf.hB, mf.g1, h.lo.2⟩
end
end Go.Proofs.YteghkhdpdeiocaaGreatDoor
namespace Go.Proofs.YteghkhdpdeiocaaGreatDoor
open Go.RowKit Go.Maps
set_option linter.unusedVariables false
set_option maxRecDepth 100000

section
variable {B B' P : Nat → Prop} {w0 w w' : World} {b g D T L gu n N1 Q c h R r : Nat} {z : Zs} {m m' : List Int} {S S' : Fs} {q : Array Value}
theorem RF.less {B B' : Nat → Prop} (h : RF B w R r S) (hb : ∀ k, B' k → B k) : RF B' w R r S := ⟨h.ob, h.row, h.ok, fun e => h.lo.1 (hb _ e), fun e => h.lo.2 (hb _ e)⟩
theorem or_of {o : Obj} (h : Or o) : ¬ Of o := fun h2 => of_or h2 h
/-- the document's stands beside what the program does -/
theorem RZ.tn (x : RZ N1 w c h R r m S) (t : Tn P B w w') (hP : ∀ k, P k → k ≠ c ∧ k ≠ h ∧ ∀ o, w.heap[k]? = some o → ¬ Or o) : RZ N1 w' c h R r m S :=
  ⟨x.rm.stay ((t.keep _ _ x.rm.cell (fun e => (hP _ e).1 rfl) (.inr (not_of (by decide)))).trans x.rm.cell.symm) ((t.keep _ _ x.rm.row (fun e => (hP _ e).2.1 rfl) (.inr (not_of (by decide)))).trans x.rm.row.symm), x.rf.keep fun k o ho hr => t.keep k o ho (fun e => (hP k e).2.2 o ho hr) (.inr (or_of hr))⟩
theorem RZ.trn (x : RZ N1 w c h R r m S) (hq : w.heap[Q]? = some (.cells q 45 (0, 0))) (t : Trn (fun k => k = Q) w w') : RZ N1 w' c h R r m S :=
  ⟨x.rm.stay (t.block _ x.rm.blt (ne_typ x.rm.cell hq (by decide))) (t.block _ x.rm.glt (ne_typ x.rm.row hq (by decide))), x.rf.keep fun k o ho hr => (t.block k (lt_of_heap ho) (fun e => by
    rw [e, hq] at ho
    cases ho
    exact not_or (by decide) hr)).trans ho⟩
theorem MF.tq' (x : MF B w b g D m S) (t : Tq N1 (fun k => k = h) w w') (gh : g ≠ h) {zs : List Int} (hr : w.heap[h]? = some (.cells (zs.map (Value.int .u8)).toArray 5 (0, 0))) (n1 : 1 < N1) (h1 : 1 < h) : MF B w' b g D m S := by
  have p0 := x.sz.pos
  obtain ⟨o0, e0⟩ := heap_some (show 0 < w.heap.size by omega)
  obtain ⟨o1, e1⟩ := heap_some (show 1 < w.heap.size by omega)
  refine ⟨x.sz.stay ((t.keep 1 o1 e1 (by omega) (.inl (by omega))).trans e1.symm) t.size, BT.stay x.bt ((t.keep 0 o0 e0 (by omega) (.inl (by omega))).trans e0.symm) t.size, x.mm.stay ((t.keep _ _ x.mm.cell (ne_typ x.mm.cell hr (by decide)) (.inr (not_or (by decide)))).trans x.mm.cell.symm) ((t.keep _ _ x.mm.row gh (.inr (not_or (by decide)))).trans x.mm.row.symm), x.fx.stay fun k o ho hf _ => t.keep k o ho (fun e => by
    rw [e, hr] at ho
    cases ho
    exact not_of (by decide) hf) (.inr (of_or hf)), x.b01, hB_of x.hB t.size, x.g1⟩
theorem SX.tq (x : SX B w b g D T L gu z) (t : Tq N1 (fun k => k = h) w w') (gh : g ≠ h) {zs : List Int} (hr : w.heap[h]? = some (.cells (zs.map (Value.int .u8)).toArray 5 (0, 0))) (n1 : 1 < N1) (h1 : 1 < h) : SX B w' b g D T L gu z := by
  obtain ⟨cs, t1, _⟩ := x.tb.blk
  obtain ⟨es, cl, t2⟩ := x.mp.typ
  exact x.join (x.mf.tq' t gh hr n1 h1) ((t.keep _ _ t1 (ne_typ t1 hr (by decide)) (.inr (not_or (by decide)))).trans t1.symm) ((t.keep _ _ t2 (fun e => ne_map hr t2 e.symm) (.inr id)).trans t2.symm) (fun _ e => e)
theorem SX.trn (x : SX B w b g D T L gu z) (hq : w.heap[Q]? = some (.cells q 45 (0, 0))) (t : Trn (fun k => k = Q) w w') (hQ : 1 < Q) : SX B w' b g D T L gu z := by
  obtain ⟨cs, t1, _⟩ := x.tb.blk
  obtain ⟨es, cl, t2⟩ := x.mp.typ
  have p0 := x.sz.pos
  exact ⟨x.sz.stay (t.block 1 (by omega) (by omega)) t.size, BT.stay x.bt (t.block 0 (by omega) (by omega)) t.size, x.mm.stay (t.block _ x.mm.blt (ne_typ x.mm.cell hq (by decide))) (t.block _ x.mm.glt (ne_typ x.mm.row hq (by decide))), x.fx.stay fun k o ho hr _ => (t.block k (lt_of_heap ho) (fun e => by
    rw [e, hq] at ho
    cases ho
    exact not_of (by decide) hr)).trans ho, x.tb.keep (t.block _ x.tb.lt (ne_typ t1 hq (by decide))), x.mp.keep (t.block _ x.mp.lt (fun e => ne_map hq t2 e.symm)), x.bl, x.b01, hB_of x.hB t.size, x.lo⟩
/-- what stands between the parts of begin -/
structure BJ (w0 w : World) (N1 N2 : Nat) (Q b g c h R r : Nat) (m : List Int) (S : Fs) (q : Array Value) : Prop where
  rz : RZ N1 w c h R r m S
  wb : w.heap[Q]? = some (.cells q 45 (0, 0))
  bel : Below w0.heap.size w0 w
  gh : g ≠ h
  lo : w0.heap.size ≤ g ∧ w0.heap.size ≤ h ∧ w0.heap.size ≤ Q ∧ w0.heap.size ≤ N1 ∧ w0.heap.size ≤ N2 ∧ 1 < w0.heap.size
theorem Tn.bel {N : Nat} (t : Tn P B w w') (hN : N ≤ w.heap.size) (hP : ∀ k, k < N → ¬ P k ∧ B k) : Below N w w' :=
  ⟨t.os, t.tape, t.output, t.size, fun k hk => by
    obtain ⟨o, e⟩ := heap_some (show k < w.heap.size by omega)
    rw [t.keep k o e (hP k hk).1 (.inl (hP k hk).2), e]⟩
theorem Tq.bel {N : Nat} (t : Tq N1 P w w') (hN : N ≤ w.heap.size ∧ N ≤ N1) (hP : ∀ k, k < N → ¬ P k) : Below N w w' :=
  ⟨t.os, t.tape, t.output, t.size, fun k hk => by
    obtain ⟨o, e⟩ := heap_some (show k < w.heap.size by omega)
    rw [t.keep k o e (hP k hk) (.inl (by omega)), e]⟩
/-- the program's New in between -/
theorem BJ.prog {N2 : Nat} (x : BJ w0 w N1 N2 Q b g c h R r m S q) (mm : MM w b g m) (t : Tn (fun k => k = g) B w w') (hB : ∀ k, k < N2 → B k) : BJ w0 w' N1 N2 Q b g c h R r m S q :=
  ⟨x.rz.tn t (fun k e => by
      subst e
      exact ⟨ne_typ mm.row x.rz.rm.cell (by decide), x.gh, fun o ho hr => by
        rw [mm.row] at ho
        cases ho
        exact not_or (by decide) hr⟩), t.keep _ _ x.wb (ne_typ x.wb mm.row (by decide)) (.inr (not_of (by decide))), x.bel.trans (t.bel x.bel.size (fun k hk => ⟨by have := x.lo; omega, hB k (by have := x.lo; omega)⟩)), x.gh, x.lo⟩
/-- the document's New in between -/
theorem BJ.doc {N2 : Nat} (x : BJ w0 w N1 N2 Q b g c h R r m S q) (hz : RZ N1 w' c h R r m' S') (t : Tq N1 (fun k => k = h) w w') : BJ w0 w' N1 N2 Q b g c h R r m' S' q :=
  ⟨hz, t.keep _ _ x.wb (ne_typ x.wb x.rz.rm.row (by decide)) (.inr (not_or (by decide))), x.bel.trans (t.bel ⟨x.bel.size, x.lo.2.2.2.1⟩ (fun k hk => by have := x.lo; omega)), x.gh, x.lo⟩
/-- a cell of the law's block written -/
theorem BJ.set {N2 : Nat} (x : BJ w0 w N1 N2 Q b g c h R r m S q) (o : Nat) (v : Value) : BJ w0 (w.setCell ⟨Q, o, none⟩ v) N1 N2 Q b g c h R r m S (q.setIfInBounds o v) ∧ Trn (fun k => k = Q) w (w.setCell ⟨Q, o, none⟩ v) := by
  have t := trn_setCell (fun k => k = Q) x.wb rfl o v
  exact ⟨⟨x.rz.trn x.wb t, setCell_eq_setRow w Q o q 45 (0, 0) v x.wb ▸ setRow_heap w Q q _ 45 _ x.wb, x.bel.setCell x.lo.2.2.1 _, x.gh, x.lo⟩, t⟩
theorem BJ.drew {N2 : Nat} (x : BJ w0 w N1 N2 Q b g c h R r m S q) : BJ w0 w.drew N1 N2 Q b g c h R r m S q := ⟨x.rz.below (Below.refl _ _).drew, x.wb, x.bel.drew, x.gh, x.lo⟩
end
end Go.Proofs.YteghkhdpdeiocaaGreatDoor
namespace Go.Proofs.YteghkhdpdeiocaaGreatDoor
open Go.RowKit Go.Maps
set_option linter.unusedVariables false
set_option maxRecDepth 100000

theorem MF.trn {B : Nat → Prop} {w w' : World} {b g D Q : Nat} {m : List Int} {S : Fs} {q : Array Value} (x : MF B w b g D m S) (hq : w.heap[Q]? = some (.cells q 45 (0, 0))) (t : Trn (fun k => k = Q) w w') (hQ : 1 < Q) : MF B w' b g D m S := by
  have p0 := x.sz.pos
  exact ⟨x.sz.stay (t.block 1 (by omega) (by omega)) t.size, BT.stay x.bt (t.block 0 (by omega) (by omega)) t.size, x.mm.stay (t.block _ x.mm.blt (ne_typ x.mm.cell hq (by decide))) (t.block _ x.mm.glt (ne_typ x.mm.row hq (by decide))), x.fx.stay fun k o ho hr _ => (t.block k (lt_of_heap ho) (fun e => by
    rw [e, hq] at ho
    cases ho
    exact not_of (by decide) hr)).trans ho, x.b01, hB_of x.hB t.size, x.g1⟩
/-- two guests' tables -/
structure P2 (w : World) (B : Nat → Prop) (b g D T0 L0 T1 L1 : Nat) (m : List Int) (S : Fs) (x y : Tp) : Prop where
  s0 : SX B w b g D T0 L0 1 ⟨m, S, x⟩
  s1 : SX B w b g D T1 L1 2 ⟨m, S, y⟩
  nT : T0 ≠ T1
  nL : L0 ≠ L1
/-- what stands behind so many rounds -/
def BS (w0 w : World) (N1 N2 Q b g D c h R r n : Nat) (m : List Int) (S : Fs) : Nat → Prop
  | 0 => MF (Lw N2) w b g D m S ∧ BJ w0 w N1 N2 Q b g c h R r m S #[.pointer (some ⟨b, 0, none⟩), .pointer (some ⟨D, 0, none⟩), .pointer none, .pointer none, .pointer (some ⟨c, 0, none⟩), .pointer (some ⟨R, 0, none⟩), .pointer none, .pointer none]
  | 1 => ∃ T0 L0 U0, SX (Bl (Lw N2) L0) w b g D T0 L0 1 ⟨takeM n m S, takeS n S, xr (alR S 0)⟩ ∧ (N2 ≤ L0 ∧ w0.heap.size ≤ T0 ∧ w0.heap.size ≤ L0) ∧ BJ w0 w N1 N2 Q b g c h R r (takeM n m S) (takeS n S) #[.pointer (some ⟨b, 0, none⟩), .pointer (some ⟨D, 0, none⟩), .pointer (some ⟨T0, 0, none⟩), .pointer none, .pointer (some ⟨c, 0, none⟩), .pointer (some ⟨R, 0, none⟩), .pointer (some ⟨U0, 0, none⟩), .pointer none]
  | _ => ∃ T0 L0 U0 T1 L1 U1, P2 w (Bl (Bl (Lw N2) L0) L1) b g D T0 L0 T1 L1 (takeM n (takeM n m S) (takeS n S)) (takeS n (takeS n S)) (xr (alR S 0)) (xr (alR (takeS n S) 0)) ∧ (w0.heap.size ≤ T0 ∧ w0.heap.size ≤ L0 ∧ w0.heap.size ≤ T1 ∧ w0.heap.size ≤ L1) ∧ BJ w0 w N1 N2 Q b g c h R r (takeM n (takeM n m S) (takeS n S)) (takeS n (takeS n S)) #[.pointer (some ⟨b, 0, none⟩), .pointer (some ⟨D, 0, none⟩), .pointer (some ⟨T0, 0, none⟩), .pointer (some ⟨T1, 0, none⟩), .pointer (some ⟨c, 0, none⟩), .pointer (some ⟨R, 0, none⟩), .pointer (some ⟨U0, 0, none⟩), .pointer (some ⟨U1, 0, none⟩)]
set_option maxHeartbeats 3200000 in
theorem begin_ok (n F f : Nat) (w : World) (hz : SZ w) (hb : E.BT w) (hn : 1 ≤ n ∧ n ≤ 65536) (hF : 1 ≤ F ∧ F ≤ 65536) (hf : f ≤ F) (h0 : takeE n (nwS F f f) = 0) (h1 : takeE n (takeS n (nwS F f f)) = 0) :
    Calls Tryz.prog 5 #[.int .i64 n, .int .i64 F, .int .i64 f] w fun e w' => ∃ N1 N2 Q b g D c h R r, e = .returned (.tuple #[.pointer (some ⟨Q, 0, none⟩), .int .i64 1]) ∧ BS w w' N1 N2 Q b g D c h R r n (List.replicate (n * 256) 0) (nwS F f f) 2 := by
  have hlen : (List.replicate (n * 256) (0 : Int)).length = n * 256 := List.length_replicate
  have hlen1 : (takeM n (List.replicate (n * 256) (0 : Int)) (nwS F f f)).length = n * 256 := takeM_len hlen hn.2
  have p0 := hz.pos
  have HW : Hid (SZ w ∧ E.BT w) := ⟨hz, hb⟩
  generalize hS : nwS F f f = S at *
  generalize hm : List.replicate (n * 256) (0 : Int) = m at *
  clear hz hb
  have N1' := fun W => new_yes n W hn.1 hn.2
  have N2' := fun W => rnew_yes n W hn.1 hn.2
  have N3' := fun W => fnew_yes F f W hF.1 hF.2 hf
  have N4' := fun W => frnew_yes F f W hF.1 hF.2 hf
  simp only [hS, hm] at N1' N2' N3' N4'
  go_enter Tryz.func5, Tryz.ntmps5
  go_wp2_with fail
  refine (N1' _).mono ?_
  rintro e w1 ⟨b, g, rfl, m1, lb, lg, b1⟩
  go_wp2_with fail
  refine (N2' _).mono ?_
  rintro e w2 ⟨c, h, rfl, m2, lc, lh, b2⟩
  go_wp2_with fail
  refine (N3' _).mono ?_
  rintro e w3 ⟨D, rfl, f3, b3⟩
  go_wp2_with fail
  refine (N4' _).mono ?_
  rintro e w4 ⟨R, r, rfl, f4, b4⟩
  have s1 := b1.size
  have s2 := b2.size
  have s3 := b3.size
  have s4 := b4.size
  simp only [World.size_alloc] at lb lg s1
  have HJ0 : Hid (MF (Lw w2.heap.size) w4 b g D m S ∧ BJ w w4 w3.heap.size w2.heap.size w.heap.size b g c h R r m S #[.pointer none, .pointer none, .pointer none, .pointer none, .pointer none, .pointer none, .pointer none, .pointer none]) := by
    have b0 : Below w.heap.size w (w.alloc (.cells #[.pointer none, .pointer none, .pointer none, .pointer none, .pointer none, .pointer none, .pointer none, .pointer none] 45)) := (Below.refl _ _).alloc (Nat.le_refl _) _
    have B1 := b0.trans (b1.mono (by simp))
    have B2 := B1.trans (b2.mono (by omega))
    have B3 := B2.trans (b3.mono (by omega))
    have B4 := B3.trans (b4.mono (by omega))
    have gl := m1.glt
    have q1 := (b1.block w.heap.size (by simp)).trans (heap_alloc_at w (.cells #[.pointer none, .pointer none, .pointer none, .pointer none, .pointer none, .pointer none, .pointer none, .pointer none] 45))
    have q2 := (b2.block w.heap.size (by omega)).trans q1
    have q3 := (b3.block w.heap.size (by omega)).trans q2
    have q4 := (b4.block w.heap.size (by omega)).trans q3
    refine ⟨⟨HW.out.1.below B4, HW.out.2.below B4, ((m1.below b2).below b3).below b4, f3.below b4, ⟨by show 0 < _; omega, by show 1 < _; omega⟩, fun k hk => by show ¬ k < _; omega, by omega⟩, ⟨⟨(m2.below b3).below b4, f4⟩, q4, B4, by omega, by omega, by omega, by omega, by omega, by omega, by omega⟩⟩
  clear m1 m2 f3 f4 b1 b2 b3 b4 s1 lb lg lc lh N1' N2' N3' N4' HW
  have hq0 : ∀ k, k < 8 → w4.cell? ⟨w.heap.size, k, none⟩ = some (.pointer none) := fun k hk => by
    rw [cell_at HJ0.out.2.wb]
    match k, hk with
    | 0, _ => rfl
    | 1, _ => rfl
    | 2, _ => rfl
    | 3, _ => rfl
    | 4, _ => rfl
    | 5, _ => rfl
    | 6, _ => rfl
    | 7, _ => rfl
    | k + 8, h => exact absurd h (by omega)
  have c0 := hq0 0 (by decide)
  have c1 := hq0 1 (by decide)
  have c4 := hq0 4 (by decide)
  have c5 := hq0 5 (by decide)
  have g0 := froz_at HJ0.out.2.wb 0
  have g1 := froz_at HJ0.out.2.wb 1
  have g4 := froz_at HJ0.out.2.wb 4
  have g5 := froz_at HJ0.out.2.wb 5
  have lQ := lt_of_heap HJ0.out.2.wb
  clear hq0
  generalize hN1 : w3.heap.size = N1 at *
  generalize hN2 : w2.heap.size = N2 at *
  go_wp2_with fail
  have HS0 : Hid (BS w ((((w4.setCell ⟨w.heap.size, 0, none⟩ (.pointer (some ⟨b, 0, none⟩))).setCell ⟨w.heap.size, 1, none⟩ (.pointer (some ⟨D, 0, none⟩))).setCell ⟨w.heap.size, 4, none⟩ (.pointer (some ⟨c, 0, none⟩))).setCell ⟨w.heap.size, 5, none⟩ (.pointer (some ⟨R, 0, none⟩))) N1 N2 w.heap.size b g D c h R r n m S 0) := by
    obtain ⟨mf, bj⟩ := HJ0.out
    have q1 : 1 < w.heap.size := p0
    obtain ⟨j1, t1⟩ := bj.set 0 (.pointer (some ⟨b, 0, none⟩))
    have f1 := mf.trn bj.wb t1 q1
    obtain ⟨j2, t2⟩ := j1.set 1 (.pointer (some ⟨D, 0, none⟩))
    have f2 := f1.trn j1.wb t2 q1
    obtain ⟨j3, t3⟩ := j2.set 4 (.pointer (some ⟨c, 0, none⟩))
    have f3 := f2.trn j2.wb t3 q1
    obtain ⟨j4, t4⟩ := j3.set 5 (.pointer (some ⟨R, 0, none⟩))
    have f4 := f3.trn j3.wb t4 q1
    exact ⟨f4, j4⟩
  clear HJ0 c0 c1 c4 c5 g0 g1 g4 g5 lQ
  go_loopw [17] (fun i wr => ∃ j : Nat, j ≤ 2 ∧ i = .int .i64 j ∧ Hid (BS w wr N1 N2 w.heap.size b g D c h R r n m S j)) (fun i _ => 2 - (intOf i).toNat)
  case atStart => exact ⟨0, by omega, rfl, HS0.out⟩
  case round =>
    obtain ⟨j, hj, rfl, HJ⟩ := hrel
    obtain rfl | rfl | rfl : j = 0 ∨ j = 1 ∨ j = 2 := by omega
    · obtain ⟨mf, bj⟩ := HJ.out
      have C1 := snew_mf mf hlen hn (gu := 1) (by decide)
      have HB : Hid (_ ∧ _) := ⟨mf, bj⟩
      clear HJ mf bj
      go_wp2_with fail
      refine C1.mono ?_
      rintro e v1 np
      obtain ⟨⟨T0, L0, lT, lL, ok, -⟩, tn1⟩ := np
      obtain ⟨rfl, x1⟩ := ok h0
      have j1 := HB.out.2.prog HB.out.1.mm tn1 (fun k hk => hk)
      have H1 : Hid (SX (Bl (Lw N2) L0) v1 b g D T0 L0 1 ⟨takeM n m S, takeS n S, xr (alR S 0)⟩ ∧ BJ w v1 N1 N2 w.heap.size b g c h R r m S #[.pointer (some ⟨b, 0, none⟩), .pointer (some ⟨D, 0, none⟩), .pointer none, .pointer none, .pointer (some ⟨c, 0, none⟩), .pointer (some ⟨R, 0, none⟩), .pointer none, .pointer none]) := ⟨x1, j1⟩
      have hLN : N2 ≤ L0 ∧ w.heap.size ≤ T0 ∧ w.heap.size ≤ L0 := by
        have hs := HB.out.2.bel.size
        refine ⟨?_, by omega, by omega⟩
        have := HB.out.1.hB
        by_cases e : N2 ≤ L0
        · exact e
        · exact absurd (show Lw N2 L0 by show L0 < N2; omega) (this L0 lL)
      clear ok x1 j1 tn1 lT lL C1 HB
      have C2 := rnew_rz H1.out.2.rz hlen hn.2 (gu := 1) (by decide) h0
      go_wp2_with fail
      refine C2.mono ?_
      rintro e v2 ⟨U0, rfl, rz2, uw2, lU, tq2⟩
      have H2 : Hid (SX (Bl (Lw N2) L0) v2 b g D T0 L0 1 ⟨takeM n m S, takeS n S, xr (alR S 0)⟩ ∧ BJ w v2 N1 N2 w.heap.size b g c h R r (takeM n m S) (takeS n S) #[.pointer (some ⟨b, 0, none⟩), .pointer (some ⟨D, 0, none⟩), .pointer none, .pointer none, .pointer (some ⟨c, 0, none⟩), .pointer (some ⟨R, 0, none⟩), .pointer none, .pointer none]) := by
        have lo := H1.out.2.lo
        exact ⟨H1.out.1.tq tq2 H1.out.2.gh H1.out.2.rz.rm.row (by omega) (by omega), H1.out.2.doc rz2 tq2⟩
      clear rz2 uw2 lU tq2 C2 H1
      have k2 : v2.cell? ⟨w.heap.size, 2, none⟩ = some (.pointer none) := by rw [cell_at H2.out.2.wb]; rfl
      have k6 : v2.cell? ⟨w.heap.size, 6, none⟩ = some (.pointer none) := by rw [cell_at H2.out.2.wb]; rfl
      have g2 := froz_at H2.out.2.wb 2
      have g6 := froz_at H2.out.2.wb 6
      have lQ := lt_of_heap H2.out.2.wb
      go_wp2_with fail
      go_region
      have H3 : Hid (BS w ((v2.setCell ⟨w.heap.size, 2, none⟩ (.pointer (some ⟨T0, 0, none⟩))).setCell ⟨w.heap.size, 6, none⟩ (.pointer (some ⟨U0, 0, none⟩))).drew N1 N2 w.heap.size b g D c h R r n m S 1) := by
        obtain ⟨j3, t3⟩ := H2.out.2.set 2 (.pointer (some ⟨T0, 0, none⟩))
        have x3 := H2.out.1.trn H2.out.2.wb t3 p0
        obtain ⟨j4, t4⟩ := j3.set 6 (.pointer (some ⟨U0, 0, none⟩))
        have x4 := x3.trn j3.wb t4 p0
        exact ⟨T0, L0, U0, x4.drew, hLN, j4.drew⟩
      clear H2 k2 k6 g2 g6 lQ
      go_wp2_with fail
      go_roundw
      case rel => exact ⟨1, by omega, by go_num, H3.out⟩
      case measure => simp [intOf]
    · obtain ⟨T0, L0, U0, x0', hLN, bj⟩ := HJ.out
      have C1 := snew_mf x0'.mf hlen1 hn (gu := 2) (by decide)
      have HB : Hid (SX (Bl (Lw N2) L0) wr b g D T0 L0 1 ⟨takeM n m S, takeS n S, xr (alR S 0)⟩ ∧ BJ w wr N1 N2 w.heap.size b g c h R r (takeM n m S) (takeS n S) #[.pointer (some ⟨b, 0, none⟩), .pointer (some ⟨D, 0, none⟩), .pointer (some ⟨T0, 0, none⟩), .pointer none, .pointer (some ⟨c, 0, none⟩), .pointer (some ⟨R, 0, none⟩), .pointer (some ⟨U0, 0, none⟩), .pointer none]) := ⟨x0', bj⟩
      clear HJ x0' bj
      go_wp2_with fail
      refine C1.mono ?_
      rintro e v1 np
      obtain ⟨⟨T1, L1, lT, lL, ok, -⟩, tn1⟩ := np
      obtain ⟨rfl, x1⟩ := ok h1
      have j1 := HB.out.2.prog HB.out.1.mm tn1 (fun k hk => .inl hk)
      have H1 : Hid (P2 v1 (Bl (Bl (Lw N2) L0) L1) b g D T0 L0 T1 L1 (takeM n (takeM n m S) (takeS n S)) (takeS n (takeS n S)) (xr (alR S 0)) (xr (alR (takeS n S) 0)) ∧ BJ w v1 N1 N2 w.heap.size b g c h R r (takeM n m S) (takeS n S) #[.pointer (some ⟨b, 0, none⟩), .pointer (some ⟨D, 0, none⟩), .pointer (some ⟨T0, 0, none⟩), .pointer none, .pointer (some ⟨c, 0, none⟩), .pointer (some ⟨R, 0, none⟩), .pointer (some ⟨U0, 0, none⟩), .pointer none]) := by
        obtain ⟨cs, k1, _⟩ := HB.out.1.tb.blk
        obtain ⟨es, cl, k2⟩ := HB.out.1.mp.typ
        have l1 := lt_of_heap k1
        have l2 := lt_of_heap k2
        exact ⟨⟨HB.out.1.join x1.mf ((tn1.keep _ _ k1 (ne_typ k1 HB.out.1.mm.row (by decide)) (.inr (not_of (by decide)))).trans k1.symm) ((tn1.keep _ _ k2 (fun e => ne_map HB.out.1.mm.row k2 e.symm) (.inl (.inr rfl))).trans k2.symm) (fun _ e => .inl e), x1, by omega, by omega⟩, j1⟩
      have hL2 : w.heap.size ≤ T0 ∧ w.heap.size ≤ L0 ∧ w.heap.size ≤ T1 ∧ w.heap.size ≤ L1 := by
        have hs := HB.out.2.bel.size
        exact ⟨hLN.2.1, hLN.2.2, by omega, by omega⟩
      clear ok x1 j1 tn1 lT lL C1 HB
      have C2 := rnew_rz H1.out.2.rz hlen1 hn.2 (gu := 2) (by decide) h1
      go_wp2_with fail
      refine C2.mono ?_
      rintro e v2 ⟨U1, rfl, rz2, uw2, lU, tq2⟩
      have H2 : Hid (P2 v2 (Bl (Bl (Lw N2) L0) L1) b g D T0 L0 T1 L1 (takeM n (takeM n m S) (takeS n S)) (takeS n (takeS n S)) (xr (alR S 0)) (xr (alR (takeS n S) 0)) ∧ BJ w v2 N1 N2 w.heap.size b g c h R r (takeM n (takeM n m S) (takeS n S)) (takeS n (takeS n S)) #[.pointer (some ⟨b, 0, none⟩), .pointer (some ⟨D, 0, none⟩), .pointer (some ⟨T0, 0, none⟩), .pointer none, .pointer (some ⟨c, 0, none⟩), .pointer (some ⟨R, 0, none⟩), .pointer (some ⟨U0, 0, none⟩), .pointer none]) := by
        have lo := H1.out.2.lo
        exact ⟨⟨H1.out.1.s0.tq tq2 H1.out.2.gh H1.out.2.rz.rm.row (by omega) (by omega), H1.out.1.s1.tq tq2 H1.out.2.gh H1.out.2.rz.rm.row (by omega) (by omega), H1.out.1.nT, H1.out.1.nL⟩, H1.out.2.doc rz2 tq2⟩
      clear rz2 uw2 lU tq2 C2 H1
      have k3 : v2.cell? ⟨w.heap.size, 3, none⟩ = some (.pointer none) := by rw [cell_at H2.out.2.wb]; rfl
      have k7 : v2.cell? ⟨w.heap.size, 7, none⟩ = some (.pointer none) := by rw [cell_at H2.out.2.wb]; rfl
      have g3 := froz_at H2.out.2.wb 3
      have g7 := froz_at H2.out.2.wb 7
      have lQ := lt_of_heap H2.out.2.wb
      go_wp2_with fail
      go_region
      have H3 : Hid (BS w ((v2.setCell ⟨w.heap.size, 3, none⟩ (.pointer (some ⟨T1, 0, none⟩))).setCell ⟨w.heap.size, 7, none⟩ (.pointer (some ⟨U1, 0, none⟩))).drew N1 N2 w.heap.size b g D c h R r n m S 2) := by
        obtain ⟨j3, t3⟩ := H2.out.2.set 3 (.pointer (some ⟨T1, 0, none⟩))
        have x3 := H2.out.1.s0.trn H2.out.2.wb t3 p0
        have y3 := H2.out.1.s1.trn H2.out.2.wb t3 p0
        obtain ⟨j4, t4⟩ := j3.set 7 (.pointer (some ⟨U1, 0, none⟩))
        have x4 := x3.trn j3.wb t4 p0
        have y4 := y3.trn j3.wb t4 p0
        exact ⟨T0, L0, U0, T1, L1, U1, ⟨x4.drew, y4.drew, H2.out.1.nT, H2.out.1.nL⟩, hL2, j4.drew⟩
      clear H2 k3 k7 g3 g7 lQ
      go_wp2_with fail
      go_roundw
      case rel => exact ⟨2, by omega, by go_num, H3.out⟩
      case measure => simp [intOf]
    · go_wp2_with fail
      go_ret2
      exact ⟨_, _, _, _, _, _, _, _, _, _, rfl, HJ.out⟩
end Go.Proofs.YteghkhdpdeiocaaGreatDoor
