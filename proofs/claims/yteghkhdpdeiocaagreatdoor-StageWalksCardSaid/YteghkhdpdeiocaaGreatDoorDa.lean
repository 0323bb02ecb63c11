/-
  Both guests' tables, the program's and the document's, in one world, with an act.
-/
import Derived.Test.YteghkhdpdeiocaaGreatDoorBj
import Derived.Test.YteghkhdpdeiocaaGreatDoorUi
import Derived.Test.YteghkhdpdeiocaaGreatDoorGO
namespace Go.Proofs.YteghkhdpdeiocaaGreatDoor
open Go.RowKit Go.Maps
set_option linter.unusedVariables false
set_option maxRecDepth 100000

/-- one guest's tables (gu; T, L; U) in front, the other's beside them; the law's block; an act -/
structure PF (w0 w : World) (N1 : Nat) (B : Nat → Prop) (Q b g D T L gu T' L' gu' c h R r U U' : Nat) (q : Array Value) (m : List Int) (S : Fs) (x y : Tp) (m2 : List Int) (S2 : Fs) (x2 y2 : Tp) : Prop where
  s : SX B w b g D T L gu ⟨m, S, x⟩
  s' : SX B w b g D T' L' gu' ⟨m, S, y⟩
  nT : T ≠ T'
  nL : L ≠ L'
  u : UZ N1 w c h R r U gu ⟨m2, S2, x2⟩
  u' : UZ N1 w c h R r U' gu' ⟨m2, S2, y2⟩
  nU : U ≠ U'
  wb : w.heap[Q]? = some (.cells q 45 (0, 0))
  gh : g ≠ h
  bel : Below w0.heap.size w0 w
  lo : w0.heap.size ≤ T ∧ w0.heap.size ≤ L ∧ w0.heap.size ≤ g ∧ w0.heap.size ≤ h ∧ w0.heap.size ≤ U ∧ w0.heap.size ≤ N1 ∧ (∀ k, k < w0.heap.size → B k) ∧ 1 < w0.heap.size
  lo' : w0.heap.size ≤ T' ∧ w0.heap.size ≤ L' ∧ w0.heap.size ≤ U'
section
variable {w0 w w' : World} {N1 : Nat} {B : Nat → Prop} {Q b g D T L gu T' L' gu' c h R r U U' A : Nat} {q k : Array Value} {m m' m2 m2' : List Int} {S S' S2 S2' : Fs} {x x' y x2 x2' y2 : Tp}
theorem PF.prog (p : PF w0 w N1 B Q b g D T L gu T' L' gu' c h R r U U' q m S x y m2 S2 x2 y2) (hs : SX B w' b g D T L gu ⟨m', S', x'⟩) (t : Tn (Pt g T L) B w w') : PF w0 w' N1 B Q b g D T L gu T' L' gu' c h R r U U' q m' S' x' y m2 S2 x2 y2 := by
  obtain ⟨ds, t1, _⟩ := p.s.tb.blk
  obtain ⟨ds', t1', _⟩ := p.s'.tb.blk
  obtain ⟨es, cl, t2⟩ := p.s.mp.typ
  obtain ⟨es', cl', t2'⟩ := p.s'.mp.typ
  obtain ⟨us, k1, _⟩ := p.u.ub.blk
  obtain ⟨us', k1', _⟩ := p.u'.ub.blk
  have lo := p.lo
  have nt : ∀ {i : Nat} {cs : Array Value} {t : TypeId}, w.heap[i]? = some (.cells cs t (0, 0)) → t ≠ 5 → t ≠ 110 → ¬ Pt g T L i := fun hk h1 h2 => by
    rintro (e | e | e)
    · exact ne_typ hk t1 h2 e
    · exact ne_map hk t2 e
    · exact ne_typ hk p.s.mm.row h1 e
  have hT : w'.heap[T']? = w.heap[T']? := (t.keep _ _ t1' (by
    rintro (e | e | e)
    · exact p.nT e.symm
    · exact ne_map t1' t2 e
    · exact ne_typ t1' p.s.mm.row (by decide) e) (.inr (not_of (by decide)))).trans t1'.symm
  have hL : w'.heap[L']? = w.heap[L']? := (t.keep _ _ t2' (by
    rintro (e | e | e)
    · exact ne_map t1 t2' e.symm
    · exact p.nL e.symm
    · exact ne_map p.s.mm.row t2' e.symm) (.inl p.s'.bl)).trans t2'.symm
  have hP : ∀ i, Pt g T L i → i ≠ c ∧ i ≠ h ∧ ∀ o, w.heap[i]? = some o → ¬ Or o := fun i e => by
    rcases e with rfl | rfl | rfl
    · exact ⟨ne_typ t1 p.u.rz.rm.cell (by decide), ne_typ t1 p.u.rz.rm.row (by decide), fun o ho hr => by
        rw [t1] at ho
        cases ho
        exact not_or (by decide) hr⟩
    · exact ⟨fun e => ne_map p.u.rz.rm.cell t2 e.symm, fun e => ne_map p.u.rz.rm.row t2 e.symm, fun o ho hr => by
        rw [t2] at ho
        cases ho
        exact hr⟩
    · exact ⟨ne_typ p.s.mm.row p.u.rz.rm.cell (by decide), p.gh, fun o ho hr => by
        rw [p.s.mm.row] at ho
        cases ho
        exact not_or (by decide) hr⟩
  exact ⟨hs, p.s'.join hs.mf hT hL (fun _ e => e), p.nT, p.nL, ⟨p.u.rz.tn t hP, p.u.ub.keep ((t.keep _ _ k1 (nt k1 (by decide) (by decide)) (.inr (not_of (by decide)))).trans k1.symm)⟩, ⟨p.u'.rz.tn t hP, p.u'.ub.keep ((t.keep _ _ k1' (nt k1' (by decide) (by decide)) (.inr (not_of (by decide)))).trans k1'.symm)⟩, p.nU, t.keep _ _ p.wb (nt p.wb (by decide) (by decide)) (.inr (not_of (by decide))), p.gh, p.bel.trans (t.bel p.bel.size fun i hi => ⟨by
    rintro (e | e | e) <;> omega, lo.2.2.2.2.2.2.1 i hi⟩), p.lo, p.lo'⟩
theorem SX.tq2 {us : Array Value} {z : Zs} (s : SX B w b g D T L gu z) (t : Tq N1 (fun k => k = h ∨ k = U) w w') (gh : g ≠ h) {zs : List Int} (hr : w.heap[h]? = some (.cells (zs.map (Value.int .u8)).toArray 5 (0, 0))) (hu : w.heap[U]? = some (.cells us 89 (0, 0))) (n1 : 1 < N1) (h1 : 1 < h) (hU : 1 < U) : SX B w' b g D T L gu z := by
  obtain ⟨cs, t1, _⟩ := s.tb.blk
  obtain ⟨es, cl, t2⟩ := s.mp.typ
  have p0 := s.sz.pos
  obtain ⟨o0, e0⟩ := heap_some (show 0 < w.heap.size by omega)
  obtain ⟨o1, e1⟩ := heap_some (show 1 < w.heap.size by omega)
  have nt : ∀ {i : Nat} {cs : Array Value} {t : TypeId}, w.heap[i]? = some (.cells cs t (0, 0)) → t ≠ 5 → t ≠ 89 → ¬ (i = h ∨ i = U) := fun hk h1 h2 => by
    rintro (e | e)
    · exact ne_typ hk hr h1 e
    · exact ne_typ hk hu h2 e
  have kc : ∀ {i : Nat} {cs : Array Value} {t : TypeId}, w.heap[i]? = some (.cells cs t (0, 0)) → ¬ (i = h ∨ i = U) → t ≠ 121 ∧ t ≠ 123 → w'.heap[i]? = w.heap[i]? := fun hk h1 h2 => (t.keep _ _ hk h1 (.inr (not_or h2))).trans hk.symm
  have mf : MF B w' b g D z.m z.S := by
    refine ⟨s.sz.stay ((t.keep 1 o1 e1 (by omega) (.inl (by omega))).trans e1.symm) t.size, BT.stay s.bt ((t.keep 0 o0 e0 (by omega) (.inl (by omega))).trans e0.symm) t.size, s.mm.stay (kc s.mm.cell (nt s.mm.cell (by decide) (by decide)) (by decide)) (kc s.mm.row (by
      rintro (e | e)
      · exact gh e
      · exact ne_typ s.mm.row hu (by decide) e) (by decide)), s.fx.stay fun i o ho hf _ => t.keep i o ho (by
      rintro (e | e)
      · rw [e, hr] at ho
        cases ho
        exact not_of (by decide) hf
      · rw [e, hu] at ho
        cases ho
        exact not_of (by decide) hf) (.inr (of_or hf)), s.b01, hB_of s.hB t.size, s.lo.1⟩
  exact s.join mf (kc t1 (nt t1 (by decide) (by decide)) (by decide)) ((t.keep _ _ t2 (by
    rintro (e | e)
    · exact ne_map hr t2 e.symm
    · exact ne_map hu t2 e.symm) (.inr id)).trans t2.symm) (fun _ e => e)
theorem PF.doc (p : PF w0 w N1 B Q b g D T L gu T' L' gu' c h R r U U' q m S x y m2 S2 x2 y2) (hu : UZ N1 w' c h R r U gu ⟨m2', S2', x2'⟩) (t : Tq N1 (fun k => k = h ∨ k = U) w w') : PF w0 w' N1 B Q b g D T L gu T' L' gu' c h R r U U' q m S x y m2' S2' x2' y2 := by
  obtain ⟨us, k1, _⟩ := p.u.ub.blk
  obtain ⟨us', k1', _⟩ := p.u'.ub.blk
  have lo := p.lo
  have nt : ∀ {i : Nat} {cs : Array Value} {t : TypeId}, w.heap[i]? = some (.cells cs t (0, 0)) → t ≠ 5 → t ≠ 89 → ¬ (i = h ∨ i = U) := fun hk h1 h2 => by
    rintro (e | e)
    · exact ne_typ hk p.u.rz.rm.row h1 e
    · exact ne_typ hk k1 h2 e
  exact ⟨p.s.tq2 t p.gh p.u.rz.rm.row k1 (by omega) (by omega) (by omega), p.s'.tq2 t p.gh p.u.rz.rm.row k1 (by omega) (by omega) (by omega), p.nT, p.nL, hu, ⟨hu.rz, p.u'.ub.keep ((t.keep _ _ k1' (by
    rintro (e | e)
    · exact ne_typ k1' p.u.rz.rm.row (by decide) e
    · exact p.nU e.symm) (.inr (not_or (by decide)))).trans k1'.symm)⟩, p.nU, t.keep _ _ p.wb (nt p.wb (by decide) (by decide)) (.inr (not_or (by decide))), p.gh, p.bel.trans (t.bel ⟨p.bel.size, lo.2.2.2.2.2.1⟩ fun i hi => by omega), p.lo, p.lo'⟩
theorem PF.flip (p : PF w0 w N1 B Q b g D T L gu T' L' gu' c h R r U U' q m S x y m2 S2 x2 y2) : PF w0 w N1 B Q b g D T' L' gu' T L gu c h R r U' U q m S y x m2 S2 y2 x2 :=
  ⟨p.s', p.s, fun e => p.nT e.symm, fun e => p.nL e.symm, p.u', p.u, fun e => p.nU e.symm, p.wb, p.gh, p.bel, ⟨p.lo'.1, p.lo'.2.1, p.lo.2.2.1, p.lo.2.2.2.1, p.lo'.2.2, p.lo.2.2.2.2.2.1, p.lo.2.2.2.2.2.2.1, p.lo.2.2.2.2.2.2.2⟩, ⟨p.lo.1, p.lo.2.1, p.lo.2.2.2.2.1⟩⟩
theorem PF.below (p : PF w0 w N1 B Q b g D T L gu T' L' gu' c h R r U U' q m S x y m2 S2 x2 y2) (hb : Below w.heap.size w w') : PF w0 w' N1 B Q b g D T L gu T' L' gu' c h R r U U' q m S x y m2 S2 x2 y2 :=
  ⟨p.s.below hb, p.s'.below hb, p.nT, p.nL, p.u.below hb, p.u'.below hb, p.nU, (hb.block _ (lt_of_heap p.wb)).trans p.wb, p.gh, p.bel.trans (hb.mono p.bel.size), p.lo, p.lo'⟩
/-- .. with an act -/
structure PB (w0 w : World) (N1 : Nat) (B : Nat → Prop) (Q b g D T L gu T' L' gu' c h R r U U' A : Nat) (q k : Array Value) (m : List Int) (S : Fs) (x y : Tp) (m2 : List Int) (S2 : Fs) (x2 y2 : Tp) : Prop where
  pf : PF w0 w N1 B Q b g D T L gu T' L' gu' c h R r U U' q m S x y m2 S2 x2 y2
  act : w.heap[A]? = some (.cells k 31 (0, 0))
theorem PB.prog (p : PB w0 w N1 B Q b g D T L gu T' L' gu' c h R r U U' A q k m S x y m2 S2 x2 y2) (hs : SX B w' b g D T L gu ⟨m', S', x'⟩) (t : Tn (Pt g T L) B w w') : PB w0 w' N1 B Q b g D T L gu T' L' gu' c h R r U U' A q k m' S' x' y m2 S2 x2 y2 := by
  refine ⟨p.pf.prog hs t, t.keep _ _ p.act ?_ (.inr (not_of (by decide)))⟩
  obtain ⟨ds, t1, _⟩ := p.pf.s.tb.blk
  obtain ⟨es, cl, t2⟩ := p.pf.s.mp.typ
  rintro (e | e | e)
  · exact ne_typ p.act t1 (by decide) e
  · exact ne_map p.act t2 e
  · exact ne_typ p.act p.pf.s.mm.row (by decide) e
theorem PB.doc (p : PB w0 w N1 B Q b g D T L gu T' L' gu' c h R r U U' A q k m S x y m2 S2 x2 y2) (hu : UZ N1 w' c h R r U gu ⟨m2', S2', x2'⟩) (t : Tq N1 (fun k => k = h ∨ k = U) w w') : PB w0 w' N1 B Q b g D T L gu T' L' gu' c h R r U U' A q k m S x y m2' S2' x2' y2 := by
  refine ⟨p.pf.doc hu t, t.keep _ _ p.act ?_ (.inr (not_or (by decide)))⟩
  obtain ⟨us, k1, _⟩ := p.pf.u.ub.blk
  rintro (e | e)
  · exact ne_typ p.act p.pf.u.rz.rm.row (by decide) e
  · exact ne_typ p.act k1 (by decide) e
theorem PB.below (p : PB w0 w N1 B Q b g D T L gu T' L' gu' c h R r U U' A q k m S x y m2 S2 x2 y2) (hb : Below w.heap.size w w') : PB w0 w' N1 B Q b g D T L gu T' L' gu' c h R r U U' A q k m S x y m2 S2 x2 y2 := ⟨p.pf.below hb, (hb.block _ (lt_of_heap p.act)).trans p.act⟩
theorem PF.box (p : PF w0 w N1 B Q b g D T L gu T' L' gu' c h R r U U' q m S x y m2 S2 x2 y2) (k : Array Value) : PB w0 (w.alloc (.cells k 31)) N1 B Q b g D T L gu T' L' gu' c h R r U U' w.heap.size q k m S x y m2 S2 x2 y2 := ⟨p.below ((Below.refl _ _).alloc (Nat.le_refl _) _), heap_alloc_at _ _⟩
end
end Go.Proofs.YteghkhdpdeiocaaGreatDoor
