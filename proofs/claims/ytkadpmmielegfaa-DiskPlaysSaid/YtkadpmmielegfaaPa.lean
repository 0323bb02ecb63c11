/-
  The program's disk and memory and the document's in one world, with the call at hand.
-/
import Derived.Test.YtkadpmmielegfaaRf
import Derived.Test.YtkadpmmielegfaaSt
import Derived.Test.YtkadpmmielegfaaOpens
namespace Go.Proofs.Ytkadpmmielegfaa
open Go.RowKit Go.Maps
set_option linter.unusedVariables false
set_option maxRecDepth 20000

/-- a state: what is pending, the disk's bytes, the memory's -/
structure S3 where
  ps : List Rq
  zs : List Int
  ms : List Int
/-- where the objects lie -/
structure Pl (N0 : Nat) (w : World) (D m R rb b g c h : Nat) : Prop where
  lD : w.heap.size ≤ D
  lm : w.heap.size ≤ m
  lR : w.heap.size ≤ R
  lrb : w.heap.size ≤ rb
  lg : w.heap.size ≤ g
  lh : w.heap.size ≤ h
  hg : g < N0
  hrb : rb < N0
  hh : h < N0
  e1 : rb ≠ g
  e2 : h ≠ g
  e3 : rb ≠ h
  sz : w.heap.size ≤ N0
/-- a call: its cells -/
structure Ac where
  kd : Int
  r : Rq
  K : Int
  a : Option Addr
  len : Nat
  cap : Nat
def Ac.cs (x : Ac) : Array Value := #[.int .i64 x.kd, .int .i64 x.r.i, .bool x.r.w, .int .i64 x.r.b, .int .i64 x.r.f, .int .i64 x.K, .slice x.a x.len x.cap]
/-- both in one world, and the call in block A -/
structure PX (N0 : Nat) (w y : World) (D m R rb B b g c h A : Nat) (x : Ac) (P Q : S3) : Prop where
  dk : ∃ v, DK N0 y D m B v P.ps P.zs
  rd : ∃ u, RD N0 y R rb B u Q.ps Q.zs
  mm : MM y b g P.ms
  rm : RM y c h Q.ms
  bel : Below w.heap.size w y
  sz : N0 ≤ y.heap.size
  act : y.heap[A]? = some (.cells x.cs 41 (0, 0))
  ml : P.ms.length = 1024
  nl : Q.ms.length = 1024
section
variable {N0 : Nat} {w y y' : World} {D m R rb B b g c h A : Nat} {x : Ac} {P Q : S3}
theorem PX.below (hx : PX N0 w y D m R rb B b g c h A x P Q) (hb : Below y.heap.size y y') : PX N0 w y' D m R rb B b g c h A x P Q := by
  obtain ⟨⟨v, dk⟩, ⟨u, rd⟩, mm, rm, bel, sz, act, ml, nl⟩ := hx
  exact ⟨⟨v, dk.below hb⟩, ⟨u, rd.below hb⟩, mm.below hb, rm.below hb, bel.trans (hb.mono bel.size), by have := hb.size; omega, (hb.block A (lt_of_heap act)).trans act, ml, nl⟩
theorem PX.cells (hx : PX N0 w y D m R rb B b g c h A x P Q) : y.cell? ⟨A, 0, none⟩ = some (.int .i64 x.kd) ∧ y.cell? ⟨A, 1, none⟩ = some (.int .i64 x.r.i) ∧ y.cell? ⟨A, 2, none⟩ = some (.bool x.r.w) ∧ y.cell? ⟨A, 3, none⟩ = some (.int .i64 x.r.b) ∧ y.cell? ⟨A, 4, none⟩ = some (.int .i64 x.r.f) ∧ y.cell? ⟨A, 5, none⟩ = some (.int .i64 x.K) ∧ y.cell? ⟨A, 6, none⟩ = some (.slice x.a x.len x.cap) ∧ A < y.heap.size :=
  ⟨cell_of hx.act rfl, cell_of hx.act rfl, cell_of hx.act rfl, cell_of hx.act rfl, cell_of hx.act rfl, cell_of hx.act rfl, cell_of hx.act rfl, lt_of_heap hx.act⟩
theorem RM.trn {zs : List Int} (hm : RM y c h zs) {S : Nat → Prop} (t : Trn S y y') (hb : ¬ S c) (hg : ¬ S h) : RM y' c h zs :=
  ⟨(t.block c hm.blt hb).trans hm.cell, (t.block h hm.glt hg).trans hm.row, hm.ne, hm.bytes, hm.pos, hm.len⟩
theorem below_sc' {B0 : Nat} {v : Value} {ps : List Rq} {zs : List Int} (hb : Below B0 w y) (hk : DK N0 y D m B v ps zs) (t : Trn (SC D m g v) y y') (hD : B0 ≤ D) (hm : B0 ≤ m) (hg : B0 ≤ g) (hN : B0 ≤ N0) (hs : B0 ≤ y.heap.size) : Below B0 w y' :=
  hb.trans ⟨t.os, t.tape, t.output, by have := t.size; omega, fun k hk' => t.block k (by omega) (fun e => by
    rcases e with e | e | e | e
    · omega
    · have := (hk.ord.lt k e).1; omega
    · omega
    · omega)⟩
/-- a call of the program's -/
theorem PX.prog {v v' : Value} {P' : S3} (s : Pl N0 w D m R rb b g c h) (hx : PX N0 w y D m R rb B b g c h A x P Q) (hv : DK N0 y D m B v P.ps P.zs) (t : Trn (SC D m g v) y y') (dk : DK N0 y' D m B v' P'.ps P'.zs) (mm : MM y' b g P'.ms) (ml : P'.ms.length = 1024) :
    PX N0 w y' D m R rb B b g c h A x P' Q := by
  obtain ⟨_, ⟨u, rd⟩, mm0, rm, bel, sz, act, _, nl⟩ := hx
  obtain ⟨es, cl, hmt⟩ := hv.mtyp
  have N : ∀ {k : Nat} {z : Array Value} {t : TypeId} {f : Nat × Nat}, y.heap[k]? = some (.cells z t f) → t ≠ 66 → t ≠ 38 → k ≠ g → ¬ SC D m g v k := fun hk h1 h2 hg => by
    rintro (e | e | e | e)
    · exact ne_typ hk hv.cell h1 e
    · obtain ⟨cur, hh⟩ := hv.ord.typ _ e
      exact ne_typ hk hh h2 rfl
    · exact ne_map hk hmt e
    · exact hg e
  have G : ∀ {k : Nat} {z : Array Value} {t : TypeId} {f : Nat × Nat}, y.heap[k]? = some (.cells z t f) → t ≠ 5 → k ≠ g := fun hk h5 => ne_typ hk mm0.row h5
  refine ⟨⟨v', dk⟩, ⟨u, rd.keep t (N rd.cell (by decide) (by decide) (G rd.cell (by decide))) (N rd.row (by decide) (by decide) s.e1) (fun k hk => ?_)⟩, mm, rm.trn t (N rm.cell (by decide) (by decide) (G rm.cell (by decide))) (N rm.row (by decide) (by decide) s.e2), below_sc' bel hv t s.lD s.lm s.lg s.sz (by have := s.sz; omega), by have := t.size; omega, (t.block A (lt_of_heap act) (N act (by decide) (by decide) (G act (by decide)))).trans act, ml, nl⟩
  obtain ⟨cur, hh⟩ := rd.ord.typ k hk
  exact N hh (by decide) (by decide) (G hh (by decide))
/-- a call of the document's -/
theorem PX.refd {u u' : Value} {Q' : S3} (s : Pl N0 w D m R rb b g c h) (hx : PX N0 w y D m R rb B b g c h A x P Q) (hu : RD N0 y R rb B u Q.ps Q.zs) (t : Trn (SC R rb h u) y y') (rd : RD N0 y' R rb B u' Q'.ps Q'.zs) (rm : RM y' c h Q'.ms) (nl : Q'.ms.length = 1024) :
    PX N0 w y' D m R rb B b g c h A x P Q' := by
  obtain ⟨⟨v, dk⟩, _, mm, rm0, bel, sz, act, ml, _⟩ := hx
  have N : ∀ {k : Nat} {z : Array Value} {t : TypeId} {f : Nat × Nat}, y.heap[k]? = some (.cells z t f) → t ≠ 80 → t ≠ 44 → k ≠ rb → k ≠ h → ¬ SC R rb h u k := fun hk h1 h2 hg hh' => by
    rintro (e | e | e | e)
    · exact ne_typ hk hu.cell h1 e
    · obtain ⟨cur, hh⟩ := hu.ord.typ _ e
      exact ne_typ hk hh h2 rfl
    · exact hg e
    · exact hh' e
  have G : ∀ {k : Nat} {z : Array Value} {t : TypeId} {f : Nat × Nat}, y.heap[k]? = some (.cells z t f) → t ≠ 5 → k ≠ rb ∧ k ≠ h := fun hk h5 => ⟨ne_typ hk hu.row h5, ne_typ hk rm0.row h5⟩
  obtain ⟨es, cl, hmt⟩ := dk.mtyp
  refine ⟨⟨v, dk.keep t (N dk.cell (by decide) (by decide) (G dk.cell (by decide)).1 (G dk.cell (by decide)).2) (fun e => ?_) (fun k hk => ?_) (fun k ys hk hy => N hy (by decide) (by decide) (by have := s.hrb; omega) (by have := s.hh; omega))⟩, ⟨u', rd⟩, mm.trn t (N mm.cell (by decide) (by decide) (G mm.cell (by decide)).1 (G mm.cell (by decide)).2) (N mm.row (by decide) (by decide) (Ne.symm s.e1) (Ne.symm s.e2)), rm, ?_, by have := t.size; omega, (t.block A (lt_of_heap act) (N act (by decide) (by decide) (G act (by decide)).1 (G act (by decide)).2)).trans act, ml, nl⟩
  · rcases e with e | e | e | e
    · exact ne_map hu.cell hmt e.symm
    · obtain ⟨cur, hh⟩ := hu.ord.typ _ e
      exact ne_map hh hmt rfl
    · exact ne_map hu.row hmt e.symm
    · exact ne_map rm0.row hmt e.symm
  · obtain ⟨cur, hh⟩ := dk.ord.typ k hk
    exact N hh (by decide) (by decide) (G hh (by decide)).1 (G hh (by decide)).2
  · have hz := s.sz
    exact bel.trans ⟨t.os, t.tape, t.output, by have := t.size; omega, fun k hk' => t.block k (by omega) (fun e => by
      rcases e with e | e | e | e
      · have := s.lR; omega
      · have := (hu.ord.lt k e).1; omega
      · have := s.lrb; omega
      · have := s.lh; omega)⟩
end

section
variable {N0 : Nat} {w y : World} {D m R rb B b g c h A : Nat} {x : Ac} {P Q : S3}
theorem PX.submit (s : Pl N0 w D m R rb b g c h) (hx : PX N0 w y D m R rb B b g c h A x P Q) (r : Rq) :
    Calls Try.prog 12 #[.pointer (some ⟨D, 0, none⟩), rv r] y fun e y' => e = .returned (.int .i64 (subE B P.ps r)) ∧ PX N0 w y' D m R rb B b g c h A x ⟨subP B P.ps r, P.zs, P.ms⟩ Q := by
  obtain ⟨v, hv⟩ := hx.dk
  refine (submit_dk N0 D m B v P.ps P.zs r y hv hx.sz).mono ?_
  rintro e y' ⟨rfl, v', dk', t⟩
  have mm' := hx.mm.trn t (not_sd hv hx.mm.cell (by decide) (by decide)) (not_sd hv hx.mm.row (by decide) (by decide))
  exact ⟨rfl, hx.prog s hv (t.mono (fun k _ e => by rcases e with e | e; exact .inl e; exact .inr (.inl e))) dk' mm' hx.ml⟩
theorem PX.rsubmit (s : Pl N0 w D m R rb b g c h) (hx : PX N0 w y D m R rb B b g c h A x P Q) (r : Rq) :
    Calls Try.prog 13 #[.pointer (some ⟨R, 0, none⟩), rv r] y fun e y' => e = .returned (.int .i64 (subE B Q.ps r)) ∧ PX N0 w y' D m R rb B b g c h A x P ⟨subP B Q.ps r, Q.zs, Q.ms⟩ := by
  obtain ⟨u, hu⟩ := hx.rd
  refine (rdsubmit_any N0 R rb B u Q.ps Q.zs r y hu hx.sz).mono ?_
  rintro e y' ⟨rfl, u', rd', t⟩
  have nn : ∀ {k : Nat} {z : Array Value} {t : TypeId} {f : Nat × Nat}, y.heap[k]? = some (.cells z t f) → t ≠ 80 → t ≠ 44 → ¬ SD R u k := fun hk h1 h2 e => by
    rcases e with e | e
    · exact ne_typ hk hu.cell h1 e
    · obtain ⟨cur, hh⟩ := hu.ord.typ _ e
      exact ne_typ hk hh h2 rfl
  have rm' := hx.rm.trn t (nn hx.rm.cell (by decide) (by decide)) (nn hx.rm.row (by decide) (by decide))
  exact ⟨rfl, hx.refd s hu (t.mono (fun k _ e => by rcases e with e | e; exact .inl e; exact .inr (.inl e))) rd' rm' hx.nl⟩
/-- P12.3: what Complete tells, and what it leaves -/
def comR (S : S3) (k : Int) : Rq := if 0 ≤ k ∧ k < S.ps.length then S.ps.getD k.toNat q0 else q0
def comE (S : S3) (k : Int) : Int := if 0 ≤ k ∧ k < S.ps.length then trE 4 (S.ps.getD k.toNat q0) else 14
def comS (S : S3) (k : Int) : S3 := if 0 ≤ k ∧ k < S.ps.length then ⟨S.ps.eraseIdx k.toNat, trZ S.zs S.ms (S.ps.getD k.toNat q0), trM S.zs S.ms (S.ps.getD k.toNat q0)⟩ else S
theorem trM_len (zs ms : List Int) (r : Rq) (hz : zs.length = B * 256) (hb : 0 ≤ r.b ∧ r.b < B) : (trM zs ms r).length = ms.length := by
  unfold trM
  split
  · rename_i h0
    have hl : (piece zs r.b.toNat).length = 256 := piece_len hz (by omega)
    exact length_splice _ _ _ (by rw [hl]; omega)
  · rfl
theorem PX.complete (s : Pl N0 w D m R rb b g c h) (hx : PX N0 w y D m R rb B b g c h A x P Q) (k : Int) :
    Calls Try.prog 14 #[.pointer (some ⟨D, 0, none⟩), .pointer (some ⟨b, 0, none⟩), .int .i64 k] y fun e y' => e = .returned (.tuple #[rv (comR P k), .int .i64 (comE P k)]) ∧ PX N0 w y' D m R rb B b g c h A x (comS P k) Q := by
  obtain ⟨v, hv⟩ := hx.dk
  have hml := hx.ml
  by_cases hk : 0 ≤ k ∧ k < P.ps.length
  · obtain ⟨n, rfl⟩ := Int.eq_ofNat_of_zero_le hk.1
    have hn : n < P.ps.length := by omega
    have e : P.ps.getD n q0 = P.ps[n] := by simp [List.getD, List.getElem?_eq_getElem hn]
    rw [show comR P n = P.ps[n] by rw [comR, if_pos hk, Int.toNat_natCast, e], show comE P n = trE 4 P.ps[n] by rw [comE, if_pos hk, Int.toNat_natCast, e], show comS P n = ⟨P.ps.eraseIdx n, trZ P.zs P.ms P.ps[n], trM P.zs P.ms P.ps[n]⟩ by rw [comS, if_pos hk, Int.toNat_natCast, e]]
    have C := complete_yes N0 D m B b g v P.ps P.zs P.ms n hn y hv hx.mm (by omega) hx.sz s.hg
    rw [hml] at C
    refine C.mono ?_
    rintro e y' ⟨rfl, v', dk', mm', t⟩
    exact ⟨rfl, hx.prog s hv t dk' mm' ((trM_len P.zs P.ms _ hv.len (hv.bs _ (List.getElem_mem hn))).trans hml)⟩
  · rw [show comR P k = q0 by rw [comR, if_neg hk], show comE P k = 14 by rw [comE, if_neg hk], show comS P k = P by rw [comS, if_neg hk]]
    refine (complete_none N0 D m B b g v P.ps P.zs P.ms k y hv hx.mm (by omega) hk).mono ?_
    rintro e y' ⟨rfl, hb⟩
    exact ⟨rfl, hx.below hb⟩
theorem PX.rcomplete (s : Pl N0 w D m R rb b g c h) (hx : PX N0 w y D m R rb B b g c h A x P Q) (k : Int) :
    Calls Try.prog 15 #[.pointer (some ⟨R, 0, none⟩), .pointer (some ⟨c, 0, none⟩), .int .i64 k] y fun e y' => e = .returned (.tuple #[rv (comR Q k), .int .i64 (comE Q k)]) ∧ PX N0 w y' D m R rb B b g c h A x P (comS Q k) ∧ ∀ (q : Nat) (z : Array Value), y.heap[q]? = some (.cells z 38 (0, 0)) → y'.heap[q]? = some (.cells z 38 (0, 0)) := by
  obtain ⟨u, hu⟩ := hx.rd
  have hnl := hx.nl
  by_cases hk : 0 ≤ k ∧ k < Q.ps.length
  · obtain ⟨n, rfl⟩ := Int.eq_ofNat_of_zero_le hk.1
    have hn : n < Q.ps.length := by omega
    have e : Q.ps.getD n q0 = Q.ps[n] := by simp [List.getD, List.getElem?_eq_getElem hn]
    rw [show comR Q n = Q.ps[n] by rw [comR, if_pos hk, Int.toNat_natCast, e], show comE Q n = trE 4 Q.ps[n] by rw [comE, if_pos hk, Int.toNat_natCast, e], show comS Q n = ⟨Q.ps.eraseIdx n, trZ Q.zs Q.ms Q.ps[n], trM Q.zs Q.ms Q.ps[n]⟩ by rw [comS, if_pos hk, Int.toNat_natCast, e]]
    have C := rdcomplete_yes N0 R rb B c h u Q.ps Q.zs Q.ms n hn y hu hx.rm hx.sz s.e3 (by omega)
    rw [hnl] at C
    refine C.mono ?_
    rintro e y' ⟨rfl, u', rd', rm', t⟩
    refine ⟨rfl, hx.refd s hu t rd' rm' ((trM_len Q.zs Q.ms _ hu.len (hu.bs _ (List.getElem_mem hn))).trans hnl), fun q z hq => (t.block q (lt_of_heap hq) ?_).trans hq⟩
    rintro (e | e | e | e)
    · exact ne_typ hq hu.cell (by decide) e
    · obtain ⟨cur, hh⟩ := hu.ord.typ _ e
      exact ne_typ hq hh (by decide) rfl
    · exact ne_typ hq hu.row (by decide) e
    · exact ne_typ hq hx.rm.row (by decide) e
  · rw [show comR Q k = q0 by rw [comR, if_neg hk], show comE Q k = 14 by rw [comE, if_neg hk], show comS Q k = Q by rw [comS, if_neg hk]]
    refine (rdcomplete_none N0 R rb B u Q.ps Q.zs _ k y hu hk).mono ?_
    rintro e y' ⟨rfl, hb⟩
    exact ⟨rfl, hx.below hb, fun q z hq => (hb.block q (lt_of_heap hq)).trans hq⟩
theorem PX.put (s : Pl N0 w D m R rb b g c h) (hx : PX N0 w y D m R rb B b g c h A x P Q) (n : Int) (a : Option Addr) (len cp : Nat) (ys : List Int) (hs : SL y a len ys) :
    Calls Try.prog 16 #[.pointer (some ⟨D, 0, none⟩), .int .i64 n, .slice a len cp] y fun e y' => e = .returned (.int .i64 (putE B n ys.length)) ∧ PX N0 w y' D m R rb B b g c h A x ⟨P.ps, putZ B P.zs n ys, P.ms⟩ Q ∧ y.grownBy y' (some m) ∧ ∀ X, X < y.heap.size → Safe y m B X → Safe y' m B X := by
  obtain ⟨v, hv⟩ := hx.dk
  obtain ⟨es, cl, hmt⟩ := hv.mtyp
  refine (put_safe N0 D m B v P.ps P.zs ys n a len cp y hv hs hx.sz).mono ?_
  rintro e y' ⟨rfl, dk', t, sf⟩
  exact ⟨rfl, hx.prog (P' := ⟨P.ps, putZ B P.zs n ys, P.ms⟩) s hv (Trn.of_grown t (.inr (.inr (.inl rfl)))) dk' (hx.mm.kept t (fun e => ne_map hx.mm.cell hmt (Option.some.inj e)) (fun e => ne_map hx.mm.row hmt (Option.some.inj e))) hx.ml, t, sf⟩
theorem PX.rput (s : Pl N0 w D m R rb b g c h) (hx : PX N0 w y D m R rb B b g c h A x P Q) (n : Int) (a : Option Addr) (len cp : Nat) (ys : List Int) (hs : SL y a len ys) (hne : 0 < len → ∀ b0 off, a = some ⟨b0, off, none⟩ → b0 ≠ rb) (hlc : len ≤ cp) (hl : len < 9223372036854775808) :
    Calls Try.prog 17 #[.pointer (some ⟨R, 0, none⟩), .int .i64 n, .slice a len cp] y fun e y' => e = .returned (.int .i64 (putE B n ys.length)) ∧ PX N0 w y' D m R rb B b g c h A x P ⟨Q.ps, putZ B Q.zs n ys, Q.ms⟩ ∧ y.grownBy y' (some rb) := by
  obtain ⟨u, hu⟩ := hx.rd
  refine (rdput_any N0 R rb B u Q.ps Q.zs ys n a len cp y hu hs hne hlc hl).mono ?_
  rintro e y' ⟨rfl, rd', t⟩
  exact ⟨rfl, hx.refd (Q' := ⟨Q.ps, putZ B Q.zs n ys, Q.ms⟩) s hu (Trn.of_grown t (.inr (.inr (.inl rfl)))) rd' (hx.rm.kept t (fun e => ne_typ hx.rm.cell hu.row (by decide) (Option.some.inj e)) (fun e => s.e3 (Option.some.inj e).symm)) hx.nl, t⟩
theorem putV_len (ms ys : List Int) (t : Int) (h0 : 0 ≤ t) : (putV ms t ys).length = ms.length := by
  unfold putV
  split
  · rename_i e
    obtain ⟨_, h⟩ := plcE_zero e
    exact length_splice _ _ _ (by omega)
  · rfl
theorem PX.mput (s : Pl N0 w D m R rb b g c h) (hx : PX N0 w y D m R rb B b g c h A x P Q) (t : Int) (a : Option Addr) (len cp : Nat) (ys : List Int) (hs : SL y a len ys) (hl : len < 9223372036854775808) (h0 : 0 ≤ t) (h1 : t < 18446744073709551616) :
    Calls Try.prog 18 #[.pointer (some ⟨b, 0, none⟩), .int .u64 t, .slice a len cp] y fun e y' => e = .returned (.int .i64 (plcE P.ms.length t ys.length)) ∧ PX N0 w y' D m R rb B b g c h A x ⟨P.ps, P.zs, putV P.ms t ys⟩ Q := by
  obtain ⟨v, hv⟩ := hx.dk
  refine (mput_mm b g P.ms ys t a len cp y hx.mm hs hl h0 h1).mono ?_
  rintro e y' ⟨rfl, mm', k⟩
  exact ⟨rfl, hx.prog (P' := ⟨P.ps, P.zs, putV P.ms t ys⟩) s hv (Trn.of_grown k (.inr (.inr (.inr rfl)))) (hv.bytesTurned hx.mm.row s.hg k) mm' ((putV_len _ _ _ h0).trans hx.ml)⟩
theorem PX.rmput (s : Pl N0 w D m R rb b g c h) (hx : PX N0 w y D m R rb B b g c h A x P Q) (t : Int) (a : Option Addr) (len cp : Nat) (ys : List Int) (hs : SL y a len ys) (hne : 0 < len → ∀ b0 off, a = some ⟨b0, off, none⟩ → b0 ≠ h) (hlc : len ≤ cp) (hl : len < 9223372036854775808) (h0 : 0 ≤ t) (h1 : t < 18446744073709551616) :
    Calls Try.prog 19 #[.pointer (some ⟨c, 0, none⟩), .int .u64 t, .slice a len cp] y fun e y' => e = .returned (.int .i64 (plcE Q.ms.length t ys.length)) ∧ PX N0 w y' D m R rb B b g c h A x P ⟨Q.ps, Q.zs, putV Q.ms t ys⟩ := by
  obtain ⟨u, hu⟩ := hx.rd
  refine (rmput_any c h Q.ms ys t a len cp y hx.rm hs hne hlc hl h0 h1).mono ?_
  rintro e y' ⟨rfl, rm', k⟩
  refine ⟨rfl, hx.refd (Q' := ⟨Q.ps, Q.zs, putV Q.ms t ys⟩) s hu (Trn.of_grown k (.inr (.inr (.inr rfl)))) (hu.keep (S := fun q => q = h) (Trn.of_grown k rfl) (ne_typ hu.cell hx.rm.row (by decide)) s.e3 (fun q hq e => ?_)) rm' ((putV_len _ _ _ h0).trans hx.nl)⟩
  obtain ⟨cur, hh⟩ := hu.ord.typ q hq
  exact ne_typ hh hx.rm.row (by decide) e

/-- a row of bytes of the caller's own -/
def FL (w : World) (X n : Nat) : Prop := ∃ cur, w.heap[X]? = some (.cells cur 5 (0, 0)) ∧ ∀ i, i < n → ∃ z : Int, cur[i]? = some (.int .u8 z)
theorem FL.at {y : World} {X n : Nat} (hf : FL y X n) (i : Nat) (hi : i < n) : (∃ z : Int, y.cell? ⟨X, i, none⟩ = some (.int .u8 z)) ∧ y.frozen? ⟨X, i, none⟩ = false ∧ X < y.heap.size := by
  obtain ⟨cur, h1, h2⟩ := hf
  obtain ⟨z, hz⟩ := h2 i hi
  exact ⟨⟨z, cell_of h1 hz⟩, by simp [World.frozen?, h1], lt_of_heap h1⟩
theorem FL.set {y : World} {X n : Nat} (hf : FL y X n) (i : Nat) (hi : i < n) (z : Int) : FL (y.setCell ⟨X, i, none⟩ (.int .u8 z)) X n ∧ y.grownBy (y.setCell ⟨X, i, none⟩ (.int .u8 z)) (some X) := by
  obtain ⟨cur, h1, h2⟩ := hf
  have e := setCell_eq_setRow y X i cur 5 (0, 0) (.int .u8 z) h1
  rw [e]
  refine ⟨⟨_, setRow_heap y X _ _ 5 _ h1, fun k hk => ?_⟩, ⟨rfl, rfl, rfl, by simp [World.setRow], fun k hk hne => setRow_other y X k _ (fun e => hne (by rw [e]))⟩⟩
  obtain ⟨z0, hz0⟩ := h2 k hk
  by_cases e : k = i
  · subst e
    have hl : k < cur.size := by
      rcases Nat.lt_or_ge k cur.size with h | h
      · exact h
      · rw [Array.getElem?_eq_none h] at hz0; cases hz0
    exact ⟨z, by simp [hl]⟩
  · exact ⟨z0, by rw [Array.getElem?_setIfInBounds_ne (Ne.symm e)]; exact hz0⟩
theorem FL.keep {y y' : World} {X n : Nat} (hf : FL y X n) (hk : y'.heap[X]? = y.heap[X]?) : FL y' X n := by
  obtain ⟨cur, h1, h2⟩ := hf
  exact ⟨cur, hk.trans h1, h2⟩
theorem FL.of_row {y : World} {X : Nat} {ys : List Int} (hr : y.heap[X]? = some (.cells (ys.map (Value.int .u8)).toArray 5 (0, 0))) : FL y X ys.length :=
  ⟨_, hr, fun i hi => ⟨ys[i], by simp [List.getElem?_eq_getElem hi]⟩⟩
theorem FL.lt {y : World} {X n : Nat} (hf : FL y X n) : X < y.heap.size := by
  obtain ⟨cur, h1, _⟩ := hf
  exact lt_of_heap h1
theorem PX.safe (hx : PX N0 w y D m R rb B b g c h A x P Q) {X : Nat} (hX : y.heap.size ≤ X) : Safe y m B X := by
  obtain ⟨v, hv⟩ := hx.dk
  exact Safe.of_lt hv hX
theorem PX.mblock (hx : PX N0 w y D m R rb B b g c h A x P Q) : m < y.heap.size ∧ ∃ es cl, y.heap[m]? = some (.map es cl) := by
  obtain ⟨v, hv⟩ := hx.dk
  exact ⟨hv.mlt, hv.mtyp⟩
/-- a write into a row of the caller's own -/
theorem PX.turned {y' : World} (s : Pl N0 w D m R rb b g c h) (hx : PX N0 w y D m R rb B b g c h A x P Q) {X n : Nat} (hf : FL y X n) (hX : N0 ≤ X) (sf : Safe y m B X) (t : y.grownBy y' (some X)) : PX N0 w y' D m R rb B b g c h A x P Q := by
  obtain ⟨cur, hc, _⟩ := hf
  obtain ⟨⟨v, dk⟩, ⟨u, rd⟩, mm, rm, bel, sz, act, ml, nl⟩ := hx
  have hz := s.sz
  refine ⟨⟨v, dk.safeTurned hc sf t⟩, ⟨u, rd.keep (S := fun k => k = X) (Trn.of_grown t rfl) (ne_typ rd.cell hc (by decide)) (by have := s.hrb; omega) (fun k hk e => ?_)⟩, mm.kept t (fun e => ne_typ mm.cell hc (by decide) (Option.some.inj e)) (fun e => by have := s.hg; have := Option.some.inj e; omega), rm.kept t (fun e => ne_typ rm.cell hc (by decide) (Option.some.inj e)) (fun e => by have := s.hh; have := Option.some.inj e; omega), bel.grown t (by omega) (by intro k h; cases h; omega), by have := t.size; omega, (gr_keep t (lt_of_heap act) (ne_typ act hc (by decide))).trans act, ml, nl⟩
  obtain ⟨cur2, hh⟩ := rd.ord.typ k hk
  exact ne_typ hh hc (by decide) e
/-- P12.4: a block's bytes, or none -/
def blkB (B : Nat) (zs : List Int) (K : Int) : List Int := if 0 ≤ K ∧ K < B then piece zs K.toNat else []
theorem PX.block (hx : PX N0 w y D m R rb B b g c h A x P Q) (K : Int) :
    Calls Try.prog 20 #[.pointer (some ⟨D, 0, none⟩), .int .i64 K] y fun e y' => ∃ a n, e = .returned (.tuple #[.slice a n n, .int .i64 (hasE B K)]) ∧ SL y' a n (blkB B P.zs K) ∧ PX N0 w y' D m R rb B b g c h A x P Q ∧ (n = 0 ∨ n = 256 ∧ ∃ X, a = some ⟨X, 0, none⟩ ∧ N0 ≤ X ∧ FL y' X 256 ∧ Safe y' m B X) := by
  obtain ⟨v, hv⟩ := hx.dk
  by_cases hK : 0 ≤ K ∧ K < B
  · obtain ⟨k, rfl⟩ := Int.eq_ofNat_of_zero_le hK.1
    rw [show hasE B k = 0 by simp [hasE]; omega, show blkB B P.zs k = piece P.zs k by rw [blkB, if_pos hK, Int.toNat_natCast]]
    refine (block_yes N0 D m B v P.ps P.zs k y hv (by omega)).mono ?_
    rintro e y' ⟨X, rfl, hr, hX, hb⟩
    have hl : (piece P.zs k).length = 256 := piece_len hv.len (by omega)
    have hs := sl_row hr (bytes_mid hv.bytes _ _)
    have hf := FL.of_row hr
    rw [hl] at hs hf
    exact ⟨_, _, rfl, hs, hx.below hb, .inr ⟨rfl, X, rfl, by have := hx.sz; omega, hf, (hx.safe hX).keep (hb.block m hv.mlt)⟩⟩
  · rw [show hasE B K = 12 by simp [hasE, hK], show blkB B P.zs K = [] by rw [blkB, if_neg hK]]
    refine (block_no N0 D m B v P.ps P.zs K y hv hK).mono ?_
    rintro e y' ⟨rfl, rfl⟩
    exact ⟨none, 0, rfl, SL.nil _ _, hx, .inl rfl⟩
theorem PX.rblock (hx : PX N0 w y D m R rb B b g c h A x P Q) (K : Int) :
    Calls Try.prog 21 #[.pointer (some ⟨R, 0, none⟩), .int .i64 K] y fun e y' => ∃ a n cp, e = .returned (.tuple #[.slice a n cp, .int .i64 (hasE B K)]) ∧ SL y' a n (blkB B Q.zs K) ∧ PX N0 w y' D m R rb B b g c h A x P Q ∧ Below y.heap.size y y' := by
  obtain ⟨u, hu⟩ := hx.rd
  by_cases hK : 0 ≤ K ∧ K < B
  · obtain ⟨k, rfl⟩ := Int.eq_ofNat_of_zero_le hK.1
    rw [show hasE B k = 0 by simp [hasE]; omega, show blkB B Q.zs k = piece Q.zs k by rw [blkB, if_pos hK, Int.toNat_natCast]]
    refine (rdblock_yes N0 R rb B u Q.ps Q.zs k y hu (by omega)).mono ?_
    rintro e y' ⟨a, cp, rfl, hs, hb⟩
    exact ⟨a, 256, cp, rfl, hs, hx.below hb, hb⟩
  · rw [show hasE B K = 12 by simp [hasE, hK], show blkB B Q.zs K = [] by rw [blkB, if_neg hK]]
    refine (rdblock_no N0 R rb B u Q.ps Q.zs K y hu hK).mono ?_
    rintro e y' ⟨rfl, rfl⟩
    exact ⟨none, 0, 0, rfl, SL.nil _ _, hx, Below.refl _ _⟩
theorem PX.stands (hx : PX N0 w y D m R rb B b g c h A x P Q) (hp : P.ps = Q.ps) (hz : P.zs = Q.zs) :
    Calls Try.prog 22 #[.pointer (some ⟨D, 0, none⟩), .pointer (some ⟨R, 0, none⟩)] y fun e y' => e = .returned (.bool true) ∧ PX N0 w y' D m R rb B b g c h A x P Q ∧ Below y.heap.size y y' := by
  obtain ⟨v, hv⟩ := hx.dk
  obtain ⟨u, hu⟩ := hx.rd
  rw [← hp, ← hz] at hu
  refine (stands_any N0 D m R rb B v u P.ps P.zs y hv hu).mono ?_
  rintro e y' ⟨rfl, hb⟩
  exact ⟨rfl, hx.below hb, hb⟩
end
theorem names_any (w : World) : Calls Try.prog 11 #[] w fun e w' => e = .returned (.bool true) ∧ w' = w := by
  go_enter Try.func11, Try.ntmps11
  go_wp2
  go_ret
  exact ⟨rfl, rfl⟩
end Go.Proofs.Ytkadpmmielegfaa
