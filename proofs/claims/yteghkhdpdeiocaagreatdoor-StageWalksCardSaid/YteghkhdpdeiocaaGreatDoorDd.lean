/-
  does of any kind but Close, for both guests; Close, Root, Count of what stands then; acts in a slice.
-/
import Derived.Test.YteghkhdpdeiocaaGreatDoorDc
import Derived.Test.YteghkhdpdeiocaaGreatDoorGP
import Derived.Test.YteghkhdpdeiocaaGreatDoorTm
namespace Go.Proofs.YteghkhdpdeiocaaGreatDoor
open Go.RowKit Go.Maps
set_option linter.unusedVariables false
set_option maxRecDepth 100000
section
variable {w0 w w' : World} {N1 n i : Nat} {B : Nat → Prop} {Q b g D T L gu T' L' gu' c h R r U U' A : Nat} {q k : Array Value} {m m' m2 m2' : List Int} {S S' S2 S2' : Fs} {x x' y x2 x2' y2 : Tp} {a : Ac} {z : Zs}
theorem does_st (p : PF w0 w N1 B Q b g D T L gu T' L' gu' c h R r U U' q m S x y m S x y) (iv : Iv n (TF y) ⟨m, S, x⟩) (hg : 1 ≤ gu ∧ gu ≤ 16) (hq : QB q i D T R U) (hi : i < 2) (hgu : (1 : Int) + i = gu) (a : Ac) (hw : bits .and .i64 a.wh 1 = (i : Int)) (hk : a.kd ≠ 4) : Calls Tryz.prog 7 #[.pointer (some ⟨Q, 0, none⟩), .agg (acA a)] w fun e w' => e = .returned (.bool true) ∧ PF w0 w' N1 B Q b g D T L gu T' L' gu' c h R r U U' q (stZ gu n a ⟨m, S, x⟩).m (stZ gu n a ⟨m, S, x⟩).S (stZ gu n a ⟨m, S, x⟩).x y (stZ gu n a ⟨m, S, x⟩).m (stZ gu n a ⟨m, S, x⟩).S (stZ gu n a ⟨m, S, x⟩).x y := by
  by_cases h0 : a.kd = 0
  · rw [show stZ gu n a ⟨m, S, x⟩ = mapZ gu n ⟨m, S, x⟩ a.pa a.fr a.a a.b a.c by unfold stZ; rw [if_pos h0]]
    exact does_k0 p iv hg hq hi hgu a hw h0
  by_cases h1 : a.kd = 1
  · rw [show stZ gu n a ⟨m, S, x⟩ = unZ gu ⟨m, S, x⟩ a.pa by unfold stZ; rw [if_neg h0, if_pos h1]]
    exact does_k1 p iv hg hq hi hgu a hw h1
  by_cases h2 : a.kd = 2
  · rw [show stZ gu n a ⟨m, S, x⟩ = prZ ⟨m, S, x⟩ a.pa a.a a.b a.c by unfold stZ; rw [if_neg h0, if_neg h1, if_pos h2]]
    exact does_k2 p iv hg hq hi hgu a hw h2
  by_cases h3 : a.kd = 3
  · rw [show stZ gu n a ⟨m, S, x⟩ = ⟨m, alS S gu, x⟩ by unfold stZ; rw [if_neg h0, if_neg h1, if_neg h2, if_pos h3]]
    exact does_k3 p iv hg hq hi hgu a hw h3
  · rw [show stZ gu n a ⟨m, S, x⟩ = ⟨m, S, x⟩ by unfold stZ; rw [if_neg h0, if_neg h1, if_neg h2, if_neg h3]]
    exact does_o p iv hg hq hi hgu a hw fun j hj e => by
      obtain rfl | rfl | rfl | rfl | rfl : j = 0 ∨ j = 1 ∨ j = 2 ∨ j = 3 ∨ j = 4 := by omega
      · exact h0 e
      · exact h1 e
      · exact h2 e
      · exact h3 e
      · exact hk e
/-- both guests' tables at the law's acts -/
structure LP (w0 w : World) (N1 n : Nat) (B : Nat → Prop) (Q b g D T L T' L' c h R r U U' : Nat) (q : Array Value) (z : Zs) (y : Tp) : Prop where
  pf : PF w0 w N1 B Q b g D T L 1 T' L' 2 c h R r U U' q z.m z.S z.x y z.m z.S z.x y
  w2 : W2 n 1 2 z y
  q0 : QB q 0 D T R U
  q1 : QB q 1 D T' R U'
  rt : 0 ≤ z.x.rt ∧ 0 ≤ y.rt
  sn : z.S.n = n ∧ z.S.fi = 1
theorem gs12 : Gs 1 2 := ⟨by decide, by decide, by decide⟩
theorem LP.does (l : LP w0 w N1 n B Q b g D T L T' L' c h R r U U' q z y) (a : Ac) (hk : a.kd ≠ 4) : Calls Tryz.prog 7 #[.pointer (some ⟨Q, 0, none⟩), .agg (acA a)] w fun e w' => e = .returned (.bool true) ∧ ∃ z' y', LP w0 w' N1 n B Q b g D T L T' L' c h R r U U' q z' y' := by
  obtain ⟨i, hi, hw⟩ := and_low a.wh 1 1 (by decide) (by decide)
  obtain rfl | rfl : i = 0 ∨ i = 1 := by omega
  · refine (does_st (i := 0) l.pf l.w2.iv (by decide) l.q0 (by decide) (by decide) a hw hk).mono fun e w' ⟨e1, p⟩ => ⟨e1, stZ 1 n a z, y, p, l.w2.act gs12 a, l.q0, l.q1, ⟨?_, l.rt.2⟩, ?_⟩
    · rw [rt_act]; exact l.rt.1
    · obtain ⟨k1, k2⟩ := kp_act l.w2 gs12 a
      exact ⟨k1.trans l.sn.1, k2.trans l.sn.2⟩
  · have f := l.w2.flip
    refine (does_st (i := 1) l.pf.flip f.iv (by decide) l.q1 (by decide) (by decide) a hw hk).mono fun e w' ⟨e1, p⟩ => ⟨e1, ⟨(stZ 2 n a ⟨z.m, z.S, y⟩).m, (stZ 2 n a ⟨z.m, z.S, y⟩).S, z.x⟩, (stZ 2 n a ⟨z.m, z.S, y⟩).x, p.flip, (f.act gs12.flip a).flip, l.q0, l.q1, ⟨l.rt.1, ?_⟩, ?_⟩
    · rw [rt_act]; exact l.rt.2
    · obtain ⟨k1, k2⟩ := kp_act f gs12.flip a
      exact ⟨k1.trans l.sn.1, k2.trans l.sn.2⟩
/-- both guests' tables at the law's end: one in front; the document's stand as they were -/
structure CP (w0 w : World) (N1 n : Nat) (B : Nat → Prop) (Q b g D T L gu T' L' gu' c h R r U U' : Nat) (q : Array Value) (z : Zs) (y : Tp) : Prop where
  pf : ∃ m2 S2 x2 y2, PF w0 w N1 B Q b g D T L gu T' L' gu' c h R r U U' q z.m z.S z.x y m2 S2 x2 y2
  w2 : W2 n gu gu' z y
  gs : Gs gu gu'
  sn : z.S.n = n ∧ z.S.fi = 1
theorem LP.cp (l : LP w0 w N1 n B Q b g D T L T' L' c h R r U U' q z y) : CP w0 w N1 n B Q b g D T L 1 T' L' 2 c h R r U U' q z y := ⟨⟨_, _, _, _, l.pf⟩, l.w2, gs12, l.sn⟩
theorem LP.below (l : LP w0 w N1 n B Q b g D T L T' L' c h R r U U' q z y) (hb : Below w.heap.size w w') : LP w0 w' N1 n B Q b g D T L T' L' c h R r U U' q z y := ⟨l.pf.below hb, l.w2, l.q0, l.q1, l.rt, l.sn⟩
theorem CP.below (l : CP w0 w N1 n B Q b g D T L gu T' L' gu' c h R r U U' q z y) (hb : Below w.heap.size w w') : CP w0 w' N1 n B Q b g D T L gu T' L' gu' c h R r U U' q z y := by
  obtain ⟨m2, S2, x2, y2, p⟩ := l.pf
  exact ⟨⟨_, _, _, _, p.below hb⟩, l.w2, l.gs, l.sn⟩
theorem CP.flip (l : CP w0 w N1 n B Q b g D T L gu T' L' gu' c h R r U U' q z y) : CP w0 w N1 n B Q b g D T' L' gu' T L gu c h R r U' U q ⟨z.m, z.S, y⟩ z.x := by
  obtain ⟨m2, S2, x2, y2, p⟩ := l.pf
  exact ⟨⟨_, _, _, _, p.flip⟩, l.w2.flip, l.gs.flip, l.sn⟩
theorem CP.bel (l : CP w0 w N1 n B Q b g D T L gu T' L' gu' c h R r U U' q z y) : Below w0.heap.size w0 w := by
  obtain ⟨m2, S2, x2, y2, p⟩ := l.pf
  exact p.bel
theorem CP.cell (l : CP w0 w N1 n B Q b g D T L gu T' L' gu' c h R r U U' q z y) (o : Nat) : w.cell? ⟨Q, o, none⟩ = q[o]? ∧ Q < w.heap.size := by
  obtain ⟨m2, S2, x2, y2, p⟩ := l.pf
  exact ⟨cell_at p.wb o, lt_of_heap p.wb⟩
theorem CP.sx (l : CP w0 w N1 n B Q b g D T L gu T' L' gu' c h R r U U' q z y) : SX B w b g D T L gu z := by
  obtain ⟨m2, S2, x2, y2, p⟩ := l.pf
  exact p.s
theorem CP.close (l : CP w0 w N1 n B Q b g D T L gu T' L' gu' c h R r U U' q z y) (hr : 0 ≤ z.x.rt) : Calls Tryz.prog 28 #[.pointer (some ⟨T, 0, none⟩)] w fun e w' => e = .returned (.int .i64 0) ∧ CP w0 w' N1 n B Q b g D T L gu T' L' gu' c h R r U U' q (clZ gu z) y := by
  obtain ⟨m2, S2, x2, y2, p⟩ := l.pf
  obtain ⟨k1, k2, k3⟩ := l.w2.close l.gs hr
  refine (close_sx p.s l.w2.iv l.gs.a.1).mono fun e w' ⟨e1, hs, t⟩ => ⟨?_, ⟨_, _, _, _, p.prog hs t⟩, k1, l.gs, ⟨k2.n.trans l.sn.1, k2.fi.trans l.sn.2⟩⟩
  rw [e1]
  unfold clE
  rw [if_neg (show ¬ z.x.rt < 0 by omega)]
theorem CP.close2 (l : CP w0 w N1 n B Q b g D T L gu T' L' gu' c h R r U U' q z y) (hr : Cd z.x) : Calls Tryz.prog 28 #[.pointer (some ⟨T, 0, none⟩)] w fun e w' => e = .returned (.int .i64 21) ∧ CP w0 w' N1 n B Q b g D T L gu T' L' gu' c h R r U U' q z y := by
  obtain ⟨m2, S2, x2, y2, p⟩ := l.pf
  have h0 : z.x.rt < 0 := by rw [hr.rt]; decide
  refine (close_sx p.s l.w2.iv l.gs.a.1).mono fun e w' ⟨e1, hs, t⟩ => ⟨?_, ?_⟩
  · rw [e1]
    unfold clE
    rw [if_pos (show z.x.rt < 0 from h0)]
  · unfold clZ at hs
    rw [if_pos h0] at hs
    exact ⟨⟨_, _, _, _, p.prog hs t⟩, l.w2, l.gs, l.sn⟩
theorem CP.root (l : CP w0 w N1 n B Q b g D T L gu T' L' gu' c h R r U U' q z y) (hr : Cd z.x) : Calls Tryz.prog 12 #[.pointer (some ⟨T, 0, none⟩)] w fun e w' => e = .returned (.int .i64 (-1)) ∧ w' = w := by
  refine (root_sx l.sx (by rw [hr.rt]; decide)).mono fun e w' ⟨e1, e2⟩ => ⟨by rw [e1, hr.rt], e2⟩
theorem CP.count (l : CP w0 w N1 n B Q b g D T L gu T' L' gu' c h R r U U' q z y) (o : Int) : Calls Tryz.prog 32 #[.pointer (some ⟨D, 0, none⟩), .int .i64 o] w fun e w' => e = .returned (.tuple #[.int .i64 (own z.S o), .int .i64 (z.S.ct 17)]) ∧ CP w0 w' N1 n B Q b g D T L gu T' L' gu' c h R r U U' q z y := by
  obtain ⟨r', C', s', hf⟩ := l.sx.fx
  exact (count_fr hf o).mono fun e w' ⟨e1, hb⟩ => ⟨e1, l.below hb⟩
end
/-- an act's cells -/
def AcAt (w : World) (B o : Nat) (x : Ac) : Prop := w.cell? ⟨B, o, none⟩ = some (.int .i64 x.kd) ∧ w.cell? ⟨B, o + 1, none⟩ = some (.int .i64 x.wh) ∧ w.cell? ⟨B, o + 2, none⟩ = some (.int .i64 x.pa) ∧ w.cell? ⟨B, o + 3, none⟩ = some (.int .i64 x.fr) ∧ w.cell? ⟨B, o + 4, none⟩ = some (.bool x.a) ∧ w.cell? ⟨B, o + 5, none⟩ = some (.bool x.b) ∧ w.cell? ⟨B, o + 6, none⟩ = some (.bool x.c)
/-- acts that came in -/
def ActsIn (w : World) (a : Option Addr) (n : Nat) : Prop := n = 0 ∨ ∃ B off, a = some ⟨B, off, none⟩ ∧ B < w.heap.size ∧ ∀ i, i < n → ∃ x : Ac, AcOk x ∧ AcAt w B (off + i * 7) x
theorem seven_cells {w : World} {x : Addr} {cs : List Value} (h : w.cells? 0 x 7 = some cs) : cs.length = 7 ∧ ∀ i, i < 7 → w.cell? (x.add i) = cs[i]? := by
  unfold World.cells? at h
  rw [if_pos (Nat.zero_le _), show List.range 7 = [0, 1, 2, 3, 4, 5, 6] from rfl] at h
  simp only [List.mapM_cons, List.mapM_nil, Option.pure_def, Option.bind_eq_bind, Option.bind_eq_some_iff, Option.some.injEq] at h
  obtain ⟨c0, h0, l0, ⟨c1, h1, l1, ⟨c2, h2, l2, ⟨c3, h3, l3, ⟨c4, h4, l4, ⟨c5, h5, l5, ⟨c6, h6, l6, rfl, rfl⟩, rfl⟩, rfl⟩, rfl⟩, rfl⟩, rfl⟩, rfl⟩ := h
  refine ⟨rfl, fun i hi => ?_⟩
  match i, hi with
  | 0, _ => exact h0
  | 1, _ => exact h1
  | 2, _ => exact h2
  | 3, _ => exact h3
  | 4, _ => exact h4
  | 5, _ => exact h5
  | 6, _ => exact h6
theorem seven_of {cs : List Value} (h : cs.length = 7) : ∃ c0 c1 c2 c3 c4 c5 c6, cs = [c0, c1, c2, c3, c4, c5, c6] := by
  match cs, h with
  | [c0, c1, c2, c3, c4, c5, c6], _ => exact ⟨c0, c1, c2, c3, c4, c5, c6, rfl⟩
theorem acts_of {H : Type} {enc : TypeId × Value → H} {w : World} {fuel : Nat} {ad : Option Addr} {len cap : Nat} {x : DataW H × List MemPlace}
    (h : DataW.trod enc Tryz.prog w 0 (fun _ => true) true fuel 22 [.slice ad len cap] = some x) : ActsIn w ad len ∧ len ≤ cap ∧ cap ≤ maxLen := by
  rcases DataW.trod_slice Tryz.underlying22 h with ⟨hcs, _⟩ | ⟨a, len', cap', elems, rest, n, _, hcs, hx, _, hle, hm, hel, hall, _, _⟩
  · simp at hcs
    obtain ⟨rfl, rfl, rfl⟩ := hcs
    exact ⟨.inl rfl, by omega, by omega⟩
  · simp at hcs
    obtain ⟨rfl, rfl, rfl⟩ := hcs
    refine ⟨?_, hle, hm⟩
    rcases Nat.eq_zero_or_pos len with h0 | hpos
    · exact .inl h0
    have hw : ∀ i, i < len → ∃ x : Ac, AcOk x ∧ w.cell? ((a.add (i * 7)).add 0) = some (.int .i64 x.kd) ∧ w.cell? ((a.add (i * 7)).add 1) = some (.int .i64 x.wh) ∧ w.cell? ((a.add (i * 7)).add 2) = some (.int .i64 x.pa) ∧ w.cell? ((a.add (i * 7)).add 3) = some (.int .i64 x.fr) ∧ w.cell? ((a.add (i * 7)).add 4) = some (.bool x.a) ∧ w.cell? ((a.add (i * 7)).add 5) = some (.bool x.b) ∧ w.cell? ((a.add (i * 7)).add 6) = some (.bool x.c) := by
      intro i hi
      have hb := hall i hi
      rw [List.getElem?_eq_getElem (by omega), cells25] at hb
      obtain ⟨cs, hc, ht⟩ := Option.bind_eq_some_iff.1 hb
      obtain ⟨hl, hcc⟩ := seven_cells hc
      obtain ⟨c0, c1, c2, c3, c4, c5, c6, rfl⟩ := seven_of hl
      obtain ⟨x, e, wv⟩ := act_fields ht
      simp only [Array.mk.injEq, List.cons.injEq, and_true] at e
      obtain ⟨rfl, rfl, rfl, rfl, rfl, rfl, rfl⟩ := e
      exact ⟨x, wv, hcc 0 (by decide), hcc 1 (by decide), hcc 2 (by decide), hcc 3 (by decide), hcc 4 (by decide), hcc 5 (by decide), hcc 6 (by decide)⟩
    obtain ⟨B, off, rfl⟩ : ∃ B off, a = ⟨B, off, none⟩ := by
      obtain ⟨_, _, e0, _⟩ := hw 0 hpos
      have hx0 : (a.add (0 * 7)).add 0 = a := by cases a; simp [Addr.add]
      rw [hx0] at e0
      exact cell_plain e0
    have hpl : ∀ i j, ((⟨B, off, none⟩ : Addr).add (i * 7)).add j = ⟨B, off + i * 7 + j, none⟩ := by
      intro i j
      have p1 : ∀ (B o k : Nat), (⟨B, o, none⟩ : Addr).add k = ⟨B, o + k, none⟩ := by intro B o k; unfold Addr.add; split <;> simp_all
      rw [p1, p1]
    have hB : B < w.heap.size := by
      obtain ⟨_, _, e0, _⟩ := hw 0 hpos
      rw [hpl] at e0
      exact World.block_lt_of_cell? w _ e0
    refine .inr ⟨B, off, rfl, hB, fun i hi => ?_⟩
    obtain ⟨x, hv, e0, e1, e2, e3, e4, e5, e6⟩ := hw i hi
    simp only [hpl, Nat.add_zero] at e0 e1 e2 e3 e4 e5 e6
    exact ⟨x, hv, e0, e1, e2, e3, e4, e5, e6⟩
theorem ActsIn.at {w : World} {a : Option Addr} {n : Nat} (h : ActsIn w a n) {i : Nat} (hi : i < n) : ∃ B off, a = some ⟨B, off, none⟩ ∧ B < w.heap.size ∧ ∃ x : Ac, AcOk x ∧ AcAt w B (off + i * 7) x := by
  rcases h with h | ⟨B, off, rfl, hB, hc⟩
  · omega
  · exact ⟨B, off, rfl, hB, hc i hi⟩
theorem AcAt.below {w w' : World} {N B o : Nat} {x : Ac} (h : AcAt w B o x) (hb : Below N w w') (hB : B < N) : AcAt w' B o x := by
  obtain ⟨h0, h1, h2, h3, h4, h5, h6⟩ := h
  exact ⟨(hb.cell (p := ⟨B, _, none⟩) hB).trans h0, (hb.cell (p := ⟨B, _, none⟩) hB).trans h1, (hb.cell (p := ⟨B, _, none⟩) hB).trans h2, (hb.cell (p := ⟨B, _, none⟩) hB).trans h3, (hb.cell (p := ⟨B, _, none⟩) hB).trans h4, (hb.cell (p := ⟨B, _, none⟩) hB).trans h5, (hb.cell (p := ⟨B, _, none⟩) hB).trans h6⟩
end Go.Proofs.YteghkhdpdeiocaaGreatDoor
