/-
  What the tables of sizes and of bits hold when a call begins, out of the row's condition; that the program's own start meets it; a call that came in by value.
-/
import Derived.Test.YteghkhdpdeiocaaGreatDoorTs
import Derived.ProofKit
import Derived.LaidMore
import Derived.OpenShut
import Derived.Stop.Joined
import Derived.ChangeOld
import Derived.SizedLaws
namespace Go.Proofs.YteghkhdpdeiocaaGreatDoor
open Go.ChangeShapes Go.WideShapes Go.ChangeAt Go.RowKit
set_option linter.unusedVariables false
set_option maxRecDepth 100000
theorem ownK : ownKnob Tryz.prog.godebug = none := by kernel_rfl
theorem laidOut : laidOutB Tryz.prog = true := by kernel_rfl
theorem tBits : (Tryz.prog.globals[0]?).map (·.type) = some 177 := by kernel_rfl
theorem tSizes : (Tryz.prog.globals[1]?).map (·.type) = some 188 := by kernel_rfl
theorem cells176 : Tryz.prog.cellsOf 181 = 2 := by kernel_rfl
theorem cells187 : Tryz.prog.cellsOf 188 = 6 := by kernel_rfl
theorem cells173 : Tryz.prog.cellsOf 177 = 7 := by kernel_rfl
theorem cells3 : Tryz.prog.cellsOf 3 = 1 := by kernel_rfl
theorem cells4 : Tryz.prog.cellsOf 4 = 1 := by kernel_rfl
theorem cells168 : Tryz.prog.cellsOf 166 = 1 := by kernel_rfl
theorem cells25 : Tryz.prog.cellsOf 31 = 7 := by kernel_rfl
theorem cells23 : Tryz.prog.cellsOf 29 = 3 := by kernel_rfl
theorem size_cells {H : Type} {enc : TypeId × Value → H} {W : World} {sp : Nat → Bool} {held : Bool} {m : Nat} {c0 c1 : Value} {x : DataW H × List MemPlace} {a b : Int}
    (h : DataW.trod enc Tryz.prog W 0 sp held m 181 [c0, c1] = some x) (hx : x.1 = .agg [.lit (.int .i64 a), .lit (.int .i64 b)]) : c0 = .int .i64 a ∧ c1 = .int .i64 b := by
  obtain ⟨y0, y1, n, rfl, _, h0, h1⟩ := trod_struct2 Tryz.underlying181 h
  obtain ⟨k0, e0, e0', _⟩ := DataW.trod_int Tryz.underlying3 h0
  obtain ⟨k1, e1, e1', _⟩ := DataW.trod_int Tryz.underlying3 h1
  simp only [cells3] at e0 e1
  simp at e0 e1
  subst e0 e1 e0' e1'
  simp at hx
  obtain ⟨rfl, rfl⟩ := hx
  exact ⟨rfl, rfl⟩
theorem int_cell {H : Type} {enc : TypeId × Value → H} {W : World} {sp : Nat → Bool} {held : Bool} {m : Nat} {c : Value} {x : DataW H × List MemPlace} {a : Int}
    (h : DataW.trod enc Tryz.prog W 0 sp held m 166 [c] = some x) (hx : x.1 = .lit (.int .u64 a)) : c = .int .u64 a := by
  obtain ⟨k, e, e', _⟩ := DataW.trod_int Tryz.underlying166 h
  simp at e
  subst e e'
  simp at hx
  subst hx
  rfl

/-- what the condition gives the walks -/
theorem of_laid {W : World} (h0 : laidMetH Tryz.prog Rows.stageWalksRow.laid W) : SZ W ∧ E.BT W := by
  have h : laidMetH Tryz.prog [(_, Rows.laid_palisade_word_sizes), (_, Rows.laid_palisade_entry_bits)] W := h0
  rw [MakeChecks.laidMetH_plain _ _ _ (by kernel_rfl)] at h
  obtain ⟨ps, ⟨g0, t0, cs0, f0, p0, q0, hg0, ht0, hv0, hd0, ⟨g1, t1, cs1, f1, p1, q1, hg1, ht1, hv1, hd1, _, _⟩, _⟩, _, _⟩ := h
  obtain rfl := Option.some.inj ((show Tryz.prog.globalNamed _ = some 1 from by kernel_rfl).symm.trans hg0)
  obtain rfl := Option.some.inj (tSizes.symm.trans ht0)
  obtain rfl := Option.some.inj ((show Tryz.prog.globalNamed _ = some 0 from by kernel_rfl).symm.trans hg1)
  obtain rfl := Option.some.inj (tBits.symm.trans ht1)
  constructor
  · obtain ⟨xs, m1, rfl, hx1, hlen, hn3, hel⟩ := DataW.trod_array Tryz.underlying188 hd0
    simp only [Prod.mk.injEq] at hx1
    rw [cells187] at hlen
    obtain ⟨l⟩ := cs0
    match xs, hn3, hx1, hel with
    | [x0, x1, x2], _, hx1, hel =>
      match l, hlen with
      | [v0, v1, v2, v3, v4, v5], _ =>
        have h0 := hel 0 (by decide)
        have h1 := hel 1 (by decide)
        have h2 := hel 2 (by decide)
        simp only [cells176] at h0 h1 h2
        simp at h0 h1 h2
        have hx := hx1.1
        simp [Rows.laid_palisade_word_sizes] at hx
        obtain ⟨a0, a1⟩ := size_cells h0 hx.1.symm
        obtain ⟨a2, a3⟩ := size_cells h1 hx.2.1.symm
        obtain ⟨a4, a5⟩ := size_cells h2 hx.2.2.symm
        subst a0 a1 a2 a3 a4 a5
        have k0 : W.cell? ⟨1, 0, none⟩ = some (.int .i64 1) := by simpa using World.var?_cell hg0 hv0 0
        refine ⟨k0, by simpa using World.var?_cell hg0 hv0 1, by simpa using World.var?_cell hg0 hv0 2, by simpa using World.var?_cell hg0 hv0 3, by simpa using World.var?_cell hg0 hv0 4, by simpa using World.var?_cell hg0 hv0 5, ?_⟩
        exact World.block_lt_of_cell? W ⟨1, 0, none⟩ k0
  · obtain ⟨xs, m1, rfl, hx1, hlen, hn3, hel⟩ := DataW.trod_array Tryz.underlying177 hd1
    simp only [Prod.mk.injEq] at hx1
    rw [cells173] at hlen
    obtain ⟨l⟩ := cs1
    match xs, hn3, hx1, hel with
    | [x0, x1, x2, x3, x4, x5, x6], _, hx1, hel =>
      match l, hlen with
      | [v0, v1, v2, v3, v4, v5, v6], _ =>
        have h0 := hel 0 (by decide)
        have h1 := hel 1 (by decide)
        have h2 := hel 2 (by decide)
        have h3 := hel 3 (by decide)
        have h4 := hel 4 (by decide)
        have h5 := hel 5 (by decide)
        have h6 := hel 6 (by decide)
        simp only [cells168] at h0 h1 h2 h3 h4 h5 h6
        simp at h0 h1 h2 h3 h4 h5 h6
        have hx := hx1.1
        simp [Rows.laid_palisade_entry_bits] at hx
        obtain ⟨y0, y1, y2, y3, y4, y5, y6⟩ := hx
        have a0 := int_cell h0 y0.symm
        have a1 := int_cell h1 y1.symm
        have a2 := int_cell h2 y2.symm
        have a3 := int_cell h3 y3.symm
        have a4 := int_cell h4 y4.symm
        have a5 := int_cell h5 y5.symm
        have a6 := int_cell h6 y6.symm
        subst a0 a1 a2 a3 a4 a5 a6
        have k0 : W.cell? ⟨0, 0, none⟩ = some (.int .u64 0) := by simpa using World.var?_cell hg1 hv1 0
        refine ⟨k0, (show W.cell? ⟨0, 1, none⟩ = some (.int .u64 1) by simpa using World.var?_cell hg1 hv1 1), (show W.cell? ⟨0, 2, none⟩ = some (.int .u64 2) by simpa using World.var?_cell hg1 hv1 2), (show W.cell? ⟨0, 3, none⟩ = some (.int .u64 3) by simpa using World.var?_cell hg1 hv1 3), (show W.cell? ⟨0, 4, none⟩ = some (.int .u64 4) by simpa using World.var?_cell hg1 hv1 4), (show W.cell? ⟨0, 5, none⟩ = some (.int .u64 5) by simpa using World.var?_cell hg1 hv1 5), (show W.cell? ⟨0, 6, none⟩ = some (.int .u64 6) by simpa using World.var?_cell hg1 hv1 6), ?_⟩
        exact World.block_lt_of_cell? W ⟨0, 0, none⟩ k0
theorem field_int {H : Type} {enc : TypeId × Value → H} {w : World} {base n : Nat} {sp : Nat → Bool} {held : Bool} {c : Value} {x : Option (DataW H × List MemPlace)} (h : DataW.trod enc Tryz.prog w base sp held n 3 [c] = x) (hx : ∃ y, x = some y) :
    ∃ a : Int, c = .int .i64 a ∧ (Lit.int .i64 a).wf = true := by
  obtain ⟨y, rfl⟩ := hx
  obtain ⟨a, e, _, hw⟩ := DataW.trod_int Tryz.underlying3 h
  exact ⟨a, by simpa using e, hw⟩
theorem field_bool {H : Type} {enc : TypeId × Value → H} {w : World} {base n : Nat} {sp : Nat → Bool} {held : Bool} {c : Value} {x : Option (DataW H × List MemPlace)} (h : DataW.trod enc Tryz.prog w base sp held n 4 [c] = x) (hx : ∃ y, x = some y) :
    ∃ a : Bool, c = .bool a := by
  obtain ⟨y, rfl⟩ := hx
  obtain ⟨a, e, _⟩ := DataW.trod_bool Tryz.underlying4 h
  exact ⟨a, by simpa using e⟩


theorem seven {α : Type} {cs : Array α} (h : cs.size = 7) : ∃ a b c d e f g, cs = #[a, b, c, d, e, f, g] := by
  obtain ⟨l⟩ := cs
  match l, h with
  | [a, b, c, d, e, f, g], _ => exact ⟨a, b, c, d, e, f, g, rfl⟩
theorem field_rights {H : Type} {enc : TypeId × Value → H} {w : World} {base n : Nat} {sp : Nat → Bool} {held : Bool} {c0 c1 c2 : Value} {x : Option (DataW H × List MemPlace)} (h : DataW.trod enc Tryz.prog w base sp held n 29 [c0, c1, c2] = x) (hx : ∃ y, x = some y) :
    ∃ a b c : Bool, c0 = .bool a ∧ c1 = .bool b ∧ c2 = .bool c := by
  obtain ⟨y, rfl⟩ := hx
  obtain ⟨xs, n, _, _, _, hlen, hfs⟩ := DataW.trod_struct Tryz.underlying29 h
  have hl : xs.length = 3 := by simpa using hlen
  have e : ∀ i, i < 3 → ∃ y, xs[i]? = some y := fun i hi => ⟨_, List.getElem?_eq_getElem (by omega)⟩
  obtain ⟨a0, rfl⟩ := field_bool (by simpa [Value.cells, cells3, cells4] using hfs 0 _ rfl) (e 0 (by decide))
  obtain ⟨a1, rfl⟩ := field_bool (by simpa [Value.cells, cells3, cells4] using hfs 1 _ rfl) (e 1 (by decide))
  obtain ⟨a2, rfl⟩ := field_bool (by simpa [Value.cells, cells3, cells4] using hfs 2 _ rfl) (e 2 (by decide))
  exact ⟨a0, a1, a2, rfl, rfl, rfl⟩
/-- a call that came in by value: four numbers and rights -/
structure Ac where
  kd : Int
  wh : Int
  pa : Int
  fr : Int
  a : Bool
  b : Bool
  c : Bool
structure AcOk (x : Ac) : Prop where
  k : (Lit.int .i64 x.kd).wf = true
  w : (Lit.int .i64 x.wh).wf = true
  p : (Lit.int .i64 x.pa).wf = true
  f : (Lit.int .i64 x.fr).wf = true
theorem act_fields {H : Type} {enc : TypeId × Value → H} {w : World} {base n : Nat} {sp : Nat → Bool} {held : Bool} {c0 c1 c2 c3 c4 c5 c6 : Value} {y : DataW H × List MemPlace} (h : DataW.trod enc Tryz.prog w base sp held n 31 [c0, c1, c2, c3, c4, c5, c6] = some y) :
    ∃ x : Ac, #[c0, c1, c2, c3, c4, c5, c6] = #[.int .i64 x.kd, .int .i64 x.wh, .int .i64 x.pa, .int .i64 x.fr, .bool x.a, .bool x.b, .bool x.c] ∧ AcOk x := by
  obtain ⟨xs, n, _, _, _, hlen, hfs⟩ := DataW.trod_struct Tryz.underlying31 h
  have hl : xs.length = 5 := by simpa using hlen
  have e : ∀ i, i < 5 → ∃ y, xs[i]? = some y := fun i hi => ⟨_, List.getElem?_eq_getElem (by omega)⟩
  obtain ⟨a0, rfl, w0⟩ := field_int (by simpa [Value.cells, cells3, cells4, cells23] using hfs 0 _ rfl) (e 0 (by decide))
  obtain ⟨a1, rfl, w1⟩ := field_int (by simpa [Value.cells, cells3, cells4, cells23] using hfs 1 _ rfl) (e 1 (by decide))
  obtain ⟨a2, rfl, w2⟩ := field_int (by simpa [Value.cells, cells3, cells4, cells23] using hfs 2 _ rfl) (e 2 (by decide))
  obtain ⟨a3, rfl, w3⟩ := field_int (by simpa [Value.cells, cells3, cells4, cells23] using hfs 3 _ rfl) (e 3 (by decide))
  obtain ⟨b0, b1, b2, rfl, rfl, rfl⟩ := field_rights (by simpa [Value.cells, cells3, cells4, cells23] using hfs 4 _ rfl) (e 4 (by decide))
  exact ⟨⟨a0, a1, a2, a3, b0, b1, b2⟩, rfl, w0, w1, w2, w3⟩
theorem open_act {H : Type} {enc : TypeId × Value → H} {w : World} {base b0 : Nat} {sp : Nat → Bool} {held : Bool} {r : Reach} {v : Value} {d : DataW H} {p : List MemPlace}
    (hv : Value.okWide Tryz.prog w r b0 31 v) (h : DataW.Trod enc Tryz.prog w base sp held 31 v d p) :
    ∃ x : Ac, v = .agg #[.int .i64 x.kd, .int .i64 x.wh, .int .i64 x.pa, .int .i64 x.fr, .bool x.a, .bool x.b, .bool x.c] ∧ AcOk x := by
  obtain ⟨cs, rfl, hsz⟩ := okWide_struct Tryz.underlying31 hv
  obtain ⟨c0, c1, c2, c3, c4, c5, c6, rfl⟩ := seven (hsz.trans cells25)
  obtain ⟨fuel, hf⟩ := h
  obtain ⟨x, e, hx⟩ := act_fields (by simpa [Value.cells] using hf)
  exact ⟨x, by rw [e], hx⟩
end Go.Proofs.YteghkhdpdeiocaaGreatDoor
