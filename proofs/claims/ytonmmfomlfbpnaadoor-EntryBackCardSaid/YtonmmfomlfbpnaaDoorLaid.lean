/-
  What the table of bits holds when a call begins, out of the row's condition; that the program's own start meets it; and an entry that came in by value.
-/
import Derived.Test.YtonmmfomlfbpnaaDoorEnt3
import Derived.ProofKit
import Derived.LaidMore
import Derived.OpenShut
import Derived.Stop.Joined
import Derived.ChangeOld
namespace Go.Proofs.YtonmmfomlfbpnaaDoor
open Go.ChangeShapes Go.WideShapes Go.ChangeAt Go.RowKit
set_option linter.unusedVariables false
theorem own : ownKnob Tryd.prog.godebug = none := by kernel_rfl
theorem laidOut : laidOutB Tryd.prog = true := by kernel_rfl
theorem tBits : (Tryd.prog.globals[0]?).map (·.type) = some 49 := by kernel_rfl
theorem cells49 : Tryd.prog.cellsOf 49 = 7 := by kernel_rfl
theorem cells46 : Tryd.prog.cellsOf 46 = 1 := by kernel_rfl
theorem cells23 : Tryd.prog.cellsOf 23 = 8 := by kernel_rfl
theorem cells3 : Tryd.prog.cellsOf 3 = 1 := by kernel_rfl
theorem cells4 : Tryd.prog.cellsOf 4 = 1 := by kernel_rfl

/-- The door's own heap meets the condition: three closed facts. -/
theorem door_met (os : Os) (args : Array Value) : laidMetH Tryd.prog Rows.entryPacksRow.laid ((World.doorLaid Tryd.prog 400 os).forCall (fun _ _ => 0) ⟨#[], args, []⟩).memory :=
  laidMetH_of_parts3 (fuel := 8) (laidMet_of_run' 8 (by kernel_rfl) (by kernel_rfl)) (by kernel_rfl) (by kernel_rfl)

theorem int_cell {H : Type} {enc : TypeId × Value → H} {W : World} {sp : Nat → Bool} {held : Bool} {m : Nat} {c : Value} {x : DataW H × List MemPlace} {a : Int}
    (h : DataW.trod enc Tryd.prog W 0 sp held m 46 [c] = some x) (hx : x.1 = .lit (.int .u64 a)) : c = .int .u64 a := by
  obtain ⟨k, e, e', _⟩ := DataW.trod_int Tryd.underlying46 h
  simp at e
  subst e e'
  simp at hx
  subst hx
  rfl

/-- what the condition gives the walks -/
theorem of_laid {W : World} (h0 : laidMetH Tryd.prog Rows.entryPacksRow.laid W) : BT W := by
  have h : laidMetH Tryd.prog [(_, Rows.laid_palisade_entry_bits)] W := h0
  rw [MakeChecks.laidMetH_plain _ _ _ (by kernel_rfl)] at h
  obtain ⟨ps, ⟨g0, t0, cs0, f0, p0, q0, hg0, ht0, hv0, hd0, _, _⟩, _, _⟩ := h
  obtain rfl := Option.some.inj ((show Tryd.prog.globalNamed _ = some 0 from by kernel_rfl).symm.trans hg0)
  obtain rfl := Option.some.inj (tBits.symm.trans ht0)
  obtain ⟨xs, m1, rfl, hx1, hlen, hn3, hel⟩ := DataW.trod_array Tryd.underlying49 hd0
  simp only [Prod.mk.injEq] at hx1
  rw [cells49] at hlen
  obtain ⟨l⟩ := cs0
  match xs, hn3, hx1, hel with
  | [x0, x1, x2, x3, x4, x5, x6], _, hx1, hel =>
    match l, hlen with
    | [v0, v1, v2, v3, v4, v5, v6], _ =>
      have h0 := hel 0 (by decide)
      have h1 := hel 1 (by decide)
      have h2 := hel 2 (by decide)
      have h3 := hel 3 (by decide)
      have h4 := hel 4 (by decide)
      have h5 := hel 5 (by decide)
      have h6 := hel 6 (by decide)
      simp only [cells46] at h0 h1 h2 h3 h4 h5 h6
      simp at h0 h1 h2 h3 h4 h5 h6
      have hx := hx1.1
      simp [Rows.laid_palisade_entry_bits] at hx
      obtain ⟨y0, y1, y2, y3, y4, y5, y6⟩ := hx
      have a0 := int_cell h0 y0.symm
      have a1 := int_cell h1 y1.symm
      have a2 := int_cell h2 y2.symm
      have a3 := int_cell h3 y3.symm
      have a4 := int_cell h4 y4.symm
      have a5 := int_cell h5 y5.symm
      have a6 := int_cell h6 y6.symm
      subst a0 a1 a2 a3 a4 a5 a6
      have k0 : W.cell? ⟨0, 0, none⟩ = some (.int .u64 0) := by simpa using World.var?_cell hg0 hv0 0
      refine ⟨k0, by simpa using World.var?_cell hg0 hv0 1, by simpa using World.var?_cell hg0 hv0 2, by simpa using World.var?_cell hg0 hv0 3, by simpa using World.var?_cell hg0 hv0 4, by simpa using World.var?_cell hg0 hv0 5, by simpa using World.var?_cell hg0 hv0 6, ?_⟩
      exact World.block_lt_of_cell? W ⟨0, 0, none⟩ k0

theorem eight {α : Type} {cs : Array α} (h : cs.size = 8) : ∃ a b c d e f g i, cs = #[a, b, c, d, e, f, g, i] := by
  obtain ⟨l⟩ := cs
  match l, h with
  | [a, b, c, d, e, f, g, i], _ => exact ⟨a, b, c, d, e, f, g, i, rfl⟩

theorem field_int {H : Type} {enc : TypeId × Value → H} {w : World} {base n : Nat} {sp : Nat → Bool} {held : Bool} {c : Value} {x : Option (DataW H × List MemPlace)} (h : DataW.trod enc Tryd.prog w base sp held n 3 [c] = x) (hx : ∃ y, x = some y) :
    ∃ a : Int, c = .int .i64 a ∧ (Lit.int .i64 a).wf = true := by
  obtain ⟨y, rfl⟩ := hx
  obtain ⟨a, e, _, hw⟩ := DataW.trod_int Tryd.underlying3 h
  exact ⟨a, by simpa using e, hw⟩
theorem field_bool {H : Type} {enc : TypeId × Value → H} {w : World} {base n : Nat} {sp : Nat → Bool} {held : Bool} {c : Value} {x : Option (DataW H × List MemPlace)} (h : DataW.trod enc Tryd.prog w base sp held n 4 [c] = x) (hx : ∃ y, x = some y) :
    ∃ a : Bool, c = .bool a := by
  obtain ⟨y, rfl⟩ := hx
  obtain ⟨a, e, _⟩ := DataW.trod_bool Tryd.underlying4 h
  exact ⟨a, by simpa using e⟩

/-- an entry that came in by value: seven flags and a number -/
theorem open_ent {H : Type} {enc : TypeId × Value → H} {w : World} {base b0 : Nat} {sp : Nat → Bool} {held : Bool} {r : Reach} {v : Value} {d : DataW H} {p : List MemPlace}
    (hv : Value.okWide Tryd.prog w r b0 23 v) (h : DataW.Trod enc Tryd.prog w base sp held 23 v d p) :
    ∃ (b0 b1 b2 b3 b4 b5 b6 : Bool) (f : Int), v = ent b0 b1 b2 b3 b4 b5 b6 f ∧ (Lit.int .i64 f).wf = true := by
  obtain ⟨cs, rfl, hsz⟩ := okWide_struct Tryd.underlying23 hv
  obtain ⟨c0, c1, c2, c3, c4, c5, c6, c7, rfl⟩ := eight (hsz.trans cells23)
  obtain ⟨fuel, hf⟩ := h
  obtain ⟨xs, n, _, _, _, hlen, hfs⟩ := DataW.trod_struct Tryd.underlying23 hf
  have hl : xs.length = 8 := by simpa using hlen
  have e : ∀ i, i < 8 → ∃ y, xs[i]? = some y := fun i hi => ⟨_, List.getElem?_eq_getElem (by omega)⟩
  obtain ⟨a0, rfl⟩ := field_bool (by simpa [Value.cells, cells3, cells4] using hfs 0 _ rfl) (e 0 (by decide))
  obtain ⟨a1, rfl⟩ := field_bool (by simpa [Value.cells, cells3, cells4] using hfs 1 _ rfl) (e 1 (by decide))
  obtain ⟨a2, rfl⟩ := field_bool (by simpa [Value.cells, cells3, cells4] using hfs 2 _ rfl) (e 2 (by decide))
  obtain ⟨a3, rfl⟩ := field_bool (by simpa [Value.cells, cells3, cells4] using hfs 3 _ rfl) (e 3 (by decide))
  obtain ⟨a4, rfl⟩ := field_bool (by simpa [Value.cells, cells3, cells4] using hfs 4 _ rfl) (e 4 (by decide))
  obtain ⟨a5, rfl⟩ := field_bool (by simpa [Value.cells, cells3, cells4] using hfs 5 _ rfl) (e 5 (by decide))
  obtain ⟨a6, rfl⟩ := field_bool (by simpa [Value.cells, cells3, cells4] using hfs 6 _ rfl) (e 6 (by decide))
  obtain ⟨a7, rfl, w7⟩ := field_int (by simpa [Value.cells, cells3, cells4] using hfs 7 _ rfl) (e 7 (by decide))
  exact ⟨a0, a1, a2, a3, a4, a5, a6, a7, rfl, w7⟩

end Go.Proofs.YtonmmfomlfbpnaaDoor
