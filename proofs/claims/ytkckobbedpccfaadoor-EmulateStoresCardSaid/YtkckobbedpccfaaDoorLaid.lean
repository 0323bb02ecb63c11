/-
  What the table of sizes holds when a call begins, out of the row's condition; and that the program's own start meets it.
-/
import Derived.Test.YtkckobbedpccfaaDoorWalks6
import Derived.ProofKit
import Derived.LaidMore
import Derived.OpenShut
import Derived.Stop.Joined
namespace Go.Proofs.YtkckobbedpccfaaDoor
open Go.ChangeShapes Go.WideShapes Go.ChangeAt Go.RowKit
set_option linter.unusedVariables false
set_option maxRecDepth 100000
theorem own : ownKnob Tryd.prog.godebug = none := by kernel_rfl
theorem laidOut : laidOutB Tryd.prog = true := by kernel_rfl
theorem tSizes : (Tryd.prog.globals[0]?).map (·.type) = some 81 := by kernel_rfl
theorem cells66 : Tryd.prog.cellsOf 66 = 2 := by kernel_rfl
theorem cells81 : Tryd.prog.cellsOf 81 = 6 := by kernel_rfl
theorem cells3 : Tryd.prog.cellsOf 3 = 1 := by kernel_rfl

/-- The door's own heap meets the condition: three closed facts. -/
theorem door_met (os : Os) (args : Array Value) : laidMetH Tryd.prog Rows.emulateStoresRow.laid ((World.doorLaid Tryd.prog 400 os).forCall (fun _ _ => 0) ⟨#[], args, []⟩).memory :=
  laidMetH_of_parts3 (fuel := 8) (laidMet_of_run' 8 (by kernel_rfl) (by kernel_rfl)) (by kernel_rfl) (by kernel_rfl)

theorem struct_cells {H : Type} {enc : TypeId × Value → H} {W : World} {sp : Nat → Bool} {held : Bool} {m : Nat} {c0 c1 : Value} {x : DataW H × List MemPlace} {a b : Int}
    (h : DataW.trod enc Tryd.prog W 0 sp held m 66 [c0, c1] = some x) (hx : x.1 = .agg [.lit (.int .i64 a), .lit (.int .i64 b)]) : c0 = .int .i64 a ∧ c1 = .int .i64 b := by
  obtain ⟨y0, y1, n, rfl, _, h0, h1⟩ := trod_struct2 Tryd.underlying66 h
  obtain ⟨k0, e0, e0', _⟩ := DataW.trod_int Tryd.underlying3 h0
  obtain ⟨k1, e1, e1', _⟩ := DataW.trod_int Tryd.underlying3 h1
  simp only [cells3] at e0 e1
  simp at e0 e1
  subst e0 e1 e0' e1'
  simp at hx
  obtain ⟨rfl, rfl⟩ := hx
  exact ⟨rfl, rfl⟩

/-- what the condition gives the walks -/
theorem of_laid {W : World} (h0 : laidMetH Tryd.prog Rows.emulateStoresRow.laid W) : SZ W := by
  have h : laidMetH Tryd.prog [(_, Rows.laid_palisade_word_sizes)] W := h0
  rw [MakeChecks.laidMetH_plain _ _ _ (by kernel_rfl)] at h
  obtain ⟨ps, ⟨g0, t0, cs0, f0, p0, q0, hg0, ht0, hv0, hd0, _, _⟩, _, _⟩ := h
  obtain rfl := Option.some.inj ((show Tryd.prog.globalNamed _ = some 0 from by kernel_rfl).symm.trans hg0)
  obtain rfl := Option.some.inj (tSizes.symm.trans ht0)
  obtain ⟨xs, m1, rfl, hx1, hlen, hn3, hel⟩ := DataW.trod_array Tryd.underlying81 hd0
  simp only [Prod.mk.injEq] at hx1
  rw [cells81] at hlen
  obtain ⟨l⟩ := cs0
  match xs, hn3, hx1, hel with
  | [x0, x1, x2], _, hx1, hel =>
    match l, hlen with
    | [v0, v1, v2, v3, v4, v5], _ =>
      have h0 := hel 0 (by decide)
      have h1 := hel 1 (by decide)
      have h2 := hel 2 (by decide)
      simp only [cells66] at h0 h1 h2
      simp at h0 h1 h2
      have hx := hx1.1
      simp [Rows.laid_palisade_word_sizes] at hx
      obtain ⟨a0, a1⟩ := struct_cells h0 hx.1.symm
      obtain ⟨a2, a3⟩ := struct_cells h1 hx.2.1.symm
      obtain ⟨a4, a5⟩ := struct_cells h2 hx.2.2.symm
      subst a0 a1 a2 a3 a4 a5
      have k0 : W.cell? ⟨0, 0, none⟩ = some (.int .i64 1) := by simpa using World.var?_cell hg0 hv0 0
      refine ⟨k0, by simpa using World.var?_cell hg0 hv0 1, by simpa using World.var?_cell hg0 hv0 2, by simpa using World.var?_cell hg0 hv0 3, by simpa using World.var?_cell hg0 hv0 4, by simpa using World.var?_cell hg0 hv0 5, ?_⟩
      exact World.block_lt_of_cell? W ⟨0, 0, none⟩ k0
end Go.Proofs.YtkckobbedpccfaaDoor
