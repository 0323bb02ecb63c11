/-
  What the tables of sizes and of steps hold when a call begins, out of the row's condition; that the program's own start meets it.
-/
import Derived.Test.YtioanbdmkiphfaaDoorLn
import Derived.ProofKit
import Derived.LaidMore
import Derived.OpenShut
import Derived.Stop.Joined
import Derived.ChangeOld
import Derived.SizedLaws
namespace Go.Proofs.YtioanbdmkiphfaaDoor
open Go.ChangeShapes Go.WideShapes Go.ChangeAt Go.RowKit
set_option linter.unusedVariables false
set_option maxRecDepth 100000
theorem own : ownKnob Tryd.prog.godebug = none := by kernel_rfl
theorem laidOut : laidOutB Tryd.prog = true := by kernel_rfl
theorem tSteps : (Tryd.prog.globals[0]?).map (·.type) = some 88 := by kernel_rfl
theorem tSizes : (Tryd.prog.globals[1]?).map (·.type) = some 99 := by kernel_rfl
theorem cells87 : Tryd.prog.cellsOf 87 = 2 := by kernel_rfl
theorem cells88 : Tryd.prog.cellsOf 88 = 10 := by kernel_rfl
theorem cells90 : Tryd.prog.cellsOf 90 = 2 := by kernel_rfl
theorem cells99 : Tryd.prog.cellsOf 99 = 6 := by kernel_rfl
theorem cells3 : Tryd.prog.cellsOf 3 = 1 := by kernel_rfl
theorem cells22 : Tryd.prog.cellsOf 22 = 1 := by kernel_rfl
/-- The door's own heap meets the condition: three closed facts. -/
theorem door_met (os : Os) (args : Array Value) : laidMetH Tryd.prog Rows.ticketPlaysRow.laid ((World.doorLaid Tryd.prog 400 os).forCall (fun _ _ => 0) ⟨#[], args, []⟩).memory :=
  laidMetH_of_parts3 (fuel := 8) (laidMet_of_run' 8 (by kernel_rfl) (by kernel_rfl)) (by kernel_rfl) (by kernel_rfl)
theorem size_cells {H : Type} {enc : TypeId × Value → H} {W : World} {sp : Nat → Bool} {held : Bool} {m : Nat} {c0 c1 : Value} {x : DataW H × List MemPlace} {a b : Int}
    (h : DataW.trod enc Tryd.prog W 0 sp held m 90 [c0, c1] = some x) (hx : x.1 = .agg [.lit (.int .i64 a), .lit (.int .i64 b)]) : c0 = .int .i64 a ∧ c1 = .int .i64 b := by
  obtain ⟨y0, y1, n, rfl, _, h0, h1⟩ := trod_struct2 Tryd.underlying90 h
  obtain ⟨k0, e0, e0', _⟩ := DataW.trod_int Tryd.underlying3 h0
  obtain ⟨k1, e1, e1', _⟩ := DataW.trod_int Tryd.underlying3 h1
  simp only [cells3] at e0 e1
  simp at e0 e1
  subst e0 e1 e0' e1'
  simp at hx
  obtain ⟨rfl, rfl⟩ := hx
  exact ⟨rfl, rfl⟩
theorem about_cells {H : Type} {enc : TypeId × Value → H} {W : World} {sp : Nat → Bool} {held : Bool} {m : Nat} {c0 c1 : Value} {x : DataW H × List MemPlace} {a b : Int}
    (h : DataW.trod enc Tryd.prog W 0 sp held m 87 [c0, c1] = some x) (hx : x.1 = .agg [.lit (.int .u64 a), .lit (.int .i64 b)]) : c0 = .int .u64 a ∧ c1 = .int .i64 b := by
  obtain ⟨y0, y1, n, rfl, _, h0, h1⟩ := trod_struct2 Tryd.underlying87 h
  obtain ⟨k0, e0, e0', _⟩ := DataW.trod_int Tryd.underlying22 h0
  obtain ⟨k1, e1, e1', _⟩ := DataW.trod_int Tryd.underlying3 h1
  simp only [cells22, cells3] at e0 e1
  simp at e0 e1
  subst e0 e1 e0' e1'
  simp at hx
  obtain ⟨rfl, rfl⟩ := hx
  exact ⟨rfl, rfl⟩
/-- what the condition gives the walks -/
theorem of_laid {W : World} (h0 : laidMetH Tryd.prog Rows.ticketPlaysRow.laid W) : TB W := by
  have h : laidMetH Tryd.prog [(_, Rows.laid_palisade_word_sizes), (_, Rows.laid_palisade_ticket_steps)] W := h0
  rw [MakeChecks.laidMetH_plain _ _ _ (by kernel_rfl)] at h
  obtain ⟨ps, ⟨g0, t0, cs0, f0, p0, q0, hg0, ht0, hv0, hd0, ⟨g1, t1, cs1, f1, p1, q1, hg1, ht1, hv1, hd1, _, _⟩, _⟩, _, _⟩ := h
  obtain rfl := Option.some.inj ((show Tryd.prog.globalNamed _ = some 1 from by kernel_rfl).symm.trans hg0)
  obtain rfl := Option.some.inj (tSizes.symm.trans ht0)
  obtain rfl := Option.some.inj ((show Tryd.prog.globalNamed _ = some 0 from by kernel_rfl).symm.trans hg1)
  obtain rfl := Option.some.inj (tSteps.symm.trans ht1)
  constructor
  · obtain ⟨xs, m1, rfl, hx1, hlen, hn3, hel⟩ := DataW.trod_array Tryd.underlying99 hd0
    simp only [Prod.mk.injEq] at hx1
    rw [cells99] at hlen
    obtain ⟨l⟩ := cs0
    match xs, hn3, hx1, hel with
    | [x0, x1, x2], _, hx1, hel =>
      match l, hlen with
      | [v0, v1, v2, v3, v4, v5], _ =>
        have h0 := hel 0 (by decide)
        have h1 := hel 1 (by decide)
        have h2 := hel 2 (by decide)
        simp only [cells90] at h0 h1 h2
        simp at h0 h1 h2
        have hx := hx1.1
        simp [Rows.laid_palisade_word_sizes] at hx
        obtain ⟨a0, a1⟩ := size_cells h0 hx.1.symm
        obtain ⟨a2, a3⟩ := size_cells h1 hx.2.1.symm
        obtain ⟨a4, a5⟩ := size_cells h2 hx.2.2.symm
        subst a0 a1 a2 a3 a4 a5
        have k0 : W.cell? ⟨1, 0, none⟩ = some (.int .i64 1) := by simpa using World.var?_cell hg0 hv0 0
        refine ⟨k0, by simpa using World.var?_cell hg0 hv0 1, by simpa using World.var?_cell hg0 hv0 2, by simpa using World.var?_cell hg0 hv0 3, by simpa using World.var?_cell hg0 hv0 4, by simpa using World.var?_cell hg0 hv0 5, ?_⟩
        exact World.block_lt_of_cell? W ⟨1, 0, none⟩ k0
  · obtain ⟨xs, m1, rfl, hx1, hlen, hn3, hel⟩ := DataW.trod_array Tryd.underlying88 hd1
    simp only [Prod.mk.injEq] at hx1
    rw [cells88] at hlen
    obtain ⟨l⟩ := cs1
    match xs, hn3, hx1, hel with
    | [x0, x1, x2, x3, x4], _, hx1, hel =>
      match l, hlen with
      | [v0, v1, v2, v3, v4, v5, v6, v7, v8, v9], _ =>
        have h0 := hel 0 (by decide)
        have h1 := hel 1 (by decide)
        have h2 := hel 2 (by decide)
        have h3 := hel 3 (by decide)
        have h4 := hel 4 (by decide)
        simp only [cells87] at h0 h1 h2 h3 h4
        simp at h0 h1 h2 h3 h4
        have hx := hx1.1
        simp [Rows.laid_palisade_ticket_steps] at hx
        obtain ⟨y0, y1, y2, y3, y4⟩ := hx
        obtain ⟨a0, b0⟩ := about_cells h0 y0.symm
        obtain ⟨a1, b1⟩ := about_cells h1 y1.symm
        obtain ⟨a2, b2⟩ := about_cells h2 y2.symm
        obtain ⟨a3, b3⟩ := about_cells h3 y3.symm
        obtain ⟨a4, b4⟩ := about_cells h4 y4.symm
        subst a0 b0 a1 b1 a2 b2 a3 b3 a4 b4
        intro j v hv
        have := World.var?_cell hg1 hv1 j
        rw [Nat.zero_add, this]
        simpa [stepsL] using hv
end Go.Proofs.YtioanbdmkiphfaaDoor
