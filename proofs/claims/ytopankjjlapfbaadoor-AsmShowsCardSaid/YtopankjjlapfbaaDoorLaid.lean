/-
  What the program's variables hold when a call begins, out of the row's condition; and that the program's own start meets it.
-/
import Derived.Test.YtopankjjlapfbaaDoorShowsWalk
import Derived.Test.YtopankjjlapfbaaDoorRows
import Derived.ProofKit
import Derived.LaidMore
import Derived.OpenShut
import Derived.Stop.Joined
namespace Go.Proofs.YtopankjjlapfbaaDoor
open Go.ChangeShapes Go.WideShapes Go.ChangeAt Go.RowKit
set_option linter.unusedVariables false
theorem tNames : (Tryd.prog.globals[0]?).map (·.type) = some 32 := by kernel_rfl
theorem tPow : (Tryd.prog.globals[1]?).map (·.type) = some 80 := by kernel_rfl
theorem cells32 : Tryd.prog.cellsOf 32 = 49 := by kernel_rfl
theorem cells9 : Tryd.prog.cellsOf 9 = 1 := by kernel_rfl
theorem cells31 : Tryd.prog.cellsOf 31 = 1 := by kernel_rfl
theorem cells80 : Tryd.prog.cellsOf 80 = 20 := by kernel_rfl
theorem own : ownKnob Tryd.prog.godebug = none := by kernel_rfl

/-- The door's own heap meets the condition: three closed facts. -/
theorem door_met (os : Os) (args : Array Value) : laidMetH Tryd.prog Rows.asmShowsRow.laid ((World.doorLaid Tryd.prog 400 os).forCall (fun _ _ => 0) ⟨#[], args, []⟩).memory :=
  laidMetH_of_parts3 (fuel := 8) (laidMet_of_run' 8 (by kernel_rfl) (by kernel_rfl)) (by kernel_rfl) (by kernel_rfl)

theorem pow_data : (Rows.laid_internal_strconv_uint64pow10 : DataW Unit) = Lib.tabData .u64 Lib.pow10Tab := rfl
theorem names_data : (Rows.laid_palisade_asm_names : DataW Unit) = .agg (nameL.map fun s => .lit (.string s.data.toList)) := rfl

/-- what the condition gives the walks -/
theorem of_laid {W : World} (h0 : laidMetH Tryd.prog Rows.asmShowsRow.laid W) : Lies W := by
  have h : laidMetH Tryd.prog [("math/bits.deBruijn32tab", Rows.laid_math_bits_deBruijn32tab), ("math/bits.deBruijn64tab", Rows.laid_math_bits_deBruijn64tab), ("internal/strconv.uint64pow10", Rows.laid_internal_strconv_uint64pow10), ("palisade/asm.names", Rows.laid_palisade_asm_names)] W := h0
  rw [MakeChecks.laidMetH_plain _ _ _ (by kernel_rfl)] at h
  obtain ⟨ps, ⟨ga, ta, csa, fa, pa, qa, hga, hta, hva, hda, ⟨gb, tb, csb, fb, pb, qb, hgb, htb, hvb, hdb, ⟨g1, t1, cs1, f1, p1, q1, hg1, ht1, hv1, hd1, ⟨g0, t0, cs0, f0, p0, q0, hg0, ht0, hv0, hd0, _, _⟩, _⟩, _⟩, _⟩, _, _⟩ := h
  obtain rfl := Option.some.inj ((show Tryd.prog.globalNamed _ = some 0 from by kernel_rfl).symm.trans hg0)
  obtain rfl := Option.some.inj (tNames.symm.trans ht0)
  obtain rfl := Option.some.inj ((show Tryd.prog.globalNamed _ = some 1 from by kernel_rfl).symm.trans hg1)
  obtain rfl := Option.some.inj (tPow.symm.trans ht1)
  rw [pow_data] at hd1
  have e1 := Lib.cells_of_tab Tryd.underlying80 Tryd.underlying31 cells31 cells80 hd1
  have tab : Tab W := by
    unfold Tab Lib.TabIs
    rw [hv1, ← e1]
  have k1 : W.cell? ⟨1, 0, none⟩ = some (.int .u64 1) := by
    have := World.var?_cell hg1 hv1 0
    have h2 : cs1[0]? = some (.int .u64 1) := by
      rw [← Array.getElem?_toList, e1]
      rfl
    rw [this, h2]
  have big := World.block_lt_of_cell? W ⟨1, 0, none⟩ k1
  obtain ⟨xs, m1, rfl, hx1, hlen, hn3, hel⟩ := DataW.trod_array Tryd.underlying32 hd0
  simp only [Prod.mk.injEq] at hx1
  rw [names_data] at hx1
  have hx := hx1.1
  refine ⟨tab, fun i hi => ?_, by show 2 ≤ W.heap.size; exact big⟩
  rw [World.var?_cell hg0 hv0 i]
  have hnl : nameL.length = 49 := rfl
  have hel' := hel i (by omega)
  have hxl : i < xs.length := by omega
  rw [List.getElem?_eq_getElem hxl] at hel'
  obtain ⟨s, hs, hxs, _⟩ := DataW.trod_string Tryd.underlying9 hel'
  simp only [cells9, Nat.mul_one] at hs
  have hci : cs0[i]? = some (.string s) := by
    have := congrArg (·[0]?) hs
    simpa [List.getElem?_take, List.getElem?_drop] using this
  have hmap : xs.map (·.1) = nameL.map fun s => (DataW.lit (.string s.data.toList) : DataW Unit) := by
    have := hx
    simp at this
    simpa using this.symm
  have h2 := congrArg (·[i]?) hmap
  simp [List.getElem?_eq_getElem hxl, hxs, List.getElem?_eq_getElem (show i < nameL.length by omega)] at h2
  rw [hci]
  have e : s = nameL.getD i ⟨#[]⟩ := by
    simp [List.getD, List.getElem?_eq_getElem (show i < nameL.length by omega)]
    apply ByteArray.ext
    exact h2
  rw [e]
end Go.Proofs.YtopankjjlapfbaaDoor
