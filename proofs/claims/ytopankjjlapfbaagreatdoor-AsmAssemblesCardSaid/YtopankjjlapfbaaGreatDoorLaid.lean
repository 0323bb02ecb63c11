/-
  What the program's variables hold when a call begins, out of the row's condition and the world's shape; and that the program's own start meets it.
-/
import Derived.Test.YtopankjjlapfbaaGreatDoorAsmW
import Derived.Test.YtopankjjlapfbaaGreatDoorRows
import Derived.ProofKit
import Derived.LaidMore
import Derived.LaidHandle
import Derived.Lay
import Derived.OpenShut
import Derived.SizedLaws
import Derived.Stop.Joined
import Derived.Stop.LaidErr
namespace Go.Proofs.YtopankjjlapfbaaGreatDoor
open Go.ChangeShapes Go.WideShapes Go.ChangeAt Go.RowKit
set_option linter.unusedVariables false
set_option maxRecDepth 100000
theorem gNames : Tryz.prog.globalNamed "palisade/asm.names" = some 0 := by kernel_rfl
theorem gPow : Tryz.prog.globalNamed "internal/strconv.uint64pow10" = some 2 := by kernel_rfl
theorem gEt : Tryz.prog.globalNamed "errors.errorType" = some 1 := by kernel_rfl
theorem gSyn : Tryz.prog.globalNamed "strconv.ErrSyntax" = some 8 := by kernel_rfl
theorem gRng : Tryz.prog.globalNamed "strconv.ErrRange" = some 9 := by kernel_rfl
theorem tSyn : (Tryz.prog.globals[8]?).map (·.type) = some 40 := by kernel_rfl
theorem tRng : (Tryz.prog.globals[9]?).map (·.type) = some 40 := by kernel_rfl
theorem tNames : (Tryz.prog.globals[0]?).map (·.type) = some 59 := by kernel_rfl
theorem tPow : (Tryz.prog.globals[2]?).map (·.type) = some 165 := by kernel_rfl
theorem cells59 : Tryz.prog.cellsOf 59 = 49 := by kernel_rfl
theorem cells9 : Tryz.prog.cellsOf 9 = 1 := by kernel_rfl
theorem cells22 : Tryz.prog.cellsOf 22 = 1 := by kernel_rfl
theorem cells165 : Tryz.prog.cellsOf 165 = 20 := by kernel_rfl
theorem cells210 : Tryz.prog.cellsOf 210 = 1 := by kernel_rfl
theorem own : ownKnob Tryz.prog.godebug = none := by kernel_rfl
theorem rt : (Tryz.prog.cutTypes.find? (·.1 == "internal/reflectlite.rtype")).map (·.2) = some 141 := by kernel_rfl
theorem nTypes : Tryz.prog.types.size = 239 := by kernel_rfl
theorem oneRow : ((List.range 239).filter fun t => Tryz.prog.rowNamed t [101, 114, 114, 111, 114]) = [40] := by kernel_rfl
theorem hand40 : typeHandle Tryz.prog 40 = .pointer (some ⟨10, 40, none⟩) := by kernel_rfl
theorem star : "*" ++ "errors.errorString" = "*errors.errorString" := by decide
theorem row208 (u : TypeId) (h : Tryz.prog.typeName? 3 u = some "*errors.errorString") : u = 208 :=
  typeName_ptr_named (nm := "errors.errorString") (by rw [star]; kernel_rfl) (by kernel_rfl) (by decide) u (by rw [star]; exact h)

/-- The program's start, with the one table of Go's own that is pinned by name laid into it. -/
noncomputable def startW (os : Os) : World := (World.doorLaid Tryz.prog 400 os).layVars Tryz.prog [("unicode/utf8.first", Rows.laid_unicode_utf8_first)]
theorem startW_os (os : Os) : (startW os).os = os := World.layVars_os _ _ _
/-- It meets the condition: closed facts. -/
theorem start_met (os : Os) (args : Array Value) : laidMetH Tryz.prog Rows.asmMarksRow.laid ((startW os).forCall (fun _ _ => 0) ⟨#[], args, []⟩).memory :=
  laidMetH_of_parts3 (fuel := 8) (laidMet_of_run' 8 (by kernel_rfl) (by kernel_rfl)) (by kernel_rfl) (by kernel_rfl)
theorem start_shaped (os : Os) (args : Array Value) : ((startW os).forCall (fun _ _ => 0) ⟨#[], args, []⟩).Shaped Tryz.prog :=
  World.shaped_of_RefB (by kernel_rfl) (by kernel_rfl)

theorem pow_data : (Rows.laid_internal_strconv_uint64pow10 : DataW Unit) = Lib.tabData .u64 Lib.pow10Tab := rfl
theorem names_data : (Rows.laid_palisade_asm_names : DataW Unit) = .agg (nameL.map fun s => .lit (.string s.data.toList)) := rfl

/-- the variables that are read as data, and the one that holds a type's handle -/
theorem laid_parts {W : World} (h0 : laidMetH Tryz.prog Rows.asmMarksRow.laid W) :
    laidMet Tryz.prog [("math/bits.deBruijn32tab", Rows.laid_math_bits_deBruijn32tab), ("math/bits.deBruijn64tab", Rows.laid_math_bits_deBruijn64tab), ("internal/strconv.uint64pow10", Rows.laid_internal_strconv_uint64pow10), ("unicode/utf8.acceptRanges", Rows.laid_unicode_utf8_acceptRanges), ("strconv.ErrRange", Rows.laid_strconv_ErrRange), ("strconv.ErrSyntax", Rows.laid_strconv_ErrSyntax), ("palisade/asm.names", Rows.laid_palisade_asm_names), ("unicode/utf8.first", Rows.laid_unicode_utf8_first)] W ∧
    handlesMet Tryz.prog [("errors.errorType", Rows.laid_errors_errorType)] W := h0

theorem et_of_laid {W : World} (h0 : laidMetH Tryz.prog Rows.asmMarksRow.laid W) : ErT W := by
  obtain ⟨name, u, ty, e1, e2, e3, e4, e5⟩ := (laid_parts h0).2 _ (List.mem_singleton.2 rfl)
  have en : name = [101, 114, 114, 111, 114] := (Option.some.inj e1).symm
  subst en
  obtain rfl := Option.some.inj (rt.symm.trans e2)
  have hm : ty ∈ (List.range 239).filter fun t => Tryz.prog.rowNamed t [101, 114, 114, 111, 114] := List.mem_filter.2 ⟨List.mem_range.2 (by rw [← nTypes]; exact e3), e4⟩
  rw [oneRow] at hm
  obtain rfl := List.mem_singleton.1 hm
  rw [hand40] at e5
  unfold ErT
  simpa using World.var?_cell gEt e5 0

theorem errs_of_laid {W : World} (h0 : laidMetH Tryz.prog Rows.asmMarksRow.laid W) (hsh : W.ShapedOpen Tryz.prog) : Errs W := by
  have m4 := (laid_parts h0).1.tail.tail.tail.tail
  obtain ⟨a, s, hr, _⟩ := laid_sentinel m4 gRng tRng Tryz.underlying40 row208 Tryz.underlying208 Tryz.underlying210 rfl rfl Tryz.underlying9 cells210 cells9
  obtain ⟨a', s', hy, _⟩ := laid_sentinel m4.tail gSyn tSyn Tryz.underlying40 row208 Tryz.underlying208 Tryz.underlying210 rfl rfl Tryz.underlying9 cells210 cells9
  refine ⟨⟨_, _, hy⟩, ⟨_, _, hr⟩, ?_, ?_⟩
  · exact Go.Proofs.cell_of_shapedOpen_int (zero := #[.int .i64 0]) (t := 3) hsh (of_decide_eq_true (by kernel_rfl)) (by kernel_rfl) rfl (by kernel_rfl) (by kernel_rfl) Tryz.underlying3
  · have hc : W.cell? ⟨9, 0, none⟩ = some (.iface 208 (.pointer (some a))) := by simpa using World.var?_cell gRng hr 0
    have := World.block_lt_of_cell? W ⟨9, 0, none⟩ hc
    show 10 ≤ W.heap.size
    exact this

theorem lies_of_laid {W : World} (h0 : laidMetH Tryz.prog Rows.asmMarksRow.laid W) : Lies W := by
  have m2 := (laid_parts h0).1.tail.tail
  have m6 := m2.tail.tail.tail.tail
  obtain ⟨ps, ⟨g1, t1, cs1, f1, p1, q1, hg1, ht1, hv1, hd1, _, _⟩, _, _⟩ := m2
  obtain ⟨ps', ⟨g0, t0, cs0, f0, p0, q0, hg0, ht0, hv0, hd0, _, _⟩, _, _⟩ := m6
  obtain rfl := Option.some.inj (gNames.symm.trans hg0)
  obtain rfl := Option.some.inj (tNames.symm.trans ht0)
  obtain rfl := Option.some.inj (gPow.symm.trans hg1)
  obtain rfl := Option.some.inj (tPow.symm.trans ht1)
  rw [pow_data] at hd1
  have e1 := Lib.cells_of_tab Tryz.underlying165 Tryz.underlying22 cells22 cells165 hd1
  have tab : Tab W := by
    unfold Tab Lib.TabIs
    rw [hv1, ← e1]
  have k1 : W.cell? ⟨2, 0, none⟩ = some (.int .u64 1) := by
    have := World.var?_cell hg1 hv1 0
    have h2 : cs1[0]? = some (.int .u64 1) := by
      rw [← Array.getElem?_toList, e1]
      rfl
    rw [this, h2]
  have big := World.block_lt_of_cell? W ⟨2, 0, none⟩ k1
  obtain ⟨xs, m1, rfl, hx1, hlen, hn3, hel⟩ := DataW.trod_array Tryz.underlying59 hd0
  simp only [Prod.mk.injEq] at hx1
  rw [names_data] at hx1
  have hx := hx1.1
  refine ⟨tab, fun i hi => ?_, by have h3 : 3 ≤ W.heap.size := big; omega⟩
  rw [World.var?_cell hg0 hv0 i]
  have hnl : nameL.length = 49 := rfl
  have hel' := hel i (by omega)
  have hxl : i < xs.length := by omega
  rw [List.getElem?_eq_getElem hxl] at hel'
  obtain ⟨s, hs, hxs, _⟩ := DataW.trod_string Tryz.underlying9 hel'
  simp only [cells9, Nat.mul_one] at hs
  have hci : cs0[i]? = some (.string s) := by
    have := congrArg (·[0]?) hs
    simpa [List.getElem?_take, List.getElem?_drop] using this
  have hmap : xs.map (·.1) = nameL.map fun s => (DataW.lit (.string s.data.toList) : DataW Unit) := by
    have := hx
    simp at this
    simpa using this.symm
  have h2 := congrArg (·[i]?) hmap
  simp [List.getElem?_eq_getElem hxl, hxs, List.getElem?_eq_getElem (show i < nameL.length by omega)] at h2
  rw [hci]
  have e : s = nameL.getD i ⟨#[]⟩ := by
    simp [List.getD, List.getElem?_eq_getElem (show i < nameL.length by omega)]
    apply ByteArray.ext
    exact h2
  rw [e]

/-- what a law's row asks, from a contract in a shaped world in which the listed variables hold what is listed -/
theorem row_of {H : Type} {enc : TypeId × Value → H} {os : Os} {f : FuncId} {fn : Func} {s : ChangeSpec} {laid : List (String × DataW Unit)}
    (started : os.Started) (noInit : Tryz.prog.inits.idxOf? f = none) (hfn : Tryz.prog.funcs[f]? = some fn)
    (witness : ∃ (w : World) (tape : Tape) (i : Input), w.os = os ∧ (w.forCall tape i).Shaped Tryz.prog ∧ i.vars = [] ∧ Input.okWide Tryz.prog (w.forCall tape i) .any w.heap.size f i ∧
      ((s.pre enc Tryz.prog fn [] false (w.forCall tape i).memory i.args ∧ laidMetH Tryz.prog laid (w.forCall tape i).memory) ∧ sizedMet enc Tryz.prog fn (OpenSpec.ofChange s) false (w.forCall tape i).memory i.args) ∧ Assume.holds {} Tryz.prog (lone (Frame.enter Tryz.prog f i.args .normal) [] (w.forCall tape i)))
    (walk : ∀ (W : World) (base : Nat) (args : Array Value) (ds gs : List (DataW H)) (before : List MemPlace),
      (∀ (j : Nat) t v, fn.params[j]? = some t → args[j]? = some v → Value.okWide Tryz.prog W .any base t v) →
      DataW.Whole enc Tryz.prog fn.params.toList s.vars false W args.toList ds gs before →
      (DataW.weightsEach Tryz.prog (fn.params.toList ++ s.plain.varTypes Tryz.prog) (ds ++ gs)).all (· ≤ reachBytes) = true →
      laidMetH Tryz.prog laid W → W.ShapedOpen Tryz.prog →
      Calls Tryz.prog f args W fun e W' => ∃ v, e = .returned v ∧ s.post enc Tryz.prog fn false true false false W args v W') :
    ReturnsInHanded {} Tryz.checked os f .any (fun w args => (s.pre enc Tryz.prog fn [] false w args ∧ laidMetH Tryz.prog laid w) ∧ sizedMet enc Tryz.prog fn (OpenSpec.ofChange s) false w args) (s.post enc Tryz.prog fn false true false false) := by
  refine returnsInHanded_of_calls own started noInit witness fun w tape i _ shape _ ok pre _ => ?_
  obtain ⟨_, _, _, fn2, hfn2, _, _, _, _, val⟩ := ok
  obtain rfl : fn2 = fn := Option.some.inj (hfn2.symm.trans hfn)
  obtain ⟨⟨⟨ds, gs, before, hw, hc⟩, hx⟩, hz⟩ := pre
  refine (walk _ _ _ ds gs before val (DataW.Whole.of_heap (w' := w.forCall tape i) (by rfl) hw) (hz.weights hw) (hx.of_heap (by rfl)) shape).mono fun e W' hr => ?_
  obtain ⟨v, rfl, hp⟩ := hr
  exact ChangeSpec.post_blind hp
end Go.Proofs.YtopankjjlapfbaaGreatDoor
