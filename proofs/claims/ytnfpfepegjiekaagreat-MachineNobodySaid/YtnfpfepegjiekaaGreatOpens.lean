/-
  An act that came in by value.
-/
import Derived.Test.YtnfpfepegjiekaaGreatRows
import Derived.ChangeOld
import Derived.BigQuiet
import Derived.Conc.LoneCalls
import Derived.Conc.LoneSelect
import Derived.Conc.LoneSelectN
import Derived.Deep.QuietTactic
import Derived.Deep.RegionLaw
import Derived.OpenShut
import Derived.ProofKit
import Derived.WalkKit
namespace Go.Proofs.YtnfpfepegjiekaaGreat
open Go.ChangeShapes Go.WideShapes Go.ChangeAt Go.RowKit
set_option linter.unusedVariables false
set_option maxRecDepth 100000
theorem cells24 : Tryz.prog.cellsOf 24 = 5 := by kernel_rfl
theorem cells22 : Tryz.prog.cellsOf 22 = 1 := by kernel_rfl
theorem cells3 : Tryz.prog.cellsOf 3 = 1 := by kernel_rfl
theorem five {α : Type} {cs : Array α} (h : cs.size = 5) : ∃ a b c d e, cs = #[a, b, c, d, e] := by
  obtain ⟨l⟩ := cs
  match l, h with
  | [a, b, c, d, e], _ => exact ⟨a, b, c, d, e, rfl⟩
theorem field_i {H : Type} {enc : TypeId × Value → H} {w : World} {base n : Nat} {sp : Nat → Bool} {held : Bool} {t : TypeId} {q : IntKind} (ht : Tryz.prog.underlying t = some (.int q)) {c : Value} {x : Option (DataW H × List MemPlace)} (h : DataW.trod enc Tryz.prog w base sp held n t [c] = x) (hx : ∃ y, x = some y) :
    ∃ a : Int, c = .int q a := by
  obtain ⟨y, rfl⟩ := hx
  obtain ⟨a, e, _, hw⟩ := DataW.trod_int ht h
  exact ⟨a, by simpa using e⟩
/-- an act -/
def actV (k c e a x : Int) : Value := .agg #[.int .i64 k, .int .i64 c, .int .i64 e, .int .u64 a, .int .u64 x]
theorem open_act {H : Type} {enc : TypeId × Value → H} {w : World} {base b0 : Nat} {sp : Nat → Bool} {held : Bool} {r : Reach} {v : Value} {d : DataW H} {p : List MemPlace}
    (hv : Value.okWide Tryz.prog w r b0 24 v) (h : DataW.Trod enc Tryz.prog w base sp held 24 v d p) :
    ∃ (k c e a x : Int), v = actV k c e a x := by
  obtain ⟨cs, rfl, hsz⟩ := okWide_struct Tryz.underlying24 hv
  obtain ⟨c0, c1, c2, c3, c4, rfl⟩ := five (hsz.trans cells24)
  obtain ⟨fuel, hf⟩ := h
  obtain ⟨xs, n, _, _, _, hlen, hfs⟩ := DataW.trod_struct Tryz.underlying24 hf
  have hl : xs.length = 5 := by simpa using hlen
  have e : ∀ i, i < 5 → ∃ y, xs[i]? = some y := fun i hi => ⟨_, List.getElem?_eq_getElem (by omega)⟩
  obtain ⟨a0, rfl⟩ := field_i Tryz.underlying3 (by simpa [Value.cells, cells3, cells22] using hfs 0 _ rfl) (e 0 (by decide))
  obtain ⟨a1, rfl⟩ := field_i Tryz.underlying3 (by simpa [Value.cells, cells3, cells22] using hfs 1 _ rfl) (e 1 (by decide))
  obtain ⟨a2, rfl⟩ := field_i Tryz.underlying3 (by simpa [Value.cells, cells3, cells22] using hfs 2 _ rfl) (e 2 (by decide))
  obtain ⟨a3, rfl⟩ := field_i Tryz.underlying22 (by simpa [Value.cells, cells3, cells22] using hfs 3 _ rfl) (e 3 (by decide))
  obtain ⟨a4, rfl⟩ := field_i Tryz.underlying22 (by simpa [Value.cells, cells3, cells22] using hfs 4 _ rfl) (e 4 (by decide))
  exact ⟨a0, a1, a2, a3, a4, rfl⟩
end Go.Proofs.YtnfpfepegjiekaaGreat
