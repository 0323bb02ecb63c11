/-
  An instruction that came in by value: five numbers.
-/
import Derived.Test.YtlpdkjndomolkaaRows
import Derived.Test.YtlpdkjndomolkaaWalks10
import Derived.WalkKit
import Derived.ProofKit
import Derived.OpenShut
import Derived.ChangeOld
import Derived.Below
namespace Go.Proofs.Ytlpdkjndomolkaa
open Go.ChangeShapes Go.WideShapes Go.ChangeAt Go.RowKit
set_option linter.unusedVariables false
theorem own : ownKnob Try.prog.godebug = none := by kernel_rfl
theorem laidOut : laidOutB Try.prog = true := by kernel_rfl
theorem cells23 : Try.prog.cellsOf 23 = 5 := by kernel_rfl
theorem cells3 : Try.prog.cellsOf 3 = 1 := by kernel_rfl

theorem five {α : Type} {cs : Array α} (h : cs.size = 5) : ∃ a b c d e, cs = #[a, b, c, d, e] := by
  obtain ⟨l⟩ := cs
  match l, h with
  | [a, b, c, d, e], _ => exact ⟨a, b, c, d, e, rfl⟩

/-- one field of an instruction: a number that fits -/
theorem field_int {H : Type} {enc : TypeId × Value → H} {w : World} {base n : Nat} {sp : Nat → Bool} {held : Bool} {c : Value} {x : Option (DataW H × List MemPlace)} (h : DataW.trod enc Try.prog w base sp held n 3 [c] = x) (hx : ∃ y, x = some y) :
    ∃ a : Int, c = .int .i64 a ∧ (Lit.int .i64 a).wf = true := by
  obtain ⟨y, rfl⟩ := hx
  obtain ⟨a, e, _, hw⟩ := DataW.trod_int Try.underlying3 h
  exact ⟨a, by simpa using e, hw⟩

theorem open_ins {H : Type} {enc : TypeId × Value → H} {w : World} {base b0 : Nat} {sp : Nat → Bool} {held : Bool} {r : Reach} {v : Value} {d : DataW H} {p : List MemPlace}
    (hv : Value.okWide Try.prog w r b0 23 v) (h : DataW.Trod enc Try.prog w base sp held 23 v d p) :
    ∃ op rd rs1 rs2 imm : Int, v = ins op rd rs1 rs2 imm ∧ (Lit.int .i64 op).wf = true ∧ (Lit.int .i64 rd).wf = true ∧ (Lit.int .i64 rs1).wf = true ∧ (Lit.int .i64 rs2).wf = true ∧ (Lit.int .i64 imm).wf = true := by
  obtain ⟨cs, rfl, hsz⟩ := okWide_struct Try.underlying23 hv
  obtain ⟨c0, c1, c2, c3, c4, rfl⟩ := five (hsz.trans cells23)
  obtain ⟨fuel, hf⟩ := h
  obtain ⟨xs, n, _, _, _, hlen, hfs⟩ := DataW.trod_struct Try.underlying23 hf
  have hl : xs.length = 5 := by simpa using hlen
  have e : ∀ i, i < 5 → ∃ y, xs[i]? = some y := fun i hi => ⟨_, List.getElem?_eq_getElem (by omega)⟩
  obtain ⟨a0, rfl, w0⟩ := field_int (by simpa [Value.cells, cells3] using hfs 0 _ rfl) (e 0 (by decide))
  obtain ⟨a1, rfl, w1⟩ := field_int (by simpa [Value.cells, cells3] using hfs 1 _ rfl) (e 1 (by decide))
  obtain ⟨a2, rfl, w2⟩ := field_int (by simpa [Value.cells, cells3] using hfs 2 _ rfl) (e 2 (by decide))
  obtain ⟨a3, rfl, w3⟩ := field_int (by simpa [Value.cells, cells3] using hfs 3 _ rfl) (e 3 (by decide))
  obtain ⟨a4, rfl, w4⟩ := field_int (by simpa [Value.cells, cells3] using hfs 4 _ rfl) (e 4 (by decide))
  exact ⟨a0, a1, a2, a3, a4, rfl, w0, w1, w2, w3, w4⟩
end Go.Proofs.Ytlpdkjndomolkaa
