/-
  An act that came in by value.
-/
import Derived.Test.YtdmegoglcnggoaaBase
import Derived.ChangeOld
namespace Go.Proofs.Ytdmegoglcnggoaa
open Go.ChangeShapes Go.WideShapes Go.ChangeAt Go.RowKit
set_option linter.unusedVariables false
theorem cells33 : Try.prog.cellsOf 33 = 4 := by kernel_rfl
theorem cells31 : Try.prog.cellsOf 31 = 1 := by kernel_rfl
theorem cells3 : Try.prog.cellsOf 3 = 1 := by kernel_rfl
theorem four {α : Type} {cs : Array α} (h : cs.size = 4) : ∃ a b c d, cs = #[a, b, c, d] := by
  obtain ⟨l⟩ := cs
  match l, h with
  | [a, b, c, d], _ => exact ⟨a, b, c, d, rfl⟩
theorem field_i {H : Type} {enc : TypeId × Value → H} {w : World} {base n : Nat} {sp : Nat → Bool} {held : Bool} {t : TypeId} {q : IntKind} (ht : Try.prog.underlying t = some (.int q)) {c : Value} {x : Option (DataW H × List MemPlace)} (h : DataW.trod enc Try.prog w base sp held n t [c] = x) (hx : ∃ y, x = some y) :
    ∃ a : Int, c = .int q a ∧ (Lit.int q a).wf = true := by
  obtain ⟨y, rfl⟩ := hx
  obtain ⟨a, e, _, hw⟩ := DataW.trod_int ht h
  exact ⟨a, by simpa using e, hw⟩
/-- an act -/
def actV (k c e x : Int) : Value := .agg #[.int .i64 k, .int .i64 c, .int .i64 e, .int .u64 x]
theorem act_cells {H : Type} {enc : TypeId × Value → H} {w : World} {base n : Nat} {sp : Nat → Bool} {held : Bool} {cs : List Value} {x : DataW H × List MemPlace} (hl : cs.length = 4) (h : DataW.trod enc Try.prog w base sp held n 33 cs = some x) :
    ∃ (k c e x : Int), cs = [.int .i64 k, .int .i64 c, .int .i64 e, .int .u64 x] ∧ (Lit.int .i64 k).wf = true ∧ (Lit.int .i64 c).wf = true ∧ (Lit.int .i64 e).wf = true ∧ (Lit.int .u64 x).wf = true := by
  match cs, hl with
  | [c0, c1, c2, c3], _ =>
    obtain ⟨xs, n, _, _, _, hlen, hfs⟩ := DataW.trod_struct Try.underlying33 h
    have hl : xs.length = 4 := by simpa using hlen
    have e : ∀ i, i < 4 → ∃ y, xs[i]? = some y := fun i hi => ⟨_, List.getElem?_eq_getElem (by omega)⟩
    obtain ⟨a0, rfl, w0⟩ := field_i Try.underlying3 (by simpa [Value.cells, cells3, cells31] using hfs 0 _ rfl) (e 0 (by decide))
    obtain ⟨a1, rfl, w1⟩ := field_i Try.underlying3 (by simpa [Value.cells, cells3, cells31] using hfs 1 _ rfl) (e 1 (by decide))
    obtain ⟨a2, rfl, w2⟩ := field_i Try.underlying3 (by simpa [Value.cells, cells3, cells31] using hfs 2 _ rfl) (e 2 (by decide))
    obtain ⟨a3, rfl, w3⟩ := field_i Try.underlying31 (by simpa [Value.cells, cells3, cells31] using hfs 3 _ rfl) (e 3 (by decide))
    exact ⟨a0, a1, a2, a3, rfl, w0, w1, w2, w3⟩
theorem open_act {H : Type} {enc : TypeId × Value → H} {w : World} {base b0 : Nat} {sp : Nat → Bool} {held : Bool} {r : Reach} {v : Value} {d : DataW H} {p : List MemPlace}
    (hv : Value.okWide Try.prog w r b0 33 v) (h : DataW.Trod enc Try.prog w base sp held 33 v d p) :
    ∃ (k c e x : Int), v = actV k c e x := by
  obtain ⟨cs, rfl, hsz⟩ := okWide_struct Try.underlying33 hv
  obtain ⟨c0, c1, c2, c3, rfl⟩ := four (hsz.trans cells33)
  obtain ⟨fuel, hf⟩ := h
  obtain ⟨k, c, e, x, q, _⟩ := act_cells (by simp [Value.cells]) hf
  simp [Value.cells] at q
  obtain ⟨rfl, rfl, rfl, rfl⟩ := q
  exact ⟨k, c, e, x, rfl⟩
end Go.Proofs.Ytdmegoglcnggoaa
