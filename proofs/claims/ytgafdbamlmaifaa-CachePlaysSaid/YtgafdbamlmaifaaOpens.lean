/-
  An act that came in by value: its five numbers.
-/
import Derived.Test.YtgafdbamlmaifaaBase
import Derived.ChangeOld
namespace Go.Proofs.Ytgafdbamlmaifaa
open Go.ChangeShapes Go.WideShapes Go.ChangeAt Go.RowKit
set_option linter.unusedVariables false
theorem cells33 : Try.prog.cellsOf 33 = 5 := by kernel_rfl
theorem cells27 : Try.prog.cellsOf 27 = 1 := by kernel_rfl
theorem cells3 : Try.prog.cellsOf 3 = 1 := by kernel_rfl
theorem five {α : Type} {cs : Array α} (h : cs.size = 5) : ∃ a b c d e, cs = #[a, b, c, d, e] := by
  obtain ⟨l⟩ := cs
  match l, h with
  | [a, b, c, d, e], _ => exact ⟨a, b, c, d, e, rfl⟩
theorem field_i {H : Type} {enc : TypeId × Value → H} {w : World} {base n : Nat} {sp : Nat → Bool} {held : Bool} {t : TypeId} {q : IntKind} (ht : Try.prog.underlying t = some (.int q)) {c : Value} {x : Option (DataW H × List MemPlace)} (h : DataW.trod enc Try.prog w base sp held n t [c] = x) (hx : ∃ y, x = some y) :
    ∃ a : Int, c = .int q a ∧ (Lit.int q a).wf = true := by
  obtain ⟨y, rfl⟩ := hx
  obtain ⟨a, e, _, hw⟩ := DataW.trod_int ht h
  exact ⟨a, by simpa using e, hw⟩
/-- an act -/
def actV (k g x q v : Int) : Value := .agg #[.int .i64 k, .int .i64 g, .int .u64 x, .int .u64 q, .int .i64 v]
theorem act_cells {H : Type} {enc : TypeId × Value → H} {w : World} {base n : Nat} {sp : Nat → Bool} {held : Bool} {cs : List Value} {x : DataW H × List MemPlace} (hl : cs.length = 5) (h : DataW.trod enc Try.prog w base sp held n 33 cs = some x) :
    ∃ k g x q v : Int, cs = [.int .i64 k, .int .i64 g, .int .u64 x, .int .u64 q, .int .i64 v] ∧ (Lit.int .i64 k).wf = true ∧ (Lit.int .i64 g).wf = true ∧ (Lit.int .u64 x).wf = true ∧ (Lit.int .u64 q).wf = true ∧ (Lit.int .i64 v).wf = true := by
  match cs, hl with
  | [c0, c1, c2, c3, c4], _ =>
    obtain ⟨xs, n, _, _, _, hlen, hfs⟩ := DataW.trod_struct Try.underlying33 h
    have hl : xs.length = 5 := by simpa using hlen
    have e : ∀ i, i < 5 → ∃ y, xs[i]? = some y := fun i hi => ⟨_, List.getElem?_eq_getElem (by omega)⟩
    obtain ⟨a0, rfl, w0⟩ := field_i Try.underlying3 (by simpa [Value.cells, cells3, cells27] using hfs 0 _ rfl) (e 0 (by decide))
    obtain ⟨a1, rfl, w1⟩ := field_i Try.underlying3 (by simpa [Value.cells, cells3, cells27] using hfs 1 _ rfl) (e 1 (by decide))
    obtain ⟨a2, rfl, w2⟩ := field_i Try.underlying27 (by simpa [Value.cells, cells3, cells27] using hfs 2 _ rfl) (e 2 (by decide))
    obtain ⟨a3, rfl, w3⟩ := field_i Try.underlying27 (by simpa [Value.cells, cells3, cells27] using hfs 3 _ rfl) (e 3 (by decide))
    obtain ⟨a4, rfl, w4⟩ := field_i Try.underlying3 (by simpa [Value.cells, cells3, cells27] using hfs 4 _ rfl) (e 4 (by decide))
    exact ⟨a0, a1, a2, a3, a4, rfl, w0, w1, w2, w3, w4⟩
theorem open_act {H : Type} {enc : TypeId × Value → H} {w : World} {base b0 : Nat} {sp : Nat → Bool} {held : Bool} {r : Reach} {v : Value} {d : DataW H} {p : List MemPlace}
    (hv : Value.okWide Try.prog w r b0 33 v) (h : DataW.Trod enc Try.prog w base sp held 33 v d p) :
    ∃ k g x q z : Int, v = actV k g x q z ∧ (Lit.int .i64 k).wf = true ∧ (Lit.int .i64 g).wf = true ∧ (Lit.int .u64 x).wf = true ∧ (Lit.int .u64 q).wf = true ∧ (Lit.int .i64 z).wf = true := by
  obtain ⟨cs, rfl, hsz⟩ := okWide_struct Try.underlying33 hv
  obtain ⟨c0, c1, c2, c3, c4, rfl⟩ := five (hsz.trans cells33)
  obtain ⟨fuel, hf⟩ := h
  obtain ⟨k, g, x, q, z, e, hw⟩ := act_cells (by simp [Value.cells]) hf
  simp [Value.cells] at e
  obtain ⟨rfl, rfl, rfl, rfl, rfl⟩ := e
  exact ⟨k, g, x, q, z, rfl, hw⟩
end Go.Proofs.Ytgafdbamlmaifaa
