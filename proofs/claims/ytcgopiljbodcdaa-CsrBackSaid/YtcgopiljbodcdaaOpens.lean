/-
  An act and a trap that came in by value.
-/
import Derived.Test.YtcgopiljbodcdaaBase
import Derived.ChangeOld
namespace Go.Proofs.Ytcgopiljbodcdaa
open Go.ChangeShapes Go.WideShapes Go.ChangeAt Go.RowKit
set_option linter.unusedVariables false
theorem cells26 : Try.prog.cellsOf 26 = 8 := by kernel_rfl
theorem cells24 : Try.prog.cellsOf 24 = 3 := by kernel_rfl
theorem cells22 : Try.prog.cellsOf 22 = 1 := by kernel_rfl
theorem cells3 : Try.prog.cellsOf 3 = 1 := by kernel_rfl
theorem cells4 : Try.prog.cellsOf 4 = 1 := by kernel_rfl
theorem eight {α : Type} {cs : Array α} (h : cs.size = 8) : ∃ a b c d e f g i, cs = #[a, b, c, d, e, f, g, i] := by
  obtain ⟨l⟩ := cs
  match l, h with
  | [a, b, c, d, e, f, g, i], _ => exact ⟨a, b, c, d, e, f, g, i, rfl⟩
theorem three {α : Type} {cs : Array α} (h : cs.size = 3) : ∃ a b c, cs = #[a, b, c] := by
  obtain ⟨l⟩ := cs
  match l, h with
  | [a, b, c], _ => exact ⟨a, b, c, rfl⟩
theorem field_i {H : Type} {enc : TypeId × Value → H} {w : World} {base n : Nat} {sp : Nat → Bool} {held : Bool} {t : TypeId} {q : IntKind} (ht : Try.prog.underlying t = some (.int q)) {c : Value} {x : Option (DataW H × List MemPlace)} (h : DataW.trod enc Try.prog w base sp held n t [c] = x) (hx : ∃ y, x = some y) :
    ∃ a : Int, c = .int q a ∧ (Lit.int q a).wf = true := by
  obtain ⟨y, rfl⟩ := hx
  obtain ⟨a, e, _, hw⟩ := DataW.trod_int ht h
  exact ⟨a, by simpa using e, hw⟩
theorem field_b {H : Type} {enc : TypeId × Value → H} {w : World} {base n : Nat} {sp : Nat → Bool} {held : Bool} {t : TypeId} (ht : Try.prog.underlying t = some .bool) {c : Value} {x : Option (DataW H × List MemPlace)} (h : DataW.trod enc Try.prog w base sp held n t [c] = x) (hx : ∃ y, x = some y) :
    ∃ a : Bool, c = .bool a := by
  obtain ⟨y, rfl⟩ := hx
  obtain ⟨a, e, _⟩ := DataW.trod_bool ht h
  exact ⟨a, by simpa using e⟩
theorem trap_cells {H : Type} {enc : TypeId × Value → H} {w : World} {base n : Nat} {sp : Nat → Bool} {held : Bool} {c0 c1 c2 : Value} {x : DataW H × List MemPlace} (h : DataW.trod enc Try.prog w base sp held n 24 [c0, c1, c2] = some x) :
    ∃ c va gu : Int, c0 = .int .i64 c ∧ c1 = .int .u64 va ∧ c2 = .int .u64 gu ∧ (Lit.int .i64 c).wf = true ∧ (Lit.int .u64 va).wf = true ∧ (Lit.int .u64 gu).wf = true := by
  obtain ⟨xs, n, _, _, _, hlen, hfs⟩ := DataW.trod_struct Try.underlying24 h
  have hl : xs.length = 3 := by simpa using hlen
  have e : ∀ i, i < 3 → ∃ y, xs[i]? = some y := fun i hi => ⟨_, List.getElem?_eq_getElem (by omega)⟩
  obtain ⟨a0, rfl, w0⟩ := field_i Try.underlying3 (by simpa [Value.cells, cells3, cells22] using hfs 0 _ rfl) (e 0 (by decide))
  obtain ⟨a1, rfl, w1⟩ := field_i Try.underlying22 (by simpa [Value.cells, cells3, cells22] using hfs 1 _ rfl) (e 1 (by decide))
  obtain ⟨a2, rfl, w2⟩ := field_i Try.underlying22 (by simpa [Value.cells, cells3, cells22] using hfs 2 _ rfl) (e 2 (by decide))
  exact ⟨a0, a1, a2, rfl, rfl, rfl, w0, w1, w2⟩
/-- an act -/
def actV (k n m v c va gu : Int) (on : Bool) : Value := .agg #[.int .i64 k, .int .i64 n, .int .i64 m, .int .u64 v, .int .i64 c, .int .u64 va, .int .u64 gu, .bool on]
theorem act_cells {H : Type} {enc : TypeId × Value → H} {w : World} {base n : Nat} {sp : Nat → Bool} {held : Bool} {cs : List Value} {x : DataW H × List MemPlace} (hl : cs.length = 8) (h : DataW.trod enc Try.prog w base sp held n 26 cs = some x) :
    ∃ (k n m v c va gu : Int) (on : Bool), cs = [.int .i64 k, .int .i64 n, .int .i64 m, .int .u64 v, .int .i64 c, .int .u64 va, .int .u64 gu, .bool on] ∧ (Lit.int .i64 k).wf = true ∧ (Lit.int .i64 n).wf = true ∧ (Lit.int .u64 v).wf = true := by
  match cs, hl with
  | [c0, c1, c2, c3, c4, c5, c6, c7], _ =>
    obtain ⟨xs, n, _, _, _, hlen, hfs⟩ := DataW.trod_struct Try.underlying26 h
    have hl : xs.length = 6 := by simpa using hlen
    have e : ∀ i, i < 6 → ∃ y, xs[i]? = some y := fun i hi => ⟨_, List.getElem?_eq_getElem (by omega)⟩
    obtain ⟨a0, rfl, w0⟩ := field_i Try.underlying3 (by simpa [Value.cells, cells3, cells22, cells24, cells4] using hfs 0 _ rfl) (e 0 (by decide))
    obtain ⟨a1, rfl, w1⟩ := field_i Try.underlying3 (by simpa [Value.cells, cells3, cells22, cells24, cells4] using hfs 1 _ rfl) (e 1 (by decide))
    obtain ⟨a2, rfl, w2⟩ := field_i Try.underlying3 (by simpa [Value.cells, cells3, cells22, cells24, cells4] using hfs 2 _ rfl) (e 2 (by decide))
    obtain ⟨a3, rfl, w3⟩ := field_i Try.underlying22 (by simpa [Value.cells, cells3, cells22, cells24, cells4] using hfs 3 _ rfl) (e 3 (by decide))
    obtain ⟨y4, hy4⟩ := e 4 (by decide)
    have h4 := hfs 4 _ rfl
    rw [hy4] at h4
    obtain ⟨a4, a5, a6, rfl, rfl, rfl, _⟩ := trap_cells (c0 := c4) (c1 := c5) (c2 := c6) (by simpa [Value.cells, cells3, cells22, cells24, cells4] using h4)
    obtain ⟨a7, rfl⟩ := field_b Try.underlying4 (by simpa [Value.cells, cells3, cells22, cells24, cells4] using hfs 5 _ rfl) (e 5 (by decide))
    exact ⟨a0, a1, a2, a3, a4, a5, a6, a7, rfl, w0, w1, w3⟩
theorem open_act {H : Type} {enc : TypeId × Value → H} {w : World} {base b0 : Nat} {sp : Nat → Bool} {held : Bool} {r : Reach} {v : Value} {d : DataW H} {p : List MemPlace}
    (hv : Value.okWide Try.prog w r b0 26 v) (h : DataW.Trod enc Try.prog w base sp held 26 v d p) :
    ∃ (k n m x c va gu : Int) (on : Bool), v = actV k n m x c va gu on := by
  obtain ⟨cs, rfl, hsz⟩ := okWide_struct Try.underlying26 hv
  obtain ⟨c0, c1, c2, c3, c4, c5, c6, c7, rfl⟩ := eight (hsz.trans cells26)
  obtain ⟨fuel, hf⟩ := h
  obtain ⟨k, n, m, x, c, va, gu, on, e, _⟩ := act_cells (by simp [Value.cells]) hf
  simp [Value.cells] at e
  obtain ⟨rfl, rfl, rfl, rfl, rfl, rfl, rfl, rfl⟩ := e
  exact ⟨k, n, m, x, c, va, gu, on, rfl⟩
theorem open_trap {H : Type} {enc : TypeId × Value → H} {w : World} {base b0 : Nat} {sp : Nat → Bool} {held : Bool} {r : Reach} {v : Value} {d : DataW H} {p : List MemPlace}
    (hv : Value.okWide Try.prog w r b0 24 v) (h : DataW.Trod enc Try.prog w base sp held 24 v d p) :
    ∃ c va gu : Int, v = .agg #[.int .i64 c, .int .u64 va, .int .u64 gu] ∧ (Lit.int .i64 c).wf = true ∧ (Lit.int .u64 va).wf = true ∧ (Lit.int .u64 gu).wf = true := by
  obtain ⟨cs, rfl, hsz⟩ := okWide_struct Try.underlying24 hv
  obtain ⟨c0, c1, c2, rfl⟩ := three (hsz.trans cells24)
  obtain ⟨fuel, hf⟩ := h
  obtain ⟨c, va, gu, rfl, rfl, rfl, hw⟩ := trap_cells (by simpa [Value.cells] using hf)
  exact ⟨c, va, gu, rfl, hw⟩
end Go.Proofs.Ytcgopiljbodcdaa
