/-
  What comes in by value: registers; a trap.
-/
import Derived.Test.YtkckobbedpccfaaDoorKRq
import Derived.ChangeOld
namespace Go.Proofs.YtkckobbedpccfaaDoor.K
open Go.ChangeShapes Go.WideShapes Go.ChangeAt Go.RowKit
set_option linter.unusedVariables false
set_option maxRecDepth 100000
theorem cellsR : Tryd.prog.cellsOf 26 = 18 := by kernel_rfl
theorem cellsX : Tryd.prog.cellsOf 24 = 16 := by kernel_rfl
theorem cellsU : Tryd.prog.cellsOf 23 = 1 := by kernel_rfl
theorem cells3 : Tryd.prog.cellsOf 3 = 1 := by kernel_rfl
theorem wf_U {x : Int} (h : (Lit.int .u64 x).wf = true) : U x := by
  simp [Lit.wf, IntKind.min, IntKind.max, IntKind.signed, IntKind.bits] at h
  exact ⟨by omega, by omega⟩
theorem wf_I {x : Int} (h : (Lit.int .i64 x).wf = true) : -9223372036854775808 ≤ x ∧ x < 9223372036854775808 := by
  simp [Lit.wf, IntKind.min, IntKind.max, IntKind.signed, IntKind.bits] at h
  exact ⟨by omega, by omega⟩
theorem wf_u32 {x : Int} (h : (Lit.int .u32 x).wf = true) : 0 ≤ x ∧ x ≤ 4294967295 := by
  simp [Lit.wf, IntKind.min, IntKind.max, IntKind.signed, IntKind.bits] at h
  exact ⟨by omega, by omega⟩
theorem field_i {H : Type} {enc : TypeId × Value → H} {w : World} {base n : Nat} {sp : Nat → Bool} {held : Bool} {t : TypeId} {q : IntKind} (ht : Tryd.prog.underlying t = some (.int q)) {c : Value} {x : Option (DataW H × List MemPlace)} (h : DataW.trod enc Tryd.prog w base sp held n t [c] = x) (hx : ∃ y, x = some y) :
    ∃ a : Int, c = .int q a ∧ (Lit.int q a).wf = true := by
  obtain ⟨y, rfl⟩ := hx
  obtain ⟨a, e, _, hw⟩ := DataW.trod_int ht h
  exact ⟨a, by simpa using e, hw⟩
theorem l18 {l : List Value} (h : l.length = 18) : ∃ c0 c1 c2 c3 c4 c5 c6 c7 c8 c9 c10 c11 c12 c13 c14 c15 c16 c17, l = [c0, c1, c2, c3, c4, c5, c6, c7, c8, c9, c10, c11, c12, c13, c14, c15, c16, c17] := by
  match l, h with
  | [c0, c1, c2, c3, c4, c5, c6, c7, c8, c9, c10, c11, c12, c13, c14, c15, c16, c17], _ => exact ⟨c0, c1, c2, c3, c4, c5, c6, c7, c8, c9, c10, c11, c12, c13, c14, c15, c16, c17, rfl⟩
theorem regs_of {H : Type} {enc : TypeId × Value → H} {w : World} {base m : Nat} {sp : Nat → Bool} {held : Bool} {l : List Value} {x : DataW H × List MemPlace} (hl : l.length = 18)
    (h : DataW.trod enc Tryd.prog w base sp held m 26 l = some x) : ∃ (X : Nat → Int) (pc md : Int), l = (regC X pc md).toList ∧ (∀ k, k < 16 → U (X k)) ∧ U pc ∧ -9223372036854775808 ≤ md ∧ md < 9223372036854775808 := by
  obtain ⟨c0, c1, c2, c3, c4, c5, c6, c7, c8, c9, c10, c11, c12, c13, c14, c15, c16, c17, rfl⟩ := l18 hl
  obtain ⟨ys, n2, _, _, _, hlen2, hfs2⟩ := DataW.trod_struct Tryd.underlying26 h
  have hy : ys.length = 3 := by simpa using hlen2
  have e' : ∀ i, i < 3 → ∃ y, ys[i]? = some y := fun i hi => ⟨_, List.getElem?_eq_getElem (by omega)⟩
  obtain ⟨pc, rfl, wp⟩ := field_i Tryd.underlying23 (by simpa [cellsU] using hfs2 1 _ rfl) (e' 1 (by decide))
  obtain ⟨md, rfl, wm⟩ := field_i Tryd.underlying3 (by simpa [cells3] using hfs2 2 _ rfl) (e' 2 (by decide))
  obtain ⟨z0, g0⟩ := e' 0 (by decide)
  have f0 : DataW.trod enc Tryd.prog w base sp held n2 24 [c0, c1, c2, c3, c4, c5, c6, c7, c8, c9, c10, c11, c12, c13, c14, c15] = some z0 := by
    have := hfs2 0 _ rfl
    rw [g0] at this
    simpa [cellsX] using this
  obtain ⟨zs, m3, _, _, hl3, hlen3, hfs3⟩ := DataW.trod_array Tryd.underlying24 f0
  have e3 : ∀ i, i < 16 → ∃ y, zs[i]? = some y := fun i hi => ⟨_, List.getElem?_eq_getElem (by omega)⟩
  obtain ⟨x0, rfl, w0⟩ := field_i Tryd.underlying23 (by simpa [cellsU] using hfs3 0 (by decide)) (e3 0 (by decide))
  obtain ⟨x1, rfl, w1⟩ := field_i Tryd.underlying23 (by simpa [cellsU] using hfs3 1 (by decide)) (e3 1 (by decide))
  obtain ⟨x2, rfl, w2⟩ := field_i Tryd.underlying23 (by simpa [cellsU] using hfs3 2 (by decide)) (e3 2 (by decide))
  obtain ⟨x3, rfl, w3⟩ := field_i Tryd.underlying23 (by simpa [cellsU] using hfs3 3 (by decide)) (e3 3 (by decide))
  obtain ⟨x4, rfl, w4⟩ := field_i Tryd.underlying23 (by simpa [cellsU] using hfs3 4 (by decide)) (e3 4 (by decide))
  obtain ⟨x5, rfl, w5⟩ := field_i Tryd.underlying23 (by simpa [cellsU] using hfs3 5 (by decide)) (e3 5 (by decide))
  obtain ⟨x6, rfl, w6⟩ := field_i Tryd.underlying23 (by simpa [cellsU] using hfs3 6 (by decide)) (e3 6 (by decide))
  obtain ⟨x7, rfl, w7⟩ := field_i Tryd.underlying23 (by simpa [cellsU] using hfs3 7 (by decide)) (e3 7 (by decide))
  obtain ⟨x8, rfl, w8⟩ := field_i Tryd.underlying23 (by simpa [cellsU] using hfs3 8 (by decide)) (e3 8 (by decide))
  obtain ⟨x9, rfl, w9⟩ := field_i Tryd.underlying23 (by simpa [cellsU] using hfs3 9 (by decide)) (e3 9 (by decide))
  obtain ⟨x10, rfl, w10⟩ := field_i Tryd.underlying23 (by simpa [cellsU] using hfs3 10 (by decide)) (e3 10 (by decide))
  obtain ⟨x11, rfl, w11⟩ := field_i Tryd.underlying23 (by simpa [cellsU] using hfs3 11 (by decide)) (e3 11 (by decide))
  obtain ⟨x12, rfl, w12⟩ := field_i Tryd.underlying23 (by simpa [cellsU] using hfs3 12 (by decide)) (e3 12 (by decide))
  obtain ⟨x13, rfl, w13⟩ := field_i Tryd.underlying23 (by simpa [cellsU] using hfs3 13 (by decide)) (e3 13 (by decide))
  obtain ⟨x14, rfl, w14⟩ := field_i Tryd.underlying23 (by simpa [cellsU] using hfs3 14 (by decide)) (e3 14 (by decide))
  obtain ⟨x15, rfl, w15⟩ := field_i Tryd.underlying23 (by simpa [cellsU] using hfs3 15 (by decide)) (e3 15 (by decide))
  refine ⟨fun j => match j with | 0 => x0 | 1 => x1 | 2 => x2 | 3 => x3 | 4 => x4 | 5 => x5 | 6 => x6 | 7 => x7 | 8 => x8 | 9 => x9 | 10 => x10 | 11 => x11 | 12 => x12 | 13 => x13 | 14 => x14 | 15 => x15 | _ => 0, pc, md, rfl, fun j hj => ?_, wf_U wp, (wf_I wm).1, (wf_I wm).2⟩
  match j, hj with
  | 0, _ => exact wf_U w0
  | 1, _ => exact wf_U w1
  | 2, _ => exact wf_U w2
  | 3, _ => exact wf_U w3
  | 4, _ => exact wf_U w4
  | 5, _ => exact wf_U w5
  | 6, _ => exact wf_U w6
  | 7, _ => exact wf_U w7
  | 8, _ => exact wf_U w8
  | 9, _ => exact wf_U w9
  | 10, _ => exact wf_U w10
  | 11, _ => exact wf_U w11
  | 12, _ => exact wf_U w12
  | 13, _ => exact wf_U w13
  | 14, _ => exact wf_U w14
  | 15, _ => exact wf_U w15
  | k + 16, h => omega
theorem open_regs {H : Type} {enc : TypeId × Value → H} {w : World} {base b0 : Nat} {sp : Nat → Bool} {held : Bool} {r : Reach} {v : Value} {d : DataW H} {p : List MemPlace}
    (hv : Value.okWide Tryd.prog w r b0 26 v) (h : DataW.Trod enc Tryd.prog w base sp held 26 v d p) : ∃ (X : Nat → Int) (pc md : Int), v = .agg (regC X pc md) ∧ (∀ k, k < 16 → U (X k)) ∧ U pc ∧ -9223372036854775808 ≤ md ∧ md < 9223372036854775808 := by
  obtain ⟨⟨l⟩, rfl, hsz⟩ := okWide_struct Tryd.underlying26 hv
  obtain ⟨fuel, hf⟩ := h
  have hf' : DataW.trod enc Tryd.prog w base sp held fuel 26 l = some (d, p) := by simpa [Value.cells] using hf
  obtain ⟨X, pc, md, e, h1, h2, h3⟩ := regs_of (by simpa using hsz.trans cellsR) hf'
  exact ⟨X, pc, md, by rw [show (⟨l⟩ : Array Value) = regC X pc md from Array.ext' e], h1, h2, h3⟩
end Go.Proofs.YtkckobbedpccfaaDoor.K
