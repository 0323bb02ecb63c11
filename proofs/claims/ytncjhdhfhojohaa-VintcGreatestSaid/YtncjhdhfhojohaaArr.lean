/-
  Sixteen numbers that came in by value.
-/
import Derived.Test.YtncjhdhfhojohaaOpens
namespace Go.Proofs.Ytncjhdhfhojohaa
open Go.ChangeShapes Go.WideShapes Go.ChangeAt Go.RowKit
set_option linter.unusedVariables false
set_option maxRecDepth 100000
theorem cells59 : Try.prog.cellsOf 59 = 16 := by kernel_rfl
theorem okWide_array {n : Nat} {e t : TypeId} {w : World} {r : Reach} {b0 : Nat} {v : Value} (ht : Try.prog.underlying t = some (.array n e)) (h : Value.okWide Try.prog w r b0 t v) : ∃ cs, v = .agg cs ∧ cs.size = Try.prog.cellsOf t := by
  simp only [Value.okWide, ht] at h
  obtain ⟨cs, h1, h2, _⟩ := h
  exact ⟨cs, h1, h2⟩
/-- the list of numbers of these values -/
def nums (l : List Value) : Nat → Int := fun i => match l[i]? with
  | some (.int _ x) => x
  | _ => 0
theorem open_arr {H : Type} {enc : TypeId × Value → H} {w : World} {base b0 : Nat} {sp : Nat → Bool} {held : Bool} {r : Reach} {v : Value} {d : DataW H} {p : List MemPlace}
    (hv : Value.okWide Try.prog w r b0 59 v) (h : DataW.Trod enc Try.prog w base sp held 59 v d p) : ∃ (cs : Array Value) (N : Nat → Int), v = .agg cs ∧ cs.size = 16 ∧ ∀ i, i < 16 → cs[i]? = some (.int .i64 (N i)) := by
  obtain ⟨⟨l⟩, rfl, hsz⟩ := okWide_array Try.underlying59 hv
  obtain ⟨fuel, hf⟩ := h
  have hf' : DataW.trod enc Try.prog w base sp held fuel 59 l = some (d, p) := by simpa [Value.cells] using hf
  obtain ⟨xs, m, _, _, hl, hlen, hfs⟩ := DataW.trod_array Try.underlying59 hf'
  rw [cells59] at hl hsz
  refine ⟨_, nums l, rfl, hsz, fun i hi => ?_⟩
  have h1 := hfs i hi
  have h2 : (l.drop (i * Try.prog.cellsOf 3)).take (Try.prog.cellsOf 3) = [l[i]'(by omega)] := by
    rw [ocells3, Nat.mul_one, List.drop_eq_getElem_cons (show i < l.length by omega)]
    rfl
  rw [h2] at h1
  obtain ⟨x, hx, hw⟩ := fld_int h1 ⟨_, List.getElem?_eq_getElem (by omega)⟩
  show l.toArray[i]? = _
  rw [List.getElem?_toArray]
  unfold nums
  rw [List.getElem?_eq_getElem (show i < l.length by omega), hx]
end Go.Proofs.Ytncjhdhfhojohaa
