/-
  What comes in by value: thirty numbers; an act.
-/
import Derived.Test.YtjkaeclemflifaaVg
import Derived.ChangeOld
namespace Go.Proofs.Ytjkaeclemflifaa
open Go.ChangeShapes Go.WideShapes Go.ChangeAt Go.RowKit
set_option linter.unusedVariables false
set_option maxRecDepth 100000
theorem cells63 : Try.prog.cellsOf 63 = 30 := by kernel_rfl
theorem cells42 : Try.prog.cellsOf 42 = 21 := by kernel_rfl
theorem cells30 : Try.prog.cellsOf 30 = 1 := by kernel_rfl
theorem cells3 : Try.prog.cellsOf 3 = 1 := by kernel_rfl
theorem wf_U {x : Int} (h : (Lit.int .u64 x).wf = true) : U x := by
  simp [Lit.wf, IntKind.min, IntKind.max, IntKind.signed, IntKind.bits] at h
  exact ⟨by omega, by omega⟩
theorem wf_I {x : Int} (h : (Lit.int .i64 x).wf = true) : -9223372036854775808 ≤ x ∧ x < 9223372036854775808 := by
  simp [Lit.wf, IntKind.min, IntKind.max, IntKind.signed, IntKind.bits] at h
  exact ⟨by omega, by omega⟩
theorem field_i {H : Type} {enc : TypeId × Value → H} {w : World} {base n : Nat} {sp : Nat → Bool} {held : Bool} {t : TypeId} {q : IntKind} (ht : Try.prog.underlying t = some (.int q)) {c : Value} {x : Option (DataW H × List MemPlace)} (h : DataW.trod enc Try.prog w base sp held n t [c] = x) (hx : ∃ y, x = some y) :
    ∃ a : Int, c = .int q a ∧ (Lit.int q a).wf = true := by
  obtain ⟨y, rfl⟩ := hx
  obtain ⟨a, e, _, hw⟩ := DataW.trod_int ht h
  exact ⟨a, by simpa using e, hw⟩
theorem okWide_array {n : Nat} {e t : TypeId} {w : World} {r : Reach} {b0 : Nat} {v : Value} (ht : Try.prog.underlying t = some (.array n e)) (h : Value.okWide Try.prog w r b0 t v) : ∃ cs, v = .agg cs ∧ cs.size = Try.prog.cellsOf t := by
  simp only [Value.okWide, ht] at h
  obtain ⟨cs, h1, h2, _⟩ := h
  exact ⟨cs, h1, h2⟩
/-- the list of numbers of these values -/
def nums (l : List Value) : Nat → Int := fun i => match l[i]? with
  | some (.int _ x) => x
  | _ => 0
theorem open_img {H : Type} {enc : TypeId × Value → H} {w : World} {base b0 : Nat} {sp : Nat → Bool} {held : Bool} {r : Reach} {v : Value} {d : DataW H} {p : List MemPlace}
    (hv : Value.okWide Try.prog w r b0 63 v) (h : DataW.Trod enc Try.prog w base sp held 63 v d p) : ∃ N R : Nat → Int, v = .agg (imA N R) ∧ W18 N ∧ ∀ k, k < 12 → U (R k) := by
  obtain ⟨⟨l⟩, rfl, hsz⟩ := okWide_array Try.underlying63 hv
  obtain ⟨fuel, hf⟩ := h
  have hf' : DataW.trod enc Try.prog w base sp held fuel 63 l = some (d, p) := by simpa [Value.cells] using hf
  obtain ⟨xs, m, _, _, hl, hlen, hfs⟩ := DataW.trod_array Try.underlying63 hf'
  rw [cells63] at hl
  have q : ∀ i, i < 30 → ∃ x, l[i]? = some (.int .u64 x) ∧ U x := fun i hi => by
    have h1 := hfs i hi
    have h2 : (l.drop (i * Try.prog.cellsOf 30)).take (Try.prog.cellsOf 30) = [l[i]'(by omega)] := by
      rw [cells30, Nat.mul_one, List.drop_eq_getElem_cons (show i < l.length by omega)]
      rfl
    rw [h2] at h1
    obtain ⟨x, hx, hw⟩ := field_i Try.underlying30 h1 ⟨_, List.getElem?_eq_getElem (by omega)⟩
    exact ⟨x, by rw [List.getElem?_eq_getElem (show i < l.length by omega), hx], wf_U hw⟩
  have q' : ∀ i, i < 30 → l[i]? = some (.int .u64 (nums l i)) ∧ U (nums l i) := fun i hi => by
    obtain ⟨x, h1, h2⟩ := q i hi
    unfold nums
    rw [h1]
    exact ⟨rfl, h2⟩
  refine ⟨nums l, fun k => nums l (18 + k), ?_, fun k hk => (q' k (by omega)).2, fun k hk => (q' (18 + k) (by omega)).2⟩
  have e : l = (imA (nums l) (fun k => nums l (18 + k))).toList := by
    apply List.ext_getElem?
    intro i
    by_cases hi : i < 18
    · rw [(q' i (by omega)).1]
      have := imA_lo (nums l) (fun k => nums l (18 + k)) i hi
      simpa using this.symm
    · by_cases hi2 : i < 30
      · obtain ⟨k, rfl⟩ : ∃ k, i = 18 + k := ⟨i - 18, by omega⟩
        rw [(q' (18 + k) hi2).1]
        have := imA_hi (nums l) (fun k => nums l (18 + k)) k (by omega)
        simpa using this.symm
      · rw [List.getElem?_eq_none (by omega), List.getElem?_eq_none (by simp [imA]; omega)]
  have e2 : (⟨l⟩ : Array Value) = imA (nums l) (fun k => nums l (18 + k)) := Array.ext' e
  rw [← e2]
/-- an act, by its cells alone -/
theorem open_act {w : World} {b0 : Nat} {r : Reach} {v : Value} (hv : Value.okWide Try.prog w r b0 42 v) : ∃ cs, v = .agg cs ∧ cs.size = 21 := by
  obtain ⟨cs, rfl, hsz⟩ := okWide_struct Try.underlying42 hv
  exact ⟨cs, rfl, hsz.trans cells42⟩
def zeroL : Value := .agg zeros30
def zeroAct : Value := .agg #[.int .i64 0, .int .i64 0, .int .i64 0, .int .u64 0, .int .u64 0, .int .u64 0, .int .u64 0, .int .u64 0, .int .u64 0, .int .u64 0, .int .u64 0, .int .u64 0, .int .u64 0, .int .u64 0, .int .u64 0, .int .u64 0, .int .u64 0, .int .u64 0, .int .u64 0, .int .u64 0, .int .i64 0]
end Go.Proofs.Ytjkaeclemflifaa
