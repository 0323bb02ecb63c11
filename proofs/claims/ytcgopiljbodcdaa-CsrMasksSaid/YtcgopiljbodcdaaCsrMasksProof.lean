/-
  What a write leaves of a register are its own bits alone, and nothing but that register changes: CsrMasks returns true at every input.
-/
import Derived.Test.YtcgopiljbodcdaaMasksWalk
import Derived.Test.YtcgopiljbodcdaaOpens
namespace Go.Proofs.Ytcgopiljbodcdaa.csrMasks
open Go.ChangeShapes Go.WideShapes Go.ChangeAt Go.RowKit
set_option linter.unusedVariables false
theorem own : ownKnob Try.prog.godebug = none := by kernel_rfl
theorem laidOut : laidOutB Try.prog = true := by kernel_rfl
theorem cells28 : Try.prog.cellsOf 28 = 12 := by kernel_rfl
theorem wf_U {x : Int} (h : (Lit.int .u64 x).wf = true) : U x := by
  simp [Lit.wf, IntKind.min, IntKind.max, IntKind.signed, IntKind.bits] at h
  exact ⟨by omega, by omega⟩
theorem wf_I {x : Int} (h : (Lit.int .i64 x).wf = true) : -9223372036854775808 ≤ x ∧ x < 9223372036854775808 := by
  simp [Lit.wf, IntKind.min, IntKind.max, IntKind.signed, IntKind.bits] at h
  exact ⟨by omega, by omega⟩
theorem okWide_array {n : Nat} {e t : TypeId} {w : World} {r : Reach} {b0 : Nat} {v : Value} (ht : Try.prog.underlying t = some (.array n e)) (h : Value.okWide Try.prog w r b0 t v) : ∃ cs, v = .agg cs ∧ cs.size = Try.prog.cellsOf t := by
  simp only [Value.okWide, ht] at h
  obtain ⟨cs, h1, h2, _⟩ := h
  exact ⟨cs, h1, h2⟩
/-- the list of numbers of these values -/
def nums (l : List Value) : Nat → Int := fun i => match l[i]? with
  | some (.int _ x) => x
  | _ => 0
theorem open_arr {H : Type} {enc : TypeId × Value → H} {w : World} {base b0 : Nat} {sp : Nat → Bool} {held : Bool} {r : Reach} {v : Value} {d : DataW H} {p : List MemPlace}
    (hv : Value.okWide Try.prog w r b0 28 v) (h : DataW.Trod enc Try.prog w base sp held 28 v d p) : ∃ W : Nat → Int, v = .agg (arr W) ∧ ∀ i, i < 12 → U (W i) := by
  obtain ⟨⟨l⟩, rfl, hsz⟩ := okWide_array Try.underlying28 hv
  obtain ⟨fuel, hf⟩ := h
  have hf' : DataW.trod enc Try.prog w base sp held fuel 28 l = some (d, p) := by simpa [Value.cells] using hf
  obtain ⟨xs, m, _, _, hl, hlen, hfs⟩ := DataW.trod_array Try.underlying28 hf'
  rw [cells28] at hl
  have q : ∀ i, i < 12 → ∃ x, l[i]? = some (.int .u64 x) ∧ U x := fun i hi => by
    have h1 := hfs i hi
    have h2 : (l.drop (i * Try.prog.cellsOf 22)).take (Try.prog.cellsOf 22) = [l[i]'(by omega)] := by
      rw [cells22, Nat.mul_one, List.drop_eq_getElem_cons (show i < l.length by omega)]
      rfl
    rw [h2] at h1
    obtain ⟨x, hx, hw⟩ := field_i Try.underlying22 h1 ⟨_, List.getElem?_eq_getElem (by omega)⟩
    exact ⟨x, by rw [List.getElem?_eq_getElem (show i < l.length by omega), hx], wf_U hw⟩
  have q' : ∀ i, i < 12 → l[i]? = some (.int .u64 (nums l i)) ∧ U (nums l i) := fun i hi => by
    obtain ⟨x, h1, h2⟩ := q i hi
    unfold nums
    rw [h1]
    exact ⟨rfl, h2⟩
  refine ⟨nums l, ?_, fun i hi => (q' i hi).2⟩
  have e : l = (arr (nums l)).toList := by
    apply List.ext_getElem?
    intro i
    by_cases hi : i < 12
    · rw [(q' i hi).1]
      have := arr_at (nums l) i hi
      simpa using this.symm
    · rw [List.getElem?_eq_none (by omega), List.getElem?_eq_none (by simp [arr]; omega)]
  have e2 : (⟨l⟩ : Array Value) = arr (nums l) := Array.ext' e
  rw [← e2]

set_option maxRecDepth 100000 in
theorem lifted (os : Os) (started : os.Started) (H : Type) (enc : TypeId × Value → H) :
    ReturnsInHanded {} Try.checked os 5 .any (Rows.csrMasksSpec.pre6 enc Try.prog Try.f5 Rows.csrMasksRow.domain false) (Rows.csrMasksSpec.post enc Try.prog Try.f5 false true false false) := by
  refine returnsInHanded_of_change (C := Try.checked) own started (by kernel_rfl) Try.func5
    (ChangeSpec.witness6 (enc := enc) (C := Try.checked) false ⟨#[], #[.int .i64 0, .int .u64 0, .agg (arr (fun _ => 0))], []⟩ 8 (by kernel_rfl) (by kernel_rfl) (by kernel_rfl) (by kernel_rfl)) ?_
  intro W base args ds gs before hval0 hW hcnd _
  have hval : ∀ (j : Nat) t v, Try.f5.params[j]? = some t → args[j]? = some v → Value.okWide Try.prog W .any base t v := hval0
  have hW' := hW
  obtain ⟨p, q, hA0, hV, rfl, hfz, hnd⟩ := hW
  have hA : DataW.TrodAll enc Try.prog W 0 (fun _ => true) true Try.f5.params.toList args.toList ds p := hA0
  rw [Try.params5] at hA hval
  obtain ⟨v0, vs0, d0, ds0, p0, q0, hargs, rfl, rfl, h0, r0⟩ := trodAll_cons hA
  obtain ⟨v1, vs1, d1, ds1, p1, q1, rfl, rfl, rfl, h1, r1⟩ := trodAll_cons r0
  obtain ⟨v2, vs2, d2, ds2, p2, q2, rfl, rfl, rfl, h2, r2⟩ := trodAll_cons r1
  obtain ⟨rfl, rfl, rfl⟩ := trodAll_nil r2
  obtain rfl : args = #[v0, v1, v2] := by cases args; simp_all
  obtain ⟨rfl, rfl⟩ := trodVars_none hV
  have k0 := h0
  have lt0 : ∀ x ∈ p0, x.block < W.heap.size := by obtain ⟨m, hm⟩ := k0; exact DataW.trod_lt m _ _ _ hm
  have k1 := h1
  have lt1 : ∀ x ∈ p1, x.block < W.heap.size := by obtain ⟨m, hm⟩ := k1; exact DataW.trod_lt m _ _ _ hm
  have k2 := h2
  have lt2 : ∀ x ∈ p2, x.block < W.heap.size := by obtain ⟨m, hm⟩ := k2; exact DataW.trod_lt m _ _ _ hm
  obtain ⟨n, rfl, _, _, wn⟩ := open_int Try.underlying3 (hval 0 3 v0 rfl rfl) h0
  obtain ⟨x, rfl, _, _, wx⟩ := open_int Try.underlying22 (hval 1 22 v1 rfl rfl) h1
  obtain ⟨A, rfl, hU⟩ := open_arr (hval 2 28 v2 rfl rfl) h2
  clear hA0 hval0
  refine (walk n x (wf_I wn).1 (wf_I wn).2 (wf_U wx) A hU W).mono fun e W' ⟨he, bel⟩ => ?_
  subst he
  exact ⟨_, rfl, _, _, _, [], _, [], hW', trodAll_mk1 (shut_bool Try.underlying4 _), (trodAll_cons_mk (Below.trod laidOut (by kernel_rfl) (of_decide_eq_true (by kernel_rfl)) k0 bel lt0) (trodAll_cons_mk (Below.trod laidOut (by kernel_rfl) (of_decide_eq_true (by kernel_rfl)) k1 bel lt1) (trodAll_cons_mk (Below.trod laidOut (by kernel_rfl) (of_decide_eq_true (by kernel_rfl)) k2 bel lt2) trodAll_mk0))), rfl, bel.frame _, fun h => by cases h⟩

theorem over : Rows.csrMasksRow.holds Try.pinned (OpenSpec.ofChange Rows.csrMasksSpec) :=
  OpenClaim.holds_of_wide 5 Try.f5 rfl rfl rfl rfl rfl rfl rfl ⟨rfl, rfl, rfl, rfl, rfl⟩ rfl rfl rfl rfl rfl (by kernel_rfl) Try.func5 (by kernel_rfl)
    (of_decide_eq_true (by kernel_rfl)) (by unfold Func.isWrapper; first | (rw [if_pos (by decide +kernel)]; kernel_rfl) | (rw [if_neg (by decide +kernel)]; exact ⟨rfl, rfl⟩))
    (fun os started H enc _ => lifted os started H enc)
end Go.Proofs.Ytcgopiljbodcdaa.csrMasks
namespace Go.Proofs.Ytcgopiljbodcdaa
theorem csrMasks_holds : Rows.CsrMasksSaid := csrMasks.over
#print axioms csrMasks_holds
end Go.Proofs.Ytcgopiljbodcdaa
