/-
  Each operation on numbers leaves the document's number in its register, and nothing else: HartMath returns true at every input, whatever the table of bits holds; the table of sizes holds what its own text lays, which the card ties.
-/
import Derived.Test.YtghpkbgfpagpgaaGreatDoorRows
import Derived.Test.YtghpkbgfpagpgaaGreatDoorTie
import Derived.Test.YtghpkbgfpagpgaaGreatDoorCards
import Derived.Test.YtghpkbgfpagpgaaGreatDoorQMath
import Derived.Test.YtghpkbgfpagpgaaGreatDoorQT
import Derived.Test.YtghpkbgfpagpgaaGreatDoorQO
import Derived.SevenTiedAt
namespace Go.Proofs.YtghpkbgfpagpgaaGreatDoor.hartMath
open Go.ChangeShapes Go.WideShapes Go.ChangeAt Go.RowKit
set_option linter.unusedVariables false
theorem wf_I {x : Int} (h : (Lit.int .i64 x).wf = true) : -9223372036854775808 ≤ x ∧ x < 9223372036854775808 := by
  simp [Lit.wf, IntKind.min, IntKind.max, IntKind.signed, IntKind.bits] at h
  exact ⟨by omega, by omega⟩
/-- a world for the witness: the settled one, the table of sizes holding what its initialiser lays -/
noncomputable def laidWorld (os : Os) : World :=
  { World.holding Tryz.prog os ⟨#[], #[], []⟩ with heap := (World.holding Tryz.prog os ⟨#[], #[], []⟩).heap.modify 0 fun
      | .cells _ t frozen => .cells #[.int .i64 1, .int .i64 0, .int .i64 4, .int .i64 32, .int .i64 8, .int .i64 0] t frozen
      | o => o }
theorem laid_met (os : Os) : laidMet Tryz.prog Rows.hartMathRow.laid ((laidWorld os).forCall (fun _ _ => 0) ⟨#[], #[nilSt, .int .i64 0], []⟩).memory :=
  laidMet_of_run' 8 (by kernel_rfl) (by kernel_rfl)
def zero {H : Type} : Nat → List (DataW H) := fun n => List.replicate n (.lit (.int .u64 0))
theorem reads (os : Os) {H : Type} (enc : TypeId × Value → H) : ∃ places, DataW.whole enc Tryz.prog ((laidWorld os).forCall (fun _ _ => 0) ⟨#[], #[nilSt, .int .i64 0], []⟩).memory Tryz.f8.params.toList Rows.hartMathSpec.vars false #[nilSt, .int .i64 0].toList 8 =
    some ([.agg [.agg [.agg (zero 16), .lit (.int .u64 0), .lit (.int .i64 0)], .agg (zero 12), .nil, .nil, .nil, .lit (.int .i64 0)], .lit (.int .i64 0)], [], places) :=
  ⟨[], by kernel_rfl⟩

set_option maxRecDepth 100000 in
theorem lifted (os : Os) (started : os.Started) (H : Type) (enc : TypeId × Value → H) (F : Stop.Interp) :
    ReturnsInHanded {} Tryz.checked os 8 .any ((OpenSpec.ofChange Rows.hartMathSpec).preRow enc Tryz.prog Tryz.f8 Rows.hartMathRow.domain false Rows.hartMathRow.laid) (((OpenSpec.ofChange Rows.hartMathSpec).at F).post enc Tryz.prog Tryz.f8 false true false false) := by
  obtain ⟨places, hx⟩ := reads os enc
  refine returnsInHanded_of_row (C := Tryz.checked) (s := OpenSpec.ofChange Rows.hartMathSpec) own started (by kernel_rfl) Tryz.func8
    (witness_row_at (enc := enc) (C := Tryz.checked) false (laidWorld os) #[nilSt, .int .i64 0] rfl (by kernel_rfl) (by kernel_rfl) (by kernel_rfl)
      (OpenSpec.preRow_of_cond 8 hx (by kernel_rfl) (fun k hk => by cases hk) (by kernel_rfl) (laid_met os))) ?_
  intro W base args ds gs before hval0 hW _ _ _ hL hSh _
  have hval : ∀ (j : Nat) t v, Tryz.f8.params[j]? = some t → args[j]? = some v → Value.okWide Tryz.prog W .any base t v := hval0
  have hW' := hW
  obtain ⟨p, q, hA0, hV, rfl, hfz, hnd⟩ := hW
  have hA : DataW.TrodAll enc Tryz.prog W 0 (fun _ => true) true Tryz.f8.params.toList args.toList ds p := hA0
  rw [Tryz.params8] at hA hval
  obtain ⟨v0, vs0, d0, ds0, p0, q0, hargs, rfl, rfl, h0, r0⟩ := trodAll_cons hA
  obtain ⟨v1, vs1, d1, ds1, p1, q1, rfl, rfl, rfl, h1, r1⟩ := trodAll_cons r0
  obtain ⟨rfl, rfl, rfl⟩ := trodAll_nil r1
  obtain rfl : args = #[v0, v1] := by cases args; simp_all
  obtain ⟨rfl, rfl⟩ := trodVars_none hV
  have k0 := h0
  have lt0 : ∀ x ∈ p0, x.block < W.heap.size := by obtain ⟨m, hm⟩ := k0; exact DataW.trod_lt m _ _ _ hm
  obtain ⟨cs, X, R, pc, mode, sec, vi, vw, vp, rfl, hG⟩ := open_looks (hval 0 31 v0 rfl rfl) h0
  obtain ⟨a1, rfl, rfl, rfl, w1⟩ := open_int Tryz.underlying3 (hval 1 3 v1 rfl rfl) h1
  clear hA0 hval0
  have hz : SZ W := of_laid hL
  obtain ⟨bc, hb1, hbc⟩ := bits_here hSh
  refine (@math_law (bitsIn bc) W cs X R pc mode sec vi vw vp hG hz (lt_of_heap hb1) (fun p hp => @trans_ok (bitsIn bc) p (fun w hw => bits_bt hbc w (by rw [hw, hp]; exact hb1))) a1 (wf_I w1).1 (by have := (wf_I w1).2; omega)).mono fun e W' ⟨he, bel⟩ => ?_
  subst he
  exact ⟨_, rfl, _, _, _, [], _, [], hW', trodAll_mk1 (shut_bool Tryz.underlying4 _), (trodAll_cons_mk (Below.trod laidOut (by kernel_rfl) (of_decide_eq_true (by kernel_rfl)) k0 bel lt0) (trodAll_cons_mk (shut_int Tryz.underlying3 w1) trodAll_mk0)), rfl, bel.frame _, fun h => by cases h⟩

theorem over : Rows.HartMathSaid :=
  OpenClaim.holds_of_cond 8 Tryz.f8 rfl rfl rfl rfl rfl rfl rfl ⟨rfl, rfl, rfl, rfl, rfl⟩ rfl rfl rfl rfl rfl (by kernel_rfl) Tryz.func8 (by kernel_rfl)
    (of_decide_eq_true (by kernel_rfl)) (by unfold Func.isWrapper; first | (rw [if_pos (by decide +kernel)]; kernel_rfl) | (rw [if_neg (by decide +kernel)]; exact ⟨rfl, rfl⟩))
    (fun os started H enc _ F => by rw [OpenClaim.pre_eq_preRow]; exact lifted os started H enc F)
theorem plain (f : FuncId) (fn : Func) (hf : Tryz.pinned.checked.prog.funcNamed "palisade/palisadelaw09.HartMath" = some f) (hfn : Tryz.pinned.checked.prog.funcs[f]? = some fn) :
    false = Tryz.pinned.checked.prog.looks [] ∧ ∀ (j : Nat) t, fn.params[j]? = some t → Tryz.pinned.checked.prog.wantsStandIn t = false := by
  obtain rfl : f = 8 := Option.some.inj ((show Tryz.prog.funcNamed "palisade/palisadelaw09.HartMath" = some 8 by kernel_rfl).symm.trans hf) |>.symm
  obtain rfl : fn = Tryz.f8 := (Option.some.inj (Tryz.func8.symm.trans hfn)).symm
  refine ⟨by kernel_rfl, fun j t ht => ?_⟩
  rw [Tryz.params8] at ht
  have hm : t ∈ [31, 3] := by simpa using Array.mem_of_getElem? ht
  have hall : ([31, 3].all fun u => !Tryz.prog.wantsStandIn u) = true := by kernel_rfl
  exact (show Tryz.prog.wantsStandIn t = false by simpa using List.all_eq_true.1 hall t hm)
end Go.Proofs.YtghpkbgfpagpgaaGreatDoor.hartMath
namespace Go.Proofs.YtghpkbgfpagpgaaGreatDoor
open Go
theorem hartMath_holds : Rows.HartMathCardSaid :=
  Claim7.holds_tied_plain_at .later [] _ _ _ _ hartMath.over (fun _ h => by cases h) (by kernel_rfl) (fun _ h => by cases h) hartMath_row_tie rfl ⟨rfl, rfl⟩ (by kernel_rfl) rfl hartMath.plain (by kernel_rfl)
#print axioms hartMath_holds
end Go.Proofs.YtghpkbgfpagpgaaGreatDoor
