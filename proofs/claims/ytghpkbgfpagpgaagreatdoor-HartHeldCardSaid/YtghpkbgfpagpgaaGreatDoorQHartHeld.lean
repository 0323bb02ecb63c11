/-
  A store that is only done if its address is held is done once behind each hold, and not when another one has stored there: HartHeld returns true at every input, whatever the table of bits holds; the table of sizes holds what its own text lays, which the card ties.
-/
import Derived.Test.YtghpkbgfpagpgaaGreatDoorRows
import Derived.Test.YtghpkbgfpagpgaaGreatDoorTie
import Derived.Test.YtghpkbgfpagpgaaGreatDoorCards
import Derived.Test.YtghpkbgfpagpgaaGreatDoorQHeld
import Derived.Test.YtghpkbgfpagpgaaGreatDoorQT
import Derived.Test.YtghpkbgfpagpgaaGreatDoorQO
import Derived.SevenTiedAt
namespace Go.Proofs.YtghpkbgfpagpgaaGreatDoor.hartHeld
open Go.ChangeShapes Go.WideShapes Go.ChangeAt Go.RowKit
set_option linter.unusedVariables false
/-- a world for the witness: the settled one, the table of sizes holding what its initialiser lays -/
noncomputable def laidWorld (os : Os) : World :=
  { World.holding Tryz.prog os ⟨#[], #[], []⟩ with heap := (World.holding Tryz.prog os ⟨#[], #[], []⟩).heap.modify 0 fun
      | .cells _ t frozen => .cells #[.int .i64 1, .int .i64 0, .int .i64 4, .int .i64 32, .int .i64 8, .int .i64 0] t frozen
      | o => o }
theorem laid_met (os : Os) : laidMet Tryz.prog Rows.hartHeldRow.laid ((laidWorld os).forCall (fun _ _ => 0) ⟨#[], #[nilSt, .int .u64 0, .bool false], []⟩).memory :=
  laidMet_of_run' 8 (by kernel_rfl) (by kernel_rfl)
def zero {H : Type} : Nat → List (DataW H) := fun n => List.replicate n (.lit (.int .u64 0))
theorem reads (os : Os) {H : Type} (enc : TypeId × Value → H) : ∃ places, DataW.whole enc Tryz.prog ((laidWorld os).forCall (fun _ _ => 0) ⟨#[], #[nilSt, .int .u64 0, .bool false], []⟩).memory Tryz.f7.params.toList Rows.hartHeldSpec.vars false #[nilSt, .int .u64 0, .bool false].toList 8 =
    some ([.agg [.agg [.agg (zero 16), .lit (.int .u64 0), .lit (.int .i64 0)], .agg (zero 12), .nil, .nil, .nil, .lit (.int .i64 0)], .lit (.int .u64 0), .lit (.bool false)], [], places) :=
  ⟨[], by kernel_rfl⟩

set_option maxRecDepth 100000 in
theorem lifted (os : Os) (started : os.Started) (H : Type) (enc : TypeId × Value → H) (F : Stop.Interp) :
    ReturnsInHanded {} Tryz.checked os 7 .any ((OpenSpec.ofChange Rows.hartHeldSpec).preRow enc Tryz.prog Tryz.f7 Rows.hartHeldRow.domain false Rows.hartHeldRow.laid) (((OpenSpec.ofChange Rows.hartHeldSpec).at F).post enc Tryz.prog Tryz.f7 false true false false) := by
  obtain ⟨places, hx⟩ := reads os enc
  refine returnsInHanded_of_row (C := Tryz.checked) (s := OpenSpec.ofChange Rows.hartHeldSpec) own started (by kernel_rfl) Tryz.func7
    (witness_row_at (enc := enc) (C := Tryz.checked) false (laidWorld os) #[nilSt, .int .u64 0, .bool false] rfl (by kernel_rfl) (by kernel_rfl) (by kernel_rfl)
      (OpenSpec.preRow_of_cond 8 hx (by kernel_rfl) (fun k hk => by cases hk) (by kernel_rfl) (laid_met os))) ?_
  intro W base args ds gs before hval0 hW _ _ _ hL hSh _
  have hval : ∀ (j : Nat) t v, Tryz.f7.params[j]? = some t → args[j]? = some v → Value.okWide Tryz.prog W .any base t v := hval0
  have hW' := hW
  obtain ⟨p, q, hA0, hV, rfl, hfz, hnd⟩ := hW
  have hA : DataW.TrodAll enc Tryz.prog W 0 (fun _ => true) true Tryz.f7.params.toList args.toList ds p := hA0
  rw [Tryz.params7] at hA hval
  obtain ⟨v0, vs0, d0, ds0, p0, q0, hargs, rfl, rfl, h0, r0⟩ := trodAll_cons hA
  obtain ⟨v1, vs1, d1, ds1, p1, q1, rfl, rfl, rfl, h1, r1⟩ := trodAll_cons r0
  obtain ⟨v2, vs2, d2, ds2, p2, q2, rfl, rfl, rfl, h2, r2⟩ := trodAll_cons r1
  obtain ⟨rfl, rfl, rfl⟩ := trodAll_nil r2
  obtain rfl : args = #[v0, v1, v2] := by cases args; simp_all
  obtain ⟨rfl, rfl⟩ := trodVars_none hV
  have k0 := h0
  have lt0 : ∀ x ∈ p0, x.block < W.heap.size := by obtain ⟨m, hm⟩ := k0; exact DataW.trod_lt m _ _ _ hm
  obtain ⟨cs, X, R, pc, mode, sec, vi, vw, vp, rfl, hG⟩ := open_looks (hval 0 31 v0 rfl rfl) h0
  obtain ⟨a1, rfl, rfl, rfl, w1⟩ := open_int Tryz.underlying22 (hval 1 22 v1 rfl rfl) h1
  obtain ⟨bk, rfl, rfl, rfl⟩ := open_bool Tryz.underlying4 (hval 2 4 v2 rfl rfl) h2
  clear hA0 hval0
  have hz : SZ W := of_laid hL
  obtain ⟨bc, hb1, hbc⟩ := bits_here hSh
  refine (@held_law (bitsIn bc) W cs X R pc mode sec vi vw vp hG hz (lt_of_heap hb1) (fun p hp => @trans_ok (bitsIn bc) p (fun w hw => bits_bt hbc w (by rw [hw, hp]; exact hb1))) a1 (wf_U w1) bk).mono fun e W' ⟨he, bel⟩ => ?_
  subst he
  exact ⟨_, rfl, _, _, _, [], _, [], hW', trodAll_mk1 (shut_bool Tryz.underlying4 _), (trodAll_cons_mk (Below.trod laidOut (by kernel_rfl) (of_decide_eq_true (by kernel_rfl)) k0 bel lt0) (trodAll_cons_mk (shut_int Tryz.underlying22 w1) (trodAll_cons_mk (shut_bool Tryz.underlying4 _) trodAll_mk0))), rfl, bel.frame _, fun h => by cases h⟩

theorem over : Rows.HartHeldSaid :=
  OpenClaim.holds_of_cond 7 Tryz.f7 rfl rfl rfl rfl rfl rfl rfl ⟨rfl, rfl, rfl, rfl, rfl⟩ rfl rfl rfl rfl rfl (by kernel_rfl) Tryz.func7 (by kernel_rfl)
    (of_decide_eq_true (by kernel_rfl)) (by unfold Func.isWrapper; first | (rw [if_pos (by decide +kernel)]; kernel_rfl) | (rw [if_neg (by decide +kernel)]; exact ⟨rfl, rfl⟩))
    (fun os started H enc _ F => by rw [OpenClaim.pre_eq_preRow]; exact lifted os started H enc F)
theorem plain (f : FuncId) (fn : Func) (hf : Tryz.pinned.checked.prog.funcNamed "palisade/palisadelaw09.HartHeld" = some f) (hfn : Tryz.pinned.checked.prog.funcs[f]? = some fn) :
    false = Tryz.pinned.checked.prog.looks [] ∧ ∀ (j : Nat) t, fn.params[j]? = some t → Tryz.pinned.checked.prog.wantsStandIn t = false := by
  obtain rfl : f = 7 := Option.some.inj ((show Tryz.prog.funcNamed "palisade/palisadelaw09.HartHeld" = some 7 by kernel_rfl).symm.trans hf) |>.symm
  obtain rfl : fn = Tryz.f7 := (Option.some.inj (Tryz.func7.symm.trans hfn)).symm
  refine ⟨by kernel_rfl, fun j t ht => ?_⟩
  rw [Tryz.params7] at ht
  have hm : t ∈ [31, 22, 4] := by simpa using Array.mem_of_getElem? ht
  have hall : ([31, 22, 4].all fun u => !Tryz.prog.wantsStandIn u) = true := by kernel_rfl
  exact (show Tryz.prog.wantsStandIn t = false by simpa using List.all_eq_true.1 hall t hm)
end Go.Proofs.YtghpkbgfpagpgaaGreatDoor.hartHeld
namespace Go.Proofs.YtghpkbgfpagpgaaGreatDoor
open Go
theorem hartHeld_holds : Rows.HartHeldCardSaid :=
  Claim7.holds_tied_plain_at .later [] _ _ _ _ hartHeld.over (fun _ h => by cases h) (by kernel_rfl) (fun _ h => by cases h) hartHeld_row_tie rfl ⟨rfl, rfl⟩ (by kernel_rfl) rfl hartHeld.plain (by kernel_rfl)
#print axioms hartHeld_holds
end Go.Proofs.YtghpkbgfpagpgaaGreatDoor
