/-
  What tells a call, a wait or a refusal of the second stage has changed nothing, and from User control registers change by traps alone: HartHolds returns true at every input whose argument is of bulk at most 1048576, whatever the table of bits holds; the table of sizes holds what its own text lays, which the card ties.
-/
import Derived.Test.YtghpkbgfpagpgaaGreatDoorRows
import Derived.Test.YtghpkbgfpagpgaaGreatDoorTie
import Derived.Test.YtghpkbgfpagpgaaGreatDoorCards
import Derived.Test.YtghpkbgfpagpgaaGreatDoorQHolds
import Derived.Test.YtghpkbgfpagpgaaGreatDoorQT
import Derived.Test.YtghpkbgfpagpgaaGreatDoorQO
import Derived.SevenTiedAt
namespace Go.Proofs.YtghpkbgfpagpgaaGreatDoor.hartHolds
open Go.ChangeShapes Go.WideShapes Go.ChangeAt Go.RowKit
set_option linter.unusedVariables false
set_option maxRecDepth 100000
theorem sec_of {H : Type} {enc : TypeId × Value → H} {w : World} {b0 : Nat} {r : Reach} {cs : Array Value} {d : DataW H} {p : List MemPlace} {sec : Int}
    (hv : Value.okWide Tryz.prog w r b0 31 (.agg cs)) (h : DataW.Trod enc Tryz.prog w 0 (fun _ => true) true 31 (.agg cs) d p) (hk : cs[33]? = some (.int .i64 sec)) : sec < 9223372036854775808 := by
  obtain ⟨l⟩ := cs
  obtain ⟨fuel, hf⟩ := h
  have hf' : DataW.trod enc Tryz.prog w 0 (fun _ => true) true fuel 31 l = some (d, p) := by simpa [Value.cells] using hf
  obtain ⟨xs, m, _, hx, hl, hlen, hfs⟩ := DataW.trod_struct Tryz.underlying31 hf'
  have hl6 : xs.length = 6 := by simpa using hlen
  obtain ⟨s2, t5, wsec⟩ := fld_i Tryz.underlying3 (show DataW.trod enc Tryz.prog w 0 (fun _ => true) true m 3 ((l.drop 33).take (Tryz.prog.cellsOf 3)) = xs[5]? from hfs 5 _ rfl) ⟨_, List.getElem?_eq_getElem (by omega)⟩
  rw [cells3] at t5
  have k33 : l[33]? = some (.int .i64 s2) := at_drop t5
  have e : l[33]? = some (.int .i64 sec) := by simpa using hk
  rw [k33] at e
  cases e
  exact (wf_I wsec).2
/-- a world for the witness: the settled one, the table of sizes holding what its initialiser lays -/
noncomputable def laidWorld (os : Os) : World :=
  { World.holding Tryz.prog os ⟨#[], #[], []⟩ with heap := (World.holding Tryz.prog os ⟨#[], #[], []⟩).heap.modify 0 fun
      | .cells _ t frozen => .cells #[.int .i64 1, .int .i64 0, .int .i64 4, .int .i64 32, .int .i64 8, .int .i64 0] t frozen
      | o => o }
theorem laid_met (os : Os) : laidMet Tryz.prog Rows.hartHoldsRow.laid ((laidWorld os).forCall (fun _ _ => 0) ⟨#[], #[nilSt], []⟩).memory :=
  laidMet_of_run' 8 (by kernel_rfl) (by kernel_rfl)
def zero {H : Type} : Nat → List (DataW H) := fun n => List.replicate n (.lit (.int .u64 0))
theorem reads (os : Os) {H : Type} (enc : TypeId × Value → H) : ∃ places, DataW.whole enc Tryz.prog ((laidWorld os).forCall (fun _ _ => 0) ⟨#[], #[nilSt], []⟩).memory Tryz.f4.params.toList Rows.hartHoldsSpec.vars false #[nilSt].toList 8 =
    some ([.agg [.agg [.agg (zero 16), .lit (.int .u64 0), .lit (.int .i64 0)], .agg (zero 12), .nil, .nil, .nil, .lit (.int .i64 0)]], [], places) :=
  ⟨[], by kernel_rfl⟩

set_option maxRecDepth 100000 in
theorem lifted (os : Os) (started : os.Started) (H : Type) (enc : TypeId × Value → H) (F : Stop.Interp) :
    ReturnsInHanded {} Tryz.checked os 4 .any ((Rows.OpenSpec.upto Rows.hartHoldsSpec).preRow enc Tryz.prog Tryz.f4 Rows.hartHoldsUptoRow.domain false Rows.hartHoldsUptoRow.laid) (((Rows.OpenSpec.upto Rows.hartHoldsSpec).at F).post enc Tryz.prog Tryz.f4 false true false false) := by
  obtain ⟨places, hx⟩ := reads os enc
  refine returnsInHanded_of_row (C := Tryz.checked) (s := Rows.OpenSpec.upto Rows.hartHoldsSpec) own started (by kernel_rfl) Tryz.func4
    (witness_row_at (enc := enc) (C := Tryz.checked) false (laidWorld os) #[nilSt] rfl (by kernel_rfl) (by kernel_rfl) (by kernel_rfl)
      (OpenSpec.preRow_of_cond 8 hx (by kernel_rfl) (fun k hk => by cases hk; kernel_rfl) (by kernel_rfl) (laid_met os))) ?_
  intro W base args ds gs before hval0 hW _ hcond _ hL hSh _
  have hval : ∀ (j : Nat) t v, Tryz.f4.params[j]? = some t → args[j]? = some v → Value.okWide Tryz.prog W .any base t v := hval0
  have hW' := hW
  obtain ⟨p, q, hA0, hV, rfl, hfz, hnd⟩ := hW
  have hA : DataW.TrodAll enc Tryz.prog W 0 (fun _ => true) true Tryz.f4.params.toList args.toList ds p := hA0
  rw [Tryz.params4] at hA hval
  obtain ⟨v0, vs0, d0, ds0, p0, q0, hargs, rfl, rfl, h0, r0⟩ := trodAll_cons hA
  obtain ⟨rfl, rfl, rfl⟩ := trodAll_nil r0
  obtain rfl : args = #[v0] := by cases args; simp_all
  obtain ⟨rfl, rfl⟩ := trodVars_none hV
  have k0 := h0
  have lt0 : ∀ x ∈ p0, x.block < W.heap.size := by obtain ⟨m, hm⟩ := k0; exact DataW.trod_lt m _ _ _ hm
  have hbulk : Rows.uptoBulk d0 ≤ 1048576 := by
    have h := of_decide_eq_true (hcond _ rfl)
    simp only [Rows.uptoBulkAll, List.append_nil] at h
    omega
  obtain ⟨cs, X, R, pc, mode, sec, iN, wN, pN, xs, ws, ps, ia, wa, pa, iC, wC, pC, rfl, hG⟩ := open_state (hval 0 31 v0 rfl rfl) h0 hbulk
  have hsec := sec_of (hval 0 31 _ rfl rfl) h0 hG.k33
  clear hA0 hval0
  have hz : SZ W := of_laid hL
  obtain ⟨bc, hb1, hbc⟩ := bits_here hSh
  refine (@holds_law (bitsIn bc) W cs X R pc mode sec iN wN pN xs ws ps ia wa pa iC wC pC hG hz (lt_of_heap hb1) (fun p hp => @trans_ok (bitsIn bc) p (fun w hw => bits_bt hbc w (by rw [hw, hp]; exact hb1))) hsec).mono fun e W' ⟨he, bel⟩ => ?_
  subst he
  exact ⟨_, rfl, _, _, _, [], _, [], hW', trodAll_mk1 (shut_bool Tryz.underlying4 _), (trodAll_cons_mk (Below.trod laidOut (by kernel_rfl) (of_decide_eq_true (by kernel_rfl)) k0 bel lt0) trodAll_mk0), rfl, bel.frame _, fun h => by cases h⟩

theorem over : Rows.HartHoldsUptoSaid :=
  OpenClaim.holds_of_cond 4 Tryz.f4 rfl rfl rfl rfl rfl rfl rfl ⟨rfl, rfl, rfl, rfl, rfl⟩ rfl rfl rfl rfl rfl (by kernel_rfl) Tryz.func4 (by kernel_rfl)
    (of_decide_eq_true (by kernel_rfl)) (by unfold Func.isWrapper; first | (rw [if_pos (by decide +kernel)]; kernel_rfl) | (rw [if_neg (by decide +kernel)]; exact ⟨rfl, rfl⟩))
    (fun os started H enc _ F => by rw [OpenClaim.pre_eq_preRow]; exact lifted os started H enc F)
theorem plain (f : FuncId) (fn : Func) (hf : Tryz.pinned.checked.prog.funcNamed "palisade/palisadelaw09.HartHolds" = some f) (hfn : Tryz.pinned.checked.prog.funcs[f]? = some fn) :
    false = Tryz.pinned.checked.prog.looks [] ∧ ∀ (j : Nat) t, fn.params[j]? = some t → Tryz.pinned.checked.prog.wantsStandIn t = false := by
  obtain rfl : f = 4 := Option.some.inj ((show Tryz.prog.funcNamed "palisade/palisadelaw09.HartHolds" = some 4 by kernel_rfl).symm.trans hf) |>.symm
  obtain rfl : fn = Tryz.f4 := (Option.some.inj (Tryz.func4.symm.trans hfn)).symm
  refine ⟨by kernel_rfl, fun j t ht => ?_⟩
  rw [Tryz.params4] at ht
  have hm : t ∈ [31] := by simpa using Array.mem_of_getElem? ht
  have hall : ([31].all fun u => !Tryz.prog.wantsStandIn u) = true := by kernel_rfl
  exact (show Tryz.prog.wantsStandIn t = false by simpa using List.all_eq_true.1 hall t hm)
end Go.Proofs.YtghpkbgfpagpgaaGreatDoor.hartHolds
namespace Go.Proofs.YtghpkbgfpagpgaaGreatDoor
open Go
theorem hartHolds_holds : Rows.HartHoldsUptoCardSaid :=
  Claim7.holds_tied_plain_at .later [] _ _ _ _ hartHolds.over (fun _ h => by cases h) (by kernel_rfl) (fun _ h => by cases h) hartHoldsUpto_row_tie rfl ⟨rfl, rfl⟩ (by kernel_rfl) rfl hartHolds.plain (by kernel_rfl)
#print axioms hartHolds_holds
end Go.Proofs.YtghpkbgfpagpgaaGreatDoor
