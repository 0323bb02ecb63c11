/-
  EmulateLikely: a state of any number of instructions, the one being any operation.
  What a device does for a load or store is what the hart itself does: EmulateLikely returns true at every input, whatever the table of bits holds; the table of sizes holds what its own text lays, which the card ties.
-/
import Derived.Test.YtkckobbedpccfaaGreatDoorQLm1
import Derived.Test.YtkckobbedpccfaaGreatDoorQLm2
import Derived.Test.YtkckobbedpccfaaGreatDoorRows
import Derived.Test.YtkckobbedpccfaaGreatDoorTie
import Derived.Test.YtkckobbedpccfaaGreatDoorCards
import Derived.Test.YtkckobbedpccfaaGreatDoorQT
import Derived.Test.YtkckobbedpccfaaGreatDoorQO
import Derived.SevenTiedAt
namespace Go.Proofs.YtkckobbedpccfaaGreatDoor
open Go.RowKit
set_option linter.unusedVariables false
theorem lik_law [E.Bits] {W : World} {cs : Array Value} {X R : Nat → Int} {pc mode sec : Int} {ia pa : Option Addr} {iN iC pN pC : Nat} {vw : Value} {xs : List I5} {ps : List (Int × Int)} (hG : Looks cs X R pc mode sec (.slice ia iN iC) vw (.slice pa pN pC)) (hI : InsnsIn W ia iN xs) (hp : PokesIn W pa pN ps) (hpC : pN ≤ pC) (hpM : pC ≤ 9223372036854775807) (v : Int) (hv : C.U v) (hz : SZ W) (h1 : 1 < W.heap.size) (hT : ∀ p : Pl, p.o1 = W.heap[1]? → TransOK p TB) :
    Calls Tryz.prog 3 #[.agg cs, .int .u64 v] W fun e W' => e = .returned (.bool true) ∧ Below W.heap.size W W' := by
  by_cases hn : iN = 1
  · subst hn
    obtain ⟨hl, hi | ⟨B, off, rfl, hB, hc⟩⟩ := hI
    · omega
    · obtain ⟨c0, c1, c2, c3, c4⟩ := hc 0 (by decide)
      generalize xs.getD 0 .zero = o at *
      have c0 : W.cell? ⟨B, off, none⟩ = some (.int .i64 o.op) := c0
      have c1 : W.cell? ⟨B, off + 1, none⟩ = some (.int .i64 o.rd) := c1
      have c2 : W.cell? ⟨B, off + 2, none⟩ = some (.int .i64 o.rs1) := c2
      have c3 : W.cell? ⟨B, off + 3, none⟩ = some (.int .i64 o.rs2) := c3
      have c4 : W.cell? ⟨B, off + 4, none⟩ = some (.int .i64 o.imm) := c4
      by_cases ho : o.op < 23 ∨ 28 < o.op
      · exact lik_other hG hB c0 ho v
      · have h : o.op = 23 ∨ o.op = 24 ∨ o.op = 25 ∨ o.op = 26 ∨ o.op = 27 ∨ o.op = 28 := by omega
        rcases h with h | h | h | h | h | h
        · rw [h] at c0
          exact lik_23 hG hB c0 c1 c2 c3 c4 hp hpC hpM v hv hz h1 hT
        · rw [h] at c0
          exact lik_24 hG hB c0 c1 c2 c3 c4 hp hpC hpM v hv hz h1 hT
        · rw [h] at c0
          exact lik_25 hG hB c0 c1 c2 c3 c4 hp hpC hpM v hv hz h1 hT
        · rw [h] at c0
          exact lik_26 hG hB c0 c1 c2 c3 c4 hp hpC hpM v hv hz h1 hT
        · rw [h] at c0
          exact lik_27 hG hB c0 c1 c2 c3 c4 hp hpC hpM v hv hz h1 hT
        · rw [h] at c0
          exact lik_28 hG hB c0 c1 c2 c3 c4 hp hpC hpM v hv hz h1 hT
  · exact lik_many hG hn v
end Go.Proofs.YtkckobbedpccfaaGreatDoor
namespace Go.Proofs.YtkckobbedpccfaaGreatDoor.emulateLikely
open Go.ChangeShapes Go.WideShapes Go.ChangeAt Go.RowKit
set_option linter.unusedVariables false
theorem wf_U {x : Int} (h : (Lit.int .u64 x).wf = true) : C.U x := by
  simp [Lit.wf, IntKind.min, IntKind.max, IntKind.signed, IntKind.bits] at h
  exact ⟨by omega, by omega⟩
/-- a world for the witness: the settled one, the table of sizes holding what its initialiser lays -/
noncomputable def laidWorld (os : Os) : World :=
  { World.holding Tryz.prog os ⟨#[], #[], []⟩ with heap := (World.holding Tryz.prog os ⟨#[], #[], []⟩).heap.modify 0 fun
      | .cells _ t frozen => .cells #[.int .i64 1, .int .i64 0, .int .i64 4, .int .i64 32, .int .i64 8, .int .i64 0] t frozen
      | o => o }
theorem laid_met (os : Os) : laidMet Tryz.prog Rows.emulateLikelyRow.laid ((laidWorld os).forCall (fun _ _ => 0) ⟨#[], #[nilSt, .int .u64 0], []⟩).memory :=
  laidMet_of_run' 8 (by kernel_rfl) (by kernel_rfl)
def zero {H : Type} : Nat → List (DataW H) := fun n => List.replicate n (.lit (.int .u64 0))
theorem reads (os : Os) {H : Type} (enc : TypeId × Value → H) : ∃ places, DataW.whole enc Tryz.prog ((laidWorld os).forCall (fun _ _ => 0) ⟨#[], #[nilSt, .int .u64 0], []⟩).memory Tryz.f3.params.toList Rows.emulateLikelySpec.vars false #[nilSt, .int .u64 0].toList 8 =
    some ([.agg [.agg [.agg (zero 16), .lit (.int .u64 0), .lit (.int .i64 0)], .agg (zero 12), .nil, .nil, .nil, .lit (.int .i64 0)], .lit (.int .u64 0)], [], places) :=
  ⟨[], by kernel_rfl⟩

set_option maxRecDepth 100000 in
theorem lifted (os : Os) (started : os.Started) (H : Type) (enc : TypeId × Value → H) (F : Stop.Interp) :
    ReturnsInHanded {} Tryz.checked os 3 .any ((OpenSpec.ofChange Rows.emulateLikelySpec).preRow enc Tryz.prog Tryz.f3 Rows.emulateLikelyRow.domain false Rows.emulateLikelyRow.laid) (((OpenSpec.ofChange Rows.emulateLikelySpec).at F).post enc Tryz.prog Tryz.f3 false true false false) := by
  obtain ⟨places, hx⟩ := reads os enc
  refine returnsInHanded_of_row (C := Tryz.checked) (s := OpenSpec.ofChange Rows.emulateLikelySpec) own started (by kernel_rfl) Tryz.func3
    (witness_row_at (enc := enc) (C := Tryz.checked) false (laidWorld os) #[nilSt, .int .u64 0] rfl (by kernel_rfl) (by kernel_rfl) (by kernel_rfl)
      (OpenSpec.preRow_of_cond 8 hx (by kernel_rfl) (fun k hk => by cases hk) (by kernel_rfl) (laid_met os))) ?_
  intro W base args ds gs before hval0 hW _ _ _ hL hSh _
  have hval : ∀ (j : Nat) t v, Tryz.f3.params[j]? = some t → args[j]? = some v → Value.okWide Tryz.prog W .any base t v := hval0
  have hW' := hW
  obtain ⟨p, q, hA0, hV, rfl, hfz, hnd⟩ := hW
  have hA : DataW.TrodAll enc Tryz.prog W 0 (fun _ => true) true Tryz.f3.params.toList args.toList ds p := hA0
  rw [Tryz.params3] at hA hval
  obtain ⟨v0, vs0, d0, ds0, p0, q0, hargs, rfl, rfl, h0, r0⟩ := trodAll_cons hA
  obtain ⟨v1, vs1, d1, ds1, p1, q1, rfl, rfl, rfl, h1, r1⟩ := trodAll_cons r0
  obtain ⟨rfl, rfl, rfl⟩ := trodAll_nil r1
  obtain rfl : args = #[v0, v1] := by cases args; simp_all
  obtain ⟨rfl, rfl⟩ := trodVars_none hV
  have k0 := h0
  have lt0 : ∀ x ∈ p0, x.block < W.heap.size := by obtain ⟨m, hm⟩ := k0; exact DataW.trod_lt m _ _ _ hm
  obtain ⟨cs, X, R, pc, mode, sec, ia, iN, iC, vw, pa, pN, pC, xs, ps, rfl, hG, _, _, hI, hpC, hpM, hp⟩ := open_lik (hval 0 31 v0 rfl rfl) h0
  obtain ⟨a1, rfl, rfl, rfl, w1⟩ := open_int Tryz.underlying22 (hval 1 22 v1 rfl rfl) h1
  clear hA0 hval0
  have hz : SZ W := of_laid hL
  obtain ⟨bc, hb1, hbc⟩ := bits_here hSh
  refine (@lik_law (bitsIn bc) W cs X R pc mode sec ia pa iN iC pN pC vw xs ps hG hI hp hpC hpM a1 (wf_U w1) hz (lt_of_heap hb1) (fun p hp => @trans_ok (bitsIn bc) p (fun w hw => bits_bt hbc w (by rw [hw, hp]; exact hb1)))).mono fun e W' ⟨he, bel⟩ => ?_
  subst he
  exact ⟨_, rfl, _, _, _, [], _, [], hW', trodAll_mk1 (shut_bool Tryz.underlying4 _), (trodAll_cons_mk (Below.trod laidOut (by kernel_rfl) (of_decide_eq_true (by kernel_rfl)) k0 bel lt0) (trodAll_cons_mk (shut_int Tryz.underlying22 w1) trodAll_mk0)), rfl, bel.frame _, fun h => by cases h⟩

theorem over : Rows.EmulateLikelySaid :=
  OpenClaim.holds_of_cond 3 Tryz.f3 rfl rfl rfl rfl rfl rfl rfl ⟨rfl, rfl, rfl, rfl, rfl⟩ rfl rfl rfl rfl rfl (by kernel_rfl) Tryz.func3 (by kernel_rfl)
    (of_decide_eq_true (by kernel_rfl)) (by unfold Func.isWrapper; first | (rw [if_pos (by decide +kernel)]; kernel_rfl) | (rw [if_neg (by decide +kernel)]; exact ⟨rfl, rfl⟩))
    (fun os started H enc _ F => by rw [OpenClaim.pre_eq_preRow]; exact lifted os started H enc F)
theorem plain (f : FuncId) (fn : Func) (hf : Tryz.pinned.checked.prog.funcNamed "palisade/palisadelaw19.EmulateLikely" = some f) (hfn : Tryz.pinned.checked.prog.funcs[f]? = some fn) :
    false = Tryz.pinned.checked.prog.looks [] ∧ ∀ (j : Nat) t, fn.params[j]? = some t → Tryz.pinned.checked.prog.wantsStandIn t = false := by
  obtain rfl : f = 3 := Option.some.inj ((show Tryz.prog.funcNamed "palisade/palisadelaw19.EmulateLikely" = some 3 by kernel_rfl).symm.trans hf) |>.symm
  obtain rfl : fn = Tryz.f3 := (Option.some.inj (Tryz.func3.symm.trans hfn)).symm
  refine ⟨by kernel_rfl, fun j t ht => ?_⟩
  rw [Tryz.params3] at ht
  have hm : t ∈ [31, 22] := by simpa using Array.mem_of_getElem? ht
  have hall : ([31, 22].all fun u => !Tryz.prog.wantsStandIn u) = true := by kernel_rfl
  exact (show Tryz.prog.wantsStandIn t = false by simpa using List.all_eq_true.1 hall t hm)
end Go.Proofs.YtkckobbedpccfaaGreatDoor.emulateLikely
namespace Go.Proofs.YtkckobbedpccfaaGreatDoor
open Go
theorem emulateLikely_holds : Rows.EmulateLikelyCardSaid :=
  Claim7.holds_tied_plain_at .later [] _ _ _ _ emulateLikely.over (fun _ h => by cases h) (by kernel_rfl) (fun _ h => by cases h) emulateLikely_row_tie rfl ⟨rfl, rfl⟩ (by kernel_rfl) rfl emulateLikely.plain (by kernel_rfl)
#print axioms emulateLikely_holds
end Go.Proofs.YtkckobbedpccfaaGreatDoor
