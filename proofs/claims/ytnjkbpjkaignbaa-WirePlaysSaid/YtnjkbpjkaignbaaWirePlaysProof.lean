/-
  Ports under any calls get the document's messages, at each step: WirePlays returns true at every input.
-/
import Derived.Test.YtnjkbpjkaignbaaPlaysWalk
import Derived.Test.YtnjkbpjkaignbaaPlaysNo
namespace Go.Proofs.Ytnjkbpjkaignbaa.wirePlays
open Go.ChangeShapes Go.WideShapes Go.ChangeAt Go.RowKit
set_option linter.unusedVariables false
set_option maxRecDepth 100000
theorem bytes3 : Try.prog.bytesOf 3 = 8 := by kernel_rfl
theorem ints_of {H : Type} {enc : TypeId × Value → H} {w : World} {fuel : Nat} {ad : Option Addr} {len cap : Nat} {x : DataW H × List MemPlace}
    (h : DataW.trod enc Try.prog w 0 (fun _ => true) true fuel 22 [.slice ad len cap] = some x) (hs : ∀ q ∈ x.1.weights Try.prog 22, q ≤ reachBytes) : ∃ zs, NumsIn .i64 w ad len zs ∧ len * 8 ≤ 140737488355328 ∧ (ad = none → len = 0 ∧ cap = 0) := by
  obtain ⟨⟨zs, hz⟩, _, _⟩ := nums_of (q := .i64) Try.underlying22 Try.underlying3 (by kernel_rfl) h
  refine ⟨zs, hz, ?_⟩
  rcases open_ints Try.underlying22 Try.underlying3 (by kernel_rfl) h with ⟨hcs, _⟩ | ⟨a, len', cap', ws, hcs, _, hle, hm, hw, hy, hcell, hwz⟩
  · simp at hcs
    obtain ⟨rfl, rfl, rfl⟩ := hcs
    exact ⟨by omega, fun _ => ⟨rfl, rfl⟩⟩
  · simp at hcs
    obtain ⟨rfl, rfl, rfl⟩ := hcs
    refine ⟨?_, fun h => by cases h⟩
    have hw' : ws.length = cap := by simpa using hw
    have := hs _ (by rw [hy]; simp only [DataW.weights, Try.underlying22]; exact List.mem_cons_self ..)
    rw [bytes3] at this
    simp only [lits, List.length_map, List.length_take, List.length_drop, reachBytes] at this
    omega
theorem walk (ga : Option Addr) (n gc0 : Nat) (zs : List Int) (hzl : zs.length = n) (hn8 : n * 8 ≤ 140737488355328) (hnil : ga = none → n = 0 ∧ gc0 = 0) (ad : Option Addr) (len cap : Nat) (w : World) (hG : Nu w ga n zs) (hA : ActsIn w ad len) (hlen : len < 9223372036854775808) :
    Calls Try.prog 3 #[.slice ga n gc0, .slice ad len cap] w fun e w' => e = .returned (.bool true) ∧ Below w.heap.size w w' := by
  by_cases hN : n < 1 ∨ 32 < n
  · exact walk_no ga n gc0 zs hN hzl hn8 hnil ad len cap w hG hlen
  · exact walk_yes ga n gc0 zs (by omega) (by omega) hzl ad len cap w hG hA hlen
theorem own : ownKnob Try.prog.godebug = none := by kernel_rfl
theorem laidOut : laidOutB Try.prog = true := by kernel_rfl
theorem lifted (os : Os) (started : os.Started) (H : Type) (enc : TypeId × Value → H) :
    ReturnsInHanded {} Try.checked os 3 .any (Rows.wirePlaysSpec.pre6 enc Try.prog Try.f3 Rows.wirePlaysRow.domain false) (Rows.wirePlaysSpec.post enc Try.prog Try.f3 false true false false) := by
  refine returnsInHanded_of_change_sized (C := Try.checked) own started (by kernel_rfl) Try.func3
    (ChangeSpec.witness6 (enc := enc) (C := Try.checked) false ⟨#[], #[.slice none 0 0, .slice none 0 0], []⟩ 8 (by kernel_rfl) (by kernel_rfl) (by kernel_rfl) (by kernel_rfl)) ?_
  intro W base args ds gs before hval0 hW hcnd hsz0 _
  have hval : ∀ (j : Nat) t v, Try.f3.params[j]? = some t → args[j]? = some v → Value.okWide Try.prog W .any base t v := hval0
  have hW' := hW
  obtain ⟨p, q, hA0, hV, rfl, hfz, hnd⟩ := hW
  have hA : DataW.TrodAll enc Try.prog W 0 (fun _ => true) true Try.f3.params.toList args.toList ds p := hA0
  have hsz : (DataW.weightsEach Try.prog (Try.f3.params.toList ++ Rows.wirePlaysSpec.plain.varTypes Try.prog) (ds ++ gs)).all (· ≤ reachBytes) = true := hsz0
  rw [Try.params3] at hA hval hsz
  obtain ⟨v0, vs0, d0, ds0, p0, q0, hargs, rfl, rfl, h0, r0⟩ := trodAll_cons hA
  obtain ⟨v1, vs1, d1, ds1, p1, q1, rfl, rfl, rfl, h1, r1⟩ := trodAll_cons r0
  obtain ⟨rfl, rfl, rfl⟩ := trodAll_nil r1
  obtain rfl : args = #[v0, v1] := by cases args; simp_all
  obtain ⟨rfl, rfl⟩ := trodVars_none hV
  have k0 := h0
  have lt0 : ∀ x ∈ p0, x.block < W.heap.size := by obtain ⟨m, hm⟩ := k0; exact DataW.trod_lt m _ _ _ hm
  have k1 := h1
  have lt1 : ∀ x ∈ p1, x.block < W.heap.size := by obtain ⟨m, hm⟩ := k1; exact DataW.trod_lt m _ _ _ hm
  have hs0 : ∀ q ∈ d0.weights Try.prog 22, q ≤ reachBytes := fun q hq => by have := List.all_eq_true.1 hsz q (by simp [DataW.weightsEach, hq]); exact of_decide_eq_true this
  have hs1 : ∀ q ∈ d1.weights Try.prog 23, q ≤ reachBytes := fun q hq => by have := List.all_eq_true.1 hsz q (by simp [DataW.weightsEach, hq]); exact of_decide_eq_true this
  obtain ⟨ga, n, gc0, rfl⟩ := okWide_slice Try.underlying22 (hval 0 22 v0 rfl rfl)
  obtain ⟨fuel, hf⟩ := h0
  obtain ⟨zs, hz, hl8, hnil⟩ := ints_of (by simpa [Value.cells] using hf) hs0
  obtain ⟨ad, len, cap, rfl⟩ := okWide_slice Try.underlying23 (hval 1 23 v1 rfl rfl)
  obtain ⟨fuel1, hf1⟩ := h1
  obtain ⟨hK, hl1, hl2⟩ := acts_of (by simpa [Value.cells] using hf1) hs1
  have hmx : maxLen < 9223372036854775808 := by decide
  clear hA0 hval0
  refine (walk ga n gc0 zs hz.1 hl8 hnil ad len cap W hz.2.2 hK (by omega)).mono fun r W' ⟨he, bel⟩ => ?_
  subst he
  exact ⟨_, rfl, _, _, _, [], _, [], hW', trodAll_mk1 (shut_bool Try.underlying4 _), (trodAll_cons_mk (Below.trod laidOut (by kernel_rfl) (of_decide_eq_true (by kernel_rfl)) k0 bel lt0) (trodAll_cons_mk (Below.trod laidOut (by kernel_rfl) (of_decide_eq_true (by kernel_rfl)) k1 bel lt1) trodAll_mk0)), rfl, bel.frame _, fun h => by cases h⟩
theorem over : Rows.wirePlaysRow.holds Try.pinned (OpenSpec.ofChange Rows.wirePlaysSpec) :=
  OpenClaim.holds_of_wide 3 Try.f3 rfl rfl rfl rfl rfl rfl rfl ⟨rfl, rfl, rfl, rfl, rfl⟩ rfl rfl rfl rfl rfl (by kernel_rfl) Try.func3 (by kernel_rfl)
    (of_decide_eq_true (by kernel_rfl)) (by unfold Func.isWrapper; first | (rw [if_pos (by decide +kernel)]; kernel_rfl) | (rw [if_neg (by decide +kernel)]; exact ⟨rfl, rfl⟩))
    (fun os started H enc _ => lifted os started H enc)
end Go.Proofs.Ytnjkbpjkaignbaa.wirePlays
namespace Go.Proofs.Ytnjkbpjkaignbaa
theorem wirePlays_holds : Rows.WirePlaysSaid := wirePlays.over
#print axioms wirePlays_holds
end Go.Proofs.Ytnjkbpjkaignbaa
