/-
  What an entry allows is what its flags say, of its kind of asker alone, and an entry of a table allows nothing: EntryAllows returns true at every input.
-/
import Derived.Test.YtonmmfomlfbpnaaAllowsWalk
import Derived.ChangeOld
namespace Go.Proofs.Ytonmmfomlfbpnaa.entryAllows
open Go.ChangeShapes Go.WideShapes Go.ChangeAt Go.RowKit
set_option linter.unusedVariables false
theorem own : ownKnob Try.prog.godebug = none := by kernel_rfl
theorem laidOut : laidOutB Try.prog = true := by kernel_rfl
theorem cells23 : Try.prog.cellsOf 23 = 8 := by kernel_rfl
theorem cells3 : Try.prog.cellsOf 3 = 1 := by kernel_rfl
theorem cells4 : Try.prog.cellsOf 4 = 1 := by kernel_rfl

theorem eight {α : Type} {cs : Array α} (h : cs.size = 8) : ∃ a b c d e f g i, cs = #[a, b, c, d, e, f, g, i] := by
  obtain ⟨l⟩ := cs
  match l, h with
  | [a, b, c, d, e, f, g, i], _ => exact ⟨a, b, c, d, e, f, g, i, rfl⟩

theorem field_int {H : Type} {enc : TypeId × Value → H} {w : World} {base n : Nat} {sp : Nat → Bool} {held : Bool} {c : Value} {x : Option (DataW H × List MemPlace)} (h : DataW.trod enc Try.prog w base sp held n 3 [c] = x) (hx : ∃ y, x = some y) :
    ∃ a : Int, c = .int .i64 a ∧ (Lit.int .i64 a).wf = true := by
  obtain ⟨y, rfl⟩ := hx
  obtain ⟨a, e, _, hw⟩ := DataW.trod_int Try.underlying3 h
  exact ⟨a, by simpa using e, hw⟩
theorem field_bool {H : Type} {enc : TypeId × Value → H} {w : World} {base n : Nat} {sp : Nat → Bool} {held : Bool} {c : Value} {x : Option (DataW H × List MemPlace)} (h : DataW.trod enc Try.prog w base sp held n 4 [c] = x) (hx : ∃ y, x = some y) :
    ∃ a : Bool, c = .bool a := by
  obtain ⟨y, rfl⟩ := hx
  obtain ⟨a, e, _⟩ := DataW.trod_bool Try.underlying4 h
  exact ⟨a, by simpa using e⟩

/-- an entry that came in by value: seven flags and a number -/
theorem open_ent {H : Type} {enc : TypeId × Value → H} {w : World} {base b0 : Nat} {sp : Nat → Bool} {held : Bool} {r : Reach} {v : Value} {d : DataW H} {p : List MemPlace}
    (hv : Value.okWide Try.prog w r b0 23 v) (h : DataW.Trod enc Try.prog w base sp held 23 v d p) :
    ∃ (b0 b1 b2 b3 b4 b5 b6 : Bool) (f : Int), v = ent b0 b1 b2 b3 b4 b5 b6 f ∧ (Lit.int .i64 f).wf = true := by
  obtain ⟨cs, rfl, hsz⟩ := okWide_struct Try.underlying23 hv
  obtain ⟨c0, c1, c2, c3, c4, c5, c6, c7, rfl⟩ := eight (hsz.trans cells23)
  obtain ⟨fuel, hf⟩ := h
  obtain ⟨xs, n, _, _, _, hlen, hfs⟩ := DataW.trod_struct Try.underlying23 hf
  have hl : xs.length = 8 := by simpa using hlen
  have e : ∀ i, i < 8 → ∃ y, xs[i]? = some y := fun i hi => ⟨_, List.getElem?_eq_getElem (by omega)⟩
  obtain ⟨a0, rfl⟩ := field_bool (by simpa [Value.cells, cells3, cells4] using hfs 0 _ rfl) (e 0 (by decide))
  obtain ⟨a1, rfl⟩ := field_bool (by simpa [Value.cells, cells3, cells4] using hfs 1 _ rfl) (e 1 (by decide))
  obtain ⟨a2, rfl⟩ := field_bool (by simpa [Value.cells, cells3, cells4] using hfs 2 _ rfl) (e 2 (by decide))
  obtain ⟨a3, rfl⟩ := field_bool (by simpa [Value.cells, cells3, cells4] using hfs 3 _ rfl) (e 3 (by decide))
  obtain ⟨a4, rfl⟩ := field_bool (by simpa [Value.cells, cells3, cells4] using hfs 4 _ rfl) (e 4 (by decide))
  obtain ⟨a5, rfl⟩ := field_bool (by simpa [Value.cells, cells3, cells4] using hfs 5 _ rfl) (e 5 (by decide))
  obtain ⟨a6, rfl⟩ := field_bool (by simpa [Value.cells, cells3, cells4] using hfs 6 _ rfl) (e 6 (by decide))
  obtain ⟨a7, rfl, w7⟩ := field_int (by simpa [Value.cells, cells3, cells4] using hfs 7 _ rfl) (e 7 (by decide))
  exact ⟨a0, a1, a2, a3, a4, a5, a6, a7, rfl, w7⟩

set_option maxRecDepth 100000 in
theorem lifted (os : Os) (started : os.Started) (H : Type) (enc : TypeId × Value → H) :
    ReturnsInHanded {} Try.checked os 3 .any (Rows.entryAllowsSpec.pre6 enc Try.prog Try.f3 Rows.entryAllowsRow.domain false) (Rows.entryAllowsSpec.post enc Try.prog Try.f3 false true false false) := by
  refine returnsInHanded_of_change (C := Try.checked) own started (by kernel_rfl) Try.func3
    (ChangeSpec.witness6 (enc := enc) (C := Try.checked) false ⟨#[], #[ent false false false false false false false 0, .bool false], []⟩ 8 (by kernel_rfl) (by kernel_rfl) (by kernel_rfl) (by kernel_rfl)) ?_
  intro W base args ds gs before hval0 hW hcnd _
  have hval : ∀ (j : Nat) t v, Try.f3.params[j]? = some t → args[j]? = some v → Value.okWide Try.prog W .any base t v := hval0
  have hW' := hW
  obtain ⟨p, q, hA0, hV, rfl, hfz, hnd⟩ := hW
  have hA : DataW.TrodAll enc Try.prog W 0 (fun _ => true) true Try.f3.params.toList args.toList ds p := hA0
  rw [Try.params3] at hA hval
  obtain ⟨v0, vs0, d0, ds0, p0, q0, hargs, rfl, rfl, h0, r0⟩ := trodAll_cons hA
  obtain ⟨v1, vs1, d1, ds1, p1, q1, rfl, rfl, rfl, h1, r1⟩ := trodAll_cons r0
  obtain ⟨rfl, rfl, rfl⟩ := trodAll_nil r1
  obtain rfl : args = #[v0, v1] := by cases args; simp_all
  obtain ⟨rfl, rfl⟩ := trodVars_none hV
  have k0 := h0
  have lt0 : ∀ x ∈ p0, x.block < W.heap.size := by obtain ⟨m, hm⟩ := k0; exact DataW.trod_lt m _ _ _ hm
  have k1 := h1
  have lt1 : ∀ x ∈ p1, x.block < W.heap.size := by obtain ⟨m, hm⟩ := k1; exact DataW.trod_lt m _ _ _ hm
  obtain ⟨b0, b1, b2, b3, b4, b5, b6, f, rfl, wf⟩ := open_ent (hval 0 23 v0 rfl rfl) h0
  obtain ⟨k, rfl, _⟩ := open_bool Try.underlying4 (hval 1 4 v1 rfl rfl) h1
  clear hA0 hval0
  refine (walk b0 b1 b2 b3 b4 b5 b6 f k W).mono fun e W' ⟨he, bel⟩ => ?_
  subst he
  exact ⟨_, rfl, _, _, _, [], _, [], hW', trodAll_mk1 (shut_bool Try.underlying4 _), (trodAll_cons_mk (Below.trod laidOut (by kernel_rfl) (of_decide_eq_true (by kernel_rfl)) k0 bel lt0) (trodAll_cons_mk (Below.trod laidOut (by kernel_rfl) (of_decide_eq_true (by kernel_rfl)) k1 bel lt1) trodAll_mk0)), rfl, bel.frame _, fun h => by cases h⟩

theorem over : Rows.entryAllowsRow.holds Try.pinned (OpenSpec.ofChange Rows.entryAllowsSpec) :=
  OpenClaim.holds_of_wide 3 Try.f3 rfl rfl rfl rfl rfl rfl rfl ⟨rfl, rfl, rfl, rfl, rfl⟩ rfl rfl rfl rfl rfl (by kernel_rfl) Try.func3 (by kernel_rfl)
    (of_decide_eq_true (by kernel_rfl)) (by unfold Func.isWrapper; first | (rw [if_pos (by decide +kernel)]; kernel_rfl) | (rw [if_neg (by decide +kernel)]; exact ⟨rfl, rfl⟩))
    (fun os started H enc _ => lifted os started H enc)
end Go.Proofs.Ytonmmfomlfbpnaa.entryAllows
namespace Go.Proofs.Ytonmmfomlfbpnaa
theorem entryAllows_holds : Rows.EntryAllowsSaid := entryAllows.over
#print axioms entryAllows_holds
end Go.Proofs.Ytonmmfomlfbpnaa
