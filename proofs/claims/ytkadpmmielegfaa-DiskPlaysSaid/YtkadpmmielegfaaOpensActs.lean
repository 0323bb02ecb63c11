/-
  Calls that came in as a slice.
-/
import Derived.Test.YtkadpmmielegfaaPb
namespace Go.Proofs.Ytkadpmmielegfaa
open Go.ChangeShapes Go.WideShapes Go.ChangeAt Go.RowKit
set_option linter.unusedVariables false

theorem weights_all {H : Type} {e : TypeId} {q : Nat} : ∀ {ds : List (DataW H)} {d : DataW H}, d ∈ ds → q ∈ d.weights Try.prog e → q ∈ DataW.weightsAll Try.prog e ds
  | d0 :: ds, d, hd, hq => by
    simp only [DataW.weightsAll, List.mem_append]
    rcases List.mem_cons.1 hd with rfl | hd
    · exact .inl hq
    · exact .inr (weights_all hd hq)
theorem seven_cells {w : World} {x : Addr} {cs : List Value} (h : w.cells? 0 x 7 = some cs) : ∃ c0 c1 c2 c3 c4 c5 c6, cs = [c0, c1, c2, c3, c4, c5, c6] ∧ w.cell? (x.add 0) = some c0 ∧ w.cell? (x.add 1) = some c1 ∧ w.cell? (x.add 2) = some c2 ∧ w.cell? (x.add 3) = some c3 ∧ w.cell? (x.add 4) = some c4 ∧ w.cell? (x.add 5) = some c5 ∧ w.cell? (x.add 6) = some c6 := by
  unfold World.cells? at h
  rw [if_pos (Nat.zero_le _), show List.range 7 = [0, 1, 2, 3, 4, 5, 6] from rfl] at h
  simp only [List.mapM_cons, List.mapM_nil, Option.pure_def, Option.bind_eq_bind, Option.bind_eq_some_iff, Option.some.injEq] at h
  obtain ⟨c0, h0, l1, ⟨c1, h1, l2, ⟨c2, h2, l3, ⟨c3, h3, l4, ⟨c4, h4, l5, ⟨c5, h5, l6, ⟨c6, h6, l7, rfl, rfl⟩, rfl⟩, rfl⟩, rfl⟩, rfl⟩, rfl⟩, rfl⟩ := h
  exact ⟨c0, c1, c2, c3, c4, c5, c6, rfl, h0, h1, h2, h3, h4, h5, h6⟩

theorem acts_of {H : Type} {enc : TypeId × Value → H} {w : World} {fuel : Nat} {ad : Option Addr} {len cap : Nat} {x : DataW H × List MemPlace}
    (h : DataW.trod enc Try.prog w 0 (fun _ => true) true fuel 22 [.slice ad len cap] = some x) (hs : ∀ q ∈ x.1.weights Try.prog 22, q ≤ reachBytes) :
    ActsIn w ad len ∧ len ≤ cap ∧ cap ≤ maxLen := by
  rcases DataW.trod_slice Try.underlying22 h with ⟨hcs, _⟩ | ⟨a, len', cap', elems, rest, n, _, hcs, hx, _, hle, hm, hel, hall, _, _⟩
  · simp at hcs
    obtain ⟨rfl, rfl, rfl⟩ := hcs
    exact ⟨.inl rfl, by omega, by omega⟩
  · simp at hcs
    obtain ⟨rfl, rfl, rfl⟩ := hcs
    refine ⟨?_, hle, hm⟩
    rcases Nat.eq_zero_or_pos len with h0 | hpos
    · exact .inl h0
    have hw : ∀ i, i < len → ∃ (x : Ac) (ys : List Int), (∀ q u, x.cs[q]? = some u → w.cell? ((a.add (i * 7)).add q) = some u) ∧ (Lit.int .i64 x.K).wf = true ∧ SL w x.a x.len ys ∧ (x.a = none → x.len = 0 ∧ x.cap = 0) ∧ x.len ≤ 140737488351232 ∧ x.len ≤ x.cap := by
      intro i hi
      have hb := hall i hi
      rw [List.getElem?_eq_getElem (by omega), ocells41] at hb
      obtain ⟨cs, hc, ht⟩ := Option.bind_eq_some_iff.1 hb
      obtain ⟨c0, c1, c2, c3, c4, c5, c6, rfl, e0, e1, e2, e3, e4, e5, e6⟩ := seven_cells hc
      obtain ⟨kd, r, K, a', l', cap2, ys, A⟩ := act_of ht (by
        intro q hq
        apply hs q
        rw [hx]
        simp only [DataW.weights, Try.underlying22]
        refine List.mem_cons_of_mem _ (List.mem_append_left _ (weights_all (List.mem_map.2 ⟨elems[i], List.getElem_mem _, rfl⟩) hq)))
      obtain ⟨Ae, wk, wi, wb, wf', wK, hsl, hnl, hl, hcl⟩ := A
      simp only [List.cons.injEq, and_true] at Ae
      obtain ⟨rfl, rfl, rfl, rfl, rfl, rfl, rfl⟩ := Ae
      refine ⟨⟨kd, r, K, a', l', cap2⟩, ys, fun q u hu => ?_, wK, hsl, hnl, hl, hcl⟩
      match q, hu with
      | 0, hu => cases hu; exact e0
      | 1, hu => cases hu; exact e1
      | 2, hu => cases hu; exact e2
      | 3, hu => cases hu; exact e3
      | 4, hu => cases hu; exact e4
      | 5, hu => cases hu; exact e5
      | 6, hu => cases hu; exact e6
      | n + 7, hu => simp [Ac.cs] at hu
    obtain ⟨B, off, rfl⟩ : ∃ B off, a = ⟨B, off, none⟩ := by
      obtain ⟨x, ys, e0, _⟩ := hw 0 hpos
      have hx0 : (a.add (0 * 7)).add 0 = a := by cases a; simp [Addr.add]
      have := e0 0 _ rfl
      rw [hx0] at this
      exact add_plain this
    have hpl : ∀ i j, ((⟨B, off, none⟩ : Addr).add (i * 7)).add j = ⟨B, off + i * 7 + j, none⟩ := by
      intro i j
      rw [add_at, add_at]
    have hB : B < w.heap.size := by
      obtain ⟨x, ys, e0, _⟩ := hw 0 hpos
      have := e0 0 _ rfl
      rw [hpl] at this
      exact World.block_lt_of_cell? w _ this
    refine .inr ⟨B, off, rfl, hB, fun i hi => ?_⟩
    obtain ⟨x, ys, e0, r⟩ := hw i hi
    exact ⟨x, ys, fun q u hu => by rw [← hpl]; exact e0 q u hu, r⟩
end Go.Proofs.Ytkadpmmielegfaa
