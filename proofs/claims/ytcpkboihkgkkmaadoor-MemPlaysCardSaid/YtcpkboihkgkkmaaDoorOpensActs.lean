/-
  Calls that came in as a slice: each is four numbers and bytes.
-/
import Derived.Test.YtcpkboihkgkkmaaDoorPlaysWalk
namespace Go.Proofs.YtcpkboihkgkkmaaDoor
open Go.ChangeShapes Go.WideShapes Go.ChangeAt Go.RowKit
set_option linter.unusedVariables false

theorem weights_all {H : Type} {e : TypeId} {q : Nat} : ∀ {ds : List (DataW H)} {d : DataW H}, d ∈ ds → q ∈ d.weights Tryd.prog e → q ∈ DataW.weightsAll Tryd.prog e ds
  | d0 :: ds, d, hd, hq => by
    simp only [DataW.weightsAll, List.mem_append]
    rcases List.mem_cons.1 hd with rfl | hd
    · exact .inl hq
    · exact .inr (weights_all hd hq)
theorem five_cells {w : World} {x : Addr} {cs : List Value} (h : w.cells? 0 x 5 = some cs) : ∃ c0 c1 c2 c3 c4, cs = [c0, c1, c2, c3, c4] ∧ w.cell? (x.add 0) = some c0 ∧ w.cell? (x.add 1) = some c1 ∧ w.cell? (x.add 2) = some c2 ∧ w.cell? (x.add 3) = some c3 ∧ w.cell? (x.add 4) = some c4 := by
  unfold World.cells? at h
  rw [if_pos (Nat.zero_le _), show List.range 5 = [0, 1, 2, 3, 4] from rfl] at h
  simp only [List.mapM_cons, List.mapM_nil, Option.pure_def, Option.bind_eq_bind, Option.bind_eq_some_iff, Option.some.injEq] at h
  obtain ⟨c0, h0, l1, ⟨c1, h1, l2, ⟨c2, h2, l3, ⟨c3, h3, l4, ⟨c4, h4, l5, rfl, rfl⟩, rfl⟩, rfl⟩, rfl⟩, rfl⟩ := h
  exact ⟨c0, c1, c2, c3, c4, rfl, h0, h1, h2, h3, h4⟩

theorem acts_of {H : Type} {enc : TypeId × Value → H} {w : World} {fuel : Nat} {ad : Option Addr} {len cap : Nat} {x : DataW H × List MemPlace}
    (h : DataW.trod enc Tryd.prog w 0 (fun _ => true) true fuel 22 [.slice ad len cap] = some x) (hs : ∀ q ∈ x.1.weights Tryd.prog 22, q ≤ reachBytes) :
    ActsIn w ad len ∧ len ≤ cap ∧ cap ≤ maxLen := by
  rcases DataW.trod_slice Tryd.underlying22 h with ⟨hcs, _⟩ | ⟨a, len', cap', elems, rest, n, _, hcs, hx, _, hle, hm, hel, hall, _, _⟩
  · simp at hcs
    obtain ⟨rfl, rfl, rfl⟩ := hcs
    exact ⟨.inl rfl, by omega, by omega⟩
  · simp at hcs
    obtain ⟨rfl, rfl, rfl⟩ := hcs
    refine ⟨?_, hle, hm⟩
    rcases Nat.eq_zero_or_pos len with h0 | hpos
    · exact .inl h0
    have hw : ∀ i, i < len → ∃ c0 c1 c2 c3 c4 k t n v a' m cap ys, w.cell? ((a.add (i * 5)).add 0) = some c0 ∧ w.cell? ((a.add (i * 5)).add 1) = some c1 ∧ w.cell? ((a.add (i * 5)).add 2) = some c2 ∧ w.cell? ((a.add (i * 5)).add 3) = some c3 ∧ w.cell? ((a.add (i * 5)).add 4) = some c4 ∧ ActC w c0 c1 c2 c3 c4 k t n v a' m cap ys := by
      intro i hi
      have hb := hall i hi
      rw [List.getElem?_eq_getElem (by omega), ocells38] at hb
      obtain ⟨cs, hc, ht⟩ := Option.bind_eq_some_iff.1 hb
      obtain ⟨c0, c1, c2, c3, c4, rfl, e0, e1, e2, e3, e4⟩ := five_cells hc
      obtain ⟨k, t, nn, v, a', m, cap2, ys, A⟩ := act_of ht (by
        intro q hq
        apply hs q
        rw [hx]
        simp only [DataW.weights, Tryd.underlying22]
        refine List.mem_cons_of_mem _ (List.mem_append_left _ (weights_all (List.mem_map.2 ⟨elems[i], List.getElem_mem _, rfl⟩) hq)))
      exact ⟨c0, c1, c2, c3, c4, k, t, nn, v, a', m, cap2, ys, e0, e1, e2, e3, e4, A⟩
    obtain ⟨B, off, rfl⟩ : ∃ B off, a = ⟨B, off, none⟩ := by
      obtain ⟨c0, _, _, _, _, _, _, _, _, _, _, _, _, e0, _⟩ := hw 0 hpos
      have hx0 : (a.add (0 * 5)).add 0 = a := by cases a; simp [Addr.add]
      rw [hx0] at e0
      exact add_plain e0
    have hpl : ∀ i j, ((⟨B, off, none⟩ : Addr).add (i * 5)).add j = ⟨B, off + i * 5 + j, none⟩ := by
      intro i j
      have p1 : ∀ (B o k : Nat), (⟨B, o, none⟩ : Addr).add k = ⟨B, o + k, none⟩ := by intro B o k; unfold Addr.add; split <;> simp_all
      rw [p1, p1]
    have hB : B < w.heap.size := by
      obtain ⟨c0, _, _, _, _, _, _, _, _, _, _, _, _, e0, _⟩ := hw 0 hpos
      rw [hpl] at e0
      exact World.block_lt_of_cell? w _ e0
    refine .inr ⟨B, off, rfl, hB, fun i hi => ?_⟩
    obtain ⟨c0, c1, c2, c3, c4, k, t, nn, v, a', m, cap2, ys, e0, e1, e2, e3, e4, A⟩ := hw i hi
    rw [hpl] at e0 e1 e2 e3 e4
    exact ⟨c0, c1, c2, c3, c4, k, t, nn, v, a', m, cap2, ys, e0, e1, e2, e3, e4, A⟩
end Go.Proofs.YtcpkboihkgkkmaaDoor
