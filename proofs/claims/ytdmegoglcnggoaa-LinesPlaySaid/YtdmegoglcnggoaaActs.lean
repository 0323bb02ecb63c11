/-
  Acts that came in by a slice.
-/
import Derived.Test.YtdmegoglcnggoaaIns
namespace Go.Proofs.Ytdmegoglcnggoaa
open Go.ChangeShapes Go.WideShapes Go.ChangeAt Go.RowKit
set_option linter.unusedVariables false
set_option maxRecDepth 100000

theorem wf_U {x : Int} (h : (Lit.int .u64 x).wf = true) : 0 ≤ x ∧ x < 18446744073709551616 := by
  simp [Lit.wf, IntKind.min, IntKind.max, IntKind.signed, IntKind.bits] at h
  exact ⟨by omega, by omega⟩
/-- acts that came in -/
def ActsIn (w : World) (a : Option Addr) (n : Nat) : Prop := n = 0 ∨ ∃ B off, a = some ⟨B, off, none⟩ ∧ B < w.heap.size ∧ ∀ i, i < n → ∃ k c e x : Int, (0 ≤ x ∧ x < 18446744073709551616) ∧ w.cell? ⟨B, off + i * 4, none⟩ = some (.int .i64 k) ∧ w.cell? ⟨B, off + i * 4 + 1, none⟩ = some (.int .i64 c) ∧ w.cell? ⟨B, off + i * 4 + 2, none⟩ = some (.int .i64 e) ∧ w.cell? ⟨B, off + i * 4 + 3, none⟩ = some (.int .u64 x)
theorem four_cells {w : World} {x : Addr} {cs : List Value} (h : w.cells? 0 x 4 = some cs) : cs.length = 4 ∧ ∀ i, i < 4 → w.cell? (x.add i) = cs[i]? := by
  unfold World.cells? at h
  rw [if_pos (Nat.zero_le _), show List.range 4 = [0, 1, 2, 3] from rfl] at h
  simp only [List.mapM_cons, List.mapM_nil, Option.pure_def, Option.bind_eq_bind, Option.bind_eq_some_iff, Option.some.injEq] at h
  obtain ⟨c0, h0, l1, ⟨c1, h1, l2, ⟨c2, h2, l3, ⟨c3, h3, l4, rfl, rfl⟩, rfl⟩, rfl⟩, rfl⟩ := h
  refine ⟨rfl, fun i hi => ?_⟩
  match i, hi with
  | 0, _ => exact h0
  | 1, _ => exact h1
  | 2, _ => exact h2
  | 3, _ => exact h3
theorem acts_of {H : Type} {enc : TypeId × Value → H} {w : World} {fuel : Nat} {ad : Option Addr} {len cap : Nat} {x : DataW H × List MemPlace}
    (h : DataW.trod enc Try.prog w 0 (fun _ => true) true fuel 22 [.slice ad len cap] = some x) : ActsIn w ad len ∧ len ≤ cap ∧ cap ≤ maxLen := by
  rcases DataW.trod_slice Try.underlying22 h with ⟨hcs, _⟩ | ⟨a, len', cap', elems, rest, n, _, hcs, hx, _, hle, hm, hel, hall, _, _⟩
  · simp at hcs
    obtain ⟨rfl, rfl, rfl⟩ := hcs
    exact ⟨.inl rfl, by omega, by omega⟩
  · simp at hcs
    obtain ⟨rfl, rfl, rfl⟩ := hcs
    refine ⟨?_, hle, hm⟩
    rcases Nat.eq_zero_or_pos len with h0 | hpos
    · exact .inl h0
    have hw : ∀ i, i < len → ∃ k c e x : Int, (0 ≤ x ∧ x < 18446744073709551616) ∧ w.cell? ((a.add (i * 4)).add 0) = some (.int .i64 k) ∧ w.cell? ((a.add (i * 4)).add 1) = some (.int .i64 c) ∧ w.cell? ((a.add (i * 4)).add 2) = some (.int .i64 e) ∧ w.cell? ((a.add (i * 4)).add 3) = some (.int .u64 x) := by
      intro i hi
      have hb := hall i hi
      rw [List.getElem?_eq_getElem (by omega), cells33] at hb
      obtain ⟨cs, hc, ht⟩ := Option.bind_eq_some_iff.1 hb
      obtain ⟨hl, hcc⟩ := four_cells hc
      obtain ⟨k, c, e, x, rfl, _, _, _, wv⟩ := act_cells hl ht
      exact ⟨k, c, e, x, wf_U wv, hcc 0 (by decide), hcc 1 (by decide), hcc 2 (by decide), hcc 3 (by decide)⟩
    obtain ⟨B, off, rfl⟩ : ∃ B off, a = ⟨B, off, none⟩ := by
      obtain ⟨kd, nn, v, _, _, e0, _⟩ := hw 0 hpos
      have hx0 : (a.add (0 * 4)).add 0 = a := by cases a; simp [Addr.add]
      rw [hx0] at e0
      exact cell_plain e0
    have hpl : ∀ i j, ((⟨B, off, none⟩ : Addr).add (i * 4)).add j = ⟨B, off + i * 4 + j, none⟩ := by
      intro i j
      have p1 : ∀ (B o k : Nat), (⟨B, o, none⟩ : Addr).add k = ⟨B, o + k, none⟩ := by intro B o k; unfold Addr.add; split <;> simp_all
      rw [p1, p1]
    have hB : B < w.heap.size := by
      obtain ⟨kd, nn, v, _, _, e0, _⟩ := hw 0 hpos
      rw [hpl] at e0
      exact World.block_lt_of_cell? w _ e0
    refine .inr ⟨B, off, rfl, hB, fun i hi => ?_⟩
    obtain ⟨k, c, e, x, hv, e0, e1, e2, e3⟩ := hw i hi
    simp only [hpl, Nat.add_zero] at e0 e1 e2 e3
    exact ⟨k, c, e, x, hv, e0, e1, e2, e3⟩
theorem ActsIn.at {w : World} {a : Option Addr} {n : Nat} (h : ActsIn w a n) {i : Nat} (hi : i < n) : ∃ B off, a = some ⟨B, off, none⟩ ∧ B < w.heap.size ∧ ∃ k c e x : Int, (0 ≤ x ∧ x < 18446744073709551616) ∧ w.cell? ⟨B, off + i * 4, none⟩ = some (.int .i64 k) ∧ w.cell? ⟨B, off + i * 4 + 1, none⟩ = some (.int .i64 c) ∧ w.cell? ⟨B, off + i * 4 + 2, none⟩ = some (.int .i64 e) ∧ w.cell? ⟨B, off + i * 4 + 3, none⟩ = some (.int .u64 x) := by
  rcases h with h | ⟨B, off, rfl, hB, hc⟩
  · omega
  · exact ⟨B, off, rfl, hB, hc i hi⟩
end Go.Proofs.Ytdmegoglcnggoaa
