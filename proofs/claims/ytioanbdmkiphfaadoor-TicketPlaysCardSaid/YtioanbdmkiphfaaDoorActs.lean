/-
  Acts that came in by a slice.
-/
import Derived.Test.YtioanbdmkiphfaaDoorIns
import Derived.Test.YtioanbdmkiphfaaDoorPa
import Derived.ProofKit
namespace Go.Proofs.YtioanbdmkiphfaaDoor
open Go.ChangeShapes Go.WideShapes Go.ChangeAt Go.RowKit
set_option linter.unusedVariables false
set_option maxRecDepth 100000

theorem wf_U {x : Int} (h : (Lit.int .u64 x).wf = true) : U x := by
  simp [Lit.wf, IntKind.min, IntKind.max, IntKind.signed, IntKind.bits] at h
  exact ⟨by omega, by omega⟩
theorem cells39 : Tryd.prog.cellsOf 39 = 3 := by kernel_rfl
theorem cel3 : Tryd.prog.cellsOf 3 = 1 := by kernel_rfl
theorem cel22 : Tryd.prog.cellsOf 22 = 1 := by kernel_rfl
/-- acts that came in -/
def ActsIn (w : World) (a : Option Addr) (n : Nat) : Prop := n = 0 ∨ ∃ B off, a = some ⟨B, off, none⟩ ∧ B < w.heap.size ∧ ∀ i, i < n → ∃ x : Ac, U x.v ∧ w.cell? ⟨B, off + i * 3, none⟩ = some (.int .i64 x.kd) ∧ w.cell? ⟨B, off + i * 3 + 1, none⟩ = some (.int .i64 x.co) ∧ w.cell? ⟨B, off + i * 3 + 2, none⟩ = some (.int .u64 x.v)
theorem three_cells {w : World} {x : Addr} {cs : List Value} (h : w.cells? 0 x 3 = some cs) : cs.length = 3 ∧ ∀ i, i < 3 → w.cell? (x.add i) = cs[i]? := by
  unfold World.cells? at h
  rw [if_pos (Nat.zero_le _), show List.range 3 = [0, 1, 2] from rfl] at h
  simp only [List.mapM_cons, List.mapM_nil, Option.pure_def, Option.bind_eq_bind, Option.bind_eq_some_iff, Option.some.injEq] at h
  obtain ⟨c0, h0, l1, ⟨c1, h1, l2, ⟨c2, h2, l3, rfl, rfl⟩, rfl⟩, rfl⟩ := h
  refine ⟨rfl, fun i hi => ?_⟩
  match i, hi with
  | 0, _ => exact h0
  | 1, _ => exact h1
  | 2, _ => exact h2
theorem fld_int {H : Type} {enc : TypeId × Value → H} {w : World} {base n : Nat} {sp : Nat → Bool} {held : Bool} {c : Value} {x : Option (DataW H × List MemPlace)} (h : DataW.trod enc Tryd.prog w base sp held n 3 [c] = x) (hx : ∃ y, x = some y) :
    ∃ a : Int, c = .int .i64 a ∧ (Lit.int .i64 a).wf = true := by
  obtain ⟨y, rfl⟩ := hx
  obtain ⟨a, e, _, hw⟩ := DataW.trod_int Tryd.underlying3 h
  exact ⟨a, by simpa using e, hw⟩
theorem fld_u64 {H : Type} {enc : TypeId × Value → H} {w : World} {base n : Nat} {sp : Nat → Bool} {held : Bool} {c : Value} {x : Option (DataW H × List MemPlace)} (h : DataW.trod enc Tryd.prog w base sp held n 22 [c] = x) (hx : ∃ y, x = some y) :
    ∃ a : Int, c = .int .u64 a ∧ (Lit.int .u64 a).wf = true := by
  obtain ⟨y, rfl⟩ := hx
  obtain ⟨a, e, _, hw⟩ := DataW.trod_int Tryd.underlying22 h
  exact ⟨a, by simpa using e, hw⟩
theorem act_cells {H : Type} {enc : TypeId × Value → H} {w : World} {base m : Nat} {sp : Nat → Bool} {held : Bool} {cs : List Value} {y : DataW H × List MemPlace} (hl : cs.length = 3)
    (h : DataW.trod enc Tryd.prog w base sp held m 39 cs = some y) : ∃ a b c : Int, cs = [.int .i64 a, .int .i64 b, .int .u64 c] ∧ (Lit.int .u64 c).wf = true := by
  match cs, hl with
  | [c0, c1, c2], _ =>
    obtain ⟨xs, n, _, _, _, hlen, hfs⟩ := DataW.trod_struct Tryd.underlying39 h
    have hl : xs.length = 3 := by simpa using hlen
    have e : ∀ i, i < 3 → ∃ y, xs[i]? = some y := fun i hi => ⟨_, List.getElem?_eq_getElem (by omega)⟩
    obtain ⟨a0, rfl, w0⟩ := fld_int (by simpa [cel3, cel22] using hfs 0 _ rfl) (e 0 (by decide))
    obtain ⟨a1, rfl, w1⟩ := fld_int (by simpa [cel3, cel22] using hfs 1 _ rfl) (e 1 (by decide))
    obtain ⟨a2, rfl, w2⟩ := fld_u64 (by simpa [cel3, cel22] using hfs 2 _ rfl) (e 2 (by decide))
    exact ⟨a0, a1, a2, rfl, w2⟩
theorem acts_of {H : Type} {enc : TypeId × Value → H} {w : World} {fuel : Nat} {ad : Option Addr} {len cap : Nat} {x : DataW H × List MemPlace}
    (h : DataW.trod enc Tryd.prog w 0 (fun _ => true) true fuel 23 [.slice ad len cap] = some x) : ActsIn w ad len ∧ len ≤ cap ∧ cap ≤ maxLen := by
  rcases DataW.trod_slice Tryd.underlying23 h with ⟨hcs, _⟩ | ⟨a, len', cap', elems, rest, n, _, hcs, hx, _, hle, hm, hel, hall, _, _⟩
  · simp at hcs
    obtain ⟨rfl, rfl, rfl⟩ := hcs
    exact ⟨.inl rfl, by omega, by omega⟩
  · simp at hcs
    obtain ⟨rfl, rfl, rfl⟩ := hcs
    refine ⟨?_, hle, hm⟩
    rcases Nat.eq_zero_or_pos len with h0 | hpos
    · exact .inl h0
    have hw : ∀ i, i < len → ∃ x : Ac, U x.v ∧ w.cell? ((a.add (i * 3)).add 0) = some (.int .i64 x.kd) ∧ w.cell? ((a.add (i * 3)).add 1) = some (.int .i64 x.co) ∧ w.cell? ((a.add (i * 3)).add 2) = some (.int .u64 x.v) := by
      intro i hi
      have hb := hall i hi
      rw [List.getElem?_eq_getElem (by omega), cells39] at hb
      obtain ⟨cs, hc, ht⟩ := Option.bind_eq_some_iff.1 hb
      obtain ⟨hl, hcc⟩ := three_cells hc
      obtain ⟨k, c, v, rfl, wv⟩ := act_cells hl ht
      exact ⟨⟨k, c, v⟩, wf_U wv, hcc 0 (by decide), hcc 1 (by decide), hcc 2 (by decide)⟩
    obtain ⟨B, off, rfl⟩ : ∃ B off, a = ⟨B, off, none⟩ := by
      obtain ⟨_, _, e0, _⟩ := hw 0 hpos
      have hx0 : (a.add (0 * 3)).add 0 = a := by cases a; simp [Addr.add]
      rw [hx0] at e0
      exact cell_plain e0
    have hpl : ∀ i j, ((⟨B, off, none⟩ : Addr).add (i * 3)).add j = ⟨B, off + i * 3 + j, none⟩ := by
      intro i j
      have p1 : ∀ (B o k : Nat), (⟨B, o, none⟩ : Addr).add k = ⟨B, o + k, none⟩ := by intro B o k; unfold Addr.add; split <;> simp_all
      rw [p1, p1]
    have hB : B < w.heap.size := by
      obtain ⟨_, _, e0, _⟩ := hw 0 hpos
      rw [hpl] at e0
      exact World.block_lt_of_cell? w _ e0
    refine .inr ⟨B, off, rfl, hB, fun i hi => ?_⟩
    obtain ⟨x, hv, e0, e1, e2⟩ := hw i hi
    simp only [hpl, Nat.add_zero] at e0 e1 e2
    exact ⟨x, hv, e0, e1, e2⟩
theorem ActsIn.at {w : World} {a : Option Addr} {n : Nat} (h : ActsIn w a n) {i : Nat} (hi : i < n) : ∃ B off, a = some ⟨B, off, none⟩ ∧ B < w.heap.size ∧ ∃ x : Ac, U x.v ∧ w.cell? ⟨B, off + i * 3, none⟩ = some (.int .i64 x.kd) ∧ w.cell? ⟨B, off + i * 3 + 1, none⟩ = some (.int .i64 x.co) ∧ w.cell? ⟨B, off + i * 3 + 2, none⟩ = some (.int .u64 x.v) := by
  rcases h with h | ⟨B, off, rfl, hB, hc⟩
  · omega
  · exact ⟨B, off, rfl, hB, hc i hi⟩
end Go.Proofs.YtioanbdmkiphfaaDoor
