/-
  A call that came in by value, or in a slice: four numbers and bytes.
-/
import Derived.Test.YtcpkboihkgkkmaaDoorRows
import Derived.Test.YtcpkboihkgkkmaaDoorMem6
import Derived.WalkKit
import Derived.ProofKit
import Derived.OpenShut
import Derived.ChangeOld
import Derived.Below
import Derived.SizedLaws
namespace Go.Proofs.YtcpkboihkgkkmaaDoor
open Go.ChangeShapes Go.WideShapes Go.ChangeAt Go.RowKit
set_option linter.unusedVariables false
theorem laidOut : laidOutB Tryd.prog = true := by kernel_rfl
theorem ocells38 : Tryd.prog.cellsOf 38 = 5 := by kernel_rfl
theorem ocells3 : Tryd.prog.cellsOf 3 = 1 := by kernel_rfl
theorem ocells35 : Tryd.prog.cellsOf 35 = 1 := by kernel_rfl
theorem ocells36 : Tryd.prog.cellsOf 36 = 1 := by kernel_rfl
theorem bytes5 : Tryd.prog.bytesOf 5 = 1 := by kernel_rfl

/-- a slice of bytes that came in: nil, or a row of cells with these numbers -/
def IsRow (w : World) (a : Option Addr) (len cap : Nat) (zs : List Int) : Prop :=
  (a = none ∧ len = 0 ∧ cap = 0 ∧ zs = []) ∨
  ∃ x, a = some x ∧ len ≤ cap ∧ cap ≤ maxLen ∧ zs.length = cap ∧ (∀ i, i < zs.length → w.cell? (x.add i) = some (.int .u8 (zs.getD i 0))) ∧ ∀ n ∈ zs, (Lit.int .u8 n).wf = true
theorem add_plain {w : World} {x : Addr} {v : Value} (h : w.cell? x = some v) : ∃ b off, x = ⟨b, off, none⟩ := by
  obtain ⟨b, off, sp⟩ := x
  cases sp with
  | none => exact ⟨b, off, rfl⟩
  | some s => simp only [World.cell?] at h; split at h <;> cases h
theorem sl_of {w : World} {a : Option Addr} {len cap : Nat} {zs : List Int} (h : IsRow w a len cap zs) : SL w a len (zs.take len) ∧ (a = none → len = 0 ∧ cap = 0) := by
  rcases h with ⟨rfl, rfl, rfl, rfl⟩ | ⟨x, rfl, h1, h2, h3, h4, h5⟩
  · exact ⟨⟨rfl, by intro i; simp, .inl rfl⟩, fun _ => ⟨rfl, rfl⟩⟩
  · refine ⟨⟨by simp; omega, ?_, ?_⟩, fun h => by cases h⟩
    · intro i
      by_cases hi : i < (zs.take len).length
      · have hm : (zs.take len)[i] ∈ zs := List.mem_of_mem_take (List.getElem_mem hi)
        have := bounds_u8 (h5 _ hm)
        rw [List.getD_eq_getElem?_getD, List.getElem?_eq_getElem hi]
        simpa using this
      · rw [List.getD_eq_getElem?_getD, List.getElem?_eq_none (by omega)]
        simp
    · rcases Nat.eq_zero_or_pos len with h0 | h0
      · exact .inl h0
      · have hc0 := h4 0 (by omega)
        have hx0 : x.add 0 = x := by cases x; simp [Addr.add]
        rw [hx0] at hc0
        obtain ⟨b, off, rfl⟩ := add_plain hc0
        refine .inr ⟨b, off, rfl, World.block_lt_of_cell? w _ hc0, fun i hi => ?_⟩
        have hplain : (⟨b, off, none⟩ : Addr).add i = ⟨b, off + i, none⟩ := by unfold Addr.add; split <;> simp_all
        have := h4 i (by omega)
        rw [hplain] at this
        rw [this]
        simp [List.getD, hi]

theorem five {α : Type} {cs : Array α} (h : cs.size = 5) : ∃ a b c d e, cs = #[a, b, c, d, e] := by
  obtain ⟨l⟩ := cs
  match l, h with
  | [a, b, c, d, e], _ => exact ⟨a, b, c, d, e, rfl⟩

/-- the cells of a call: four numbers and a slice of bytes -/
structure ActC (w : World) (c0 c1 c2 c3 c4 : Value) (k t n v : Int) (a : Option Addr) (len cap : Nat) (zs : List Int) : Prop where
  e0 : c0 = .int .i64 k
  e1 : c1 = .int .u64 t
  e2 : c2 = .int .i64 n
  e3 : c3 = .int .u64 v
  e4 : c4 = .slice a len cap
  wk : (Lit.int .i64 k).wf = true
  wt : (Lit.int .u64 t).wf = true
  wn : (Lit.int .i64 n).wf = true
  wv : (Lit.int .u64 v).wf = true
  sl : SL w a len zs
  nil : a = none → len = 0 ∧ cap = 0
  le : len ≤ 140737488351232
  cap_le : len ≤ cap

theorem act_of {H : Type} {enc : TypeId × Value → H} {w : World} {m : Nat} {c0 c1 c2 c3 c4 : Value} {x : DataW H × List MemPlace}
    (h : DataW.trod enc Tryd.prog w 0 (fun _ => true) true m 38 [c0, c1, c2, c3, c4] = some x) (hs : ∀ q ∈ x.1.weights Tryd.prog 38, q ≤ reachBytes) :
    ∃ k t n v a len cap zs, ActC w c0 c1 c2 c3 c4 k t n v a len cap zs := by
  obtain ⟨xs, n, _, hx, _, hlen, hfs⟩ := DataW.trod_struct Tryd.underlying38 h
  have hl : xs.length = 5 := by simpa using hlen
  have e : ∀ i, i < 5 → ∃ y, xs[i]? = some y := fun i hi => ⟨_, List.getElem?_eq_getElem (by omega)⟩
  obtain ⟨y0, g0⟩ := e 0 (by decide)
  obtain ⟨y1, g1⟩ := e 1 (by decide)
  obtain ⟨y2, g2⟩ := e 2 (by decide)
  obtain ⟨y3, g3⟩ := e 3 (by decide)
  obtain ⟨y4, g4⟩ := e 4 (by decide)
  have f0 : DataW.trod enc Tryd.prog w 0 (fun _ => true) true n 3 [c0] = some y0 := by
    have := hfs 0 _ rfl
    rw [g0] at this
    simpa [ocells3] using this
  have f1 : DataW.trod enc Tryd.prog w 0 (fun _ => true) true n 35 [c1] = some y1 := by
    have := hfs 1 _ rfl
    rw [g1] at this
    simpa [ocells35] using this
  have f2 : DataW.trod enc Tryd.prog w 0 (fun _ => true) true n 3 [c2] = some y2 := by
    have := hfs 2 _ rfl
    rw [g2] at this
    simpa [ocells3] using this
  have f3 : DataW.trod enc Tryd.prog w 0 (fun _ => true) true n 35 [c3] = some y3 := by
    have := hfs 3 _ rfl
    rw [g3] at this
    simpa [ocells35] using this
  have f4 : DataW.trod enc Tryd.prog w 0 (fun _ => true) true n 36 [c4] = some y4 := by
    have := hfs 4 _ rfl
    rw [g4] at this
    simpa [ocells36] using this
  obtain ⟨k, e0, _, wk⟩ := DataW.trod_int Tryd.underlying3 f0
  obtain ⟨t, e1, _, wt⟩ := DataW.trod_int Tryd.underlying35 f1
  obtain ⟨nn, e2, _, wn⟩ := DataW.trod_int Tryd.underlying3 f2
  obtain ⟨v, e3, _, wv⟩ := DataW.trod_int Tryd.underlying35 f3
  simp at e0 e1 e2 e3
  rcases open_ints Tryd.underlying36 Tryd.underlying5 (by kernel_rfl) f4 with ⟨hcs, _⟩ | ⟨ad, len, cap, zs, hcs, _, hle, hm, hz, hy, hcell, hwz⟩
  · simp at hcs
    exact ⟨k, t, nn, v, none, 0, 0, [], e0, e1, e2, e3, hcs, wk, wt, wn, wv, SL.nil _ _, fun _ => ⟨rfl, rfl⟩, by omega, Nat.le_refl _⟩
  · simp at hcs
    have hz' : zs.length = cap := by simpa using hz
    obtain ⟨hsl, hnil⟩ := sl_of (w := w) (a := some ad) (len := len) (cap := cap) (zs := zs) (.inr ⟨ad, rfl, hle, hm, hz', hcell, hwz⟩)
    refine ⟨k, t, nn, v, some ad, len, cap, zs.take len, e0, e1, e2, e3, hcs, wk, wt, wn, wv, hsl, hnil, ?_, hle⟩
    have hd : (xs.map (·.1))[4]? = some (.slice (lits .u8 (zs.take len)) (lits .u8 (zs.drop len))) := by rw [List.getElem?_map, g4, hy]; rfl
    have hw : ∀ q ∈ DataW.weightsEach Tryd.prog [3, 35, 3, 35, 36] (xs.map (·.1)), q ≤ reachBytes := by
      intro q hq
      apply hs q
      rw [hx]
      simp only [DataW.weights, Tryd.underlying38]
      exact hq
    have := hw _ (DataW.weights_mem_each (t := 36) rfl hd _ (by simp only [DataW.weights, Tryd.underlying36]; exact List.mem_cons_self ..))
    rw [bytes5] at this
    simp only [lits, List.length_map, List.length_take, List.length_drop, reachBytes] at this
    omega
end Go.Proofs.YtcpkboihkgkkmaaDoor
