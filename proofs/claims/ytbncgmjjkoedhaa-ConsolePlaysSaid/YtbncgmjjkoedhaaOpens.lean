/-
  A call that came in by value, or in a slice: three numbers and bytes.
-/
import Derived.Test.YtbncgmjjkoedhaaIns
import Derived.Below
import Derived.SizedLaws
namespace Go.Proofs.Ytbncgmjjkoedhaa
open Go.ChangeShapes Go.WideShapes Go.ChangeAt Go.RowKit
set_option linter.unusedVariables false
set_option maxRecDepth 100000
theorem ocells30 : Try.prog.cellsOf 30 = 4 := by kernel_rfl
theorem ocells3 : Try.prog.cellsOf 3 = 1 := by kernel_rfl
theorem ocells28 : Try.prog.cellsOf 28 = 1 := by kernel_rfl
theorem bytes5 : Try.prog.bytesOf 5 = 1 := by kernel_rfl
/-- a slice of bytes that came in: nil, or a row of cells with these numbers -/
def IsRow (w : World) (a : Option Addr) (len cap : Nat) (zs : List Int) : Prop :=
  (a = none ∧ len = 0 ∧ cap = 0 ∧ zs = []) ∨
  ∃ x, a = some x ∧ len ≤ cap ∧ cap ≤ maxLen ∧ zs.length = cap ∧ (∀ i, i < zs.length → w.cell? (x.add i) = some (.int .u8 (zs.getD i 0))) ∧ ∀ n ∈ zs, (Lit.int .u8 n).wf = true
theorem add_plain {w : World} {x : Addr} {v : Value} (h : w.cell? x = some v) : ∃ b off, x = ⟨b, off, none⟩ := by
  obtain ⟨b, off, sp⟩ := x
  cases sp with
  | none => exact ⟨b, off, rfl⟩
  | some s => simp only [World.cell?] at h; split at h <;> cases h
theorem sl_of {w : World} {a : Option Addr} {len cap : Nat} {zs : List Int} (h : IsRow w a len cap zs) : SL w a len (zs.take len) ∧ (a = none → len = 0 ∧ cap = 0) := by
  rcases h with ⟨rfl, rfl, rfl, rfl⟩ | ⟨x, rfl, h1, h2, h3, h4, h5⟩
  · exact ⟨⟨rfl, by intro i; simp, .inl rfl⟩, fun _ => ⟨rfl, rfl⟩⟩
  · refine ⟨⟨by simp; omega, ?_, ?_⟩, fun h => by cases h⟩
    · intro i
      by_cases hi : i < (zs.take len).length
      · have hm : (zs.take len)[i] ∈ zs := List.mem_of_mem_take (List.getElem_mem hi)
        have := bounds_u8 (h5 _ hm)
        rw [List.getD_eq_getElem?_getD, List.getElem?_eq_getElem hi]
        simpa using this
      · rw [List.getD_eq_getElem?_getD, List.getElem?_eq_none (by omega)]
        simp
    · rcases Nat.eq_zero_or_pos len with h0 | h0
      · exact .inl h0
      · have hc0 := h4 0 (by omega)
        have hx0 : x.add 0 = x := by cases x; simp [Addr.add]
        rw [hx0] at hc0
        obtain ⟨b, off, rfl⟩ := add_plain hc0
        refine .inr ⟨b, off, rfl, World.block_lt_of_cell? w _ hc0, fun i hi => ?_⟩
        have hplain : (⟨b, off, none⟩ : Addr).add i = ⟨b, off + i, none⟩ := by unfold Addr.add; split <;> simp_all
        have := h4 i (by omega)
        rw [hplain] at this
        rw [this]
        simp [List.getD, hi]
theorem bytes_of {H : Type} {enc : TypeId × Value → H} {w : World} {fuel : Nat} {ad : Option Addr} {len cap : Nat} {x : DataW H × List MemPlace}
    (h : DataW.trod enc Try.prog w 0 (fun _ => true) true fuel 28 [.slice ad len cap] = some x) : ∃ ys, SL w ad len ys ∧ (ad = none → len = 0 ∧ cap = 0) ∧ len ≤ cap ∧ cap ≤ maxLen := by
  rcases open_ints Try.underlying28 Try.underlying5 (by kernel_rfl) h with ⟨hcs, _⟩ | ⟨a, len', cap', zs, hcs, _, hle, hm, hz, hy, hcell, hwz⟩
  · simp at hcs
    obtain ⟨rfl, rfl, rfl⟩ := hcs
    exact ⟨[], ⟨rfl, by intro i; simp, .inl rfl⟩, fun _ => ⟨rfl, rfl⟩, Nat.le_refl _, by omega⟩
  · simp at hcs
    obtain ⟨rfl, rfl, rfl⟩ := hcs
    have hz' : zs.length = cap := by simpa using hz
    obtain ⟨hsl, hnil⟩ := sl_of (w := w) (a := some a) (len := len) (cap := cap) (zs := zs) (.inr ⟨a, rfl, hle, hm, hz', hcell, hwz⟩)
    exact ⟨_, hsl, hnil, hle, hm⟩
theorem four {α : Type} {cs : Array α} (h : cs.size = 4) : ∃ a b c d, cs = #[a, b, c, d] := by
  obtain ⟨l⟩ := cs
  match l, h with
  | [a, b, c, d], _ => exact ⟨a, b, c, d, rfl⟩
/-- a call -/
structure Ac where
  kd : Int
  fr : Int
  to : Int
  a : Option Addr
  len : Nat
  cap : Nat
def Ac.cs (x : Ac) : List Value := [.int .i64 x.kd, .int .i64 x.fr, .int .i64 x.to, .slice x.a x.len x.cap]
/-- what is known of it -/
structure AcOk (w : World) (x : Ac) (ys : List Int) : Prop where
  wk : (Lit.int .i64 x.kd).wf = true
  wi : (Lit.int .i64 x.fr).wf = true
  wt : (Lit.int .i64 x.to).wf = true
  sl : SL w x.a x.len ys
  nil : x.a = none → x.len = 0 ∧ x.cap = 0
  le : x.len ≤ 140737488351232
  cap_le : x.len ≤ x.cap
theorem act_of {H : Type} {enc : TypeId × Value → H} {w : World} {m : Nat} {c0 c1 c2 c3 : Value} {x : DataW H × List MemPlace}
    (h : DataW.trod enc Try.prog w 0 (fun _ => true) true m 30 [c0, c1, c2, c3] = some x) (hs : ∀ q ∈ x.1.weights Try.prog 30, q ≤ reachBytes) :
    ∃ x ys, [c0, c1, c2, c3] = Ac.cs x ∧ AcOk w x ys := by
  obtain ⟨xs, n, _, hx, _, hlen, hfs⟩ := DataW.trod_struct Try.underlying30 h
  have hl : xs.length = 4 := by simpa using hlen
  have e : ∀ i, i < 4 → ∃ y, xs[i]? = some y := fun i hi => ⟨_, List.getElem?_eq_getElem (by omega)⟩
  obtain ⟨y0, g0⟩ := e 0 (by decide)
  obtain ⟨y1, g1⟩ := e 1 (by decide)
  obtain ⟨y2, g2⟩ := e 2 (by decide)
  obtain ⟨y3, g3⟩ := e 3 (by decide)
  have f0 : DataW.trod enc Try.prog w 0 (fun _ => true) true n 3 [c0] = some y0 := by
    have := hfs 0 _ rfl
    rw [g0] at this
    simpa [ocells3] using this
  have f1 : DataW.trod enc Try.prog w 0 (fun _ => true) true n 3 [c1] = some y1 := by
    have := hfs 1 _ rfl
    rw [g1] at this
    simpa [ocells3] using this
  have f2 : DataW.trod enc Try.prog w 0 (fun _ => true) true n 3 [c2] = some y2 := by
    have := hfs 2 _ rfl
    rw [g2] at this
    simpa [ocells3] using this
  have f3 : DataW.trod enc Try.prog w 0 (fun _ => true) true n 28 [c3] = some y3 := by
    have := hfs 3 _ rfl
    rw [g3] at this
    simpa [ocells3, ocells28] using this
  obtain ⟨kd, e0, _, wk⟩ := DataW.trod_int Try.underlying3 f0
  obtain ⟨fr, e1, _, wi⟩ := DataW.trod_int Try.underlying3 f1
  obtain ⟨to, e2, _, wt⟩ := DataW.trod_int Try.underlying3 f2
  simp at e0 e1 e2
  rcases open_ints Try.underlying28 Try.underlying5 (by kernel_rfl) f3 with ⟨hcs, _⟩ | ⟨ad, len, cap, zs, hcs, _, hle, hm, hz, hy, hcell, hwz⟩
  · simp at hcs
    exact ⟨⟨kd, fr, to, none, 0, 0⟩, [], by rw [e0, e1, e2, hcs]; rfl, wk, wi, wt, ⟨rfl, by intro i; simp, .inl rfl⟩, fun _ => ⟨rfl, rfl⟩, by simp, Nat.le_refl _⟩
  · simp at hcs
    have hz' : zs.length = cap := by simpa using hz
    obtain ⟨hsl, hnil⟩ := sl_of (w := w) (a := some ad) (len := len) (cap := cap) (zs := zs) (.inr ⟨ad, rfl, hle, hm, hz', hcell, hwz⟩)
    refine ⟨⟨kd, fr, to, some ad, len, cap⟩, zs.take len, by rw [e0, e1, e2, hcs]; rfl, wk, wi, wt, hsl, hnil, ?_, hle⟩
    have hd : (xs.map (·.1))[3]? = some (.slice (lits .u8 (zs.take len)) (lits .u8 (zs.drop len))) := by rw [List.getElem?_map, g3, hy]; rfl
    have hw : ∀ q ∈ DataW.weightsEach Try.prog [3, 3, 3, 28] (xs.map (·.1)), q ≤ reachBytes := by
      intro q hq
      apply hs q
      rw [hx]
      simp only [DataW.weights, Try.underlying30]
      exact hq
    have := hw _ (DataW.weights_mem_each (t := 28) rfl hd _ (by simp only [DataW.weights, Try.underlying28]; exact List.mem_cons_self ..))
    rw [bytes5] at this
    simp only [lits, List.length_map, List.length_take, List.length_drop, reachBytes] at this
    show len ≤ _
    omega
theorem open_act {H : Type} {enc : TypeId × Value → H} {w : World} {r : Reach} {b0 : Nat} {v : Value} {d : DataW H} {p : List MemPlace}
    (hv : Value.okWide Try.prog w r b0 30 v) (h : DataW.Trod enc Try.prog w 0 (fun _ => true) true 30 v d p) (hs : ∀ q ∈ d.weights Try.prog 30, q ≤ reachBytes) :
    ∃ x ys, v = .agg (Ac.cs x).toArray ∧ AcOk w x ys := by
  obtain ⟨cs, rfl, hsz⟩ := okWide_struct Try.underlying30 hv
  obtain ⟨c0, c1, c2, c3, rfl⟩ := four (hsz.trans ocells30)
  obtain ⟨fuel, hf⟩ := h
  obtain ⟨x, ys, e, A⟩ := act_of (by simpa [Value.cells] using hf) hs
  exact ⟨x, ys, by rw [← e], A⟩
/-- calls that came in -/
def ActsIn (w : World) (a : Option Addr) (n : Nat) : Prop := n = 0 ∨ ∃ B off, a = some ⟨B, off, none⟩ ∧ B < w.heap.size ∧ ∀ i, i < n → ∃ (x : Ac) (ys : List Int), (∀ q u, x.cs[q]? = some u → w.cell? ⟨B, off + i * 4 + q, none⟩ = some u) ∧ AcOk w x ys
theorem ActsIn.at {w : World} {a : Option Addr} {n : Nat} (h : ActsIn w a n) {i : Nat} (hi : i < n) : ∃ B off, a = some ⟨B, off, none⟩ ∧ B < w.heap.size ∧ ∃ (x : Ac) (ys : List Int), (∀ q u, x.cs[q]? = some u → w.cell? ⟨B, off + i * 4 + q, none⟩ = some u) ∧ AcOk w x ys := by
  rcases h with h | ⟨B, off, rfl, hB, hc⟩
  · omega
  · exact ⟨B, off, rfl, hB, hc i hi⟩
theorem weights_all {H : Type} {e : TypeId} {q : Nat} : ∀ {ds : List (DataW H)} {d : DataW H}, d ∈ ds → q ∈ d.weights Try.prog e → q ∈ DataW.weightsAll Try.prog e ds
  | d0 :: ds, d, hd, hq => by
    simp only [DataW.weightsAll, List.mem_append]
    rcases List.mem_cons.1 hd with rfl | hd
    · exact .inl hq
    · exact .inr (weights_all hd hq)
theorem four_cells {w : World} {x : Addr} {cs : List Value} (h : w.cells? 0 x 4 = some cs) : ∃ c0 c1 c2 c3, cs = [c0, c1, c2, c3] ∧ w.cell? (x.add 0) = some c0 ∧ w.cell? (x.add 1) = some c1 ∧ w.cell? (x.add 2) = some c2 ∧ w.cell? (x.add 3) = some c3 := by
  unfold World.cells? at h
  rw [if_pos (Nat.zero_le _), show List.range 4 = [0, 1, 2, 3] from rfl] at h
  simp only [List.mapM_cons, List.mapM_nil, Option.pure_def, Option.bind_eq_bind, Option.bind_eq_some_iff, Option.some.injEq] at h
  obtain ⟨c0, h0, l1, ⟨c1, h1, l2, ⟨c2, h2, l3, ⟨c3, h3, l4, rfl, rfl⟩, rfl⟩, rfl⟩, rfl⟩ := h
  exact ⟨c0, c1, c2, c3, rfl, h0, h1, h2, h3⟩
theorem acts_of {H : Type} {enc : TypeId × Value → H} {w : World} {fuel : Nat} {ad : Option Addr} {len cap : Nat} {x : DataW H × List MemPlace}
    (h : DataW.trod enc Try.prog w 0 (fun _ => true) true fuel 22 [.slice ad len cap] = some x) (hs : ∀ q ∈ x.1.weights Try.prog 22, q ≤ reachBytes) :
    ActsIn w ad len ∧ len ≤ cap ∧ cap ≤ maxLen := by
  rcases DataW.trod_slice Try.underlying22 h with ⟨hcs, _⟩ | ⟨a, len', cap', elems, rest, n, _, hcs, hx, _, hle, hm, hel, hall, _, _⟩
  · simp at hcs
    obtain ⟨rfl, rfl, rfl⟩ := hcs
    exact ⟨.inl rfl, by omega, by omega⟩
  · simp at hcs
    obtain ⟨rfl, rfl, rfl⟩ := hcs
    refine ⟨?_, hle, hm⟩
    rcases Nat.eq_zero_or_pos len with h0 | hpos
    · exact .inl h0
    have hw : ∀ i, i < len → ∃ (x : Ac) (ys : List Int), (∀ q u, x.cs[q]? = some u → w.cell? ((a.add (i * 4)).add q) = some u) ∧ AcOk w x ys := by
      intro i hi
      have hb := hall i hi
      rw [List.getElem?_eq_getElem (by omega), ocells30] at hb
      obtain ⟨cs, hc, ht⟩ := Option.bind_eq_some_iff.1 hb
      obtain ⟨c0, c1, c2, c3, rfl, e0, e1, e2, e3⟩ := four_cells hc
      obtain ⟨x, ys, Ae, A⟩ := act_of ht (by
        intro q hq
        apply hs q
        rw [hx]
        simp only [DataW.weights, Try.underlying22]
        refine List.mem_cons_of_mem _ (List.mem_append_left _ (weights_all (List.mem_map.2 ⟨elems[i], List.getElem_mem _, rfl⟩) hq)))
      refine ⟨x, ys, fun q u hu => ?_, A⟩
      rw [← Ae] at hu
      match q, hu with
      | 0, hu => cases hu; exact e0
      | 1, hu => cases hu; exact e1
      | 2, hu => cases hu; exact e2
      | 3, hu => cases hu; exact e3
      | n + 4, hu => simp at hu
    obtain ⟨B, off, rfl⟩ : ∃ B off, a = ⟨B, off, none⟩ := by
      obtain ⟨x, ys, e0, _⟩ := hw 0 hpos
      have hx0 : (a.add (0 * 4)).add 0 = a := by cases a; simp [Addr.add]
      have := e0 0 _ rfl
      rw [hx0] at this
      exact add_plain this
    have hpl : ∀ i j, ((⟨B, off, none⟩ : Addr).add (i * 4)).add j = ⟨B, off + i * 4 + j, none⟩ := by
      intro i j
      have p1 : ∀ (B o k : Nat), (⟨B, o, none⟩ : Addr).add k = ⟨B, o + k, none⟩ := by intro B o k; unfold Addr.add; split <;> simp_all
      rw [p1, p1]
    have hB : B < w.heap.size := by
      obtain ⟨x, ys, e0, _⟩ := hw 0 hpos
      have := e0 0 _ rfl
      rw [hpl] at this
      exact World.block_lt_of_cell? w _ this
    refine .inr ⟨B, off, rfl, hB, fun i hi => ?_⟩
    obtain ⟨x, ys, e0, r⟩ := hw i hi
    exact ⟨x, ys, fun q u hu => by rw [← hpl]; exact e0 q u hu, r⟩
end Go.Proofs.Ytbncgmjjkoedhaa
