/-
  A call that came in by value, or in a slice: two numbers, a request and bytes.
-/
import Derived.Test.YtkadpmmielegfaaNobodyWalk
import Derived.ChangeOld
import Derived.Below
import Derived.SizedLaws
namespace Go.Proofs.Ytkadpmmielegfaa
open Go.ChangeShapes Go.WideShapes Go.ChangeAt Go.RowKit
set_option linter.unusedVariables false
theorem ocells41 : Try.prog.cellsOf 41 = 7 := by kernel_rfl
theorem ocells38 : Try.prog.cellsOf 38 = 4 := by kernel_rfl
theorem ocells3 : Try.prog.cellsOf 3 = 1 := by kernel_rfl
theorem ocells4 : Try.prog.cellsOf 4 = 1 := by kernel_rfl
theorem ocells39 : Try.prog.cellsOf 39 = 1 := by kernel_rfl
theorem bytes5 : Try.prog.bytesOf 5 = 1 := by kernel_rfl

/-- a slice of bytes that came in: nil, or a row of cells with these numbers -/
def IsRow (w : World) (a : Option Addr) (len cap : Nat) (zs : List Int) : Prop :=
  (a = none ∧ len = 0 ∧ cap = 0 ∧ zs = []) ∨
  ∃ x, a = some x ∧ len ≤ cap ∧ cap ≤ maxLen ∧ zs.length = cap ∧ (∀ i, i < zs.length → w.cell? (x.add i) = some (.int .u8 (zs.getD i 0))) ∧ ∀ n ∈ zs, (Lit.int .u8 n).wf = true
theorem add_plain {w : World} {x : Addr} {v : Value} (h : w.cell? x = some v) : ∃ b off, x = ⟨b, off, none⟩ := by
  obtain ⟨b, off, sp⟩ := x
  cases sp with
  | none => exact ⟨b, off, rfl⟩
  | some s => simp only [World.cell?] at h; split at h <;> cases h
theorem sl_of {w : World} {a : Option Addr} {len cap : Nat} {zs : List Int} (h : IsRow w a len cap zs) : SL w a len (zs.take len) ∧ (a = none → len = 0 ∧ cap = 0) := by
  rcases h with ⟨rfl, rfl, rfl, rfl⟩ | ⟨x, rfl, h1, h2, h3, h4, h5⟩
  · exact ⟨⟨rfl, by intro i; simp, .inl rfl⟩, fun _ => ⟨rfl, rfl⟩⟩
  · refine ⟨⟨by simp; omega, ?_, ?_⟩, fun h => by cases h⟩
    · intro i
      by_cases hi : i < (zs.take len).length
      · have hm : (zs.take len)[i] ∈ zs := List.mem_of_mem_take (List.getElem_mem hi)
        have := bounds_u8 (h5 _ hm)
        rw [List.getD_eq_getElem?_getD, List.getElem?_eq_getElem hi]
        simpa using this
      · rw [List.getD_eq_getElem?_getD, List.getElem?_eq_none (by omega)]
        simp
    · rcases Nat.eq_zero_or_pos len with h0 | h0
      · exact .inl h0
      · have hc0 := h4 0 (by omega)
        have hx0 : x.add 0 = x := by cases x; simp [Addr.add]
        rw [hx0] at hc0
        obtain ⟨b, off, rfl⟩ := add_plain hc0
        refine .inr ⟨b, off, rfl, World.block_lt_of_cell? w _ hc0, fun i hi => ?_⟩
        have hplain : (⟨b, off, none⟩ : Addr).add i = ⟨b, off + i, none⟩ := by unfold Addr.add; split <;> simp_all
        have := h4 i (by omega)
        rw [hplain] at this
        rw [this]
        simp [List.getD, hi]
theorem seven {α : Type} {cs : Array α} (h : cs.size = 7) : ∃ a b c d e f g, cs = #[a, b, c, d, e, f, g] := by
  obtain ⟨l⟩ := cs
  match l, h with
  | [a, b, c, d, e, f, g], _ => exact ⟨a, b, c, d, e, f, g, rfl⟩
theorem field_i {H : Type} {enc : TypeId × Value → H} {w : World} {base n : Nat} {sp : Nat → Bool} {held : Bool} {t : TypeId} {q : IntKind} (ht : Try.prog.underlying t = some (.int q)) {c : Value} {x : Option (DataW H × List MemPlace)} (h : DataW.trod enc Try.prog w base sp held n t [c] = x) (hx : ∃ y, x = some y) :
    ∃ a : Int, c = .int q a ∧ (Lit.int q a).wf = true := by
  obtain ⟨y, rfl⟩ := hx
  obtain ⟨a, e, _, hw⟩ := DataW.trod_int ht h
  exact ⟨a, by simpa using e, hw⟩
theorem field_b {H : Type} {enc : TypeId × Value → H} {w : World} {base n : Nat} {sp : Nat → Bool} {held : Bool} {c : Value} {x : Option (DataW H × List MemPlace)} (h : DataW.trod enc Try.prog w base sp held n 4 [c] = x) (hx : ∃ y, x = some y) :
    ∃ a : Bool, c = .bool a := by
  obtain ⟨y, rfl⟩ := hx
  obtain ⟨a, e, _⟩ := DataW.trod_bool Try.underlying4 h
  exact ⟨a, by simpa using e⟩

/-- the cells of a call -/
structure ActC (w : World) (cs : List Value) (kd : Int) (r : Rq) (K : Int) (a : Option Addr) (len cap : Nat) (zs : List Int) : Prop where
  e : cs = [.int .i64 kd, .int .i64 r.i, .bool r.w, .int .i64 r.b, .int .i64 r.f, .int .i64 K, .slice a len cap]
  wk : (Lit.int .i64 kd).wf = true
  wi : (Lit.int .i64 r.i).wf = true
  wb : (Lit.int .i64 r.b).wf = true
  wf : (Lit.int .i64 r.f).wf = true
  wK : (Lit.int .i64 K).wf = true
  sl : SL w a len zs
  nil : a = none → len = 0 ∧ cap = 0
  le : len ≤ 140737488351232
  cap_le : len ≤ cap
theorem rq_of {H : Type} {enc : TypeId × Value → H} {w : World} {base n : Nat} {sp : Nat → Bool} {held : Bool} {c1 c2 c3 c4 : Value} {x : DataW H × List MemPlace} (h : DataW.trod enc Try.prog w base sp held n 38 [c1, c2, c3, c4] = some x) :
    ∃ r : Rq, [c1, c2, c3, c4] = [.int .i64 r.i, .bool r.w, .int .i64 r.b, .int .i64 r.f] ∧ (Lit.int .i64 r.i).wf = true ∧ (Lit.int .i64 r.b).wf = true ∧ (Lit.int .i64 r.f).wf = true := by
  obtain ⟨xs, n, _, _, _, hlen, hfs⟩ := DataW.trod_struct Try.underlying38 h
  have hl : xs.length = 4 := by simpa using hlen
  have e : ∀ i, i < 4 → ∃ y, xs[i]? = some y := fun i hi => ⟨_, List.getElem?_eq_getElem (by omega)⟩
  obtain ⟨a0, rfl, w0⟩ := field_i Try.underlying3 (by simpa [Value.cells, ocells3, ocells4] using hfs 0 _ rfl) (e 0 (by decide))
  obtain ⟨a1, rfl⟩ := field_b (by simpa [Value.cells, ocells3, ocells4] using hfs 1 _ rfl) (e 1 (by decide))
  obtain ⟨a2, rfl, w2⟩ := field_i Try.underlying3 (by simpa [Value.cells, ocells3, ocells4] using hfs 2 _ rfl) (e 2 (by decide))
  obtain ⟨a3, rfl, w3⟩ := field_i Try.underlying3 (by simpa [Value.cells, ocells3, ocells4] using hfs 3 _ rfl) (e 3 (by decide))
  exact ⟨⟨a0, a1, a2, a3⟩, rfl, w0, w2, w3⟩
theorem act_of {H : Type} {enc : TypeId × Value → H} {w : World} {m : Nat} {c0 c1 c2 c3 c4 c5 c6 : Value} {x : DataW H × List MemPlace}
    (h : DataW.trod enc Try.prog w 0 (fun _ => true) true m 41 [c0, c1, c2, c3, c4, c5, c6] = some x) (hs : ∀ q ∈ x.1.weights Try.prog 41, q ≤ reachBytes) :
    ∃ kd r K a len cap zs, ActC w [c0, c1, c2, c3, c4, c5, c6] kd r K a len cap zs := by
  obtain ⟨xs, n, _, hx, _, hlen, hfs⟩ := DataW.trod_struct Try.underlying41 h
  have hl : xs.length = 4 := by simpa using hlen
  have e : ∀ i, i < 4 → ∃ y, xs[i]? = some y := fun i hi => ⟨_, List.getElem?_eq_getElem (by omega)⟩
  obtain ⟨y0, g0⟩ := e 0 (by decide)
  obtain ⟨y1, g1⟩ := e 1 (by decide)
  obtain ⟨y2, g2⟩ := e 2 (by decide)
  obtain ⟨y3, g3⟩ := e 3 (by decide)
  have f0 : DataW.trod enc Try.prog w 0 (fun _ => true) true n 3 [c0] = some y0 := by
    have := hfs 0 _ rfl
    rw [g0] at this
    simpa [ocells3] using this
  have f1 : DataW.trod enc Try.prog w 0 (fun _ => true) true n 38 [c1, c2, c3, c4] = some y1 := by
    have := hfs 1 _ rfl
    rw [g1] at this
    simpa [ocells3, ocells38] using this
  have f2 : DataW.trod enc Try.prog w 0 (fun _ => true) true n 3 [c5] = some y2 := by
    have := hfs 2 _ rfl
    rw [g2] at this
    simpa [ocells3, ocells38] using this
  have f3 : DataW.trod enc Try.prog w 0 (fun _ => true) true n 39 [c6] = some y3 := by
    have := hfs 3 _ rfl
    rw [g3] at this
    simpa [ocells3, ocells38, ocells39] using this
  obtain ⟨kd, e0, _, wk⟩ := DataW.trod_int Try.underlying3 f0
  obtain ⟨r, e1, w1, w2, w3⟩ := rq_of f1
  obtain ⟨K, e2, _, wK⟩ := DataW.trod_int Try.underlying3 f2
  simp at e0 e1 e2
  obtain ⟨e1, e11, e12, e13⟩ := e1
  rcases open_ints Try.underlying39 Try.underlying5 (by kernel_rfl) f3 with ⟨hcs, _⟩ | ⟨ad, len, cap, zs, hcs, _, hle, hm, hz, hy, hcell, hwz⟩
  · simp at hcs
    exact ⟨kd, r, K, none, 0, 0, [], by rw [e0, e1, e11, e12, e13, e2, hcs], wk, w1, w2, w3, wK, SL.nil _ _, fun _ => ⟨rfl, rfl⟩, by omega, Nat.le_refl _⟩
  · simp at hcs
    have hz' : zs.length = cap := by simpa using hz
    obtain ⟨hsl, hnil⟩ := sl_of (w := w) (a := some ad) (len := len) (cap := cap) (zs := zs) (.inr ⟨ad, rfl, hle, hm, hz', hcell, hwz⟩)
    refine ⟨kd, r, K, some ad, len, cap, zs.take len, by rw [e0, e1, e11, e12, e13, e2, hcs], wk, w1, w2, w3, wK, hsl, hnil, ?_, hle⟩
    have hd : (xs.map (·.1))[3]? = some (.slice (lits .u8 (zs.take len)) (lits .u8 (zs.drop len))) := by rw [List.getElem?_map, g3, hy]; rfl
    have hw : ∀ q ∈ DataW.weightsEach Try.prog [3, 38, 3, 39] (xs.map (·.1)), q ≤ reachBytes := by
      intro q hq
      apply hs q
      rw [hx]
      simp only [DataW.weights, Try.underlying41]
      exact hq
    have := hw _ (DataW.weights_mem_each (t := 39) rfl hd _ (by simp only [DataW.weights, Try.underlying39]; exact List.mem_cons_self ..))
    rw [bytes5] at this
    simp only [lits, List.length_map, List.length_take, List.length_drop, reachBytes] at this
    omega
theorem open_act {H : Type} {enc : TypeId × Value → H} {w : World} {r : Reach} {b0 : Nat} {v : Value} {d : DataW H} {p : List MemPlace}
    (hv : Value.okWide Try.prog w r b0 41 v) (h : DataW.Trod enc Try.prog w 0 (fun _ => true) true 41 v d p) (hs : ∀ q ∈ d.weights Try.prog 41, q ≤ reachBytes) :
    ∃ cs kd r K a len cap zs, v = .agg cs ∧ ActC w cs.toList kd r K a len cap zs := by
  obtain ⟨cs, rfl, hsz⟩ := okWide_struct Try.underlying41 hv
  obtain ⟨c0, c1, c2, c3, c4, c5, c6, rfl⟩ := seven (hsz.trans ocells41)
  obtain ⟨fuel, hf⟩ := h
  obtain ⟨kd, r, K, a, len, cap, zs, A⟩ := act_of (by simpa [Value.cells] using hf) hs
  exact ⟨_, kd, r, K, a, len, cap, zs, rfl, A⟩
end Go.Proofs.Ytkadpmmielegfaa
