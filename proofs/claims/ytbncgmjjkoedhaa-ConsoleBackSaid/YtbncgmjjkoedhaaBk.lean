/-
  A console into which pieces come, and what is read of it: what ConsoleBack keeps between two calls; the pieces that came in.
-/
import Derived.Test.YtbncgmjjkoedhaaRd
import Derived.Test.YtbncgmjjkoedhaaStr
import Derived.Test.YtbncgmjjkoedhaaOpens
namespace Go.Proofs.Ytbncgmjjkoedhaa
open Go.ChangeShapes Go.WideShapes Go.ChangeAt Go.RowKit
set_option linter.unusedVariables false
set_option maxRecDepth 100000
/-- between two calls: what came, what was read, what waits -/
structure BS (w0 w : World) (c : Nat) (IN OUT W : List Int) (i : Nat) : Prop where
  cx : ∃ d, CX (fun k => k < w0.heap.size) w c W [] d OUT.length
  bel : Below w0.heap.size w0 w
  eq : IN = OUT ++ W
  by' : Bytes OUT ∧ Bytes W
  len : IN.length ≤ 4096 * i
  lw : W.length ≤ 4096
section
variable {w0 w w' : World} {c : Nat} {IN OUT W : List Int} {i : Nat}
theorem BS.below (h : BS w0 w c IN OUT W i) (hb : Below w.heap.size w w') : BS w0 w' c IN OUT W i :=
  let ⟨d, k⟩ := h.cx
  ⟨⟨d, k.below hb⟩, h.bel.trans (hb.mono h.bel.size), h.eq, h.by', h.len, h.lw⟩
theorem trn_old {w0 w w' : World} (h : Below w0.heap.size w0 w) (t : Trn (fun k => ¬ k < w0.heap.size) w w') : Below w0.heap.size w0 w' :=
  h.trans (t.below (fun q hq => Nat.le_of_not_lt hq) h.size)
theorem BS.input (h : BS w0 w c IN OUT W i) {a : Option Addr} {len cap : Nat} {ys : List Int} (hs : SL w0 a len ys) (hnil : a = none → len = 0 ∧ cap = 0) (hlc : len ≤ cap) (hlen : len ≤ 140737488351232) :
    Calls Try.prog 8 #[.pointer (some ⟨c, 0, none⟩), .slice a len cap] w fun e w' => ∃ T, T ≤ len ∧ e = .returned (.tuple #[.int .i64 T, .int .i64 0]) ∧ BS w0 w' c (IN ++ ys.take T) OUT (W ++ ys.take T) (i + 1) := by
  obtain ⟨d, k⟩ := h.cx
  refine (input_cx k (hs.below h.bel) hnil hlc hlen).mono fun e x ⟨he, hx, ht⟩ => ⟨_, Nat.min_le_left _ _, he, ⟨_, hx⟩, trn_old h.bel ht, by rw [h.eq]; simp, ⟨h.by'.1, bytes_app h.by'.2 (bytes_take hs.2.1 _)⟩, ?_, ?_⟩
  · have := h.len
    have hm : tkn (4096 - W.length) len ≤ 4096 := Nat.le_trans (Nat.min_le_right _ _) (by omega)
    simp only [List.length_append, List.length_take]
    omega
  · have hm : tkn (4096 - W.length) len ≤ 4096 - W.length := Nat.min_le_right _ _
    have := h.lw
    simp only [List.length_append, List.length_take]
    omega
theorem BS.read (h : BS w0 w c IN OUT W i) (n : Int) (hn : n < 9223372036854775808) (hi : i < 1125899906842624) :
    Calls Try.prog 10 #[.pointer (some ⟨c, 0, none⟩), .int .i64 n] w fun e w' => ∃ a cp k, e = .returned (.slice a k cp) ∧ k = rk W n ∧ SL w' a k (W.take k) ∧ BS w0 w' c IN (OUT ++ W.take k) (W.drop k) i := by
  obtain ⟨d, k⟩ := h.cx
  refine (read_cx k n hn).mono fun e x ⟨a, cp, he, hs, hx, ht⟩ => ⟨a, cp, _, he, rfl, hs, ⟨d, ?_⟩, trn_old h.bel ht, by rw [h.eq]; simp, ⟨bytes_app h.by'.1 (bytes_take h.by'.2 _), bytes_drop h.by'.2 _⟩, h.len, by have := h.lw; simp; omega⟩
  have hk : rk W n ≤ W.length := Nat.min_le_right _ _
  have hl := h.len
  rw [h.eq] at hl
  have e1 : wrap64 ((OUT.length : Int) + (rk W n : Nat)) = ((OUT ++ W.take (rk W n)).length : Nat) := by
    simp only [List.length_append, List.length_take] at hl ⊢
    rw [wrap_small (by omega) (by omega)]
    omega
  rw [← e1]
  exact hx
theorem BS.counts (h : BS w0 w c IN OUT W i) (hi : i < 1125899906842624) :
    Calls Try.prog 14 #[.pointer (some ⟨c, 0, none⟩)] w fun e w' => ∃ d : Int, e = .returned (.agg #[.int .i64 IN.length, .int .i64 d, .int .i64 OUT.length, .int .i64 0]) ∧ BS w0 w' c IN OUT W i := by
  obtain ⟨d, k⟩ := h.cx
  refine (counts_cx k).mono fun e x ⟨he, hb⟩ => ⟨d, ?_, h.below hb⟩
  rw [he]
  have hl := h.len
  rw [h.eq] at hl
  have e1 : wrap64 ((OUT.length : Int) + (W.length : Nat)) = (IN.length : Nat) := by
    rw [h.eq]
    simp only [List.length_append] at hl ⊢
    rw [wrap_small (by omega) (by omega)]
    omega
  simp only [cntV, e1]
  rfl
end
/-- pieces that came in -/
def PcsIn (w : World) (a : Option Addr) (n : Nat) : Prop := n = 0 ∨ ∃ B off, a = some ⟨B, off, none⟩ ∧ B < w.heap.size ∧ ∀ i, i < n → ∃ ad len cap ys, w.cell? ⟨B, off + i, none⟩ = some (.slice ad len cap) ∧ SL w ad len ys ∧ (ad = none → len = 0 ∧ cap = 0) ∧ len ≤ cap ∧ len ≤ 140737488351232
theorem PcsIn.at {w : World} {a : Option Addr} {n : Nat} (h : PcsIn w a n) {i : Nat} (hi : i < n) : ∃ B off, a = some ⟨B, off, none⟩ ∧ B < w.heap.size ∧ ∃ ad len cap ys, w.cell? ⟨B, off + i, none⟩ = some (.slice ad len cap) ∧ SL w ad len ys ∧ (ad = none → len = 0 ∧ cap = 0) ∧ len ≤ cap ∧ len ≤ 140737488351232 := by
  rcases h with h | ⟨B, off, rfl, hB, hc⟩
  · omega
  · exact ⟨B, off, rfl, hB, hc i hi⟩
theorem bytes28 : Try.prog.bytesOf 28 = 24 := by kernel_rfl
theorem one_cell {w : World} {x : Addr} {cs : List Value} (h : w.cells? 0 x 1 = some cs) : ∃ c0, cs = [c0] ∧ w.cell? (x.add 0) = some c0 := by
  unfold World.cells? at h
  rw [if_pos (Nat.zero_le _), show List.range 1 = [0] from rfl] at h
  simp only [List.mapM_cons, List.mapM_nil, Option.pure_def, Option.bind_eq_bind, Option.bind_eq_some_iff, Option.some.injEq] at h
  obtain ⟨c0, h0, l1, rfl, rfl⟩ := h
  exact ⟨c0, rfl, h0⟩
theorem piece_of {H : Type} {enc : TypeId × Value → H} {w : World} {m : Nat} {c0 : Value} {x : DataW H × List MemPlace}
    (h : DataW.trod enc Try.prog w 0 (fun _ => true) true m 28 [c0] = some x) (hs : ∀ q ∈ x.1.weights Try.prog 28, q ≤ reachBytes) :
    ∃ ad len cap ys, c0 = .slice ad len cap ∧ SL w ad len ys ∧ (ad = none → len = 0 ∧ cap = 0) ∧ len ≤ cap ∧ len ≤ 140737488351232 := by
  rcases open_ints Try.underlying28 Try.underlying5 (by kernel_rfl) h with ⟨hcs, _⟩ | ⟨ad, len, cap, zs, hcs, _, hle, hm, hz, hy, hcell, hwz⟩
  · simp at hcs
    exact ⟨none, 0, 0, [], hcs, SL.len0, fun _ => ⟨rfl, rfl⟩, Nat.le_refl _, by omega⟩
  · simp at hcs
    have hz' : zs.length = cap := by simpa using hz
    obtain ⟨hsl, hnil⟩ := sl_of (w := w) (a := some ad) (len := len) (cap := cap) (zs := zs) (.inr ⟨ad, rfl, hle, hm, hz', hcell, hwz⟩)
    refine ⟨some ad, len, cap, zs.take len, hcs, hsl, hnil, hle, ?_⟩
    have := hs _ (by rw [hy]; simp only [DataW.weights, Try.underlying28]; exact List.mem_cons_self ..)
    rw [bytes5] at this
    simp only [lits, List.length_map, List.length_take, List.length_drop, reachBytes] at this
    omega
theorem pieces_of {H : Type} {enc : TypeId × Value → H} {w : World} {fuel : Nat} {ad : Option Addr} {len cap : Nat} {x : DataW H × List MemPlace}
    (h : DataW.trod enc Try.prog w 0 (fun _ => true) true fuel 46 [.slice ad len cap] = some x) (hs : ∀ q ∈ x.1.weights Try.prog 46, q ≤ reachBytes) :
    PcsIn w ad len ∧ len * 24 ≤ 140737488355328 := by
  rcases DataW.trod_slice Try.underlying46 h with ⟨hcs, _⟩ | ⟨a, len', cap', elems, rest, n, _, hcs, hx, _, hle, hm, hel, hall, hr, _⟩
  · simp at hcs
    obtain ⟨rfl, rfl, rfl⟩ := hcs
    exact ⟨.inl rfl, by omega⟩
  · simp at hcs
    obtain ⟨rfl, rfl, rfl⟩ := hcs
    refine ⟨?_, ?_⟩
    · rcases Nat.eq_zero_or_pos len with h0 | hpos
      · exact .inl h0
      have hw : ∀ i, i < len → ∃ ad1 len1 cap1 ys, w.cell? (a.add i) = some (.slice ad1 len1 cap1) ∧ SL w ad1 len1 ys ∧ (ad1 = none → len1 = 0 ∧ cap1 = 0) ∧ len1 ≤ cap1 ∧ len1 ≤ 140737488351232 := by
        intro i hi
        have hb := hall i hi
        rw [List.getElem?_eq_getElem (by omega), ocells28] at hb
        obtain ⟨cs, hc, ht⟩ := Option.bind_eq_some_iff.1 hb
        obtain ⟨c0, rfl, e0⟩ := one_cell hc
        obtain ⟨ad1, len1, cap1, ys, rfl, r⟩ := piece_of ht (by
          intro q hq
          apply hs q
          rw [hx]
          simp only [DataW.weights, Try.underlying46]
          refine List.mem_cons_of_mem _ (List.mem_append_left _ (weights_all (List.mem_map.2 ⟨elems[i], List.getElem_mem _, rfl⟩) hq)))
        refine ⟨ad1, len1, cap1, ys, ?_, r⟩
        rw [← e0]
        congr 1
        cases a
        simp [Addr.add]
      obtain ⟨B, off, rfl⟩ : ∃ B off, a = ⟨B, off, none⟩ := by
        obtain ⟨_, _, _, _, e0, _⟩ := hw 0 hpos
        have hx0 : a.add 0 = a := by cases a; simp [Addr.add]
        rw [hx0] at e0
        exact add_plain e0
      have p1 : ∀ (B o k : Nat), (⟨B, o, none⟩ : Addr).add k = ⟨B, o + k, none⟩ := by intro B o k; unfold Addr.add; split <;> simp_all
      refine .inr ⟨B, off, rfl, ?_, fun i hi => ?_⟩
      · obtain ⟨_, _, _, _, e0, _⟩ := hw 0 hpos
        rw [p1] at e0
        exact World.block_lt_of_cell? w _ e0
      · rw [← p1]
        exact hw i hi
    · have := hs _ (by rw [hx]; simp only [DataW.weights, Try.underlying46]; exact List.mem_cons_self ..)
      rw [bytes28] at this
      simp only [List.length_map, reachBytes] at this
      omega
end Go.Proofs.Ytbncgmjjkoedhaa
