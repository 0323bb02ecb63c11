/-
  What DiskOrder leans on: its eight requests, the memory that it fills, arrays of the call's own.
-/
import Derived.Test.YtkadpmmielegfaaIns
namespace Go.Proofs.Ytkadpmmielegfaa
open Go.RowKit Go.Maps
set_option linter.unusedVariables false
set_option maxRecDepth 20000

def rq (i : Nat) : Rq := ⟨i, true, (i % 4 : Nat), i⟩
def reqs (j : Nat) : List Rq := (List.range j).map rq
theorem sub_e : ∀ j, j < 8 → subE 4 (reqs j) (rq j) = 0 := by decide
theorem sub_p : ∀ j, j < 8 → subP 4 (reqs j) (rq j) = reqs (j + 1) := by decide
theorem sub_9e : subE 4 (reqs 8) ⟨9, false, 0, 0⟩ = 18 := by decide
theorem sub_9p : subP 4 (reqs 8) ⟨9, false, 0, 0⟩ = reqs 8 := by decide
theorem and3 (j : Nat) (h : j < 8) : bits .and .i64 (j : Int) 3 = ((j % 4 : Nat) : Int) := by
  rcases (by omega : j = 0 ∨ j = 1 ∨ j = 2 ∨ j = 3 ∨ j = 4 ∨ j = 5 ∨ j = 6 ∨ j = 7) with rfl | rfl | rfl | rfl | rfl | rfl | rfl | rfl <;> decide
/-- the memory behind j of the puts -/
def fill : Nat → List Int
  | 0 => List.replicate (8 * 256) 0
  | j + 1 => splice (fill j) (j * 256) [1 + (j : Int)]
theorem fill_len : ∀ j, j ≤ 8 → (fill j).length = 2048
  | 0, _ => by simp [fill]
  | j + 1, h => by
    have := fill_len j (by omega)
    rw [fill, length_splice _ _ _ (by simp; omega), this]
theorem fill_at : ∀ j, j ≤ 8 → ∀ f, f < j → (fill j).getD (f * 256) 0 = 1 + (f : Int)
  | j + 1, h, f, hf => by
    have hl := fill_len j (by omega)
    rw [fill, splice_getD _ _ _ _ (by simp; omega)]
    by_cases e : f = j
    · subst e
      rw [if_pos (by simp), Nat.sub_self]
      rfl
    · rw [if_neg (by simp; omega)]
      exact fill_at j (by omega) f (by omega)
theorem piece_head (zs : List Int) (n : Nat) : (piece zs n).getD 0 0 = zs.getD (n * 256) 0 := by
  simp [piece, List.getD, List.getElem?_take_of_lt (show 0 < 256 by omega), List.getElem?_drop]

/-- an array of the call's own, by what stands at each place -/
def AR (w : World) (L : Nat) (t : TypeId) (n : Nat) (f : Nat → Value) : Prop := w.heap[L]? = some (.cells ((List.range n).map f).toArray t (0, 0))
theorem AR.at {w : World} {L : Nat} {t : TypeId} {n : Nat} {f : Nat → Value} (h : AR w L t n f) (i : Nat) (hi : i < n) : w.cell? ⟨L, i, none⟩ = some (f i) := cell_of h (by simp [hi])
theorem AR.fz {w : World} {L : Nat} {t : TypeId} {n : Nat} {f : Nat → Value} (h : AR w L t n f) (i : Nat) : w.frozen? ⟨L, i, none⟩ = false := by
  unfold AR at h
  simp [World.frozen?, h]
theorem AR.lt {w : World} {L : Nat} {t : TypeId} {n : Nat} {f : Nat → Value} (h : AR w L t n f) : L < w.heap.size := lt_of_heap h
theorem AR.set {w : World} {L : Nat} {t : TypeId} {n : Nat} {f : Nat → Value} (h : AR w L t n f) (i : Nat) (hi : i < n) (v : Value) :
    AR (w.setCell ⟨L, i, none⟩ v) L t n (fun k => if k = i then v else f k) ∧ w.grownBy (w.setCell ⟨L, i, none⟩ v) (some L) := by
  have e := setCell_eq_setRow w L i _ t (0, 0) v h
  rw [e]
  refine ⟨?_, ⟨rfl, rfl, rfl, by simp [World.setRow], fun k hk hne => setRow_other w L k _ (fun e => hne (by rw [e]))⟩⟩
  show _ = _
  rw [setRow_heap w L _ _ t _ h]
  congr 2
  apply Array.ext (by simp)
  intro k h1 h2
  by_cases e : k = i
  · subst e
    simp
  · simp [e, List.getElem_set_ne (Ne.symm e)]
theorem AR.kept {w w' : World} {L : Nat} {t : TypeId} {n : Nat} {f : Nat → Value} (h : AR w L t n f) (hk : w'.heap[L]? = w.heap[L]?) : AR w' L t n f := Eq.trans hk h

/-- one byte, as a slice -/
theorem sl_one (w : World) (z : Int) (h0 : 0 ≤ z) (h1 : z ≤ 255) : SL (w.alloc (.cells #[.int .u8 z] 5)) (some ⟨w.heap.size, 0, none⟩) 1 [z] := by
  refine ⟨rfl, fun i => ?_, .inr ⟨w.heap.size, 0, rfl, by simp, fun i hi => ?_⟩⟩
  · cases i with
    | zero => exact ⟨h0, h1⟩
    | succ n => simp
  · obtain rfl : i = 0 := by omega
    exact cell_of (heap_alloc_at _ _) rfl
theorem below_sd {B N0 : Nat} {w y1 y2 : World} {D m b : Nat} {v : Value} {ps : List Rq} {zs : List Int} (hb : Below B w y1) (h : DK N0 y1 D m b v ps zs) (t : Trn (SD D v) y1 y2) (hD : B ≤ D) (hN : B ≤ N0) (hs : B ≤ y1.heap.size) : Below B w y2 :=
  hb.trans ⟨t.os, t.tape, t.output, by have := t.size; omega, fun k hk => t.block k (by omega) (fun e => by
    rcases e with e | e
    · omega
    · have := (h.ord.lt k e).1; omega)⟩
theorem below_sc {B N0 : Nat} {w y1 y2 : World} {D m b g : Nat} {v : Value} {ps : List Rq} {zs : List Int} (hb : Below B w y1) (h : DK N0 y1 D m b v ps zs) (t : Trn (SC D m g v) y1 y2) (hD : B ≤ D) (hm : B ≤ m) (hg : B ≤ g) (hN : B ≤ N0) (hs : B ≤ y1.heap.size) : Below B w y2 :=
  hb.trans ⟨t.os, t.tape, t.output, by have := t.size; omega, fun k hk => t.block k (by omega) (fun e => by
    rcases e with e | e | e | e
    · omega
    · have := (h.ord.lt k e).1; omega
    · omega
    · omega)⟩
/-- an array of another type stays -/
theorem not_sc {N0 : Nat} {w : World} {D m B g : Nat} {v : Value} {ps : List Rq} {zs : List Int} (h : DK N0 w D m B v ps zs) {k : Nat} {x : Array Value} {t : TypeId} {f : Nat × Nat} (hk : w.heap[k]? = some (.cells x t f)) (h1 : t ≠ 66) (h2 : t ≠ 38) (hg : k ≠ g) : ¬ SC D m g v k := by
  obtain ⟨es, cl, hm⟩ := h.mtyp
  rintro (e | e | e | e)
  · exact ne_typ hk h.cell h1 e
  · obtain ⟨cur, hh⟩ := h.ord.typ k e
    exact ne_typ hk hh h2 rfl
  · exact ne_map hk hm e
  · exact hg e
theorem left_ne {ps : List Rq} {k : Nat} (hk : k < ps.length) (hp : ps.Pairwise (fun a b => a.i ≠ b.i)) {r : Rq} (hr : r ∈ ps.eraseIdx k) : r ≠ ps[k] := by
  rw [← filter_erase ps k hk hp] at hr
  have := (List.mem_filter.1 hr).2
  simpa using this
theorem tr_e (i : Nat) (h : i < 8) : trE ((fill 8).length / 256) (rq i) = 0 := by
  rw [fill_len 8 (by omega)]
  simp [trE, rq]
  omega
theorem tr_z (zs : List Int) (i : Nat) (h : i < 8) : trZ zs (fill 8) (rq i) = splice zs (i % 4 * 256) (piece (fill 8) i) := by
  rw [trZ, if_pos (by rw [fill_len 8 (by omega)]; simp [rq]; omega)]
  simp [rq]
  rfl
theorem tr_m (zs : List Int) (i : Nat) : trM zs (fill 8) (rq i) = fill 8 := by
  rw [trM, if_neg (by simp [rq])]
theorem head_next (zs : List Int) (i : Nat) (h : i < 8) (hz : zs.length = 4 * 256) (F : Nat → Int) (hF : ∀ n, n < 4 → zs.getD (n * 256) 0 = F n) : ∀ n, n < 4 → (splice zs (i % 4 * 256) (piece (fill 8) i)).getD (n * 256) 0 = if n = i % 4 then 1 + (i : Int) else F n := by
  intro n hn
  have hl : (piece (fill 8) i).length = 256 := piece_len (B := 8) (fill_len 8 (by omega)) h
  rw [← piece_head, piece_splice hz (by omega) hl hn]
  split
  · rw [piece_head, fill_at 8 (by omega) i h]
  · rw [piece_head, hF n hn]
/-- a store into each of two arrays, and a new block -/
theorem two_sets {w : World} {L Q n k : Nat} {s t : TypeId} {f g : Nat → Value} (hL : AR w L s n f) (hQ : AR w Q t k g) (hne : L ≠ Q) (i j : Nat) (hi : i < n) (hj : j < k) (a c : Value) (o : Obj) :
    AR (((w.setCell ⟨Q, j, none⟩ c).setCell ⟨L, i, none⟩ a).alloc o) L s n (fun q => if q = i then a else f q) ∧ AR (((w.setCell ⟨Q, j, none⟩ c).setCell ⟨L, i, none⟩ a).alloc o) Q t k (fun q => if q = j then c else g q) ∧
      Trn (fun q => q = L ∨ q = Q) w (((w.setCell ⟨Q, j, none⟩ c).setCell ⟨L, i, none⟩ a).alloc o) := by
  obtain ⟨q1, g1⟩ := hQ.set j hj c
  have l1 : AR (w.setCell ⟨Q, j, none⟩ c) L s n f := hL.kept (gr_keep g1 hL.lt hne)
  obtain ⟨l2, g2⟩ := l1.set i hi a
  have q2 : AR ((w.setCell ⟨Q, j, none⟩ c).setCell ⟨L, i, none⟩ a) Q t k _ := q1.kept (gr_keep g2 q1.lt (Ne.symm hne))
  exact ⟨l2.kept (heap_alloc_past _ _ l2.lt), q2.kept (heap_alloc_past _ _ q2.lt), ((Trn.of_grown g1 (.inr rfl)).trans (Trn.of_grown g2 (.inl rfl))).trans (Trn.of_below ((Below.refl _ _).alloc (Nat.le_refl _) _))⟩
/-- k of the picks: below what is left -/
theorem pick_lt (p : Int) (j : Nat) (hj : j < 8) : ∃ k : Nat, k < 8 - j ∧ (wrap64 (wrap64 (p.tmod (8 - (j : Int)) + 8) - j)).tmod (8 - (j : Int)) = k := by
  have hn : (0 : Int) < 8 - (j : Int) := by omega
  generalize hq : 8 - (j : Int) = n at *
  have h1 := Int.tmod_lt_of_pos p hn
  have h2 : -n < p.tmod n := by
    have := Int.lt_tmod_of_pos p hn
    omega
  generalize p.tmod n = t at *
  have e1 : wrap64 (t + 8) = t + 8 := by unfold wrap64; omega
  rw [e1]
  have e2 : wrap64 (t + 8 - j) = t + 8 - j := by unfold wrap64; omega
  rw [e2]
  have h3 : 0 ≤ t + 8 - j := by omega
  have h4 := Int.tmod_lt_of_pos (t + 8 - j) hn
  have h5 := Int.tmod_nonneg n h3
  exact ⟨((t + 8 - j).tmod n).toNat, by omega, by omega⟩
end Go.Proofs.Ytkadpmmielegfaa
