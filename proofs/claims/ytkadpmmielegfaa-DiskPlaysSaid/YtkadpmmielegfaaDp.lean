/-
  What lay, Put, forget, transfer and Complete of a disk do.
-/
import Derived.Test.YtkadpmmielegfaaDb
namespace Go.Proofs.Ytkadpmmielegfaa
open Go.RowKit Go.Maps
set_option linter.unusedVariables false
set_option maxRecDepth 20000

theorem zero92 (w : World) : (zeroValue 92).run Try.prog w = .ok (.agg (z256.map (Value.int .u8)).toArray) w := by kernel_rfl
theorem bytes_z256 : Bytes z256 := bytes_zeros 256
theorem len_z256 : z256.length = 256 := by simp [z256]
/-- a whole row of bytes, as a slice -/
theorem sl_row {w : World} {g : Nat} {t : TypeId} {ys : List Int} (h : w.heap[g]? = some (.cells (ys.map (Value.int .u8)).toArray t (0, 0))) (hb : Bytes ys) : SL w (some ⟨g, 0, none⟩) ys.length ys := by
  refine ⟨rfl, hb, .inr ⟨g, 0, rfl, lt_of_heap h, fun i hi => ?_⟩⟩
  simp [World.cell?, h, List.getElem?_eq_getElem hi]
theorem piece_splice {zs ys : List Int} {B n k : Nat} (h : zs.length = B * 256) (hn : n < B) (hy : ys.length = 256) (hk : k < B) : piece (splice zs (n * 256) ys) k = if k = n then ys else piece zs k := by
  have hl := length_splice zs (n * 256) ys (by omega)
  have hp : ∀ xs : List Int, ∀ k i : Nat, i < 256 → (piece xs k).getD i 0 = xs.getD (k * 256 + i) 0 := fun xs k i hi => by
    simp [piece, List.getD, List.getElem?_take_of_lt hi, List.getElem?_drop]
  have e1 : (piece (splice zs (n * 256) ys) k).length = 256 := piece_len (B := B) (by omega) hk
  split
  · rename_i e
    subst e
    refine eq_of_getD (by omega) (fun i hi => ?_)
    rw [hp _ _ _ (by omega), splice_getD _ _ _ _ (by omega), if_pos (by omega)]
    congr 1
    omega
  · refine eq_of_getD (by rw [e1, piece_len h hk]) (fun i hi => ?_)
    rw [hp _ _ _ (by omega), hp _ _ _ (by omega), splice_getD _ _ _ _ (by omega), if_neg (by omega)]
/-- a block's bytes in the map -/
theorem DK.laid {N0 : Nat} {w w1 w2 : World} {D m B n : Nat} {v : Value} {ps : List Rq} {zs ys : List Int} {M : Nat → Option Value} {o : Option Value} (h : DK N0 w D m B v ps zs) (hM : ∀ k, k < B → Blk N0 w (M k) (piece zs k))
    (hn : n < B) (hy : ys.length = 256) (hyb : Bytes ys) (hb : Below w.heap.size w w1) (hg : w1.grownBy w2 (some m)) (hM2 : MapIs w2 m (cnt B (upd M n o)) (upd M n o)) (ho : Blk N0 w2 o ys) :
    DK N0 w2 D m B v ps (splice zs (n * 256) ys) ∧ w.grownBy w2 (some m) := by
  obtain ⟨es, cl, hm⟩ := h.mtyp
  have t : w.grownBy w2 (some m) := grown_trans (grown_some hb _) hg
  refine ⟨⟨(gr_keep t h.lt (ne_map h.cell hm)).trans h.cell, ⟨_, hM2, fun k hk => ?_⟩, h.ord.keep (fun k hk => gr_keep t (h.ord.lt k hk).2 (fun e => ?_)), h.b1, h.b2, ?_, bytes_splice h.bytes hyb _ (by have := h.len; omega), h.pn, h.ids, h.bs⟩, t⟩
  · rw [piece_splice h.len hn hy hk]
    unfold upd
    by_cases e : k = n
    · rw [if_pos e, if_pos e]
      exact ho
    · rw [if_neg e, if_neg e]
      rcases hM k hk with h0 | ⟨r, r1, r2, r3⟩
      · exact .inl h0
      · exact .inr ⟨r, r1, r2, (gr_keep t (lt_of_heap r3) (ne_map r3 hm)).trans r3⟩
  · obtain ⟨cur, hc⟩ := h.ord.typ k hk
    exact ne_map hc hm e
  · rw [length_splice _ _ _ (by have := h.len; omega)]
    exact h.len

theorem lay_safe (N0 D m B : Nat) (v : Value) (ps : List Rq) (zs ys : List Int) (n : Nat) (a : Option Addr) (c : Nat) (w : World) (h : DK N0 w D m B v ps zs) (hn : n < B) (hs : SL w a 256 ys) (hN : N0 ≤ w.heap.size) :
    Calls Try.prog 33 #[.pointer (some ⟨D, 0, none⟩), .int .i64 n, .slice a 256 c] w fun e w' => e = .returned (.tuple #[]) ∧ DK N0 w' D m B v ps (splice zs (n * 256) ys) ∧ w.grownBy w' (some m) ∧ ∀ X, X < w.heap.size → Safe w m B X → Safe w' m B X := by
  have hz := zero92
  have b1 : Below w.heap.size w (w.alloc (.cells (z256.map (Value.int .u8)).toArray 92)) := (Below.refl _ _).alloc (Nat.le_refl _) _
  have h1 := h.below b1
  have s1 := SL.below hs b1
  have z1 := sl_row (heap_alloc_at w (.cells (z256.map (Value.int .u8)).toArray 92)) bytes_z256
  rw [len_z256] at z1
  have CE := equal_any a (some ⟨w.heap.size, 0, none⟩) 256 256 c 256 ys z256 _ s1 z1
  obtain ⟨M, hM, hB⟩ := h1.map
  have hcl := cnt_le B M
  have hb2 := h.b2
  by_cases hy : ys = z256
  · rw [decide_eq_true hy] at CE
    obtain ⟨w2, hrun, hM2, ht⟩ := drop_run hM n (by omega) 0
    rw [← cnt_none B M n hn] at hM2
    obtain ⟨f1, f2⟩ := h1.laid hB hn hs.1 hs.2.1 (Below.refl _ _) ht.grown hM2 (.inl ⟨rfl, hy⟩)
    have HF : Hid (DK N0 w2 D m B v ps (splice zs (n * 256) ys) ∧ w.grownBy w2 (some m) ∧ ∀ X, X < w.heap.size → Safe w m B X → Safe w2 m B X) := by
      refine ⟨f1, grown_trans (grown_some b1 _) f2, fun X _ hS N M' hM' k hk e => ?_⟩
      rw [hM'.uniq hM2 k (by omega)] at e
      unfold upd at e
      split at e
      · cases e
      · exact (hS.keep (b1.block m h.mlt)) _ M hM k hk e
    have c1 := h1.c1
    have ql := h1.lt
    obtain ⟨w1, hw1⟩ : ∃ w1, w1 = w.alloc (.cells (z256.map (Value.int .u8)).toArray 92) := ⟨_, rfl⟩
    clear f1 f2 hM hB hM2 ht h h1 s1 z1 hs b1
    generalize z256.map (Value.int .u8) = L at *
    rw [← hw1] at CE hrun c1 ql
    go_enter Try.func33, Try.ntmps33
    go_wp2_with fail
    rw [← hw1]
    refine CE.mono ?_
    rintro e y ⟨rfl, rfl⟩
    clear CE hw1
    go_wp2_with fail
    exact bodyPost_ret (v := .tuple #[]) (by simp [results, Try.results33]) rfl ⟨rfl, HF.out⟩
  · rw [decide_eq_false hy] at CE
    have c1 := h1.c1
    have ql := h1.lt
    obtain ⟨w1, hw1⟩ : ∃ w1, w1 = w.alloc (.cells (z256.map (Value.int .u8)).toArray 92) := ⟨_, rfl⟩
    rw [← hw1] at CE c1 ql h1 s1 hM hB b1
    have hmk := run_make_bytes 256 (by omega) w1
    have b2 : Below w1.heap.size w1 (w1.alloc (.cells (z256.map (Value.int .u8)).toArray 5)) := (Below.refl _ _).alloc (Nat.le_refl _) _
    have s2 : SL (w1.alloc (.cells (z256.map (Value.int .u8)).toArray 5)) a 256 (if (256 : Nat) = 0 then [] else ys) := by
      rw [if_neg (by omega)]
      exact SL.below s1 b2
    obtain ⟨w3, x, hcp, hrow, hgr⟩ := copy256 a 256 c w1.heap.size ys (heap_alloc_at _ _) s2 (.inr rfl)
    have b3 : Below w1.heap.size w1 w3 := b2.grown hgr b2.size (by intro k h; cases h; exact Nat.le_refl _)
    have hM3 : MapIs w3 m (cnt B M) M := hM.keep (b3.block m hM.lt)
    obtain ⟨w4, hst, hM4, ht⟩ := store_run hM3 n (by omega) (.slice (some ⟨w1.heap.size, 0, none⟩) 256 256) (by unfold maxLen; omega)
    rw [← cnt_some B M n _ hn] at hM4
    obtain ⟨es, cl, hm3⟩ := hM3.typ
    have d1 : w3.cell? ⟨D, 1, none⟩ = some (.map (some m)) := (h1.below b3).c1
    have dl := (h1.below b3).lt
    have hz1 := b1.size
    obtain ⟨f1, f2⟩ := h1.laid hB hn hs.1 hs.2.1 b3 ht.grown hM4 (.inr ⟨w1.heap.size, rfl, by omega, (gr_keep ht.grown (lt_of_heap hrow) (ne_map hrow hm3)).trans hrow⟩)
    have HF : Hid (DK N0 w4 D m B v ps (splice zs (n * 256) ys) ∧ w.grownBy w4 (some m) ∧ ∀ X, X < w.heap.size → Safe w m B X → Safe w4 m B X) := by
      refine ⟨f1, grown_trans (grown_some b1 _) f2, fun X hX hS N M' hM' k hk e => ?_⟩
      rw [hM'.uniq hM4 k (by omega)] at e
      unfold upd at e
      split at e
      · simp at e <;> omega
      · exact (hS.keep (b1.block m h.mlt)) _ M hM k hk e
    rw [show (List.replicate 256 (0 : Int)) = z256 from rfl, show ((256 : Nat) : Int) = 256 from rfl] at hmk
    obtain ⟨w2, hw2⟩ : ∃ w2, w2 = w1.alloc (.cells (z256.map (Value.int .u8)).toArray 5) := ⟨_, rfl⟩
    rw [← hw2] at hmk hcp
    clear f1 f2 hM hB hM3 hM4 ht h h1 s1 z1 hs b1 b2 b3 s2 hrow hgr hw2 hm3
    generalize z256.map (Value.int .u8) = L at *
    go_enter Try.func33, Try.ntmps33
    go_wp2_with fail
    rw [← hw1]
    refine CE.mono ?_
    rintro e y ⟨rfl, rfl⟩
    clear CE hw1
    go_wp2_with fail
    exact bodyPost_end (v := .tuple #[]) (by simp [results, Try.results33]) rfl ⟨rfl, HF.out⟩
theorem lay_dk (N0 D m B : Nat) (v : Value) (ps : List Rq) (zs ys : List Int) (n : Nat) (a : Option Addr) (c : Nat) (w : World) (h : DK N0 w D m B v ps zs) (hn : n < B) (hs : SL w a 256 ys) (hN : N0 ≤ w.heap.size) :
    Calls Try.prog 33 #[.pointer (some ⟨D, 0, none⟩), .int .i64 n, .slice a 256 c] w fun e w' => e = .returned (.tuple #[]) ∧ DK N0 w' D m B v ps (splice zs (n * 256) ys) ∧ w.grownBy w' (some m) :=
  (lay_safe N0 D m B v ps zs ys n a c w h hn hs hN).mono fun e w' ⟨h1, h2, h3, _⟩ => ⟨h1, h2, h3⟩
end Go.Proofs.Ytkadpmmielegfaa
