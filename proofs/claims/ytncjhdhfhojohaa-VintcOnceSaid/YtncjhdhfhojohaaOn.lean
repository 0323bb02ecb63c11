/-
  Once: the three counts of the law beside a controller, between two rounds.
-/
import Derived.Test.YtncjhdhfhojohaaGr
namespace Go.Proofs.Ytncjhdhfhojohaa
open Go.RowKit
set_option linter.unusedVariables false
set_option maxRecDepth 100000
/-- seventeen numbers in the heap -/
structure AR (w : World) (b : Nat) (f : Nat → Int) : Prop where
  blk : ∃ cs : Array Value, w.heap[b]? = some (.cells cs 58 (0, 0)) ∧ cs.size = 17 ∧ ∀ i, i < 17 → cs[i]? = some (.int .i64 (f i))
section
variable {w w' : World} {b : Nat} {f : Nat → Int}
theorem AR.lt (h : AR w b f) : b < w.heap.size := by
  obtain ⟨cs, h, _⟩ := h.blk
  exact lt_of_heap h
theorem AR.keep (h : AR w b f) (hk : w'.heap[b]? = w.heap[b]?) : AR w' b f := by
  obtain ⟨cs, h, r⟩ := h.blk
  exact ⟨cs, hk.trans h, r⟩
theorem AR.below (h : AR w b f) (hk : Below w.heap.size w w') : AR w' b f := h.keep (hk.block b h.lt)
theorem AR.c (h : AR w b f) (i : Nat) (hi : i < 17) : w.cell? ⟨b, i, none⟩ = some (.int .i64 (f i)) := by
  obtain ⟨cs, h, h1, h2⟩ := h.blk
  rw [cell_at h, h2 i hi]
theorem AR.fz (h : AR w b f) (i : Nat) : w.frozen? ⟨b, i, none⟩ = false := by
  obtain ⟨cs, h, _⟩ := h.blk
  exact fz_at h i
theorem AR.set (h : AR w b f) (i : Nat) (hi : i < 17) (x : Int) : AR (w.setCell ⟨b, i, none⟩ (.int .i64 x)) b (up f i x) ∧ Trn (fun k => k = b) w (w.setCell ⟨b, i, none⟩ (.int .i64 x)) := by
  obtain ⟨cs, h1, h2, h3⟩ := h.blk
  refine ⟨⟨_, heap_setCell h1 i _, by simpa using h2, fun k hk => ?_⟩, trn_set1 h1 i _⟩
  rw [Array.getElem?_setIfInBounds]
  unfold up
  by_cases e : k = i
  · subst e
    rw [if_pos rfl, if_pos (by omega), if_pos rfl]
  · rw [if_neg (fun e' => e e'.symm), if_neg e]
    exact h3 k hk
theorem ar_new (w : World) : AR (w.alloc (.cells #[.int .i64 0, .int .i64 0, .int .i64 0, .int .i64 0, .int .i64 0, .int .i64 0, .int .i64 0, .int .i64 0, .int .i64 0, .int .i64 0, .int .i64 0, .int .i64 0, .int .i64 0, .int .i64 0, .int .i64 0, .int .i64 0, .int .i64 0] 58)) w.heap.size (fun _ => 0) :=
  ⟨_, heap_alloc_at w _, rfl, fun i hi => by
    match i, hi with
    | 0, _ | 1, _ | 2, _ | 3, _ | 4, _ | 5, _ | 6, _ | 7, _ | 8, _ | 9, _ | 10, _ | 11, _ | 12, _ | 13, _ | 14, _ | 15, _ | 16, _ => rfl
    | k + 17, h => omega⟩
end
/-- what the counts know of the controller -/
structure Cn (z : Z) (n : Nat) (r h t : Nat → Int) (i : Nat) : Prop where
  n : z.n = n
  ok : Ok z
  t : ∀ s, 1 ≤ s → s < 17 → t s = 1 + z.T s
  r0 : ∀ s, r s ≤ i
  h0 : ∀ s, 0 ≤ h s
  h1 : ∀ s, 1 ≤ s → s < 17 → h s + (if z.P s = true then 1 else 0) ≤ r s
section
variable {z : Z} {n : Nat} {r h t : Nat → Int} {i : Nat}
theorem Cn.rlo (c : Cn z n r h t i) {s : Nat} (h1 : 1 ≤ s) (h2 : s < 17) : 0 ≤ r s := by
  have a := c.h0 s
  have b := c.h1 s h1 h2
  split at b <;> omega
theorem Cn.hr (c : Cn z n r h t i) {s : Nat} (h1 : 1 ≤ s) (h2 : s < 17) : h s ≤ r s := by
  have b := c.h1 s h1 h2
  split at b <;> omega
theorem Cn.none (c : Cn z n r h t i) : Cn z n r h t (i + 1) := ⟨c.n, c.ok, c.t, fun s => by have := c.r0 s; omega, c.h0, c.h1⟩
theorem Cn.same (c : Cn z n r h t i) {z' : Z} (hn : z'.n = z.n) (hP : z'.P = z.P) (hT : z'.T = z.T) : Cn z' n r h t (i + 1) :=
  ⟨hn.trans c.n, ⟨by rw [hn]; exact c.ok.n1, by rw [hn]; exact c.ok.n4, by rw [hP]; exact c.ok.p0, by rw [hT]; exact c.ok.t⟩, by rw [hT]; exact c.t, c.none.r0, c.h0, by rw [hP]; exact c.h1⟩
theorem Cn.raise (c : Cn z n r h t i) {s : Nat} (s1 : 1 ≤ s) (s2 : s < 17) : Cn (z.setP s true) n (up r s (r s + 1)) h t (i + 1) := by
  refine ⟨c.n, c.ok.setP s s1 true, c.t, fun k => ?_, c.h0, fun k k1 k2 => ?_⟩
  · have a := c.r0 k
    have b := c.r0 s
    unfold up
    split <;> omega
  · show h k + (if up z.P s true k = true then 1 else 0) ≤ up r s (r s + 1) k
    by_cases e : k = s
    · subst e
      rw [up_same, up_same, if_pos rfl]
      have := c.hr s1 s2
      omega
    · rw [up_ne _ _ _ _ e, up_ne _ _ _ _ e]
      exact c.h1 k k1 k2
theorem Cn.claim (c : Cn z n r h t i) {k v : Nat} (k1 : 1 ≤ k) (k2 : k < 17) (hP : z.P k = true) : Cn ((z.setP k false).setT k v) n r (up h k (h k + 1)) (up t k (1 + v)) (i + 1) := by
  refine ⟨c.n, (c.ok.setP k k1 false).setT k v (by omega), fun s s1 s2 => ?_, c.none.r0, fun s => ?_, fun s s1 s2 => ?_⟩
  · show up t k (1 + (v : Int)) s = 1 + up z.T k (v : Int) s
    by_cases e : s = k
    · subst e
      rw [up_same, up_same]
    · rw [up_ne _ _ _ _ e, up_ne _ _ _ _ e]
      exact c.t s s1 s2
  · have a := c.h0 s
    have b := c.h0 k
    unfold up
    split <;> omega
  · show up h k (h k + 1) s + (if up z.P k false s = true then 1 else 0) ≤ r s
    by_cases e : s = k
    · subst e
      rw [up_same, up_same, if_neg (by simp)]
      have := c.h1 s s1 s2
      rw [hP, if_pos rfl] at this
      omega
    · rw [up_ne _ _ _ _ e, up_ne _ _ _ _ e]
      exact c.h1 s s1 s2
theorem Cn.complete (c : Cn z n r h t i) {s : Nat} (s1 : 1 ≤ s) (s2 : s < 17) : Cn (z.setT s (-1)) n r h (up t s 0) (i + 1) := by
  refine ⟨c.n, c.ok.setT s _ (by omega), fun k k1 k2 => ?_, c.none.r0, c.h0, c.h1⟩
  show up t s 0 k = 1 + up z.T s (-1) k
  by_cases e : k = s
  · subst e
    rw [up_same, up_same]
    rfl
  · rw [up_ne _ _ _ _ e, up_ne _ _ _ _ e]
    exact c.t k k1 k2
theorem fst_may {v k : Nat} (h : fst z v = k) (hk : k ≠ 0) : 1 ≤ k ∧ k < 17 ∧ z.P k = true ∧ z.T k = -1 := by
  obtain ⟨h0, _⟩ | ⟨a, b, c, _⟩ := best_is z v 16
  · exact absurd (h.symm.trans h0) hk
  · unfold fst at h
    rw [h] at a b c
    unfold may at c
    simp only [Bool.and_eq_true, decide_eq_true_eq] at c
    exact ⟨a, by omega, c.1, c.2.1⟩
end
/-- all of it in the heap: controller b, counts B1, B2, B3 -/
structure OM (w0 w : World) (b B1 B2 B3 : Nat) (z : Z) (r h t : Nat → Int) : Prop where
  bel : Below w0.heap.size w0 w
  is : IS 50 w b z
  a1 : AR w B1 r
  a2 : AR w B2 h
  a3 : AR w B3 t
  low : w0.heap.size ≤ b ∧ w0.heap.size ≤ B1 ∧ w0.heap.size ≤ B2 ∧ w0.heap.size ≤ B3
  ne : B1 ≠ B2 ∧ B1 ≠ B3 ∧ B2 ≠ B3
section
variable {w0 w w' : World} {b B1 B2 B3 : Nat} {z z' : Z} {r h t : Nat → Int}
theorem AR.is_ne {f : Nat → Int} (a : AR w B1 f) (c : IS 50 w b z) : B1 ≠ b := by
  obtain ⟨cs, h1, _⟩ := a.blk
  obtain ⟨ds, h2, _⟩ := c.blk
  exact ne_typ h1 h2 (by decide)
theorem OM.below (k : OM w0 w b B1 B2 B3 z r h t) (hb : Below w.heap.size w w') : OM w0 w' b B1 B2 B3 z r h t :=
  ⟨k.bel.trans (hb.mono k.bel.size), k.is.below hb, k.a1.below hb, k.a2.below hb, k.a3.below hb, k.low, k.ne⟩
theorem OM.call (k : OM w0 w b B1 B2 B3 z r h t) (hi : IS 50 w' b z') (ht : Trn (fun k => k = b) w w') : OM w0 w' b B1 B2 B3 z' r h t :=
  ⟨bel_trn k.bel (Nat.le_refl _) k.low.1 ht, hi, k.a1.keep (ht.block _ k.a1.lt (k.a1.is_ne k.is)), k.a2.keep (ht.block _ k.a2.lt (k.a2.is_ne k.is)), k.a3.keep (ht.block _ k.a3.lt (k.a3.is_ne k.is)), k.low, k.ne⟩
theorem OM.set1 (k : OM w0 w b B1 B2 B3 z r h t) (i : Nat) (hi : i < 17) (x : Int) : OM w0 (w.setCell ⟨B1, i, none⟩ (.int .i64 x)) b B1 B2 B3 z (up r i x) h t := by
  obtain ⟨a, ht⟩ := k.a1.set i hi x
  exact ⟨bel_trn k.bel (Nat.le_refl _) k.low.2.1 ht, k.is.keep (ht.block _ k.is.lt (fun e => k.a1.is_ne k.is e.symm)), a, k.a2.keep (ht.block _ k.a2.lt (fun e => k.ne.1 e.symm)), k.a3.keep (ht.block _ k.a3.lt (fun e => k.ne.2.1 e.symm)), k.low, k.ne⟩
theorem OM.set2 (k : OM w0 w b B1 B2 B3 z r h t) (i : Nat) (hi : i < 17) (x : Int) : OM w0 (w.setCell ⟨B2, i, none⟩ (.int .i64 x)) b B1 B2 B3 z r (up h i x) t := by
  obtain ⟨a, ht⟩ := k.a2.set i hi x
  exact ⟨bel_trn k.bel (Nat.le_refl _) k.low.2.2.1 ht, k.is.keep (ht.block _ k.is.lt (fun e => k.a2.is_ne k.is e.symm)), k.a1.keep (ht.block _ k.a1.lt k.ne.1), a, k.a3.keep (ht.block _ k.a3.lt (fun e => k.ne.2.2 e.symm)), k.low, k.ne⟩
theorem OM.set3 (k : OM w0 w b B1 B2 B3 z r h t) (i : Nat) (hi : i < 17) (x : Int) : OM w0 (w.setCell ⟨B3, i, none⟩ (.int .i64 x)) b B1 B2 B3 z r h (up t i x) := by
  obtain ⟨a, ht⟩ := k.a3.set i hi x
  exact ⟨bel_trn k.bel (Nat.le_refl _) k.low.2.2.2 ht, k.is.keep (ht.block _ k.is.lt (fun e => k.a3.is_ne k.is e.symm)), k.a1.keep (ht.block _ k.a1.lt k.ne.2.1), k.a2.keep (ht.block _ k.a2.lt k.ne.2.2), a, k.low, k.ne⟩
end
theorem cn_new (n : Nat) (h1 : 1 ≤ n) (h4 : n ≤ 4) : Cn (nz n 17) n (fun _ => 0) (fun _ => 0) (fun _ => 0) 0 :=
  ⟨rfl, nz_ok n h1 h4, fun s s1 s2 => by show (0 : Int) = 1 + (if s < 17 then -1 else 0); rw [if_pos s2]; rfl, fun s => by simp, fun s => Int.le_refl _, fun s s1 s2 => by show (0 : Int) + (if false = true then 1 else 0) ≤ 0; simp⟩
end Go.Proofs.Ytncjhdhfhojohaa
