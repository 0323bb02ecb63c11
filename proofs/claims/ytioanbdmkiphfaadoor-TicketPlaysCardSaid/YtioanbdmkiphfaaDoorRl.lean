/-
  The document's lock in the heap: Has, Set.
-/
import Derived.Test.YtioanbdmkiphfaaDoorNm
import Derived.Deep.RegionHeld2
namespace Go.Proofs.YtioanbdmkiphfaaDoor
open Go.RowKit
set_option linter.unusedVariables false
set_option maxRecDepth 20000

/-- a row of n numbers -/
def NR (w : World) (g : Nat) (ty : TypeId) (q : IntKind) (n : Nat) (R : Nat → Int) : Prop := ∃ cs : Array Value, w.heap[g]? = some (.cells cs ty (0, 0)) ∧ cs.size = n ∧ ∀ c, c < n → cs[c]? = some (.int q (R c))
section
variable {w w' : World} {g n : Nat} {ty : TypeId} {q : IntKind} {R : Nat → Int}
theorem NR.lt (h : NR w g ty q n R) : g < w.heap.size := let ⟨_, e, _⟩ := h; lt_of_heap e
theorem NR.keep (h : NR w g ty q n R) (hk : w'.heap[g]? = w.heap[g]?) : NR w' g ty q n R := let ⟨cs, e, r⟩ := h; ⟨cs, hk.trans e, r⟩
theorem NR.at (h : NR w g ty q n R) (c : Nat) (hc : c < n) : w.cell? ⟨g, c, none⟩ = some (.int q (R c)) := by
  obtain ⟨cs, e, _, r⟩ := h
  rw [cell_at e, r c hc]
theorem NR.f (h : NR w g ty q n R) (o : Nat) : w.frozen? ⟨g, o, none⟩ = false := let ⟨_, e, _⟩ := h; frozen_at e o
theorem NR.set (h : NR w g ty q n R) (c : Nat) (hc : c < n) (y : Int) : NR (w.setCell ⟨g, c, none⟩ (.int q y)) g ty q n (upd R c y) ∧ w.grownBy (w.setCell ⟨g, c, none⟩ (.int q y)) (some g) := by
  obtain ⟨cs, e, hs, r⟩ := h
  refine ⟨⟨_, heap_setCell e _ _, by simpa using hs, fun d hd => ?_⟩, grown_setCell e _ _⟩
  rw [Array.getElem?_setIfInBounds]
  unfold upd
  by_cases hdc : d = c
  · subst hdc
    rw [if_pos rfl, if_pos (by omega), if_pos rfl]
  · rw [if_neg (by omega), if_neg hdc]; exact r d hd
end
/-- the document's lock of block q: its memory's block b with the row g, its two rows s and u -/
structure RK (w : World) (q b g s u : Nat) (zs : List Int) (t : Int) (n : Nat) (S T : Nat → Int) : Prop where
  ob : w.heap[q]? = some (.cells #[.pointer (some ⟨b, 0, none⟩), .int .u64 t, .slice (some ⟨s, 0, none⟩) n n, .slice (some ⟨u, 0, none⟩) n n] 54 (0, 0))
  rs : NR w s 3 .i64 n S
  rt : NR w u 22 .u64 n T
  rm : RM w b g zs
  n1 : 1 ≤ n
  n8 : n ≤ 8
  t0 : 0 ≤ t
  t8 : t % 8 = 0
  t16 : t + 16 ≤ zs.length
section
variable {w w' : World} {q b g s u n : Nat} {zs : List Int} {t : Int} {S T : Nat → Int}
theorem RK.lt (h : RK w q b g s u zs t n S T) : q < w.heap.size := lt_of_heap h.ob
theorem RK.cells (h : RK w q b g s u zs t n S T) : w.cell? ⟨q, 0, none⟩ = some (.pointer (some ⟨b, 0, none⟩)) ∧ w.cell? ⟨q, 1, none⟩ = some (.int .u64 t) ∧ w.cell? ⟨q, 2, none⟩ = some (.slice (some ⟨s, 0, none⟩) n n) ∧ w.cell? ⟨q, 3, none⟩ = some (.slice (some ⟨u, 0, none⟩) n n) :=
  ⟨by rw [cell_at h.ob]; rfl, by rw [cell_at h.ob]; rfl, by rw [cell_at h.ob]; rfl, by rw [cell_at h.ob]; rfl⟩
theorem RK.nes (h : RK w q b g s u zs t n S T) : q ≠ s ∧ q ≠ u ∧ q ≠ g ∧ q ≠ b ∧ s ≠ u ∧ s ≠ g ∧ s ≠ b ∧ u ≠ g ∧ u ≠ b := by
  obtain ⟨_, e1, _⟩ := h.rs
  obtain ⟨_, e2, _⟩ := h.rt
  exact ⟨ne_typ h.ob e1 (by decide), ne_typ h.ob e2 (by decide), ne_typ h.ob h.rm.row (by decide), ne_typ h.ob h.rm.cell (by decide), ne_typ e1 e2 (by decide), ne_typ e1 h.rm.row (by decide), ne_typ e1 h.rm.cell (by decide), ne_typ e2 h.rm.row (by decide), ne_typ e2 h.rm.cell (by decide)⟩
/-- what its calls may turn -/
def ROwn (s u g : Nat) (x : Nat) : Prop := x = s ∨ x = u ∨ x = g
theorem RK.other {N : Nat → Prop} (h : RK w q b g s u zs t n S T) (ht : Trn N w w') (hN : ¬ N q ∧ ¬ N b ∧ ¬ N g ∧ ¬ N s ∧ ¬ N u) : RK w' q b g s u zs t n S T :=
  ⟨(ht.block q h.lt hN.1).trans h.ob, h.rs.keep (ht.block s h.rs.lt hN.2.2.2.1), h.rt.keep (ht.block u h.rt.lt hN.2.2.2.2), ⟨(ht.block b h.rm.blt hN.2.1).trans h.rm.cell, (ht.block g h.rm.glt hN.2.2.1).trans h.rm.row, h.rm.ne, h.rm.bytes, h.rm.pos, h.rm.len⟩, h.n1, h.n8, h.t0, h.t8, h.t16⟩
theorem RK.below (h : RK w q b g s u zs t n S T) (hb : Below w.heap.size w w') : RK w' q b g s u zs t n S T :=
  h.other (N := fun _ => False) (.of_below hb) ⟨id, id, id, id, id⟩
theorem RK.setS (h : RK w q b g s u zs t n S T) (c : Nat) (hc : c < n) (y : Int) : RK (w.setCell ⟨s, c, none⟩ (.int .i64 y)) q b g s u zs t n (upd S c y) T ∧ Trn (ROwn s u g) w (w.setCell ⟨s, c, none⟩ (.int .i64 y)) := by
  obtain ⟨k1, k2⟩ := h.rs.set c hc y
  obtain ⟨n1, n2, n3, n4, n5, n6, n7, n8, n9⟩ := h.nes
  exact ⟨⟨(k2.block q h.lt (by simp; omega)).trans h.ob, k1, h.rt.keep (k2.block u h.rt.lt (by simp; omega)), h.rm.kept k2 (by simp; omega) (by simp; omega), h.n1, h.n8, h.t0, h.t8, h.t16⟩, .of_grown k2 fun x hx => .inl (by cases hx; rfl)⟩
theorem RK.setT (h : RK w q b g s u zs t n S T) (c : Nat) (hc : c < n) (y : Int) : RK (w.setCell ⟨u, c, none⟩ (.int .u64 y)) q b g s u zs t n S (upd T c y) ∧ Trn (ROwn s u g) w (w.setCell ⟨u, c, none⟩ (.int .u64 y)) := by
  obtain ⟨k1, k2⟩ := h.rt.set c hc y
  obtain ⟨n1, n2, n3, n4, n5, n6, n7, n8, n9⟩ := h.nes
  exact ⟨⟨(k2.block q h.lt (by simp; omega)).trans h.ob, h.rs.keep (k2.block s h.rs.lt (by simp; omega)), k1, h.rm.kept k2 (by simp; omega) (by simp; omega), h.n1, h.n8, h.t0, h.t8, h.t16⟩, .of_grown k2 fun x hx => .inr (.inl (by cases hx; rfl))⟩
theorem RK.mem {ys : List Int} (h : RK w q b g s u zs t n S T) (hm : RM w' b g ys) (hl : ys.length = zs.length) (hk : w.grownBy w' (some g)) : RK w' q b g s u ys t n S T ∧ Trn (ROwn s u g) w w' := by
  obtain ⟨n1, n2, n3, n4, n5, n6, n7, n8, n9⟩ := h.nes
  exact ⟨⟨(hk.block q h.lt (by simp; omega)).trans h.ob, h.rs.keep (hk.block s h.rs.lt (by simp; omega)), h.rt.keep (hk.block u h.rt.lt (by simp; omega)), hm, h.n1, h.n8, h.t0, h.t8, by rw [hl]; exact h.t16⟩, .of_grown hk fun x hx => .inr (.inr (by cases hx; rfl))⟩
end
theorem rhas_rk (q b g s u : Nat) (zs : List Int) (t : Int) (n : Nat) (S T : Nat → Int) (c : Int) (w : World) (h : RK w q b g s u zs t n S T) : Calls Tryd.prog 21 #[.pointer (some ⟨q, 0, none⟩), .int .i64 c] w fun e w' => e = .returned (.bool (hasC n c)) ∧ w' = w := by
  obtain ⟨_, _, c2, _⟩ := h.cells
  have hl := h.lt
  clear h
  by_cases h0 : 0 ≤ c
  · by_cases h1 : c < n
    · rw [show hasC n c = true by simp [hasC, h0, h1]]
      go_enter Tryd.func21, Tryd.ntmps21
      go_wp2
      go_ret
      exact ⟨ret_bool (by simp), rfl⟩
    · rw [show hasC n c = false by simp [hasC, h1]]
      go_enter Tryd.func21, Tryd.ntmps21
      go_wp2
      go_ret
      exact ⟨ret_bool (by simp), rfl⟩
  · rw [show hasC n c = false by simp [hasC, h0]]
    go_enter Tryd.func21, Tryd.ntmps21
    go_wp2
    go_ret
    exact ⟨ret_bool (by simp), rfl⟩
theorem rset_rk (q b g s u : Nat) (zs : List Int) (t : Int) (n : Nat) (S T : Nat → Int) (c x y : Int) (w : World) (h : RK w q b g s u zs t n S T) : Calls Tryd.prog 14 #[.pointer (some ⟨q, 0, none⟩), .int .i64 c, .int .i64 x, .int .i64 y] w fun e w' =>
    e = .returned (.int .i64 (begE n S c x)) ∧ RK w' q b g s u zs t n (begS n S c x y) T ∧ Trn (ROwn s u g) w w' := by
  have C := rhas_rk q b g s u zs t n S T c w h
  unfold begE begS
  cases hc : hasC n c
  · rw [hc] at C
    have HX : Hid (RK w q b g s u zs t n S T) := h
    simp only [Bool.false_eq_true, if_false, false_and]
    clear h hc
    go_enter Tryd.func14, Tryd.ntmps14
    go_wp2_with fail
    refine C.mono ?_
    rintro e w1 ⟨rfl, rfl⟩
    go_wp2_with fail
    go_ret
    exact ⟨rfl, HX.out, Trn.refl _ _⟩
  · rw [hc] at C
    obtain ⟨d, rfl, hd⟩ := hasC_yes hc
    obtain ⟨_, _, c2, _⟩ := h.cells
    have e0 := h.rs.at d hd
    have f0 := h.rs.f d
    have hl := h.lt
    have hls := h.rs.lt
    have hd' : (d : Int) < (n : Int) := by omega
    have HX : Hid (RK w q b g s u zs t n S T) := h
    simp only [if_true, true_and, Int.toNat_natCast]
    clear h hc
    by_cases hs : S d = x
    · have hb : (S d != x) = false := by simpa using hs
      rw [if_pos hs, if_pos hs]
      have HF : Hid (RK (w.setCell ⟨s, d, none⟩ (.int .i64 y)) q b g s u zs t n (upd S d y) T ∧ Trn (ROwn s u g) w (w.setCell ⟨s, d, none⟩ (.int .i64 y))) := HX.out.setS d hd y
      clear hs
      go_enter Tryd.func14, Tryd.ntmps14
      go_wp2_with fail
      refine C.mono ?_
      rintro e w1 ⟨rfl, rfl⟩
      go_wp2_with fail
      go_ret
      exact ⟨rfl, HF.out.1, HF.out.2⟩
    · have hb : (S d != x) = true := by simpa using hs
      rw [if_neg hs, if_neg hs]
      clear hs
      go_enter Tryd.func14, Tryd.ntmps14
      go_wp2_with fail
      refine C.mono ?_
      rintro e w1 ⟨rfl, rfl⟩
      go_wp2_with fail
      go_ret
      exact ⟨rfl, HX.out, Trn.refl _ _⟩
end Go.Proofs.YtioanbdmkiphfaaDoor
