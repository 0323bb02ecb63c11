/-
  The registers as eighteen words, and as the struct that tells them: packed, unpacked, allowed.
-/
import Derived.Test.YtjkaeclemflifaaRq
import Derived.Laws.CopyOwn
import Derived.Laws.Rows
import Derived.Laws.Tables
import Derived.Laws.ResultCell
namespace Go.Proofs.Ytjkaeclemflifaa
open Go.RowKit
set_option linter.unusedVariables false
set_option maxRecDepth 100000

/-- eighteen words -/
def nvA (N : Nat → Int) : Array Value := #[.int .u64 (N 0), .int .u64 (N 1), .int .u64 (N 2), .int .u64 (N 3), .int .u64 (N 4), .int .u64 (N 5), .int .u64 (N 6), .int .u64 (N 7), .int .u64 (N 8), .int .u64 (N 9), .int .u64 (N 10), .int .u64 (N 11), .int .u64 (N 12), .int .u64 (N 13), .int .u64 (N 14), .int .u64 (N 15), .int .u64 (N 16), .int .u64 (N 17)]
/-- a word as a number with a sign -/
def s64 (v : Int) : Int := wrap64 v
/-- the same as a struct -/
def upA (N : Nat → Int) : Array Value := regC N (N 16) (s64 (N 17))
theorem nvA_at (N : Nat → Int) (k : Nat) (h : k < 18) : (nvA N)[k]? = some (.int .u64 (N k)) := by
  match k, h with
  | 0, _ | 1, _ | 2, _ | 3, _ | 4, _ | 5, _ | 6, _ | 7, _ | 8, _ | 9, _ | 10, _ | 11, _ | 12, _ | 13, _ | 14, _ | 15, _ | 16, _ | 17, _ => rfl
  | k + 18, h => omega
theorem upA_at (N : Nat → Int) (k : Nat) (h : k < 17) : (upA N)[k]? = some (.int .u64 (N k)) := by
  match k, h with
  | 0, _ | 1, _ | 2, _ | 3, _ | 4, _ | 5, _ | 6, _ | 7, _ | 8, _ | 9, _ | 10, _ | 11, _ | 12, _ | 13, _ | 14, _ | 15, _ | 16, _ => rfl
  | k + 17, h => omega
theorem upA_17 (N : Nat → Int) : (upA N)[17]? = some (.int .i64 (s64 (N 17))) := rfl
theorem nvA_size (N : Nat → Int) : (nvA N).size = 18 := rfl
theorem upA_size (N : Nat → Int) : (upA N).size = 18 := rfl
/-- all are words -/
def W18 (N : Nat → Int) : Prop := ∀ k, k < 18 → U (N k)
theorem inf58 : (Try.prog.info? 58).map (·.size) = some 18 := by kernel_rfl
theorem inf30 : (Try.prog.info? 30).map (·.size) = some 1 := by kernel_rfl
def zeros18 : Array Value := #[.int .u64 0, .int .u64 0, .int .u64 0, .int .u64 0, .int .u64 0, .int .u64 0, .int .u64 0, .int .u64 0, .int .u64 0, .int .u64 0, .int .u64 0, .int .u64 0, .int .u64 0, .int .u64 0, .int .u64 0, .int .u64 0, .int .u64 0, .int .u64 0]
theorem u_s64 {v : Int} (h : U v) : IntKind.u64.wrap (s64 v) = v := by
  obtain ⟨h1, h2⟩ := h
  simp only [s64, wrap64, IntKind.wrap, IntKind.bits, IntKind.signed]
  simp
  omega
theorem nvA_one (N : Nat → Int) : (nvA N).all (·.oneCell') = true := by simp [nvA, Value.oneCell']
theorem upA_one (N : Nat → Int) : (upA N).all (·.oneCell') = true := by simp [upA, regC, Value.oneCell']
/-- words copied from a block to another -/
theorem copy_rows {w : World} (ty : TypeId) (g s n m k : Nat) (dst src : Array Value) (t1 t2 : TypeId) (hg : w.heap[g]? = some (.cells dst t1 (0, 0))) (hs : w.heap[s]? = some (.cells src t2 (0, 0))) (hk : k = Nat.min m n) (h1 : k ≤ dst.size) (h2 : k ≤ src.size) (ho : ∀ j, j < k → ∃ z, src[j]? = some (.int .u64 z)) :
    ∃ y, (Builtin.copy_ #[90, 90] ty #[.slice (some ⟨g, 0, none⟩) n n, .slice (some ⟨s, 0, none⟩) m m]).run Try.prog w = .ok (goInt k) y ∧ (∃ ds, y.heap[g]? = some (.cells ds t1 (0, 0)) ∧ ds.size = dst.size ∧ ∀ j, ds[j]? = if j < k then src[j]? else dst[j]?) ∧ w.grownBy y (some g) := by
  have hl : (src.toList.take k).length = k := by simp; omega
  have hrun := run_copy_row (P := Try.prog) w 90 90 ty 30 g 0 n n ⟨s, 0, none⟩ m m dst t1 (src.toList.take k) Try.underlying90 inf30 hg (by rw [hl, hk]) (fun j v hv => by
    have hp : (⟨s, 0, none⟩ : Addr).add j = ⟨s, j, none⟩ := by unfold Addr.add; split <;> simp_all
    rw [hp, cell_at hs]
    rw [List.getElem?_take] at hv
    split at hv
    · simpa using hv
    · cases hv) (by rw [hl]; omega) (fun v hv => by
    obtain ⟨j, hj⟩ := List.mem_iff_getElem?.1 hv
    rw [List.getElem?_take] at hj
    split at hj
    · obtain ⟨z, hz⟩ := ho j (by assumption)
      have : some v = some (.int .u64 z) := by rw [← hz, ← hj]; simp
      cases this
      rfl
    · cases hj)
  rw [hl] at hrun
  refine ⟨_, hrun, ⟨_, setRow_heap w g _ _ t1 _ hg, ?_, fun j => ?_⟩, ⟨rfl, rfl, rfl, by simp [World.setRow], fun k hk hne => setRow_other w g k _ (fun e => hne (by rw [e]))⟩⟩
  · simp
    omega
  · simp only [List.take_zero, List.nil_append, Nat.zero_add, List.getElem?_toArray]
    by_cases e : j < k
    · rw [if_pos e, List.getElem?_append_left (by omega), List.getElem?_take, if_pos e]
      simp
    · rw [if_neg e, List.getElem?_append_right (by omega), hl, List.getElem?_drop]
      simp
      congr 1
      omega
theorem packed_any (N : Nat → Int) (hN : W18 N) (w : World) : Calls Try.prog 30 #[.agg (upA N)] w fun e w' => e = .returned (.agg (nvA N)) ∧ Below w.heap.size w w' := by
  obtain ⟨x, hx⟩ : ∃ x, ((w.alloc (.cells (upA N) 40)).alloc (.cells zeros18 58)).alloc (.cells zeros18 58) = x := ⟨_, rfl⟩
  have z1 : (w.alloc (.cells (upA N) 40)).heap.size = w.heap.size + 1 := by simp
  have z2 : ((w.alloc (.cells (upA N) 40)).alloc (.cells zeros18 58)).heap.size = w.heap.size + 1 + 1 := by simp
  have b0 : Below w.heap.size w x := by rw [← hx]; exact (((Below.refl _ _).alloc (Nat.le_refl _) _).alloc (by simp) _).alloc (by simp; omega) _
  have a0 : x.heap[w.heap.size]? = some (.cells (upA N) 40 (0, 0)) := by rw [← hx, heap_alloc_past _ _ (by omega), heap_alloc_past _ _ (by omega)]; exact heap_alloc_at _ _
  have a1 : x.heap[w.heap.size + 1]? = some (.cells zeros18 58 (0, 0)) := by rw [← hx, heap_alloc_past _ _ (by omega), ← z1]; exact heap_alloc_at _ _
  have a2 : x.heap[w.heap.size + 1 + 1]? = some (.cells zeros18 58 (0, 0)) := by rw [← hx, ← z2]; exact heap_alloc_at _ _
  obtain ⟨y, hr, ⟨ds, hd, hz, hj⟩, hgr⟩ := copy_rows (w := x.drew) 3 (w.heap.size + 1 + 1) w.heap.size 18 16 16 zeros18 (upA N) 58 40 a2 a0 rfl (by decide) (by rw [upA_size]; omega) (fun j hj => ⟨_, upA_at N j (by omega)⟩)
  have c0 : y.heap[w.heap.size]? = some (.cells (upA N) 40 (0, 0)) := (gr_keep hgr (k := w.heap.size) (lt_of_heap a0) (by omega)).trans a0
  have c1 : y.heap[w.heap.size + 1]? = some (.cells zeros18 58 (0, 0)) := (gr_keep hgr (k := w.heap.size + 1) (lt_of_heap a1) (by omega)).trans a1
  have q16 : y.cell? ⟨w.heap.size, 16, none⟩ = some (.int .u64 (N 16)) := (cell_at c0 16).trans rfl
  have q17 : y.cell? ⟨w.heap.size, 17, none⟩ = some (.int .i64 (s64 (N 17))) := (cell_at c0 17).trans rfl
  have r16 : y.cell? ⟨w.heap.size + 1 + 1, 16, none⟩ = some (.int .u64 0) := ((cell_at hd 16).trans (hj 16)).trans rfl
  have r17 : y.cell? ⟨w.heap.size + 1 + 1, 17, none⟩ = some (.int .u64 0) := ((cell_at hd 17).trans (hj 17)).trans rfl
  have f16 := fz_at hd 16
  have f17 := fz_at hd 17
  have yl := lt_of_heap hd
  have e17 := u_s64 (hN 17 (by decide))
  have k1 := heap_setCell hd 16 (.int .u64 (N 16))
  have k2 := heap_setCell k1 17 (.int .u64 (IntKind.u64.wrap (s64 (N 17))))
  have t2 := (trn_set1 hd 16 (.int .u64 (N 16))).trans (trn_set1 k1 17 (.int .u64 (IntKind.u64.wrap (s64 (N 17)))))
  have ea : (ds.setIfInBounds 16 (.int .u64 (N 16))).setIfInBounds 17 (.int .u64 (IntKind.u64.wrap (s64 (N 17)))) = nvA N := by
    apply Array.ext_getElem?
    intro i
    have hz' : ds.size = 18 := hz
    simp only [Array.getElem?_setIfInBounds, Array.size_setIfInBounds, hz', e17]
    by_cases h : i < 18
    · rw [nvA_at N i h]
      by_cases h1 : 17 = i
      · subst h1; simp
      · by_cases h2 : 16 = i
        · subst h2; simp
        · rw [if_neg h1, if_neg h2, hj i, if_pos (by omega), upA_at N i (by omega)]
    · rw [if_neg (by omega), if_neg (by omega), Array.getElem?_eq_none (by omega), Array.getElem?_eq_none (by rw [nvA_size]; omega)]
  rw [ea] at k2
  have HL : Hid (_) := k2
  have HS : Hid (_) := (t2.block (w.heap.size + 1) (lt_of_heap c1) (by omega)).trans c1
  have HB : Hid (Below w.heap.size w ((y.setCell ⟨w.heap.size + 1 + 1, 16, none⟩ (.int .u64 (N 16))).setCell ⟨w.heap.size + 1 + 1, 17, none⟩ (.int .u64 (IntKind.u64.wrap (s64 (N 17)))))) := ((b0.drew.trans (gr_below hgr (by omega) b0.size)).setCell (show w.heap.size ≤ w.heap.size + 1 + 1 by omega) _).setCell (show w.heap.size ≤ w.heap.size + 1 + 1 by omega) _
  clear ea k1 k2 t2
  clear hd hj hgr c0 c1 a0 a1 a2 b0 e17
  unfold zeros18 at hx
  go_enter Try.func30, Try.ntmps30
  go_wp2_with fail
  clear hx
  go_region
  go_wp2_with (first
    | (refine wpList_load_row rfl 58 _ rfl (w.heap.size + 1 + 1) rfl 58 (nvA N) (0, 0) _ HL.out Try.underlying58 rfl inf58 ?_)
    | (refine wpList_store_row rfl 58 _ _ rfl (w.heap.size + 1) (nvA N) rfl rfl 58 zeros18 HS.out inf58 rfl (nvA_one N) ?_)
    | fail)
  refine bodyPost_ret (v := _) (results_cell_row Try.results30 _ _ _ _ _ _ _ rfl (setRow_heap _ _ _ _ _ _ HS.out) Try.underlying58 rfl inf58) rfl ⟨rfl, HB.out.trans (below_setRow' _ _ (by omega) _)⟩
/-- what may be set of them -/
def al (N : Nat → Int) : Nat → Int := fun k => if k = 0 then 0 else if k = 17 then bits .and .u64 (N 17) 1 else N k
theorem al_w {N : Nat → Int} (h : W18 N) : W18 (al N) := fun k hk => by
  unfold al
  split
  · exact ⟨by omega, by omega⟩
  · split
    · exact ⟨Go.bits_lo_u64 _ _ _, by have := Go.bits_hi_u64 .and (N 17) 1; omega⟩
    · exact h k hk
theorem allowed_any (N : Nat → Int) (w : World) : Calls Try.prog 34 #[.agg (nvA N)] w fun e w' => e = .returned (.agg (nvA (al N))) ∧ Below w.heap.size w w' := by
  obtain ⟨x, hx⟩ : ∃ x, (w.alloc (.cells (nvA N) 58)).alloc (.cells zeros18 58) = x := ⟨_, rfl⟩
  have z1 : (w.alloc (.cells (nvA N) 58)).heap.size = w.heap.size + 1 := by simp
  have b0 : Below w.heap.size w x := by rw [← hx]; exact ((Below.refl _ _).alloc (Nat.le_refl _) _).alloc (by simp) _
  have a0 : x.heap[w.heap.size]? = some (.cells (nvA N) 58 (0, 0)) := by rw [← hx, heap_alloc_past _ _ (by omega)]; exact heap_alloc_at _ _
  have a1 : x.heap[w.heap.size + 1]? = some (.cells zeros18 58 (0, 0)) := by rw [← hx, ← z1]; exact heap_alloc_at _ _
  have q0 : x.cell? ⟨w.heap.size, 0, none⟩ = some (.int .u64 (N 0)) := (cell_at a0 0).trans rfl
  have q17 : x.cell? ⟨w.heap.size, 17, none⟩ = some (.int .u64 (N 17)) := (cell_at a0 17).trans rfl
  have f0 := fz_at a0 0
  have f17 := fz_at a0 17
  have xl := lt_of_heap a0
  have k1 := heap_setCell a0 0 (.int .u64 0)
  have k2 := heap_setCell k1 17 (.int .u64 (bits .and .u64 (N 17) 1))
  have t2 := (trn_set1 a0 0 (.int .u64 0)).trans (trn_set1 k1 17 (.int .u64 (bits .and .u64 (N 17) 1)))
  have HL : Hid (((x.setCell ⟨w.heap.size, 0, none⟩ (.int .u64 0)).setCell ⟨w.heap.size, 17, none⟩ (.int .u64 (bits .and .u64 (N 17) 1))).heap[w.heap.size]? = some (.cells (nvA (al N)) 58 (0, 0))) := k2.trans rfl
  have HS : Hid (_) := (t2.block (w.heap.size + 1) (lt_of_heap a1) (by omega)).trans a1
  have HB : Hid (Below w.heap.size w ((x.setCell ⟨w.heap.size, 0, none⟩ (.int .u64 0)).setCell ⟨w.heap.size, 17, none⟩ (.int .u64 (bits .and .u64 (N 17) 1)))) := (b0.setCell (Nat.le_refl _) _).setCell (Nat.le_refl _) _
  clear k1 k2 t2 a0 a1 b0
  unfold zeros18 at hx
  go_enter Try.func34, Try.ntmps34
  go_wp2_with (first
    | (refine wpList_load_row rfl 58 _ rfl w.heap.size rfl 58 (nvA (al N)) (0, 0) _ HL.out Try.underlying58 rfl inf58 ?_)
    | (refine wpList_store_row rfl 58 _ _ rfl (w.heap.size + 1) (nvA (al N)) rfl rfl 58 zeros18 HS.out inf58 rfl (nvA_one _) ?_)
    | fail)
  refine bodyPost_ret (v := _) (results_cell_row Try.results34 _ _ _ _ _ _ _ rfl (setRow_heap _ _ _ _ _ _ HS.out) Try.underlying58 rfl inf58) rfl ⟨rfl, HB.out.trans (below_setRow' _ _ (by omega) _)⟩
def zeroRegs : Array Value := #[.int .u64 0, .int .u64 0, .int .u64 0, .int .u64 0, .int .u64 0, .int .u64 0, .int .u64 0, .int .u64 0, .int .u64 0, .int .u64 0, .int .u64 0, .int .u64 0, .int .u64 0, .int .u64 0, .int .u64 0, .int .u64 0, .int .u64 0, .int .i64 0]
def builtRegs (pc md : Int) : Array Value := #[.int .u64 0, .int .u64 0, .int .u64 0, .int .u64 0, .int .u64 0, .int .u64 0, .int .u64 0, .int .u64 0, .int .u64 0, .int .u64 0, .int .u64 0, .int .u64 0, .int .u64 0, .int .u64 0, .int .u64 0, .int .u64 0, .int .u64 pc, .int .i64 md]
theorem builtRegs_one (pc md : Int) : (builtRegs pc md).all (·.oneCell') = true := by simp [builtRegs, Value.oneCell']
theorem unpacked_any (N : Nat → Int) (w : World) : Calls Try.prog 36 #[.agg (nvA N)] w fun e w' => e = .returned (.agg (upA N)) ∧ Below w.heap.size w w' := by
  obtain ⟨x1, hx1⟩ : ∃ x1, (w.alloc (.cells (nvA N) 58)).alloc (.cells zeroRegs 40) = x1 := ⟨_, rfl⟩
  obtain ⟨x, hx⟩ : ∃ x, x1.alloc (.cells zeroRegs 40) = x := ⟨_, rfl⟩
  have z1 : (w.alloc (.cells (nvA N) 58)).heap.size = w.heap.size + 1 := by simp
  have z2 : x1.heap.size = w.heap.size + 1 + 1 := by rw [← hx1]; simp
  have e0 : x1.heap[w.heap.size]? = some (.cells (nvA N) 58 (0, 0)) := by rw [← hx1, heap_alloc_past _ _ (by omega)]; exact heap_alloc_at _ _
  have b0 : Below w.heap.size w x := by rw [← hx, ← hx1]; exact (((Below.refl _ _).alloc (Nat.le_refl _) _).alloc (by simp) _).alloc (by simp; omega) _
  have a0 : x.heap[w.heap.size]? = some (.cells (nvA N) 58 (0, 0)) := by rw [← hx, heap_alloc_past _ _ (by omega)]; exact e0
  have a1 : x.heap[w.heap.size + 1]? = some (.cells zeroRegs 40 (0, 0)) := by rw [← hx, heap_alloc_past _ _ (by omega), ← hx1, ← z1]; exact heap_alloc_at _ _
  have a2 : x.heap[w.heap.size + 1 + 1]? = some (.cells zeroRegs 40 (0, 0)) := by rw [← hx, ← z2]; exact heap_alloc_at _ _
  obtain ⟨x2, hx2⟩ : ∃ x2, x.setRow (w.heap.size + 1 + 1) (builtRegs (N 16) (s64 (N 17))) = x2 := ⟨_, rfl⟩
  have tr : Trn (fun k => k = w.heap.size + 1 + 1) x x2 := by rw [← hx2]; exact trn_setRow (S := fun k => k = w.heap.size + 1 + 1) _ _ rfl _
  have c0 := (tr.block w.heap.size (lt_of_heap a0) (by omega)).trans a0
  have c1 := (tr.block (w.heap.size + 1) (lt_of_heap a1) (by omega)).trans a1
  have c2 : x2.heap[w.heap.size + 1 + 1]? = some (.cells (builtRegs (N 16) (s64 (N 17))) 40 (0, 0)) := by rw [← hx2]; exact setRow_heap _ _ _ _ _ _ a2
  obtain ⟨y, hr, ⟨ds, hd, hz, hj⟩, hgr⟩ := copy_rows (w := x2.drew) 3 (w.heap.size + 1 + 1) w.heap.size 16 18 16 _ (nvA N) 40 58 c2 c0 rfl (by simp [builtRegs]) (by rw [nvA_size]; omega) (fun j hj => ⟨_, nvA_at N j (by omega)⟩)
  have ea : ds = upA N := by
    apply Array.ext_getElem?
    intro i
    rw [hj i]
    by_cases h : i < 16
    · rw [if_pos h, nvA_at N i (by omega), upA_at N i (by omega)]
    · rw [if_neg h]
      by_cases h1 : i < 18
      · obtain rfl | rfl : i = 16 ∨ i = 17 := by omega
        · rfl
        · rfl
      · rw [Array.getElem?_eq_none (by simp [builtRegs]; omega), Array.getElem?_eq_none (by rw [upA_size]; omega)]
  rw [ea] at hd
  have d1 : y.heap[w.heap.size + 1]? = some (.cells zeroRegs 40 (0, 0)) := (gr_keep hgr (k := w.heap.size + 1) (lt_of_heap c1) (by omega)).trans c1
  have q16 : x1.cell? ⟨w.heap.size, 16, none⟩ = some (.int .u64 (N 16)) := (cell_at e0 16).trans rfl
  have q17 : x1.cell? ⟨w.heap.size, 17, none⟩ = some (.int .u64 (N 17)) := (cell_at e0 17).trans rfl
  have l1 := lt_of_heap e0
  have HA : Hid (_) := a2
  have HL : Hid (_) := hd
  have HS : Hid (_) := d1
  have HB : Hid (Below w.heap.size w y) := (b0.trans (tr.below b0.size (fun k e => by omega))).drew.trans (gr_below hgr (by omega) (Nat.le_trans b0.size tr.size))
  clear e0 hd d1 hgr c0 c1 c2 a0 a1 a2 b0 tr ea hj
  unfold zeroRegs at hx hx1
  go_enter Try.func36, Try.ntmps36
  go_wp2_with (first
    | (refine wpList_store_row rfl 40 _ _ rfl (w.heap.size + 1 + 1) (builtRegs (N 16) (s64 (N 17))) rfl rfl 40 zeroRegs HA.out inf25 rfl (builtRegs_one _ _) ?_)
    | fail)
  clear hx hx1
  go_region
  go_wp2_with (first
    | (refine wpList_load_row rfl 40 _ rfl (w.heap.size + 1 + 1) rfl 40 (upA N) (0, 0) _ HL.out Try.underlying40 rfl inf25 ?_)
    | (refine wpList_store_row rfl 40 _ _ rfl (w.heap.size + 1) (upA N) rfl rfl 40 zeroRegs HS.out inf25 rfl (upA_one _) ?_)
    | fail)
  refine bodyPost_ret (v := _) (results_cell_row Try.results36 _ _ _ _ _ _ _ rfl (setRow_heap _ _ _ _ _ _ HS.out) Try.underlying40 rfl inf25) rfl ⟨rfl, HB.out.trans (below_setRow' _ _ (by omega) _)⟩
end Go.Proofs.Ytjkaeclemflifaa
