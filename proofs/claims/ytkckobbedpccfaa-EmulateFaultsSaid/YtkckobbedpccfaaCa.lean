/-
  Call of emulate.
-/
import Derived.Test.YtkckobbedpccfaaEm
namespace Go.Proofs.Ytkckobbedpccfaa
open Go.RowKit
set_option linter.unusedVariables false
set_option maxRecDepth 100000
theorem inf22 : (Try.prog.info? 22).map (·.size) = some 1 := by kernel_rfl
/-- words copied from a place of a block to another block's beginning -/
theorem copy_off {w : World} (ty : TypeId) (g s n m k off : Nat) (dst src : Array Value) (t1 t2 : TypeId) (hg : w.heap[g]? = some (.cells dst t1 (0, 0))) (hs : w.heap[s]? = some (.cells src t2 (0, 0))) (hk : k = Nat.min m n) (h1 : k ≤ dst.size) (h2 : off + k ≤ src.size) (ho : ∀ j, j < k → ∃ z, src[off + j]? = some (.int .u64 z)) :
    ∃ y, (Builtin.copy_ #[39, 39] ty #[.slice (some ⟨g, 0, none⟩) n n, .slice (some ⟨s, off, none⟩) m m]).run Try.prog w = .ok (goInt k) y ∧ (∃ ds, y.heap[g]? = some (.cells ds t1 (0, 0)) ∧ ds.size = dst.size ∧ ∀ j, ds[j]? = if j < k then src[off + j]? else dst[j]?) ∧ w.grownBy y (some g) := by
  have hl : ((src.toList.drop off).take k).length = k := by simp; omega
  have hat : ∀ j, ((src.toList.drop off).take k)[j]? = if j < k then src[off + j]? else none := fun j => by
    rw [List.getElem?_take]
    by_cases e : j < k
    · rw [if_pos e, if_pos e, List.getElem?_drop]
      simp
    · rw [if_neg e, if_neg e]
  have hrun := run_copy_row (P := Try.prog) w 39 39 ty 22 g 0 n n ⟨s, off, none⟩ m m dst t1 ((src.toList.drop off).take k) Try.underlying39 inf22 hg (by rw [hl, hk]) (fun j v hv => by
    have hp : (⟨s, off, none⟩ : Addr).add j = ⟨s, off + j, none⟩ := by unfold Addr.add; split <;> simp_all
    rw [hat] at hv
    rw [hp, cell_at hs]
    split at hv
    · exact hv
    · cases hv) (by rw [hl]; omega) (fun v hv => by
    obtain ⟨j, hj⟩ := List.mem_iff_getElem?.1 hv
    rw [hat] at hj
    split at hj
    · obtain ⟨z, hz⟩ := ho j (by assumption)
      rw [hz] at hj
      cases hj
      rfl
    · cases hj)
  rw [hl] at hrun
  refine ⟨_, hrun, ⟨_, setRow_heap w g _ _ t1 _ hg, ?_, fun j => ?_⟩, ⟨rfl, rfl, rfl, by simp [World.setRow], fun k hk hne => setRow_other w g k _ (fun e => hne (by rw [e]))⟩⟩
  · simp
    omega
  · simp only [List.take_zero, List.nil_append, Nat.zero_add, List.getElem?_toArray]
    by_cases e : j < k
    · rw [if_pos e, List.getElem?_append_left (by omega), hat, if_pos e]
    · rw [if_neg e, List.getElem?_append_right (by omega), hl, List.getElem?_drop]
      simp
      congr 1
      omega
def argA (X : Nat → Int) : Array Value := #[.int .u64 (X 11), .int .u64 (X 12), .int .u64 (X 13), .int .u64 (X 14)]
def zero4 : Array Value := #[.int .u64 0, .int .u64 0, .int .u64 0, .int .u64 0]
theorem inf28 : (Try.prog.info? 28).map (·.size) = some 4 := by kernel_rfl
theorem argA_one (X : Nat → Int) : (argA X).all (·.oneCell') = true := by simp [argA, Value.oneCell']
theorem call_any (X : Nat → Int) (pc m : Int) (w : World) : Calls Try.prog 5 #[.agg (regC X pc m)] w fun r w' => r = .returned (.tuple #[.int .u64 (X 10), .agg (argA X)]) ∧ Below w.heap.size w w' := by
  obtain ⟨x, hx⟩ : ∃ x, (w.alloc (.cells (regC X pc m) 27)).alloc (.cells zero4 28) = x := ⟨_, rfl⟩
  obtain ⟨b0, a0, a1, zx⟩ := two_at hx
  obtain ⟨y, hr, ⟨ds, hd, hz, hj⟩, hgr⟩ := copy_off (w := x.drew) 3 (w.heap.size + 1) w.heap.size 4 5 4 11 zero4 (regC X pc m) 28 27 a1 a0 rfl (by decide) (show 11 + 4 ≤ 18 by decide) (fun j hj => ⟨X (11 + j), regC_at X pc m (11 + j) (by omega)⟩)
  have c0 : y.heap[w.heap.size]? = some (.cells (regC X pc m) 27 (0, 0)) := (gr_keep hgr (k := w.heap.size) (lt_of_heap a0) (by omega)).trans a0
  have ea : ds = argA X := by
    apply Array.ext_getElem?
    intro i
    rw [hj i]
    by_cases h : i < 4
    · rw [if_pos h, regC_at X pc m (11 + i) (by omega)]
      match i, h with
      | 0, _ | 1, _ | 2, _ | 3, _ => rfl
      | k + 4, h => omega
    · rw [if_neg h, Array.getElem?_eq_none (by show 4 ≤ i; omega), Array.getElem?_eq_none (by show 4 ≤ i; omega)]
  rw [ea] at hd
  have q10 : y.cell? ⟨w.heap.size, 10, none⟩ = some (.int .u64 (X 10)) := (cell_at c0 10).trans rfl
  have yl := lt_of_heap hd
  have HL : Hid (_) := hd
  have HB : Hid (Below w.heap.size w y) := b0.drew.trans (gr_below hgr (by omega) b0.size)
  have d0 : y.cell? ⟨w.heap.size + 1, 0, none⟩ = some (.int .u64 (X 11)) := (cell_at hd 0).trans rfl
  have d1 : y.cell? ⟨w.heap.size + 1, 1, none⟩ = some (.int .u64 (X 12)) := (cell_at hd 1).trans rfl
  have d2 : y.cell? ⟨w.heap.size + 1, 2, none⟩ = some (.int .u64 (X 13)) := (cell_at hd 2).trans rfl
  have d3 : y.cell? ⟨w.heap.size + 1, 3, none⟩ = some (.int .u64 (X 14)) := (cell_at hd 3).trans rfl
  have k0 := heap_setCell hd 0 (.int .u64 (X 11))
  have k1 := heap_setCell k0 1 (.int .u64 (X 12))
  have k2 := heap_setCell k1 2 (.int .u64 (X 13))
  have k3 := heap_setCell k2 3 (.int .u64 (X 14))
  have n0 := (cell_at k0 0).trans (b := _) (c := some (.int .u64 (X 11))) rfl
  have n1 := (cell_at k1 1).trans (b := _) (c := some (.int .u64 (X 12))) rfl
  have n2 := (cell_at k2 2).trans (b := _) (c := some (.int .u64 (X 13))) rfl
  have n3 := (cell_at k3 3).trans (b := _) (c := some (.int .u64 (X 14))) rfl
  have HN : Hid (_ ∧ _ ∧ _ ∧ _) := ⟨n0, n1, n2, n3⟩
  clear n0 n1 n2 n3 k0 k1 k2 k3
  have g0 := fz_at hd 0
  have g1 := fz_at hd 1
  have g2 := fz_at hd 2
  have g3 := fz_at hd 3
  clear hz ea hj hd hgr c0 a0 a1 b0 zx
  unfold zero4 at hx
  unfold argA
  go_enter Try.func5, Try.ntmps5
  go_wp2_with fail
  clear hx
  go_region
  go_wp2_with fail
  go_region
  all_goals
    rename_i hK
    refine hK _ _ ?_
    go_wp2_with fail
    obtain ⟨n0, n1, n2, n3⟩ := HN.out
    exact bodyPost_ret (v := .tuple #[.int .u64 (X 10), .agg #[.int .u64 (X 11), .int .u64 (X 12), .int .u64 (X 13), .int .u64 (X 14)]]) (by simp [results, Try.results5, go_sem, n0, n1, n2, n3]) rfl ⟨rfl, ((((HB.out.setCell (by simp) _).setCell (by simp) _).setCell (by simp) _).setCell (by simp) _).drew⟩
end Go.Proofs.Ytkckobbedpccfaa
