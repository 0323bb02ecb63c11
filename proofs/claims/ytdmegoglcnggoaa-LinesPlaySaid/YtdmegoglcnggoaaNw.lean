/-
  What New does.
-/
import Derived.Test.YtdmegoglcnggoaaSm
namespace Go.Proofs.Ytdmegoglcnggoaa
open Go.RowKit Go.Conc
set_option linter.unusedVariables false
set_option maxRecDepth 20000

theorem new_bad (n : Int) (h : n < 1 ∨ 8 < n) (w : World) : Calls Try.prog 8 #[.int .i64 n] w fun e w' => e = .returned (.tuple #[.pointer none, .int .i64 2]) ∧ w' = w := by
  rcases h with h | h
  · go_enter Try.func8, Try.ntmps8
    go_wp2
    go_ret2
    exact ⟨rfl, rfl⟩
  · have h' : ¬ n < 1 := by omega
    go_enter Try.func8, Try.ntmps8
    go_wp2
    go_ret2
    exact ⟨rfl, rfl⟩
theorem bytes3 : ∃ i, Try.prog.info? 3 = some i ∧ i.bytes = 8 := by
  have h : (Try.prog.info? 3).map (·.bytes) = some 8 := by kernel_rfl
  obtain ⟨i, hi, hb⟩ := Option.map_eq_some_iff.1 h
  exact ⟨i, hi, hb⟩
theorem mk16 (w : World) : (Instr.makeChan 65 (.int .i64 16)).run Try.prog w = .ok (.chan (some w.heap.size)) (w.alloc (.chan 16 #[] false 0 0 false)) := by
  obtain ⟨i, hi, hb⟩ := bytes3
  simpa using run_makeChan (P := Try.prog) (w := w) u65 hi .i64 16 (by omega) (by rw [hb]; omega)
def z67 : Value := .agg #[.chan none, .int .u64 0, .int .u64 0, .bool false]
theorem info67 : ∃ i, Try.prog.info? 67 = some i ∧ i.zero = some z67 ∧ i.size = 4 ∧ i.bytes = 32 := by
  have h : (Try.prog.info? 67).map (fun i => (i.zero, i.size, i.bytes)) = some (some z67, 4, 32) := by kernel_rfl
  obtain ⟨i, hi, hb⟩ := Option.map_eq_some_iff.1 h
  simp only [Prod.mk.injEq] at hb
  exact ⟨i, hi, hb.1, hb.2.1, hb.2.2⟩
/-- the cells of n new lines -/
def zs67 (n : Nat) : Array Value := madeCells z67.cells (n * 4)
theorem run_make67 (n : Nat) (hn : n ≤ 8) (w : World) : (Instr.makeSlice 56 (.int .i64 (n : Int)) (.int .i64 (n : Int))).run Try.prog w = .ok (.slice (some ⟨w.heap.size, 0, none⟩) n n) (w.alloc (.cells (zs67 n) 67)) := by
  obtain ⟨i0, hi, hz0, hz1, hz2⟩ := info67
  have hr := run_make (P := Try.prog) w 56 67 i0 z67 Try.underlying56 hi hz0 .i64 .i64 n n (by omega) (Int.le_refl _) (by rw [hz2]; omega) (by omega)
  simp only [Int.toNat_natCast] at hr
  rw [hr, hz1]
  rfl
theorem zs67_at (n i : Nat) (hi : i < n) : (zs67 n)[i * 4]? = some (.chan none) ∧ (zs67 n)[i * 4 + 1]? = some (.int .u64 0) ∧ (zs67 n)[i * 4 + 2]? = some (.int .u64 0) ∧ (zs67 n)[i * 4 + 3]? = some (.bool false) := by
  have e : z67.cells.size = 4 := rfl
  refine ⟨?_, ?_, ?_, ?_⟩
  · have : i * 4 < n * 4 := by omega
    simp [zs67, madeCells, e, this, Nat.mul_mod_left]
    rfl
  · have : i * 4 + 1 < n * 4 := by omega
    simp [zs67, madeCells, e, this, Nat.mul_add_mod_self_right]
    rfl
  · have : i * 4 + 2 < n * 4 := by omega
    simp [zs67, madeCells, e, this, Nat.mul_add_mod_self_right]
    rfl
  · have : i * 4 + 3 < n * 4 := by omega
    simp [zs67, madeCells, e, this, Nat.mul_add_mod_self_right]
    rfl
/-- between two rounds of New: j channels are there -/
structure NR (w wr : World) (n j : Nat) : Prop where
  bel : Below w.heap.size w wr
  size : wr.heap.size = w.heap.size + 2 + j
  ob : wr.heap[w.heap.size + 1]? = some (.cells #[.slice (some ⟨w.heap.size, 0, none⟩) n n] 58 (0, 0))
  rows : ∃ cur : Array Value, wr.heap[w.heap.size]? = some (.cells cur 67 (0, 0)) ∧ cur.size = n * 4 ∧ ∀ i, i < n → cur[i * 4]? = some (.chan (if i < j then some (w.heap.size + 2 + i) else none)) ∧ cur[i * 4 + 1]? = some (.int .u64 0) ∧ cur[i * 4 + 2]? = some (.int .u64 0) ∧ cur[i * 4 + 3]? = some (.bool false)
  ch : ∀ i, i < j → wr.heap[w.heap.size + 2 + i]? = some (.chan 16 #[] false 0 0 false)
theorem NR.begin (w : World) (n : Nat) : NR w ((w.alloc (.cells (zs67 n) 67)).alloc (.cells #[.slice (some ⟨w.heap.size, 0, none⟩) n n] 58)) n 0 := by
  refine ⟨((Below.refl _ _).alloc (Nat.le_refl _) _).alloc (by simp) _, by simp, ?_, ⟨zs67 n, ?_, by simp [zs67, size_madeCells], fun i hi => ?_⟩, fun i hi => absurd hi (by omega)⟩
  · have := heap_alloc_at (w.alloc (.cells (zs67 n) 67)) (.cells #[.slice (some ⟨w.heap.size, 0, none⟩) n n] 58)
    simpa using this
  · rw [heap_alloc_past _ _ (by simp)]
    exact heap_alloc_at w _
  · rw [if_neg (by omega)]
    exact zs67_at n i hi
theorem NR.next {w wr : World} {n j : Nat} (h : NR w wr n j) (hj : j < n) (d : Nat) : NR w (((wr.drewN d).alloc (.chan 16 #[] false 0 0 false)).setCell ⟨w.heap.size, j * 4, none⟩ (.chan (some wr.heap.size))) n (j + 1) := by
  obtain ⟨cur, r1, r2, r3⟩ := h.rows
  have hs := h.size
  have r1' : ((wr.drewN d).alloc (.chan 16 #[] false 0 0 false)).heap[w.heap.size]? = some (.cells cur 67 (0, 0)) := (heap_alloc_past (wr.drewN d) _ (by show _ < wr.heap.size; omega)).trans r1
  have ht := trn_setCell (fun k => k = w.heap.size) r1' rfl (j * 4) (.chan (some wr.heap.size))
  have e := setCell_eq_setRow _ w.heap.size (j * 4) cur 67 (0, 0) (.chan (some wr.heap.size)) r1'
  have hh := setRow_heap _ w.heap.size cur (cur.setIfInBounds (j * 4) (.chan (some wr.heap.size))) 67 _ r1'
  rw [← e] at hh
  have hsz : ((wr.drewN d).alloc (.chan 16 #[] false 0 0 false)).heap.size = wr.heap.size + 1 := by rw [World.size_alloc]; rfl
  have hal : Below wr.heap.size wr ((wr.drewN d).alloc (.chan 16 #[] false 0 0 false)) := ⟨rfl, rfl, rfl, by rw [hsz]; omega, fun k hk => heap_alloc_past (wr.drewN d) _ hk⟩
  refine ⟨?_, ?_, ?_, ⟨_, hh, by simpa using r2, fun i hi => ?_⟩, fun i hi => ?_⟩
  · exact (h.bel.trans (hal.mono h.bel.size)).trans (ht.below (fun k hk => Nat.le_of_eq hk.symm) (by rw [hsz]; omega))
  · rw [World.size_setCell, hsz]; omega
  · rw [ht.block _ (by rw [hsz]; omega) (by omega), hal.block _ (by omega)]
    exact h.ob
  · obtain ⟨q0, q1, q2, q3⟩ := r3 i hi
    refine ⟨?_, by rw [Array.getElem?_setIfInBounds, if_neg (by omega)]; exact q1, by rw [Array.getElem?_setIfInBounds, if_neg (by omega)]; exact q2, by rw [Array.getElem?_setIfInBounds, if_neg (by omega)]; exact q3⟩
    rw [Array.getElem?_setIfInBounds]
    by_cases hij : i = j
    · subst hij
      rw [if_pos rfl, if_pos (by omega), if_pos (by omega), hs]
    · rw [if_neg (by omega), q0]
      by_cases hlt : i < j
      · rw [if_pos hlt, if_pos (by omega)]
      · rw [if_neg hlt, if_neg (by omega)]
  · rw [ht.block _ (by rw [hsz]; omega) (by omega)]
    by_cases hij : i = j
    · subst hij
      rw [← hs]
      exact heap_alloc_at (wr.drewN d) _
    · rw [hal.block _ (by omega)]
      exact h.ch i (by omega)
theorem NR.done {w wr : World} {n : Nat} (h : NR w wr n n) (h1 : 1 ≤ n) (h8 : n ≤ 8) : LW w.heap.size wr (w.heap.size + 1) w.heap.size n (fun i => w.heap.size + 2 + i) (fun _ => l0) := by
  obtain ⟨cur, r1, r2, r3⟩ := h.rows
  refine ⟨h.ob, ⟨cur, r1, r2, fun i hi => ?_⟩, fun i hi => ⟨0, 0, h.ch i hi⟩, fun i j _ _ e => by omega, h1, h8, fun i hi => by simp [LOk, l0], by omega, Nat.le_refl _, fun i hi => by omega⟩
  have := r3 i hi
  rw [if_pos hi] at this
  exact this
set_option maxHeartbeats 1000000 in
theorem new_ok (n : Nat) (h1 : 1 ≤ n) (h8 : n ≤ 8) (w : World) : Calls Try.prog 8 #[.int .i64 n] w fun e w' => ∃ l b C, e = .returned (.tuple #[.pointer (some ⟨l, 0, none⟩), .int .i64 0]) ∧ LW w.heap.size w' l b n C (fun _ => l0) ∧ Below w.heap.size w w' := by
  have k1 : ¬ ((n : Int) < 1) := by omega
  have k2 : ¬ ((8 : Int) < (n : Int)) := by omega
  have hmk := mk16
  have hms := run_make67 n h8
  have E0 := NR.begin w n
  go_enter Try.func8, Try.ntmps8
  go_wp2_with fail
  clear hms
  go_loopw [21] (fun i wr => ∃ j : Nat, j ≤ n ∧ i = .int .i64 j ∧ NR w wr n j) (fun i _ => n - (intOf i).toNat)
  case atStart => exact ⟨0, by omega, rfl, E0⟩
  case round =>
    obtain ⟨j, hj, rfl, E⟩ := hrel
    clear E0
    by_cases h2 : j < n
    · have h2' : (j : Int) < (n : Int) := by omega
      have HE : Hid (NR w wr n j) := E
      have c0 : wr.cell? ⟨w.heap.size + 1, 0, none⟩ = some (.slice (some ⟨w.heap.size, 0, none⟩) n n) := by simp [World.cell?, E.ob]
      have hsz := E.size
      obtain ⟨cur, r1, r2, r3⟩ := E.rows
      have c1 : wr.cell? ⟨w.heap.size, j * 4, none⟩ = some (.chan none) := by rw [cell_at r1, (r3 j h2).1, if_neg (by omega)]
      have f1 : wr.frozen? ⟨w.heap.size, j * 4, none⟩ = false := by simp [World.frozen?, r1]
      have hal : Below wr.heap.size wr (wr.alloc (.chan 16 #[] false 0 0 false)) := (Below.refl _ _).alloc (Nat.le_refl _) _
      obtain ⟨hac, haf⟩ := bcell hal
      have d0 := (hac (w.heap.size + 1) 0 (by omega)).trans c0
      have d1 := (hac w.heap.size (j * 4) (by omega)).trans c1
      have g1 := (haf w.heap.size (j * 4) (by omega)).trans f1
      have HN : Hid (∀ d, NR w (((wr.drewN d).alloc (.chan 16 #[] false 0 0 false)).setCell ⟨w.heap.size, j * 4, none⟩ (.chan (some wr.heap.size))) n (j + 1)) := fun d => E.next h2 d
      rw [hsz] at HN
      clear E r1 r2 r3 hal hac haf
      go_wp2_with fail
      go_region
      all_goals
        go_wp2_with fail
        go_roundw
        case rel => exact ⟨j + 1, by omega, by go_num, HN.out 1⟩
        case measure => simp [intOf]; omega
    · obtain rfl : j = n := by omega
      go_wp2_with fail
      go_ret2
      exact ⟨_, _, _, rfl, E.done h1 h8, E.bel⟩
end Go.Proofs.Ytdmegoglcnggoaa
