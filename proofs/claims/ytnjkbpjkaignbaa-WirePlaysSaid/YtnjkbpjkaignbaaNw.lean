/-
  What New does.
-/
import Derived.Test.YtnjkbpjkaignbaaSm
namespace Go.Proofs.Ytnjkbpjkaignbaa
open Go.RowKit Go.Conc
set_option linter.unusedVariables false
set_option maxRecDepth 20000

theorem new_bad (a : Option Addr) (n c : Nat) (h : n < 1 ∨ 32 < n) (w : World) : Calls Try.prog 7 #[.slice a n c] w fun e w' => e = .returned (.tuple #[.pointer none, .int .i64 2]) ∧ w' = w := by
  rcases h with h | h
  · have h1 : (n : Int) < 1 := by omega
    go_enter Try.func7, Try.ntmps7
    go_wp2
    go_ret2
    exact ⟨rfl, rfl⟩
  · have h' : ¬ (n : Int) < 1 := by omega
    have h1 : (32 : Int) < (n : Int) := by omega
    go_enter Try.func7, Try.ntmps7
    go_wp2
    go_ret2
    exact ⟨rfl, rfl⟩
theorem bytes42 : ∃ i, Try.prog.info? 42 = some i ∧ i.bytes = 32 := by
  have h : (Try.prog.info? 42).map (·.bytes) = some 32 := by kernel_rfl
  obtain ⟨i, hi, hb⟩ := Option.map_eq_some_iff.1 h
  exact ⟨i, hi, hb⟩
theorem mk16 (w : World) : (Instr.makeChan 65 (.int .i64 16)).run Try.prog w = .ok (.chan (some w.heap.size)) (w.alloc (.chan 16 #[] false 0 0 false)) := by
  obtain ⟨i, hi, hb⟩ := bytes42
  simpa using run_makeChan (P := Try.prog) (w := w) u65 hi .i64 16 (by omega) (by rw [hb]; omega)
def z67 : Value := .agg #[.int .i64 0, .chan none]
theorem info67 : ∃ i, Try.prog.info? 67 = some i ∧ i.zero = some z67 ∧ i.size = 2 ∧ i.bytes = 16 := by
  have h : (Try.prog.info? 67).map (fun i => (i.zero, i.size, i.bytes)) = some (some z67, 2, 16) := by kernel_rfl
  obtain ⟨i, hi, hb⟩ := Option.map_eq_some_iff.1 h
  simp only [Prod.mk.injEq] at hb
  exact ⟨i, hi, hb.1, hb.2.1, hb.2.2⟩
/-- the cells of n new ports -/
def zs67 (n : Nat) : Array Value := madeCells z67.cells (n * 2)
theorem run_make67 (n : Nat) (hn : n ≤ 32) (w : World) : (Instr.makeSlice 58 (.int .i64 (n : Int)) (.int .i64 (n : Int))).run Try.prog w = .ok (.slice (some ⟨w.heap.size, 0, none⟩) n n) (w.alloc (.cells (zs67 n) 67)) := by
  obtain ⟨i0, hi, hz0, hz1, hz2⟩ := info67
  have hr := run_make (P := Try.prog) w 58 67 i0 z67 Try.underlying58 hi hz0 .i64 .i64 n n (by omega) (Int.le_refl _) (by rw [hz2]; omega) (by omega)
  simp only [Int.toNat_natCast] at hr
  rw [hr, hz1]
  rfl
/-- between two rounds of New: j ports are there -/
structure NR (w wr : World) (n j : Nat) (zs : List Int) : Prop where
  bel : Below w.heap.size w wr
  size : wr.heap.size = w.heap.size + 2 + j
  ob : wr.heap[w.heap.size + 1]? = some (.cells #[.slice (some ⟨w.heap.size, 0, none⟩) n n] 60 (0, 0))
  rows : ∃ cur : Array Value, wr.heap[w.heap.size]? = some (.cells cur 67 (0, 0)) ∧ cur.size = n * 2 ∧ ∀ i, i < j → cur[i * 2]? = some (.int .i64 (zs.getD i 0)) ∧ cur[i * 2 + 1]? = some (.chan (some (w.heap.size + 2 + i)))
  ch : ∀ i, i < j → wr.heap[w.heap.size + 2 + i]? = some (.chan 16 #[] false 0 0 false)
theorem NR.begin (w : World) (n : Nat) (zs : List Int) : NR w ((w.alloc (.cells (zs67 n) 67)).alloc (.cells #[.slice (some ⟨w.heap.size, 0, none⟩) n n] 60)) n 0 zs := by
  refine ⟨((Below.refl _ _).alloc (Nat.le_refl _) _).alloc (by simp) _, by simp, ?_, ⟨zs67 n, ?_, by simp [zs67, size_madeCells], fun i hi => absurd hi (by omega)⟩, fun i hi => absurd hi (by omega)⟩
  · have := heap_alloc_at (w.alloc (.cells (zs67 n) 67)) (.cells #[.slice (some ⟨w.heap.size, 0, none⟩) n n] 60)
    simpa using this
  · rw [heap_alloc_past _ _ (by simp)]
    exact heap_alloc_at w _
theorem NR.next {w wr : World} {n j : Nat} {zs : List Int} (h : NR w wr n j zs) (hj : j < n) (d : Nat) : NR w ((((wr.drewN d).alloc (.chan 16 #[] false 0 0 false)).setCell ⟨w.heap.size, j * 2, none⟩ (.int .i64 (zs.getD j 0))).setCell ⟨w.heap.size, j * 2 + 1, none⟩ (.chan (some wr.heap.size))) n (j + 1) zs := by
  obtain ⟨cur, r1, r2, r3⟩ := h.rows
  have hs := h.size
  have r1' : ((wr.drewN d).alloc (.chan 16 #[] false 0 0 false)).heap[w.heap.size]? = some (.cells cur 67 (0, 0)) := (heap_alloc_past (wr.drewN d) _ (by show _ < wr.heap.size; omega)).trans r1
  have t1 := trn_setCell (fun k => k = w.heap.size) r1' rfl (j * 2) (.int .i64 (zs.getD j 0))
  have e1 := setCell_eq_setRow _ w.heap.size (j * 2) cur 67 (0, 0) (.int .i64 (zs.getD j 0)) r1'
  have h1 := setRow_heap _ w.heap.size cur (cur.setIfInBounds (j * 2) (.int .i64 (zs.getD j 0))) 67 _ r1'
  rw [← e1] at h1
  have t2 := trn_setCell (fun k => k = w.heap.size) h1 rfl (j * 2 + 1) (.chan (some wr.heap.size))
  have e2 := setCell_eq_setRow _ w.heap.size (j * 2 + 1) _ 67 (0, 0) (.chan (some wr.heap.size)) h1
  have h2 := setRow_heap _ w.heap.size _ ((cur.setIfInBounds (j * 2) (.int .i64 (zs.getD j 0))).setIfInBounds (j * 2 + 1) (.chan (some wr.heap.size))) 67 _ h1
  rw [← e2] at h2
  have ht := t1.trans t2
  have hsz : ((wr.drewN d).alloc (.chan 16 #[] false 0 0 false)).heap.size = wr.heap.size + 1 := by rw [World.size_alloc]; rfl
  have hal : Below wr.heap.size wr ((wr.drewN d).alloc (.chan 16 #[] false 0 0 false)) := ⟨rfl, rfl, rfl, by rw [hsz]; omega, fun k hk => heap_alloc_past (wr.drewN d) _ hk⟩
  refine ⟨?_, ?_, ?_, ⟨_, h2, by simpa using r2, fun i hi => ?_⟩, fun i hi => ?_⟩
  · exact (h.bel.trans (hal.mono h.bel.size)).trans (ht.below (fun k hk => Nat.le_of_eq hk.symm) (by rw [hsz]; omega))
  · rw [World.size_setCell, World.size_setCell, hsz]; omega
  · rw [ht.block _ (by rw [hsz]; omega) (by omega), hal.block _ (by omega)]
    exact h.ob
  · by_cases hij : i = j
    · subst hij
      refine ⟨?_, ?_⟩
      · rw [Array.getElem?_setIfInBounds, if_neg (by omega), Array.getElem?_setIfInBounds, if_pos rfl, if_pos (by omega)]
      · rw [Array.getElem?_setIfInBounds, if_pos rfl, if_pos (by simp; omega), hs]
    · obtain ⟨q0, q1⟩ := r3 i (by omega)
      refine ⟨?_, ?_⟩
      · rw [Array.getElem?_setIfInBounds, if_neg (by omega), Array.getElem?_setIfInBounds, if_neg (by omega)]; exact q0
      · rw [Array.getElem?_setIfInBounds, if_neg (by omega), Array.getElem?_setIfInBounds, if_neg (by omega)]; exact q1
  · rw [ht.block _ (by rw [hsz]; omega) (by omega)]
    by_cases hij : i = j
    · subst hij
      rw [← hs]
      exact heap_alloc_at (wr.drewN d) _
    · rw [hal.block _ (by omega)]
      exact h.ch i (by omega)
theorem NR.done {w wr : World} {n : Nat} {zs : List Int} (h : NR w wr n n zs) (h1 : 1 ≤ n) (h8 : n ≤ 32) (B : Nat) (hB : B ≤ w.heap.size) : WX B wr (w.heap.size + 1) w.heap.size n (fun i => w.heap.size + 2 + i) (fun i => zs.getD i 0) (fun _ => []) (fun _ => False) := by
  obtain ⟨cur, r1, r2, r3⟩ := h.rows
  exact ⟨fun _ => [], ⟨h.ob, ⟨cur, r1, r2, r3⟩, fun i hi => ⟨0, 0, h.ch i hi⟩, fun i j _ _ e => by omega, h1, h8, fun i hi => by simp, (fun i hi m hm => by cases hm), (fun i hi => by simp), (fun i j _ _ _ m hm => by cases hm), ⟨by omega, hB, fun i hi => by omega⟩, fun k hk => hk.elim⟩, fun i hi => rfl⟩
/-- a slice of n numbers -/
def Nu (w : World) (a : Option Addr) (n : Nat) (zs : List Int) : Prop := n = 0 ∨ ∃ b off, a = some ⟨b, off, none⟩ ∧ b < w.heap.size ∧ ∀ i, i < n → w.cell? ⟨b, off + i, none⟩ = some (.int .i64 (zs.getD i 0))
theorem Nu.below {w w' : World} {a : Option Addr} {n : Nat} {zs : List Int} (h : Nu w a n zs) (hb : Below w.heap.size w w') : Nu w' a n zs := by
  rcases h with h | ⟨b, off, rfl, hlt, hc⟩
  · exact .inl h
  · exact .inr ⟨b, off, rfl, Nat.lt_of_lt_of_le hlt hb.size, fun i hi => ((bcell hb).1 b _ hlt).trans (hc i hi)⟩
theorem Nu.at {w : World} {a : Option Addr} {n : Nat} {zs : List Int} (h : Nu w a n zs) {j : Nat} (hj : j < n) : ∃ b off, a = some ⟨b, off, none⟩ ∧ b < w.heap.size ∧ w.cell? ⟨b, off + j, none⟩ = some (.int .i64 (zs.getD j 0)) := by
  rcases h with h' | ⟨b, off, rfl, hb, hc⟩
  · omega
  · exact ⟨b, off, rfl, hb, hc j hj⟩
set_option maxHeartbeats 1000000 in
theorem new_ok (a : Option Addr) (n c : Nat) (zs : List Int) (h1 : 1 ≤ n) (h8 : n ≤ 32) (w : World) (hz : Nu w a n zs) (B : Nat) (hB : B ≤ w.heap.size) : Calls Try.prog 7 #[.slice a n c] w fun e w' => ∃ l b C, e = .returned (.tuple #[.pointer (some ⟨l, 0, none⟩), .int .i64 0]) ∧ WX B w' l b n C (fun i => zs.getD i 0) (fun _ => []) (fun _ => False) ∧ Below w.heap.size w w' ∧ w.heap.size ≤ l := by
  have k1 : ¬ ((n : Int) < 1) := by omega
  have k2 : ¬ ((32 : Int) < (n : Int)) := by omega
  have hmk := mk16
  have hms := run_make67 n h8
  have E0 := NR.begin w n zs
  have HZ : Hid (Nu w a n zs) := hz
  clear hz
  go_enter Try.func7, Try.ntmps7
  go_wp2_with fail
  clear hms
  go_loopw [22] (fun i wr => ∃ j : Nat, j ≤ n ∧ i = .int .i64 j ∧ NR w wr n j zs) (fun i _ => n - (intOf i).toNat)
  case atStart => exact ⟨0, by omega, rfl, E0⟩
  case round =>
    obtain ⟨j, hj, rfl, E⟩ := hrel
    clear E0
    by_cases h2 : j < n
    · have h2' : (j : Int) < (n : Int) := by omega
      obtain ⟨ab, aoff, rfl, hab, hac0⟩ := HZ.out.at h2
      have hac1 := ((bcell E.bel).1 ab (aoff + j) hab).trans hac0
      have habr : ab < wr.heap.size := Nat.lt_of_lt_of_le hab E.bel.size
      have c0 : wr.cell? ⟨w.heap.size + 1, 0, none⟩ = some (.slice (some ⟨w.heap.size, 0, none⟩) n n) := by simp [World.cell?, E.ob]
      have hsz := E.size
      obtain ⟨cur, r1, r2, r3⟩ := E.rows
      obtain ⟨v0, c1⟩ : ∃ v, wr.cell? ⟨w.heap.size, j * 2, none⟩ = some v := by rw [cell_at r1]; exact ⟨_, Array.getElem?_eq_getElem (by omega)⟩
      obtain ⟨v1, c2⟩ : ∃ v, wr.cell? ⟨w.heap.size, j * 2 + 1, none⟩ = some v := by rw [cell_at r1]; exact ⟨_, Array.getElem?_eq_getElem (by omega)⟩
      have f1 : wr.frozen? ⟨w.heap.size, j * 2, none⟩ = false := by simp [World.frozen?, r1]
      have f2 : wr.frozen? ⟨w.heap.size, j * 2 + 1, none⟩ = false := by simp [World.frozen?, r1]
      have hal : Below wr.heap.size wr (wr.alloc (.chan 16 #[] false 0 0 false)) := (Below.refl _ _).alloc (Nat.le_refl _) _
      obtain ⟨hac, haf⟩ := bcell hal
      have d0 := (hac (w.heap.size + 1) 0 (by omega)).trans c0
      have d1 := (hac w.heap.size (j * 2) (by omega)).trans c1
      have d2 := (hac w.heap.size (j * 2 + 1) (by omega)).trans c2
      have g1 := (haf w.heap.size (j * 2) (by omega)).trans f1
      have g2 := (haf w.heap.size (j * 2 + 1) (by omega)).trans f2
      have HN : Hid (∀ d, NR w ((((wr.drewN d).alloc (.chan 16 #[] false 0 0 false)).setCell ⟨w.heap.size, j * 2, none⟩ (.int .i64 (zs.getD j 0))).setCell ⟨w.heap.size, j * 2 + 1, none⟩ (.chan (some wr.heap.size))) n (j + 1) zs) := fun d => E.next h2 d
      rw [hsz] at HN
      clear E r1 r2 r3 hal hac haf hac0
      generalize zs.getD j 0 = z at *
      go_wp2_with fail
      go_region
      all_goals
        go_wp2_with fail
        go_roundw
        case rel => exact ⟨j + 1, by omega, by go_num, HN.out 1⟩
        case measure => simp [intOf]; omega
    · obtain rfl : n = j := by omega
      go_wp2_with fail
      go_ret2
      exact ⟨_, _, _, rfl, E.done h1 h8 B hB, E.bel, by omega⟩
end Go.Proofs.Ytnjkbpjkaignbaa
