/-
  What no call made has no frames: the walk of FramesNobody.
-/
import Derived.Test.YtcnoonhcofnghaaUn
namespace Go.Proofs.Ytcnoonhcofnghaa
open Go.RowKit
set_option linter.unusedVariables false
set_option maxRecDepth 20000

/-- the call that came in (block A), and two that no call made (row L, block E) -/
structure NB (w0 w : World) (A L E : Nat) (kd fr ow to : Int) : Prop where
  bel : Below w0.heap.size w0 w
  a : w.heap[A]? = some (.cells #[.int .i64 kd, .int .i64 fr, .int .i64 ow, .int .i64 to] 33 (0, 0))
  l : w.heap[L]? = some (.cells #[.pointer none, .pointer (some ⟨E, 0, none⟩)] 23 (0, 0))
  e : E < w.heap.size ∧ w.cell? ⟨E, 0, none⟩ = some (.slice none 0 0)
theorem NB.cells {w0 w : World} {A L E : Nat} {kd fr ow to : Int} (h : NB w0 w A L E kd fr ow to) :
    w.cell? ⟨A, 1, none⟩ = some (.int .i64 fr) ∧ w.cell? ⟨A, 2, none⟩ = some (.int .i64 ow) ∧ w.cell? ⟨A, 3, none⟩ = some (.int .i64 to) ∧
    w.cell? ⟨L, 0, none⟩ = some (.pointer none) ∧ w.cell? ⟨L, 1, none⟩ = some (.pointer (some ⟨E, 0, none⟩)) ∧ A < w.heap.size ∧ L < w.heap.size := by
  refine ⟨?_, ?_, ?_, ?_, ?_, lt_of_heap h.a, lt_of_heap h.l⟩ <;> simp [World.cell?, h.a, h.l]
theorem NB.start (w : World) (kd fr ow to : Int) (xs : Array Value) (hx : xs[0]? = some (.slice none 0 0)) :
    NB w (((w.alloc (.cells #[.int .i64 kd, .int .i64 fr, .int .i64 ow, .int .i64 to] 33)).alloc (.cells xs 51)).alloc (.cells #[.pointer none, .pointer (some ⟨w.heap.size + 1, 0, none⟩)] 23)) w.heap.size (w.heap.size + 2) (w.heap.size + 1) kd fr ow to := by
  have s1 : (w.alloc (.cells #[.int .i64 kd, .int .i64 fr, .int .i64 ow, .int .i64 to] 33)).heap.size = w.heap.size + 1 := by simp
  have a1 := heap_alloc_at w (.cells #[.int .i64 kd, .int .i64 fr, .int .i64 ow, .int .i64 to] 33)
  have b1 : Below w.heap.size w (w.alloc (.cells #[.int .i64 kd, .int .i64 fr, .int .i64 ow, .int .i64 to] 33)) := (Below.refl _ _).alloc (Nat.le_refl _) _
  generalize w.alloc (.cells #[.int .i64 kd, .int .i64 fr, .int .i64 ow, .int .i64 to] 33) = w1 at *
  have s2 : (w1.alloc (.cells xs 51)).heap.size = w.heap.size + 2 := by simp; omega
  have a2 := heap_alloc_at w1 (.cells xs 51)
  have a1' := (heap_alloc_past w1 (.cells xs 51) (k := w.heap.size) (by omega)).trans a1
  have b2 := b1.alloc (by omega) (.cells xs 51)
  rw [s1] at a2
  generalize w1.alloc (.cells xs 51) = w2 at *
  have a3 := heap_alloc_at w2 (.cells #[.pointer none, .pointer (some ⟨w.heap.size + 1, 0, none⟩)] 23)
  rw [s2] at a3
  refine ⟨b2.alloc (by omega) _, (heap_alloc_past w2 _ (by omega)).trans a1', a3, by simp; omega, ?_⟩
  rw [cell_at ((heap_alloc_past w2 _ (by omega)).trans a2)]
  exact hx
namespace framesNobody
set_option maxHeartbeats 1600000 in
theorem walk (kd fr ow to : Int) (w : World) :
    Calls Try.prog 4 #[.agg #[.int .i64 kd, .int .i64 fr, .int .i64 ow, .int .i64 to]] w fun e w' => e = .returned (.bool true) ∧ Below w.heap.size w w' := by
  go_enter Try.func4, Try.ntmps4
  go_wp2_with fail
  go_loopw [18] (fun i wr => ∃ j : Nat, j ≤ 2 ∧ i = .int .i64 j ∧ Hid (NB w wr w.heap.size (w.heap.size + 2) (w.heap.size + 1) kd fr ow to)) (fun i _ => 2 - (intOf i).toNat)
  case atStart => exact ⟨0, by omega, rfl, NB.start w kd fr ow to _ rfl⟩
  case round =>
    obtain ⟨j, hj, rfl, HJ⟩ := hrel
    obtain ⟨a1, a2, a3, l0, l1, hA, hL⟩ := HJ.out.cells
    by_cases e2 : j = 2
    · subst e2
      go_wp2_with fail
      go_ret
      exact ⟨rfl, HJ.out.bel⟩
    have HP : ∃ p : Value, wr.cell? ⟨w.heap.size + 2, j, none⟩ = some p ∧ Hid (UN wr p) := by
      match j, hj, e2 with
      | 0, _, _ => exact ⟨_, l0, .inl rfl⟩
      | 1, _, _ => exact ⟨_, l1, .inr ⟨_, rfl, HJ.out.e⟩⟩
      | k + 2, h, e => exact absurd h (by omega)
    obtain ⟨p, lp, HU0⟩ := HP
    have HU := HU0.out
    have hj2 : (j : Int) < 2 := by omega
    clear l0 l1
    have hs : w.heap.size + 2 < wr.heap.size := hL
    generalize w.heap.size + 2 = L at *
    go_wp2_with fail
    refine (alloc_un HU ow).mono ?_
    rintro e w2 ⟨rfl, rfl⟩
    go_wp2_with fail
    refine (free_un HU fr ow).mono ?_
    rintro e w2 ⟨rfl, rfl⟩
    go_wp2_with fail
    refine (owner_un HU fr).mono ?_
    rintro e w2 ⟨rfl, rfl⟩
    go_wp2_with fail
    refine (count_un HU ow).mono ?_
    rintro e w2 ⟨rfl, rfl⟩
    go_wp2_with fail
    refine (hold_un HU fr ow).mono ?_
    rintro e w2 ⟨rfl, rfl⟩
    go_wp2_with fail
    refine (move_un HU fr ow to).mono ?_
    rintro e w2 ⟨rfl, rfl⟩
    go_wp2_with fail
    refine (quota_un HU ow 1).mono ?_
    rintro e w2 ⟨rfl, rfl⟩
    go_wp2_with fail
    refine (list_un HU ow).mono ?_
    rintro e w2 ⟨rfl, rfl⟩
    go_wp2_with fail
    refine (sum_un HU).mono ?_
    rintro e w2 ⟨rfl, rfl⟩
    go_wp2_with fail
    go_roundw
    case rel => exact ⟨j + 1, by omega, by go_num, HJ.out⟩
    case measure => simp [intOf]; omega
end framesNobody
end Go.Proofs.Ytcnoonhcofnghaa
