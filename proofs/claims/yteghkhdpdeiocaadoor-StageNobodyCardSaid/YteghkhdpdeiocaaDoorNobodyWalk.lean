/-
  Tables that no call made map nothing: the walk of StageNobody.
-/
import Derived.Test.YteghkhdpdeiocaaDoorNb
namespace Go.Proofs.YteghkhdpdeiocaaDoor
open Go.RowKit
set_option linter.unusedVariables false
set_option maxRecDepth 100000

/-- the call that came in (block A), and two tables that no call made (row L, block E) -/
structure NB (w0 w : World) (A L E : Nat) (kd wh pa fr : Int) (a b c : Bool) : Prop where
  bel : Below w0.heap.size w0 w
  a : w.heap[A]? = some (.cells #[.int .i64 kd, .int .i64 wh, .int .i64 pa, .int .i64 fr, .bool a, .bool b, .bool c] 25 (0, 0))
  l : w.heap[L]? = some (.cells #[.pointer none, .pointer (some ⟨E, 0, none⟩)] 26 (0, 0))
  e : E < w.heap.size ∧ w.cell? ⟨E, 0, none⟩ = some (.pointer none)
section
variable {w0 w w' : World} {A L E : Nat} {kd wh pa fr : Int} {a b c : Bool}
theorem NB.cs (h : NB w0 w A L E kd wh pa fr a b c) : w.cell? ⟨A, 2, none⟩ = some (.int .i64 pa) ∧ w.cell? ⟨A, 3, none⟩ = some (.int .i64 fr) ∧ w.cell? ⟨A, 4, none⟩ = some (.bool a) ∧ w.cell? ⟨A, 5, none⟩ = some (.bool b) ∧ w.cell? ⟨A, 6, none⟩ = some (.bool c) ∧ A < w.heap.size := by
  refine ⟨?_, ?_, ?_, ?_, ?_, lt_of_heap h.a⟩ <;> rw [cell_at h.a] <;> rfl
theorem NB.ls (h : NB w0 w A L E kd wh pa fr a b c) : w.cell? ⟨L, 0, none⟩ = some (.pointer none) ∧ w.cell? ⟨L, 1, none⟩ = some (.pointer (some ⟨E, 0, none⟩)) ∧ L < w.heap.size := by
  refine ⟨?_, ?_, lt_of_heap h.l⟩ <;> rw [cell_at h.l] <;> rfl
theorem NB.below (h : NB w0 w A L E kd wh pa fr a b c) (hb : Below w.heap.size w w') : NB w0 w' A L E kd wh pa fr a b c :=
  ⟨h.bel.trans (hb.mono h.bel.size), (hb.block _ (lt_of_heap h.a)).trans h.a, (hb.block _ (lt_of_heap h.l)).trans h.l, Nat.lt_of_lt_of_le h.e.1 hb.size, (hb.cell (p := ⟨E, 0, none⟩) h.e.1).trans h.e.2⟩
end
theorem NB.start (w : World) (kd wh pa fr : Int) (a b c : Bool) (xs : Array Value) (hx : xs[0]? = some (.pointer none)) :
    NB w (((w.alloc (.cells #[.int .i64 kd, .int .i64 wh, .int .i64 pa, .int .i64 fr, .bool a, .bool b, .bool c] 25)).alloc (.cells xs 32)).alloc (.cells #[.pointer none, .pointer (some ⟨w.heap.size + 1, 0, none⟩)] 26)) w.heap.size (w.heap.size + 2) (w.heap.size + 1) kd wh pa fr a b c := by
  have s1 : (w.alloc (.cells #[.int .i64 kd, .int .i64 wh, .int .i64 pa, .int .i64 fr, .bool a, .bool b, .bool c] 25)).heap.size = w.heap.size + 1 := by simp
  have a1 := heap_alloc_at w (.cells #[.int .i64 kd, .int .i64 wh, .int .i64 pa, .int .i64 fr, .bool a, .bool b, .bool c] 25)
  have b1 : Below w.heap.size w (w.alloc (.cells #[.int .i64 kd, .int .i64 wh, .int .i64 pa, .int .i64 fr, .bool a, .bool b, .bool c] 25)) := (Below.refl _ _).alloc (Nat.le_refl _) _
  generalize w.alloc (.cells #[.int .i64 kd, .int .i64 wh, .int .i64 pa, .int .i64 fr, .bool a, .bool b, .bool c] 25) = w1 at *
  have s2 : (w1.alloc (.cells xs 32)).heap.size = w.heap.size + 2 := by simp; omega
  have a2 := heap_alloc_at w1 (.cells xs 32)
  have a1' := (heap_alloc_past w1 (.cells xs 32) (k := w.heap.size) (by omega)).trans a1
  have b2 := b1.alloc (by omega) (.cells xs 32)
  rw [s1] at a2
  generalize w1.alloc (.cells xs 32) = w2 at *
  have a3 := heap_alloc_at w2 (.cells #[.pointer none, .pointer (some ⟨w.heap.size + 1, 0, none⟩)] 26)
  rw [s2] at a3
  refine ⟨b2.alloc (by omega) _, (heap_alloc_past w2 _ (by omega)).trans a1', a3, by simp; omega, ?_⟩
  rw [cell_at ((heap_alloc_past w2 _ (by omega)).trans a2)]
  exact hx
/-- the box of the rights -/
def RB3 (w : World) (q : Nat) : Prop := w.heap[q]? = some (.cells #[.bool false, .bool false, .bool false] 23 (0, 0))
theorem RB3.cs {w : World} {q : Nat} (h : RB3 w q) : w.cell? ⟨q, 0, none⟩ = some (.bool false) ∧ w.cell? ⟨q, 1, none⟩ = some (.bool false) ∧ w.cell? ⟨q, 2, none⟩ = some (.bool false) ∧ q < w.heap.size := by
  unfold RB3 at h
  refine ⟨?_, ?_, ?_, lt_of_heap h⟩ <;> rw [cell_at h] <;> rfl
theorem RB3.below {w w' : World} {q : Nat} (h : RB3 w q) (hb : Below w.heap.size w w') : RB3 w' q := (hb.block _ (lt_of_heap h)).trans h
namespace stageNobody
set_option maxHeartbeats 1600000 in
theorem walk (kd wh pa fr : Int) (a b c : Bool) (w : World) :
    Calls Tryd.prog 3 #[.agg #[.int .i64 kd, .int .i64 wh, .int .i64 pa, .int .i64 fr, .bool a, .bool b, .bool c]] w fun e w' => e = .returned (.bool true) ∧ Below w.heap.size w w' := by
  go_enter Tryd.func3, Tryd.ntmps3
  go_wp2_with fail
  go_loopw [26] (fun i wr => ∃ j : Nat, j ≤ 2 ∧ i = .int .i64 j ∧ Hid (NB w wr w.heap.size (w.heap.size + 2) (w.heap.size + 1) kd wh pa fr a b c)) (fun i _ => 2 - (intOf i).toNat)
  case atStart => exact ⟨0, by omega, rfl, NB.start w kd wh pa fr a b c _ rfl⟩
  case round =>
    obtain ⟨j, hj, rfl, HJ⟩ := hrel
    obtain ⟨a1, a2, a3, a4, a5, hA⟩ := HJ.out.cs
    obtain ⟨l0, l1, hL⟩ := HJ.out.ls
    by_cases e2 : j = 2
    · subst e2
      clear l0 l1 a1 a2 a3 a4 a5
      have M1 := new_yes 2 wr (by decide) (by decide)
      go_wp2_with fail
      refine M1.mono ?_
      rintro e w1 ⟨mb, mg, rfl, hM, -, -, hb1⟩
      have H1 : Hid (MM w1 mb mg (List.replicate (2 * 256) 0) ∧ Below w.heap.size w w1) := ⟨hM, HJ.out.bel.trans (hb1.mono HJ.out.bel.size)⟩
      clear hM hb1 HJ hA hL M1
      have M2 := fnew_yes 2 0 w1 (by decide) (by decide) (by decide)
      go_wp2_with fail
      refine M2.mono ?_
      rintro e w2 ⟨D, rfl, -, hb2⟩
      have H2 : Hid (MM w2 mb mg (List.replicate (2 * 256) 0) ∧ Below w.heap.size w w2) := ⟨H1.out.1.below hb2, H1.out.2.trans (hb2.mono H1.out.2.size)⟩
      clear hb2 H1 M2
      go_wp2_with fail
      refine (new_nil w2 _ 1).mono ?_
      rintro e w3 ⟨rfl, rfl⟩
      go_wp2_with fail
      refine (new_un H2.out.1 (by simp) (.inl rfl) 1).mono ?_
      rintro e w3 ⟨rfl, rfl⟩
      go_wp2_with fail
      refine (new_un (H2.out.1.below ((Below.refl _ _).alloc (Nat.le_refl _) _)) (by simp) (.inr ⟨_, rfl, by simp, by simp [go_sem]⟩) 1).mono ?_
      rintro e w3 ⟨rfl, rfl⟩
      go_wp2_with fail
      go_ret
      exact ⟨rfl, H2.out.2.alloc H2.out.2.size _⟩
    have HP : ∃ p : Value, wr.cell? ⟨w.heap.size + 2, j, none⟩ = some p ∧ Hid (TU wr p) := by
      match j, hj, e2 with
      | 0, _, _ => exact ⟨_, l0, .inl rfl⟩
      | 1, _, _ => exact ⟨_, l1, .inr ⟨_, rfl, HJ.out.e⟩⟩
      | k + 2, h, e => exact absurd h (by omega)
    obtain ⟨p, lp, HU⟩ := HP
    have hj2 : (j : Int) < 2 := by omega
    clear l0 l1
    have hs : w.heap.size + 2 < wr.heap.size := hL
    generalize w.heap.size + 2 = L at *
    generalize w.heap.size + 1 = E at *
    go_wp2_with fail
    refine (unmap_tu HU.out pa).mono ?_
    rintro e w1 ⟨rfl, hb1⟩
    have H1 : Hid (NB w w1 w.heap.size L E kd wh pa fr a b c ∧ TU w1 p) := ⟨HJ.out.below hb1, HU.out.below hb1⟩
    clear a1 a2 a3 a4 a5 hA hL hb1 HJ HU hs lp
    obtain ⟨a1, a2, a3, a4, a5, hA⟩ := H1.out.1.cs
    go_wp2_with fail
    refine (look_tu H1.out.2 pa).mono ?_
    rintro e w2 ⟨rfl, hb2⟩
    have H2 : Hid (NB w (w2.alloc (.cells #[.bool false, .bool false, .bool false] 23)) w.heap.size L E kd wh pa fr a b c ∧ TU (w2.alloc (.cells #[.bool false, .bool false, .bool false] 23)) p ∧ RB3 (w2.alloc (.cells #[.bool false, .bool false, .bool false] 23)) w2.heap.size) := by
      have hb := hb2.alloc hb2.size (.cells #[.bool false, .bool false, .bool false] 23)
      exact ⟨H1.out.1.below hb, H1.out.2.below hb, heap_alloc_at _ _⟩
    clear a1 a2 a3 a4 a5 hA hb2 H1
    obtain ⟨a1, a2, a3, a4, a5, hA⟩ := H2.out.1.cs
    go_wp2_with fail
    generalize w2.alloc (.cells #[.bool false, .bool false, .bool false] 23) = y2 at *
    generalize w2.heap.size = Q at *
    refine (pages_tu H2.out.2.1).mono ?_
    rintro e w3 ⟨rfl, hb3⟩
    have H3 : Hid (NB w w3 w.heap.size L E kd wh pa fr a b c ∧ TU w3 p ∧ RB3 w3 Q) := ⟨H2.out.1.below hb3, H2.out.2.1.below hb3, H2.out.2.2.below hb3⟩
    clear a1 a2 a3 a4 a5 hA hb3 H2
    obtain ⟨a1, a2, a3, a4, a5, hA⟩ := H3.out.1.cs
    go_wp2_with fail
    refine (root_tu H3.out.2.1).mono ?_
    rintro e w4 ⟨rfl, rfl⟩
    go_wp2_with fail
    refine (map_tu H3.out.2.1 pa fr a b c).mono ?_
    rintro e w4 ⟨rfl, hb4⟩
    have H4 : Hid (NB w w4 w.heap.size L E kd wh pa fr a b c ∧ TU w4 p ∧ RB3 w4 Q) := ⟨H3.out.1.below hb4, H3.out.2.1.below hb4, H3.out.2.2.below hb4⟩
    clear a1 a2 a3 a4 a5 hA hb4 H3
    obtain ⟨a1, a2, a3, a4, a5, hA⟩ := H4.out.1.cs
    go_wp2_with fail
    refine (protect_tu H4.out.2.1 pa a b c).mono ?_
    rintro e w5 ⟨rfl, hb5⟩
    have H5 : Hid (NB w w5 w.heap.size L E kd wh pa fr a b c ∧ TU w5 p ∧ RB3 w5 Q) := ⟨H4.out.1.below hb5, H4.out.2.1.below hb5, H4.out.2.2.below hb5⟩
    clear a1 a2 a3 a4 a5 hA hb5 H4
    obtain ⟨b1, b2, b3, hQ⟩ := H5.out.2.2.cs
    go_wp2_with fail
    refine (close_tu H5.out.2.1).mono ?_
    rintro e w6 ⟨rfl, rfl⟩
    go_wp2_with fail
    go_roundw
    case rel => exact ⟨j + 1, by omega, by go_num, H5.out.1⟩
    case measure => simp [intOf]; omega
end stageNobody
end Go.Proofs.YteghkhdpdeiocaaDoor
