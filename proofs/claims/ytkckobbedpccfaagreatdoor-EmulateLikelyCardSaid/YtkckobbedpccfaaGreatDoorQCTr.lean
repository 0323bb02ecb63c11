/-
  What Due, Wakes, Line, Enter and Leave do.
-/
import Derived.Test.YtkckobbedpccfaaGreatDoorQF
import Derived.Deep.DeepCutAuto
namespace Go.Proofs.YtkckobbedpccfaaGreatDoor.C
open Go.RowKit
set_option linter.unusedVariables false
set_option maxRecDepth 100000

/-- the closure of Due: is the line among these -/
theorem waits_nine (A : Nat) (x : Int) (w : World) (h : w.cell? ⟨A, 0, none⟩ = some (.int .u64 x)) (hl : A < w.heap.size) : Calls Tryz.prog 71 #[.int .i64 9, .pointer (some ⟨A, 0, none⟩)] w fun e w' => e = .returned (.bool (hasP x 512)) ∧ Below w.heap.size w w' := by
  unfold hasP
  go_enter Tryz.func71, Tryz.ntmps71
  go_wp2_with fail
  go_quiet (fail)
  go_wp2_with fail
  go_ret
  exact ⟨rfl, below_drewN (Below.refl _ _) _⟩
theorem waits_one (A : Nat) (x : Int) (w : World) (h : w.cell? ⟨A, 0, none⟩ = some (.int .u64 x)) (hl : A < w.heap.size) : Calls Tryz.prog 71 #[.int .i64 1, .pointer (some ⟨A, 0, none⟩)] w fun e w' => e = .returned (.bool (hasP x 2)) ∧ Below w.heap.size w w' := by
  unfold hasP
  go_enter Tryz.func71, Tryz.ntmps71
  go_wp2_with fail
  go_quiet (fail)
  go_wp2_with fail
  go_ret
  exact ⟨rfl, below_drewN (Below.refl _ _) _⟩
theorem waits_five (A : Nat) (x : Int) (w : World) (h : w.cell? ⟨A, 0, none⟩ = some (.int .u64 x)) (hl : A < w.heap.size) : Calls Tryz.prog 71 #[.int .i64 5, .pointer (some ⟨A, 0, none⟩)] w fun e w' => e = .returned (.bool (hasP x 32)) ∧ Below w.heap.size w w' := by
  unfold hasP
  go_enter Tryz.func71, Tryz.ntmps71
  go_wp2_with fail
  go_quiet (fail)
  go_wp2_with fail
  go_ret
  exact ⟨rfl, below_drewN (Below.refl _ _) _⟩

/-- which of the lines is due -/
def dueL (x : Int) : Int × Bool := if hasP x 512 then (4611686018427387913, true) else if hasP x 2 then (4611686018427387905, true) else if hasP x 32 then (4611686018427387909, true) else (0, false)
/-- none, for interrupts are off -/
theorem due_off (F : Nat) (R : Nat → Int) (mode : Int) (hm : mode ≠ 0) (ho : hasP (R 0) 2 = false) (w : World) (h : FF w F R) : Calls Tryz.prog 47 #[.pointer (some ⟨F, 0, none⟩), .int .i64 mode] w fun e w' => e = .returned (.tuple #[.int .i64 0, .bool false]) ∧ w' = w := by
  have C := made_ff F R w h
  have D := has_ff F R 0 (by decide) 2 w h
  rw [ho] at D
  clear h
  go_enter Tryz.func47, Tryz.ntmps47
  go_wp2_with fail
  refine C.mono ?_
  rintro e w1 ⟨rfl, rfl⟩
  go_wp2_with fail
  refine D.mono ?_
  rintro e w1 ⟨rfl, rfl⟩
  go_wp2_with fail
  go_ret2
  exact ⟨rfl, rfl⟩
set_option maxHeartbeats 1600000 in
theorem due_user (F : Nat) (R : Nat → Int) (w : World) (h : FF w F R) : Calls Tryz.prog 47 #[.pointer (some ⟨F, 0, none⟩), .int .i64 0] w fun e w' => e = .returned (.tuple #[.int .i64 (dueL (waitP R)).1, .bool (dueL (waitP R)).2]) ∧ Below w.heap.size w w' := by
  have C := made_ff F R w h
  have D := waiting_ff F R w h
  clear h
  unfold dueL
  generalize waitP R = x at *
  cases h9 : hasP x 512
  · cases h1 : hasP x 2
    · cases h5 : hasP x 32
      all_goals
        simp only [Bool.false_eq_true, if_false, if_true]
        go_enter Tryz.func47, Tryz.ntmps47
        go_wp2_with fail
        refine C.mono ?_
        rintro e w ⟨rfl, rfl⟩
        go_wp2_with fail
        refine D.mono ?_
        rintro e w1 ⟨rfl, hb1⟩
        have HB : Hid (Below w.heap.size w (w1.alloc (.cells #[.int .u64 x] 22))) := hb1.alloc hb1.size _
        have E1 := waits_nine w1.heap.size x (w1.alloc (.cells #[.int .u64 x] 22)) (by simp [go_sem]) (by simp)
        rw [h9] at E1
        clear hb1 C D
        go_wp2_with fail
        refine E1.mono ?_
        rintro e w2 ⟨rfl, hb2⟩
        have c2 : w2.cell? ⟨w1.heap.size, 0, none⟩ = some (.int .u64 x) := ((bcell hb2).1 w1.heap.size 0 (by simp)).trans (by simp [go_sem])
        have l2 : w1.heap.size < w2.heap.size := by have := hb2.size; simp at this; omega
        have E2 := waits_one w1.heap.size x w2 c2 l2
        rw [h1] at E2
        have HB2 : Hid (Below w.heap.size w w2) := HB.out.trans (hb2.mono HB.out.size)
        clear hb2 E1 HB
        go_wp2_with fail
        refine E2.mono ?_
        rintro e w3 ⟨rfl, hb3⟩
        have E3 := waits_five w1.heap.size x w3 (((bcell hb3).1 w1.heap.size 0 l2).trans c2) (Nat.lt_of_lt_of_le l2 hb3.size)
        rw [h5] at E3
        have HB3 : Hid (Below w.heap.size w w3) := HB2.out.trans (hb3.mono HB2.out.size)
        clear hb3 E2 HB2 c2 l2
        go_wp2_with fail
        refine E3.mono ?_
        rintro e w4 ⟨rfl, hb4⟩
        have HB4 : Hid (Below w.heap.size w w4) := HB3.out.trans (hb4.mono HB3.out.size)
        clear hb4 E3 HB3
        go_wp2_with fail
        go_ret2
        exact ⟨rfl, HB4.out⟩
    · simp only [Bool.false_eq_true, if_false, if_true]
      go_enter Tryz.func47, Tryz.ntmps47
      go_wp2_with fail
      refine C.mono ?_
      rintro e w ⟨rfl, rfl⟩
      go_wp2_with fail
      refine D.mono ?_
      rintro e w1 ⟨rfl, hb1⟩
      have HB : Hid (Below w.heap.size w (w1.alloc (.cells #[.int .u64 x] 22))) := hb1.alloc hb1.size _
      have E1 := waits_nine w1.heap.size x (w1.alloc (.cells #[.int .u64 x] 22)) (by simp [go_sem]) (by simp)
      rw [h9] at E1
      clear hb1 C D
      go_wp2_with fail
      refine E1.mono ?_
      rintro e w2 ⟨rfl, hb2⟩
      have c2 : w2.cell? ⟨w1.heap.size, 0, none⟩ = some (.int .u64 x) := ((bcell hb2).1 w1.heap.size 0 (by simp)).trans (by simp [go_sem])
      have l2 : w1.heap.size < w2.heap.size := by have := hb2.size; simp at this; omega
      have E2 := waits_one w1.heap.size x w2 c2 l2
      rw [h1] at E2
      have HB2 : Hid (Below w.heap.size w w2) := HB.out.trans (hb2.mono HB.out.size)
      clear hb2 E1 HB
      go_wp2_with fail
      refine E2.mono ?_
      rintro e w3 ⟨rfl, hb3⟩
      have HB3 : Hid (Below w.heap.size w w3) := HB2.out.trans (hb3.mono HB2.out.size)
      clear hb3 E2 HB2 c2 l2
      go_wp2_with fail
      go_ret2
      exact ⟨rfl, HB3.out⟩
  · simp only [if_true]
    go_enter Tryz.func47, Tryz.ntmps47
    go_wp2_with fail
    refine C.mono ?_
    rintro e w ⟨rfl, rfl⟩
    go_wp2_with fail
    refine D.mono ?_
    rintro e w1 ⟨rfl, hb1⟩
    have HB : Hid (Below w.heap.size w (w1.alloc (.cells #[.int .u64 x] 22))) := hb1.alloc hb1.size _
    have E1 := waits_nine w1.heap.size x (w1.alloc (.cells #[.int .u64 x] 22)) (by simp [go_sem]) (by simp)
    rw [h9] at E1
    clear hb1 C D
    go_wp2_with fail
    refine E1.mono ?_
    rintro e w2 ⟨rfl, hb2⟩
    have HB2 : Hid (Below w.heap.size w w2) := HB.out.trans (hb2.mono HB.out.size)
    clear hb2 E1 HB
    go_wp2_with fail
    go_ret2
    exact ⟨rfl, HB2.out⟩
set_option maxHeartbeats 1600000 in
theorem due_kern (F : Nat) (R : Nat → Int) (ho : hasP (R 0) 2 = true) (w : World) (h : FF w F R) : Calls Tryz.prog 47 #[.pointer (some ⟨F, 0, none⟩), .int .i64 1] w fun e w' => e = .returned (.tuple #[.int .i64 (dueL (waitP R)).1, .bool (dueL (waitP R)).2]) ∧ Below w.heap.size w w' := by
  have C := made_ff F R w h
  have D := waiting_ff F R w h
  have G := has_ff F R 0 (by decide) 2 w h
  rw [ho] at G
  clear h
  unfold dueL
  generalize waitP R = x at *
  cases h9 : hasP x 512
  · cases h1 : hasP x 2
    · cases h5 : hasP x 32
      all_goals
        simp only [Bool.false_eq_true, if_false, if_true]
        go_enter Tryz.func47, Tryz.ntmps47
        go_wp2_with fail
        refine C.mono ?_
        rintro e w ⟨rfl, rfl⟩
        go_wp2_with fail
        refine G.mono ?_
        rintro e w ⟨rfl, rfl⟩
        go_wp2_with fail
        refine D.mono ?_
        rintro e w1 ⟨rfl, hb1⟩
        have HB : Hid (Below w.heap.size w (w1.alloc (.cells #[.int .u64 x] 22))) := hb1.alloc hb1.size _
        have E1 := waits_nine w1.heap.size x (w1.alloc (.cells #[.int .u64 x] 22)) (by simp [go_sem]) (by simp)
        rw [h9] at E1
        clear hb1 C D G
        go_wp2_with fail
        refine E1.mono ?_
        rintro e w2 ⟨rfl, hb2⟩
        have c2 : w2.cell? ⟨w1.heap.size, 0, none⟩ = some (.int .u64 x) := ((bcell hb2).1 w1.heap.size 0 (by simp)).trans (by simp [go_sem])
        have l2 : w1.heap.size < w2.heap.size := by have := hb2.size; simp at this; omega
        have E2 := waits_one w1.heap.size x w2 c2 l2
        rw [h1] at E2
        have HB2 : Hid (Below w.heap.size w w2) := HB.out.trans (hb2.mono HB.out.size)
        clear hb2 E1 HB
        go_wp2_with fail
        refine E2.mono ?_
        rintro e w3 ⟨rfl, hb3⟩
        have E3 := waits_five w1.heap.size x w3 (((bcell hb3).1 w1.heap.size 0 l2).trans c2) (Nat.lt_of_lt_of_le l2 hb3.size)
        rw [h5] at E3
        have HB3 : Hid (Below w.heap.size w w3) := HB2.out.trans (hb3.mono HB2.out.size)
        clear hb3 E2 HB2 c2 l2
        go_wp2_with fail
        refine E3.mono ?_
        rintro e w4 ⟨rfl, hb4⟩
        have HB4 : Hid (Below w.heap.size w w4) := HB3.out.trans (hb4.mono HB3.out.size)
        clear hb4 E3 HB3
        go_wp2_with fail
        go_ret2
        exact ⟨rfl, HB4.out⟩
    · simp only [Bool.false_eq_true, if_false, if_true]
      go_enter Tryz.func47, Tryz.ntmps47
      go_wp2_with fail
      refine C.mono ?_
      rintro e w ⟨rfl, rfl⟩
      go_wp2_with fail
      refine G.mono ?_
      rintro e w ⟨rfl, rfl⟩
      go_wp2_with fail
      refine D.mono ?_
      rintro e w1 ⟨rfl, hb1⟩
      have HB : Hid (Below w.heap.size w (w1.alloc (.cells #[.int .u64 x] 22))) := hb1.alloc hb1.size _
      have E1 := waits_nine w1.heap.size x (w1.alloc (.cells #[.int .u64 x] 22)) (by simp [go_sem]) (by simp)
      rw [h9] at E1
      clear hb1 C D G
      go_wp2_with fail
      refine E1.mono ?_
      rintro e w2 ⟨rfl, hb2⟩
      have c2 : w2.cell? ⟨w1.heap.size, 0, none⟩ = some (.int .u64 x) := ((bcell hb2).1 w1.heap.size 0 (by simp)).trans (by simp [go_sem])
      have l2 : w1.heap.size < w2.heap.size := by have := hb2.size; simp at this; omega
      have E2 := waits_one w1.heap.size x w2 c2 l2
      rw [h1] at E2
      have HB2 : Hid (Below w.heap.size w w2) := HB.out.trans (hb2.mono HB.out.size)
      clear hb2 E1 HB
      go_wp2_with fail
      refine E2.mono ?_
      rintro e w3 ⟨rfl, hb3⟩
      have HB3 : Hid (Below w.heap.size w w3) := HB2.out.trans (hb3.mono HB2.out.size)
      clear hb3 E2 HB2 c2 l2
      go_wp2_with fail
      go_ret2
      exact ⟨rfl, HB3.out⟩
  · simp only [if_true]
    go_enter Tryz.func47, Tryz.ntmps47
    go_wp2_with fail
    refine C.mono ?_
    rintro e w ⟨rfl, rfl⟩
    go_wp2_with fail
    refine G.mono ?_
    rintro e w ⟨rfl, rfl⟩
    go_wp2_with fail
    refine D.mono ?_
    rintro e w1 ⟨rfl, hb1⟩
    have HB : Hid (Below w.heap.size w (w1.alloc (.cells #[.int .u64 x] 22))) := hb1.alloc hb1.size _
    have E1 := waits_nine w1.heap.size x (w1.alloc (.cells #[.int .u64 x] 22)) (by simp [go_sem]) (by simp)
    rw [h9] at E1
    clear hb1 C D G
    go_wp2_with fail
    refine E1.mono ?_
    rintro e w2 ⟨rfl, hb2⟩
    have HB2 : Hid (Below w.heap.size w w2) := HB.out.trans (hb2.mono HB.out.size)
    clear hb2 E1 HB
    go_wp2_with fail
    go_ret2
    exact ⟨rfl, HB2.out⟩
theorem wakes_ff (F : Nat) (R : Nat → Int) (w : World) (h : FF w F R) : Calls Tryz.prog 140 #[.pointer (some ⟨F, 0, none⟩)] w fun e w' => e = .returned (.bool (waitP R != 0)) ∧ Below w.heap.size w w' := by
  have C := made_ff F R w h
  have D := waiting_ff F R w h
  clear h
  generalize waitP R = x at *
  go_enter Tryz.func140, Tryz.ntmps140
  go_wp2_with fail
  refine C.mono ?_
  rintro e w ⟨rfl, rfl⟩
  go_wp2_with fail
  refine D.mono ?_
  rintro e w1 ⟨rfl, hb1⟩
  have HB : Hid (Below w.heap.size w w1) := hb1
  clear hb1 C D
  go_wp2_with fail
  go_ret
  exact ⟨rfl, HB.out⟩
end Go.Proofs.YtkckobbedpccfaaGreatDoor.C
