/-
  What no call made: each call's answer.
  Tables that no call made: each call's answer; New without a memory or frames.
-/
import Derived.Test.YteghkhdpdeiocaaGreatDoorGV
import Derived.OwnWalk
import Derived.Test.YteghkhdpdeiocaaGreatDoorTs
namespace Go.Proofs.YteghkhdpdeiocaaGreatDoor
open Go.RowKit
set_option linter.unusedVariables false
set_option maxRecDepth 100000

section
variable {p : Value} {w : World}
theorem check_un (h : UN w p) (f o b : Int) : Calls Tryz.prog 84 #[p, .int .i64 f, .int .i64 o, .int .i64 b] w fun e w' => e = .returned (.int .i64 1) ∧ w' = w := by
  go_enter Tryz.func84, Tryz.ntmps84
  go_wp2_with fail
  refine (made_un h).mono ?_
  rintro e w ⟨rfl, rfl⟩
  go_wp2_with fail
  go_ret
  exact ⟨rfl, rfl⟩
theorem loose_un (h : UN w p) (f o b : Int) : Calls Tryz.prog 87 #[p, .int .i64 f, .int .i64 o, .int .i64 b] w fun e w' => e = .returned (.int .i64 1) ∧ w' = w := by
  go_enter Tryz.func87, Tryz.ntmps87
  go_wp2_with fail
  refine (check_un h f o b).mono ?_
  rintro e w ⟨rfl, rfl⟩
  go_wp2_with fail
  go_ret
  exact ⟨rfl, rfl⟩
theorem alloc_un (h : UN w p) (o : Int) : Calls Tryz.prog 26 #[p, .int .i64 o] w fun e w' => e = .returned (.tuple #[.int .i64 0, .int .i64 1]) ∧ w' = w := by
  go_enter Tryz.func26, Tryz.ntmps26
  go_wp2_with fail
  refine (made_un h).mono ?_
  rintro e w ⟨rfl, rfl⟩
  go_wp2_with fail
  go_ret2
  exact ⟨rfl, rfl⟩
theorem hold_un (h : UN w p) (f o : Int) : Calls Tryz.prog 54 #[p, .int .i64 f, .int .i64 o] w fun e w' => e = .returned (.int .i64 1) ∧ w' = w := by
  go_enter Tryz.func54, Tryz.ntmps54
  go_wp2_with fail
  refine (check_un h f o o).mono ?_
  rintro e w ⟨rfl, rfl⟩
  go_wp2_with fail
  go_ret
  exact ⟨rfl, rfl⟩
theorem free_un (h : UN w p) (f o : Int) : Calls Tryz.prog 56 #[p, .int .i64 f, .int .i64 o] w fun e w' => e = .returned (.tuple #[.bool false, .int .i64 1]) ∧ w' = w := by
  go_enter Tryz.func56, Tryz.ntmps56
  go_wp2_with fail
  refine (loose_un h f o o).mono ?_
  rintro e w ⟨rfl, rfl⟩
  go_wp2_with fail
  go_ret2
  exact ⟨rfl, rfl⟩
theorem owner_un (h : UN w p) (f : Int) : Calls Tryz.prog 13 #[p, .int .i64 f] w fun e w' => e = .returned (.tuple #[.int .i64 0, .int .i64 0, .bool false]) ∧ w' = w := by
  go_enter Tryz.func13, Tryz.ntmps13
  go_wp2_with fail
  refine (made_un h).mono ?_
  rintro e w ⟨rfl, rfl⟩
  go_wp2_with fail
  go_ret3
  exact ⟨rfl, rfl⟩
theorem count_un (h : UN w p) (o : Int) : Calls Tryz.prog 32 #[p, .int .i64 o] w fun e w' => e = .returned (.tuple #[.int .i64 0, .int .i64 0]) ∧ w' = w := by
  go_enter Tryz.func32, Tryz.ntmps32
  go_wp2_with fail
  refine (made_un h).mono ?_
  rintro e w ⟨rfl, rfl⟩
  go_wp2_with fail
  go_ret2
  exact ⟨rfl, rfl⟩
end
end Go.Proofs.YteghkhdpdeiocaaGreatDoor
namespace Go.Proofs.YteghkhdpdeiocaaGreatDoor
open Go.RowKit
set_option linter.unusedVariables false
set_option maxRecDepth 100000

/-- tables that no call made -/
def TU (w : World) (p : Value) : Prop := p = .pointer none ∨ ∃ q, p = .pointer (some ⟨q, 0, none⟩) ∧ q < w.heap.size ∧ w.cell? ⟨q, 0, none⟩ = some (.pointer none)
theorem TU.below {w w' : World} {p : Value} (h : TU w p) (hb : Below w.heap.size w w') : TU w' p := by
  rcases h with h | ⟨q, h1, h2, h3⟩
  · exact .inl h
  · exact .inr ⟨q, h1, Nat.lt_of_lt_of_le h2 hb.size, (hb.cell (p := ⟨q, 0, none⟩) h2).trans h3⟩
section
variable {p : Value} {w : World}
theorem state_tu (h : TU w p) : Calls Tryz.prog 42 #[p] w fun e w' => e = .returned (.int .i64 1) ∧ w' = w := by
  rcases h with rfl | ⟨q, rfl, h2, h3⟩
  · go_enter Tryz.func42, Tryz.ntmps42
    go_wp2_with fail
    go_ret
    exact ⟨rfl, rfl⟩
  · go_enter Tryz.func42, Tryz.ntmps42
    go_wp2_with fail
    go_ret
    exact ⟨rfl, rfl⟩
theorem check_tu (h : TU w p) (g : Int) : Calls Tryz.prog 50 #[p, .int .i64 g] w fun e w' => e = .returned (.int .i64 1) ∧ w' = w := by
  have C := state_tu h
  clear h
  go_enter Tryz.func50, Tryz.ntmps50
  go_wp2_with fail
  refine C.mono ?_
  rintro e w1 ⟨rfl, rfl⟩
  go_wp2_with fail
  go_ret
  exact ⟨rfl, rfl⟩
theorem mapped_tu (h : TU w p) (g : Int) : Calls Tryz.prog 36 #[p, .int .i64 g] w fun e w' => e = .returned (.tuple #[.agg #[.bool false, .bool false, .bool false, .bool false, .bool false, .bool false, .bool false, .int .i64 0], .int .i64 1]) ∧ Below w.heap.size w w' := by
  have C := check_tu (h.below ((Below.refl _ _).alloc (Nat.le_refl _) (.cells #[.bool false, .bool false, .bool false, .bool false, .bool false, .bool false, .bool false, .int .i64 0] 93))) g
  clear h
  go_enter Tryz.func36, Tryz.ntmps36
  go_wp2_with fail
  refine C.mono ?_
  rintro e w1 ⟨rfl, rfl⟩
  go_wp2_with fail
  refine bodyPost_ret (v := .tuple #[.agg #[.bool false, .bool false, .bool false, .bool false, .bool false, .bool false, .bool false, .int .i64 0], .int .i64 1]) ?h1 rfl ⟨rfl, (Below.refl _ _).alloc (Nat.le_refl _) _⟩
  case h1 => simp [results, Tryz.results36, go_sem]
theorem unmap_tu (h : TU w p) (g : Int) : Calls Tryz.prog 22 #[p, .int .i64 g] w fun e w' => e = .returned (.tuple #[.int .i64 0, .int .i64 1]) ∧ Below w.heap.size w w' := by
  have C := mapped_tu h g
  clear h
  go_enter Tryz.func22, Tryz.ntmps22
  go_wp2_with fail
  refine C.mono ?_
  rintro e w1 ⟨rfl, hb⟩
  have HB : Hid (Below w.heap.size w w1) := hb
  clear hb
  go_wp2_with fail
  go_ret2
  exact ⟨rfl, HB.out.alloc HB.out.size _⟩
theorem look_tu (h : TU w p) (g : Int) : Calls Tryz.prog 10 #[p, .int .i64 g] w fun e w' => e = .returned (.tuple #[.int .i64 0, .agg #[.bool false, .bool false, .bool false], .bool false]) ∧ Below w.heap.size w w' := by
  have C := mapped_tu (h.below ((Below.refl _ _).alloc (Nat.le_refl _) (.cells #[.bool false, .bool false, .bool false] 29))) g
  clear h
  go_enter Tryz.func10, Tryz.ntmps10
  go_wp2_with fail
  refine C.mono ?_
  rintro e w1 ⟨rfl, hb⟩
  have HB : Hid (Below w.heap.size w w1) := ((Below.refl _ _).alloc (Nat.le_refl _) _).trans (hb.mono (by simp))
  obtain ⟨n1, o1⟩ := bcell hb
  have hs : w.heap.size < w1.heap.size := by have := hb.size; simp at this; omega
  have c0 := n1 w.heap.size 0 (by simp)
  have c1 := n1 w.heap.size 1 (by simp)
  have c2 := n1 w.heap.size 2 (by simp)
  have f0 := o1 w.heap.size 0 (by simp)
  have f1 := o1 w.heap.size 1 (by simp)
  have f2 := o1 w.heap.size 2 (by simp)
  simp [go_sem] at c0 c1 c2 f0 f1 f2
  clear hb n1 o1
  go_wp2_with fail
  refine bodyPost_ret (v := .tuple #[.int .i64 0, .agg #[.bool false, .bool false, .bool false], .bool false]) ?h1 rfl ⟨rfl, ?h2⟩
  case h1 => simp [results, Tryz.results10, go_sem, c0, c1, c2, hs]
  case h2 =>
    have hq := HB.out.size
    first
      | exact (((HB.out.alloc (by omega) _).setCell (Nat.le_refl _) _).setCell (Nat.le_refl _) _).setCell (Nat.le_refl _) _
      | exact ((((HB.out.setCell (Nat.le_refl _) _).setCell (Nat.le_refl _) _).setCell (Nat.le_refl _) _).alloc (by simp; omega) _)
theorem pages_tu (h : TU w p) : Calls Tryz.prog 30 #[p] w fun e w' => e = .returned (.tuple #[.int .i64 0, .int .i64 0]) ∧ Below w.heap.size w w' := by
  have C := state_tu h
  clear h
  go_enter Tryz.func30, Tryz.ntmps30
  go_wp2_with fail
  refine C.mono ?_
  rintro e w1 ⟨rfl, rfl⟩
  go_wp2_with fail
  go_ret2
  exact ⟨rfl, Below.refl _ _⟩
theorem root_tu (h : TU w p) : Calls Tryz.prog 12 #[p] w fun e w' => e = .returned (.int .i64 (-1)) ∧ w' = w := by
  have C := state_tu h
  clear h
  go_enter Tryz.func12, Tryz.ntmps12
  go_wp2_with fail
  refine C.mono ?_
  rintro e w1 ⟨rfl, rfl⟩
  go_wp2_with fail
  go_ret
  exact ⟨rfl, rfl⟩
theorem map_tu (h : TU w p) (g f : Int) (a b c : Bool) : Calls Tryz.prog 20 #[p, .int .i64 g, .int .i64 f, .agg #[.bool a, .bool b, .bool c]] w fun e w' => e = .returned (.int .i64 1) ∧ Below w.heap.size w w' := by
  have C := check_tu (h.below ((Below.refl _ _).alloc (Nat.le_refl _) (.cells #[.bool a, .bool b, .bool c] 29))) g
  clear h
  go_enter Tryz.func20, Tryz.ntmps20
  go_wp2_with fail
  refine C.mono ?_
  rintro e w1 ⟨rfl, rfl⟩
  go_wp2_with fail
  go_ret
  exact ⟨rfl, (Below.refl _ _).alloc (Nat.le_refl _) _⟩
theorem protect_tu (h : TU w p) (g : Int) (a b c : Bool) : Calls Tryz.prog 24 #[p, .int .i64 g, .agg #[.bool a, .bool b, .bool c]] w fun e w' => e = .returned (.int .i64 1) ∧ Below w.heap.size w w' := by
  have C := check_tu (h.below ((Below.refl _ _).alloc (Nat.le_refl _) (.cells #[.bool a, .bool b, .bool c] 29))) g
  clear h
  go_enter Tryz.func24, Tryz.ntmps24
  go_wp2_with fail
  refine C.mono ?_
  rintro e w1 ⟨rfl, rfl⟩
  go_wp2_with fail
  go_ret
  exact ⟨rfl, (Below.refl _ _).alloc (Nat.le_refl _) _⟩
theorem close_tu (h : TU w p) : Calls Tryz.prog 28 #[p] w fun e w' => e = .returned (.int .i64 1) ∧ w' = w := by
  have C := state_tu h
  clear h
  go_enter Tryz.func28, Tryz.ntmps28
  go_wp2_with fail
  refine C.mono ?_
  rintro e w1 ⟨rfl, rfl⟩
  go_wp2_with fail
  go_ret
  exact ⟨rfl, rfl⟩
theorem isMemory_nil (w : World) : Calls Tryz.prog 46 #[.pointer none] w fun e w' => e = .returned (.bool false) ∧ w' = w := by
  have C := frames_any (.pointer none) none 0 0 w (by decide) (HV.nil w)
  go_enter Tryz.func46, Tryz.ntmps46
  go_wp2_with fail
  refine C.mono ?_
  rintro e w1 ⟨rfl, rfl⟩
  go_wp2_with fail
  go_ret
  exact ⟨rfl, rfl⟩
theorem isMemory_mm {b g : Nat} {zs : List Int} (h : MM w b g zs) (hl : 256 ≤ zs.length) : Calls Tryz.prog 46 #[.pointer (some ⟨b, 0, none⟩)] w fun e w' => e = .returned (.bool true) ∧ w' = w := by
  have C := frames_any _ _ _ _ w h.len h.hv
  have h1 : (0 : Int) < (zs.length : Int) / 256 := by omega
  clear h
  generalize (zs.length : Int) / 256 = y at *
  go_enter Tryz.func46, Tryz.ntmps46
  go_wp2_with fail
  refine C.mono ?_
  rintro e w1 ⟨rfl, rfl⟩
  go_wp2_with fail
  go_ret
  exact ⟨rfl, rfl⟩
theorem areFrames_un (h : UN w p) : Calls Tryz.prog 47 #[p] w fun e w' => e = .returned (.bool false) ∧ w' = w := by
  have C := hold_un h (-1) (-1)
  clear h
  go_enter Tryz.func47, Tryz.ntmps47
  go_wp2_with fail
  refine C.mono ?_
  rintro e w1 ⟨rfl, rfl⟩
  go_wp2_with fail
  go_ret
  exact ⟨rfl, rfl⟩
theorem new_nil (w : World) (f : Value) (g : Int) : Calls Tryz.prog 18 #[.pointer none, f, .int .i64 g] w fun e w' => e = .returned (.tuple #[.pointer none, .int .i64 1]) ∧ w' = w := by
  have C := isMemory_nil w
  go_enter Tryz.func18, Tryz.ntmps18
  go_wp2_with fail
  refine C.mono ?_
  rintro e w1 ⟨rfl, rfl⟩
  go_wp2_with fail
  go_ret2
  exact ⟨rfl, rfl⟩
theorem new_un {b g : Nat} {zs : List Int} (hm : MM w b g zs) (hl : 256 ≤ zs.length) (h : UN w p) (q : Int) : Calls Tryz.prog 18 #[.pointer (some ⟨b, 0, none⟩), p, .int .i64 q] w fun e w' => e = .returned (.tuple #[.pointer none, .int .i64 1]) ∧ w' = w := by
  have C := isMemory_mm hm hl
  have D := areFrames_un h
  clear hm h hl
  go_enter Tryz.func18, Tryz.ntmps18
  go_wp2_with fail
  refine C.mono ?_
  rintro e w1 ⟨rfl, rfl⟩
  go_wp2_with fail
  refine D.mono ?_
  rintro e w1 ⟨rfl, rfl⟩
  go_wp2_with fail
  go_ret2
  exact ⟨rfl, rfl⟩
end
end Go.Proofs.YteghkhdpdeiocaaGreatDoor
