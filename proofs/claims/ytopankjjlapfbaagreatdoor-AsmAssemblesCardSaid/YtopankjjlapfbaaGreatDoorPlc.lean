/-
  The operands of an operation, in the order in which a line has them; how one is shown.
-/
import Derived.Test.YtopankjjlapfbaaGreatDoorFmt
import Derived.Test.YtopankjjlapfbaaGreatDoorWalks13
namespace Go.Proofs.YtopankjjlapfbaaGreatDoor
open Go.RowKit
set_option linter.unusedVariables false
set_option maxRecDepth 100000

/-- what an operation's operands stand for: 0 to 2 registers, 3 a number, 4 a number or a mark -/
def plcL (op : Int) : List Int :=
  if op = 37 then [0, 1]
  else if op = 23 ∨ op = 24 ∨ op = 25 ∨ op = 36 ∨ op = 46 ∨ op = 47 ∨ op = 48 then [0, 3, 1]
  else if op = 22 then [0, 3]
  else if shapeR op = 1 then [0, 1, 2]
  else if shapeR op = 2 then [0, 1, 3]
  else if shapeR op = 3 then [2, 3, 1]
  else if shapeR op = 4 then [1, 2, 4]
  else if shapeR op = 5 then [0, 4]
  else if shapeR op = 6 then [1]
  else []

/-- a slice of them -/
def rowV (b : Nat) (l : List Int) : Value := if l = [] then .slice none 0 0 else .slice (some ⟨b, 0, none⟩) l.length l.length
def rowW (w : World) (l : List Int) : World := if l = [] then w else w.alloc (.cells (l.map (Value.int .i64)).toArray 62)

set_option maxHeartbeats 1600000 in
theorem places_any (op : Int) (w : World) :
    Calls Tryz.prog 19 #[.int .i64 op] w fun e w' => e = .returned (rowV w.heap.size (plcL op)) ∧ w' = rowW w (plcL op) := by
  have C1 := shape_any op
  by_cases h1 : op = 37
  · subst h1
    go_enter Tryz.func19, Tryz.ntmps19
    go_wp2_with fail
    go_ret
    exact ⟨rfl, rfl⟩
  by_cases h2 : op = 23 ∨ op = 24 ∨ op = 25 ∨ op = 36 ∨ op = 46 ∨ op = 47 ∨ op = 48
  · rcases h2 with rfl | rfl | rfl | rfl | rfl | rfl | rfl
    all_goals
      go_enter Tryz.func19, Tryz.ntmps19
      go_wp2_with fail
      go_ret
      exact ⟨rfl, rfl⟩
  by_cases h3 : op = 22
  · subst h3
    go_enter Tryz.func19, Tryz.ntmps19
    go_wp2_with fail
    go_ret
    exact ⟨rfl, rfl⟩
  have n23 : op ≠ 23 := fun h => h2 (by omega)
  have n24 : op ≠ 24 := fun h => h2 (by omega)
  have n25 : op ≠ 25 := fun h => h2 (by omega)
  have n36 : op ≠ 36 := fun h => h2 (by omega)
  have n46 : op ≠ 46 := fun h => h2 (by omega)
  have n47 : op ≠ 47 := fun h => h2 (by omega)
  have n48 : op ≠ 48 := fun h => h2 (by omega)
  have hp : plcL op = if shapeR op = 1 then [0, 1, 2]
  else if shapeR op = 2 then [0, 1, 3]
  else if shapeR op = 3 then [2, 3, 1]
  else if shapeR op = 4 then [1, 2, 4]
  else if shapeR op = 5 then [0, 4]
  else if shapeR op = 6 then [1]
  else [] := by
    unfold plcL
    rw [if_neg h1, if_neg h2, if_neg h3]
  rw [hp]
  have hc := shape_cases op
  have hn : shapeN op = if shapeR op < 0 then 0 else shapeR op := rfl
  rw [hn] at C1
  generalize shapeB op = sb at *
  have hs : shapeR op = 1 ∨ shapeR op = 2 ∨ shapeR op = 3 ∨ shapeR op = 4 ∨ shapeR op = 5 ∨ shapeR op = 6 ∨ shapeR op = 0 ∨ shapeR op = -1 := by omega
  clear hc hn hp h2
  generalize shapeR op = sh at *
  rcases hs with rfl | rfl | rfl | rfl | rfl | rfl | rfl | rfl
  all_goals
    simp at C1
    go_enter Tryz.func19, Tryz.ntmps19
    go_wp2_with fail
    refine (C1 _).mono ?_
    rintro e w1 ⟨rfl, rfl⟩
    go_wp2_with fail
    go_ret
    exact ⟨rfl, rfl⟩

def fo (p : Int) : Nat := if p = 0 then 1 else if p = 1 then 2 else if p = 2 then 3 else 4
theorem of_any (p : Int) (b : Nat) (w : World) :
    Calls Tryz.prog 21 #[.int .i64 p, .pointer (some ⟨b, 0, none⟩)] w fun e w' => e = .returned (.pointer (some ⟨b, fo p, none⟩)) ∧ w' = w := by
  by_cases h0 : p = 0
  · subst h0
    go_enter Tryz.func21, Tryz.ntmps21
    go_wp2
    go_ret
    exact ⟨rfl, rfl⟩
  by_cases h1 : p = 1
  · subst h1
    go_enter Tryz.func21, Tryz.ntmps21
    go_wp2
    go_ret
    exact ⟨rfl, rfl⟩
  by_cases h2 : p = 2
  · subst h2
    go_enter Tryz.func21, Tryz.ntmps21
    go_wp2
    go_ret
    exact ⟨rfl, rfl⟩
  have hf : fo p = 4 := by unfold fo; rw [if_neg h0, if_neg h1, if_neg h2]
  rw [hf]
  go_enter Tryz.func21, Tryz.ntmps21
  go_wp2
  go_ret
  exact ⟨rfl, rfl⟩

/-- an operand's text -/
def opdS (p v : Int) : ByteArray := if p = 0 ∨ p = 1 ∨ p = 2 then ⟨#[120]⟩ ++ itoS v else itoS v
theorem pshow_any (p v : Int) (h0 : -1000000 ≤ v) (h1 : v ≤ 1000000) (w : World) (ht : Tab w) :
    Calls Tryz.prog 20 #[.int .i64 p, .int .i64 v] w fun e w' => e = .returned (.string (opdS p v)) ∧ Below w.heap.size w w' := by
  have C1 := itoa_any v (by omega) (by omega) w ht
  have hs := itoS_size v
  have hs' : (itoS v).size ≤ 1000002 := by omega
  unfold opdS
  clear hs
  generalize itoS v = s at *
  by_cases h : p = 0 ∨ p = 1 ∨ p = 2
  · rw [if_pos h]
    rcases h with rfl | rfl | rfl
    all_goals
      go_enter Tryz.func20, Tryz.ntmps20
      go_wp2_with fail
      refine C1.mono ?_
      rintro e w1 ⟨rfl, hb1⟩
      go_wp2_with fail
      go_ret
      exact ⟨rfl, hb1⟩
  · rw [if_neg h]
    have n0 : p ≠ 0 := fun h' => h (by omega)
    have n1 : p ≠ 1 := fun h' => h (by omega)
    have n2 : p ≠ 2 := fun h' => h (by omega)
    clear h
    go_enter Tryz.func20, Tryz.ntmps20
    go_wp2_with fail
    refine C1.mono ?_
    rintro e w1 ⟨rfl, hb1⟩
    go_wp2_with fail
    go_ret
    exact ⟨rfl, hb1⟩
end Go.Proofs.YtopankjjlapfbaaGreatDoor
