/-
  What check, begin, Take, Give and State do.
-/
import Derived.Test.YtioanbdmkiphfaaDoorLk
namespace Go.Proofs.YtioanbdmkiphfaaDoor
open Go.RowKit
set_option linter.unusedVariables false
set_option maxRecDepth 20000

/-- is there such a core -/
def hasC (n : Nat) (c : Int) : Bool := decide (0 ≤ c) && decide (c < n)
theorem hasC_yes {n : Nat} {c : Int} (h : hasC n c = true) : ∃ d : Nat, c = d ∧ d < n := by
  simp [hasC] at h
  exact ⟨c.toNat, by omega, by omega⟩
theorem hasC_nat {n c : Nat} (h : c < n) : hasC n c = true := by simp [hasC]; omega
theorem check_lk (k b : Nat) (t : Int) (n : Nat) (S T : Nat → Int) (c : Int) (w : World) (h : LK w k b t n S T) : Calls Tryd.prog 27 #[.pointer (some ⟨k, 0, none⟩), .int .i64 c] w fun e w' => e = .returned (.int .i64 (if hasC n c then 0 else 2)) ∧ w' = w := by
  have C := isMade_lk k b t n S T w h
  have c2 := h.c2
  have hl := h.lt
  clear h
  by_cases h0 : 0 ≤ c
  · by_cases h1 : c < n
    · rw [show hasC n c = true by simp [hasC, h0, h1]]
      go_enter Tryd.func27, Tryd.ntmps27
      go_wp2_with fail
      refine C.mono ?_
      rintro e w1 ⟨rfl, rfl⟩
      go_wp2_with fail
      go_ret
      exact ⟨rfl, rfl⟩
    · rw [show hasC n c = false by simp [hasC, h1]]
      go_enter Tryd.func27, Tryd.ntmps27
      go_wp2_with fail
      refine C.mono ?_
      rintro e w1 ⟨rfl, rfl⟩
      go_wp2_with fail
      go_ret
      exact ⟨rfl, rfl⟩
  · rw [show hasC n c = false by simp [hasC, h0]]
    go_enter Tryd.func27, Tryd.ntmps27
    go_wp2_with fail
    refine C.mono ?_
    rintro e w1 ⟨rfl, rfl⟩
    go_wp2_with fail
    go_ret
    exact ⟨rfl, rfl⟩
theorem begin_no (k b : Nat) (t : Int) (n : Nat) (S T : Nat → Int) (c x y : Int) (w : World) (h : LK w k b t n S T) (hc : hasC n c = false) : Calls Tryd.prog 26 #[.pointer (some ⟨k, 0, none⟩), .int .i64 c, .int .i64 x, .int .i64 y] w fun e w' => e = .returned (.int .i64 2) ∧ w' = w := by
  have C := check_lk k b t n S T c w h
  rw [hc] at C
  clear h hc
  go_enter Tryd.func26, Tryd.ntmps26
  go_wp2_with fail
  refine C.mono ?_
  rintro e w1 ⟨rfl, rfl⟩
  go_wp2_with fail
  go_ret
  exact ⟨rfl, rfl⟩
theorem begin_bad (k b : Nat) (t : Int) (n : Nat) (S T : Nat → Int) (c : Nat) (x y : Int) (w : World) (h : LK w k b t n S T) (hc : c < n) (hs : S c ≠ x) : Calls Tryd.prog 26 #[.pointer (some ⟨k, 0, none⟩), .int .i64 c, .int .i64 x, .int .i64 y] w fun e w' => e = .returned (.int .i64 21) ∧ w' = w := by
  have C := check_lk k b t n S T c w h
  rw [hasC_nat hc] at C
  have e0 := h.cs c hc
  have hl := h.lt
  have hn := h.n8
  have hc8 : (c : Int) < 8 := by omega
  have hb : (S c != x) = true := by simpa using hs
  clear h
  go_enter Tryd.func26, Tryd.ntmps26
  go_wp2_with fail
  refine C.mono ?_
  rintro e w1 ⟨rfl, rfl⟩
  go_wp2_with fail
  go_ret
  exact ⟨rfl, rfl⟩
theorem begin_ok (k b : Nat) (t : Int) (n : Nat) (S T : Nat → Int) (c : Nat) (x y : Int) (w : World) (h : LK w k b t n S T) (hc : c < n) (hs : S c = x) : Calls Tryd.prog 26 #[.pointer (some ⟨k, 0, none⟩), .int .i64 c, .int .i64 x, .int .i64 y] w fun e w' => e = .returned (.int .i64 0) ∧ w' = w.setCell ⟨k, 3 + c * 2, none⟩ (.int .i64 y) := by
  have C := check_lk k b t n S T c w h
  rw [hasC_nat hc] at C
  have e0 := h.cs c hc
  have hf := h.f (3 + c * 2)
  have hl := h.lt
  have hn := h.n8
  have hc8 : (c : Int) < 8 := by omega
  have hb : (S c != x) = false := by simpa using hs
  clear h
  go_enter Tryd.func26, Tryd.ntmps26
  go_wp2_with fail
  refine C.mono ?_
  rintro e w1 ⟨rfl, rfl⟩
  go_wp2_with fail
  go_ret
  exact ⟨rfl, rfl⟩
end Go.Proofs.YtioanbdmkiphfaaDoor
