/-
  What made, isRegister, has, turn, waiting, reach, New, Get and Set do.
-/
import Derived.Test.YtjkaeclemflifaaBase
import Derived.Laws.Closers25b
namespace Go.Proofs.Ytjkaeclemflifaa
open Go.RowKit
set_option linter.unusedVariables false
set_option maxRecDepth 100000

theorem FF.congr {w : World} {F : Nat} {R R' : Nat → Int} (h : FF w F R) (e : ∀ n, n < 12 → R n = R' n) : FF w F R' := by
  obtain ⟨⟨cs, b1, b2, b3, b4⟩, q⟩ := h
  exact ⟨⟨cs, b1, b2, b3, fun n hn => e n hn ▸ b4 n hn⟩, fun n hn => e n hn ▸ q n hn⟩
theorem made_ff (F : Nat) (R : Nat → Int) (w : World) (h : FF w F R) : Calls Try.prog 47 #[.pointer (some ⟨F, 0, none⟩)] w fun e w' => e = .returned (.bool true) ∧ w' = w := by
  have c0 := h.c0
  have hl := h.lt
  clear h
  go_enter Try.func47, Try.ntmps47
  go_wp2
  go_ret
  exact ⟨rfl, rfl⟩
theorem below_drewN {B : Nat} {W w : World} (h : Below B W w) : ∀ n, Below B W (w.drewN n) := fun n => ⟨h.os, h.tape, h.output, h.size, h.block⟩
/-- is it a register -/
def regP (n : Int) : Bool := decide (0 ≤ n) && decide (n < 12)
theorem isreg (n : Int) (w : World) : Calls Try.prog 48 #[.int .i64 n] w fun e w' => e = .returned (.bool (regP n)) ∧ w' = w := by
  unfold regP
  by_cases h0 : 0 ≤ n
  · by_cases h1 : n < 12
    · go_enter Try.func48, Try.ntmps48
      go_wp2
      go_ret
      exact ⟨ret_bool (by simp [h0, h1]), rfl⟩
    · go_enter Try.func48, Try.ntmps48
      go_wp2
      go_ret
      exact ⟨ret_bool (by simp [h1]), rfl⟩
  · go_enter Try.func48, Try.ntmps48
    go_wp2
    go_ret
    exact ⟨ret_bool (by simp; omega), rfl⟩
theorem regP_nat (n : Nat) (h : n < 12) : regP n = true := by simp [regP]; omega
/-- is a bit set -/
def hasP (x b : Int) : Bool := bits .and .u64 x b != 0
theorem grown_drew {w w' : World} {m : Option Nat} (h : w.grownBy w' m) : w.grownBy w'.drew m := ⟨h.os, h.tape, h.output, h.size, h.block⟩
/-- a bit set, or taken away -/
def turnP (x b : Int) (on : Bool) : Int := if on then bits .or .u64 x b else bits .andNot .u64 x b
theorem bits_U (op : BinOp) (a b : Int) : U (bits op .u64 a b) := ⟨Go.bits_lo_u64 op a b, by have := Go.bits_hi_u64 op a b; omega⟩
/-- the lines that are enabled and set -/
def waitP (R : Nat → Int) : Int := bits .and .u64 (bits .and .u64 (R 1) (R 2)) 546
/-- why a register is not reached -/
def reachP (n mode : Int) : Int := if mode = 1 then (if regP n then 0 else 14) else 16
theorem reach_ff (F : Nat) (R : Nat → Int) (n mode : Int) (w : World) (h : FF w F R) : Calls Try.prog 56 #[.pointer (some ⟨F, 0, none⟩), .int .i64 n, .int .i64 mode] w fun e w' => e = .returned (.int .i64 (reachP n mode)) ∧ w' = w := by
  have C := made_ff F R w h
  have D := isreg n w
  clear h
  unfold reachP
  by_cases hm : mode = 1
  · rw [if_pos hm]
    cases hb : regP n
    · rw [hb] at D
      simp only [Bool.false_eq_true, if_false]
      go_enter Try.func56, Try.ntmps56
      go_wp2_with fail
      refine C.mono ?_
      rintro e w1 ⟨rfl, rfl⟩
      go_wp2_with fail
      refine D.mono ?_
      rintro e w1 ⟨rfl, rfl⟩
      go_wp2_with fail
      go_ret
      exact ⟨rfl, rfl⟩
    · rw [hb] at D
      simp only [if_true]
      go_enter Try.func56, Try.ntmps56
      go_wp2_with fail
      refine C.mono ?_
      rintro e w1 ⟨rfl, rfl⟩
      go_wp2_with fail
      refine D.mono ?_
      rintro e w1 ⟨rfl, rfl⟩
      go_wp2_with fail
      go_ret
      exact ⟨rfl, rfl⟩
  · rw [if_neg hm]
    go_enter Try.func56, Try.ntmps56
    go_wp2_with fail
    refine C.mono ?_
    rintro e w1 ⟨rfl, rfl⟩
    go_wp2_with fail
    go_ret
    exact ⟨rfl, rfl⟩

theorem get_ff (F : Nat) (R : Nat → Int) (n : Nat) (hn : n < 12) (w : World) (h : FF w F R) : Calls Try.prog 38 #[.pointer (some ⟨F, 0, none⟩), .int .i64 n] w fun e w' => e = .returned (.int .u64 (R n)) ∧ w' = w := by
  have C := made_ff F R w h
  have D := isreg n w
  rw [regP_nat n hn] at D
  have c := h.c n hn
  have hl := h.lt
  have hn' : (n : Int) < 12 := by omega
  clear h
  go_enter Try.func38, Try.ntmps38
  go_wp2_with fail
  refine C.mono ?_
  rintro e w1 ⟨rfl, rfl⟩
  go_wp2_with fail
  refine D.mono ?_
  rintro e w1 ⟨rfl, rfl⟩
  go_wp2_with fail
  go_ret
  exact ⟨rfl, rfl⟩
theorem set_ff (F : Nat) (R : Nat → Int) (n : Nat) (hn : n < 12) (v : Int) (hv : U v) (w : World) (h : FF w F R) : Calls Try.prog 40 #[.pointer (some ⟨F, 0, none⟩), .int .i64 n, .int .u64 v] w fun e w' => e = .returned (.int .i64 0) ∧ FF w' F (upd R n v) ∧ w.grownBy w' (some F) := by
  have C := made_ff F R w h
  have D := isreg n w
  rw [regP_nat n hn] at D
  have c := h.c n hn
  have hl := h.lt
  have hf := h.f (1 + n)
  have hn' : (n : Int) < 12 := by omega
  have HF : Hid (FF (w.setCell ⟨F, 1 + n, none⟩ (.int .u64 v)) F (upd R n v) ∧ w.grownBy (w.setCell ⟨F, 1 + n, none⟩ (.int .u64 v)) (some F)) := h.set n hn _ hv
  clear h
  go_enter Try.func40, Try.ntmps40
  go_wp2_with fail
  refine C.mono ?_
  rintro e w1 ⟨rfl, rfl⟩
  go_wp2_with fail
  refine D.mono ?_
  rintro e w1 ⟨rfl, rfl⟩
  go_wp2_with fail
  go_ret
  exact ⟨rfl, HF.out⟩
/-- a new file's registers -/
def newP (hart : Int) : Nat → Int := fun k => if k = 11 then hart else 0
theorem new_ff (hart : Int) (h0 : 0 ≤ hart) (h1 : hart < 9223372036854775808) (w : World) : Calls Try.prog 29 #[.int .i64 hart] w fun e w' => ∃ F, e = .returned (.pointer (some ⟨F, 0, none⟩)) ∧ w.heap.size ≤ F ∧ FF w' F (newP hart) ∧ Below w.heap.size w w' := by
  have hu : U hart := ⟨h0, by omega⟩
  have HF : Hid (FF (w.alloc (.cells #[.bool true, .int .u64 0, .int .u64 0, .int .u64 0, .int .u64 0, .int .u64 0, .int .u64 0, .int .u64 0, .int .u64 0, .int .u64 0, .int .u64 0, .int .u64 0, .int .u64 hart] 111)) w.heap.size (newP hart) ∧
    Below w.heap.size w (w.alloc (.cells #[.bool true, .int .u64 0, .int .u64 0, .int .u64 0, .int .u64 0, .int .u64 0, .int .u64 0, .int .u64 0, .int .u64 0, .int .u64 0, .int .u64 0, .int .u64 0, .int .u64 hart] 111))) := by
    refine ⟨⟨⟨_, heap_alloc_at w _, rfl, rfl, fun n hn => ?_⟩, fun n hn => ?_⟩, (Below.refl _ _).alloc (Nat.le_refl _) _⟩
    · match n, hn with
      | 0, _ | 1, _ | 2, _ | 3, _ | 4, _ | 5, _ | 6, _ | 7, _ | 8, _ | 9, _ | 10, _ | 11, _ => rfl
    · unfold newP
      split
      · exact hu
      · exact ⟨by omega, by omega⟩
  go_enter Try.func29, Try.ntmps29
  go_wp2
  go_ret
  exact ⟨_, rfl, Nat.le_refl _, HF.out⟩
end Go.Proofs.Ytjkaeclemflifaa
