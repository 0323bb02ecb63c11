/-
  What leaves and Write do.
-/
import Derived.Test.YtcgopiljbodcdaaSm
namespace Go.Proofs.Ytcgopiljbodcdaa
open Go.RowKit
set_option linter.unusedVariables false
set_option maxRecDepth 20000

/-- what a write leaves of a register -/
def leftP (R : Nat → Int) (n : Nat) (v : Int) : Int :=
  match n with
  | 0 => bits .and .u64 v 290
  | 1 => bits .and .u64 v 546
  | 2 => bits .or .u64 (bits .andNot .u64 (R 2) 2) (bits .and .u64 v 2)
  | 3 | 4 => bits .andNot .u64 v 3
  | 5 | 6 | 7 => v
  | 8 => if bits .and .u64 v 9223372036854775808 = 0 then 0 else bits .and .u64 v 9223372036854841343
  | _ => 0
/-- why it is not written -/
def leftE (n : Nat) : Int := if n < 9 then 0 else if n = 10 then 17 else 14

set_option maxHeartbeats 800000 in
theorem leaves_ff (F : Nat) (R : Nat → Int) (n : Nat) (hn : n < 12) (v : Int) (w : World) (h : FF w F R) : Calls Try.prog 26 #[.pointer (some ⟨F, 0, none⟩), .int .i64 n, .int .u64 v] w fun e w' => e = .returned (.tuple #[.int .u64 (leftP R n v), .int .i64 (leftE n)]) ∧ w' = w := by
  have c := h.c 2 (by decide)
  have hl := h.lt
  clear h
  match n, hn with
  | 0, _ | 1, _ | 2, _ | 3, _ | 4, _ | 5, _ | 6, _ | 7, _ | 9, _ | 10, _ | 11, _ =>
    go_enter Try.func26, Try.ntmps26
    go_wp2
    go_ret2
    exact ⟨rfl, rfl⟩
  | 8, _ =>
    by_cases hv : bits .and .u64 v 9223372036854775808 = 0
    · go_enter Try.func26, Try.ntmps26
      go_wp2
      go_ret2
      simp [leftP, leftE, hv]
    · go_enter Try.func26, Try.ntmps26
      go_wp2
      go_ret2
      simp [leftP, leftE, hv]
theorem left_U (R : Nat → Int) (n : Nat) (v : Int) (hv : U v) : U (leftP R n v) := by
  unfold leftP
  split
  all_goals first | exact bits_U _ _ _ | exact hv | exact ⟨by omega, by omega⟩ | skip
  split
  · exact ⟨by omega, by omega⟩
  · exact bits_U _ _ _

/-- a write of a register -/
theorem write_ff (F : Nat) (R : Nat → Int) (n : Nat) (hn : n < 12) (v : Int) (hv : U v) (w : World) (h : FF w F R) :
    Calls Try.prog 11 #[.pointer (some ⟨F, 0, none⟩), .int .i64 n, .int .i64 1, .int .u64 v] w fun e w' => e = .returned (.int .i64 (leftE n)) ∧ FF w' F (if leftE n = 0 then upd R n (leftP R n v) else R) ∧ w.grownBy w' (some F) := by
  have C := reach_ff F R n 1 w h
  have e0 : reachP n 1 = 0 := by simp [reachP, regP_nat n hn]
  rw [e0] at C
  have D := leaves_ff F R n hn v w h
  have c := h.c n hn
  have hl := h.lt
  have hf := h.f (1 + n)
  have hn' : (n : Int) < 12 := by omega
  by_cases he : leftE n = 0
  · rw [he] at D ⊢
    have HF : Hid (FF (w.setCell ⟨F, 1 + n, none⟩ (.int .u64 (leftP R n v))) F (upd R n (leftP R n v)) ∧ w.grownBy (w.setCell ⟨F, 1 + n, none⟩ (.int .u64 (leftP R n v))) (some F)) := h.set n hn _ (left_U R n v hv)
    simp only [if_true]
    generalize leftP R n v = y at *
    clear h
    go_enter Try.func11, Try.ntmps11
    go_wp2_with fail
    refine C.mono ?_
    rintro e w1 ⟨rfl, rfl⟩
    go_wp2_with fail
    refine D.mono ?_
    rintro e w1 ⟨rfl, rfl⟩
    go_wp2_with fail
    go_ret
    exact ⟨rfl, HF.out⟩
  · rw [if_neg he]
    have HF : Hid (FF w F R) := h
    generalize leftP R n v = y at *
    generalize leftE n = z at *
    clear h
    go_enter Try.func11, Try.ntmps11
    go_wp2_with fail
    refine C.mono ?_
    rintro e w1 ⟨rfl, rfl⟩
    go_wp2_with fail
    refine D.mono ?_
    rintro e w1 ⟨rfl, rfl⟩
    go_wp2_with fail
    go_ret
    exact ⟨rfl, HF.out, grown_refl _ _⟩
/-- a write of what is no register -/
theorem write_no (F : Nat) (R : Nat → Int) (n : Int) (hn : regP n = false) (v : Int) (w : World) (h : FF w F R) :
    Calls Try.prog 11 #[.pointer (some ⟨F, 0, none⟩), .int .i64 n, .int .i64 1, .int .u64 v] w fun e w' => e = .returned (.int .i64 14) ∧ w' = w := by
  have C := reach_ff F R n 1 w h
  have e0 : reachP n 1 = 14 := by simp [reachP, hn]
  rw [e0] at C
  clear h
  go_enter Try.func11, Try.ntmps11
  go_wp2_with fail
  refine C.mono ?_
  rintro e w1 ⟨rfl, rfl⟩
  go_wp2_with fail
  go_ret
  exact ⟨rfl, rfl⟩
/-- a write, whatever the number -/
theorem write_any (F : Nat) (R : Nat → Int) (n : Int) (v : Int) (hv : U v) (w : World) (h : FF w F R) :
    Calls Try.prog 11 #[.pointer (some ⟨F, 0, none⟩), .int .i64 n, .int .i64 1, .int .u64 v] w fun e w' => ∃ z R', e = .returned (.int .i64 z) ∧ FF w' F R' ∧ w.grownBy w' (some F) := by
  cases hr : regP n
  · exact (write_no F R n hr v w h).mono fun e w' ⟨he, hw⟩ => ⟨_, R, he, hw ▸ h, hw ▸ grown_refl _ _⟩
  · simp [regP] at hr
    obtain ⟨k, rfl⟩ := Int.eq_ofNat_of_zero_le hr.1
    exact (write_ff F R k (by omega) v hv w h).mono fun e w' ⟨he, hw, hg⟩ => ⟨_, _, he, hw, hg⟩
end Go.Proofs.Ytcgopiljbodcdaa
