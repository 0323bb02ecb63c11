/-
  What maySend does.
-/
import Derived.Test.YtnjkbpjkaignbaaSm
namespace Go.Proofs.Ytnjkbpjkaignbaa
open Go.RowKit Go.Conc
set_option linter.unusedVariables false
set_option maxRecDepth 20000

/-- what maySend tells of a message of m bytes from port i -/
def mayE (n : Nat) (G : Nat → Int) (i : Nat) (to : Int) (m : Nat) : Int :=
  if (n : Int) ≤ to then 2 else if 2048 < m then 3 else if G i < 0 then 14 else if 0 ≤ to ∧ ¬ (i ≠ to.toNat ∧ G i = G to.toNat) then 14 else 0
section
variable {B : Nat} {w w' : World} {l b n : Nat} {C : Nat → Nat} {G : Nat → Int} {Q : Nat → List Msg} {N : Nat → Prop}
theorem may_ok (h : WW B w l b n C G Q N) {i : Nat} (hi : i < n) (to : Int) (a : Option Addr) (m c : Nat) : Calls Try.prog 20 #[.pointer (some ⟨l, 0, none⟩), .int .i64 i, .int .i64 to, .slice a m c] w fun e w' => e = .returned (.int .i64 (mayE n G i to m)) ∧ ∃ k, w' = w.drewN k := by
  have H : Hid (Of l b i w) := of_ok h hi
  obtain ⟨c0, c1⟩ := h.r hi
  have cc := h.c
  have hb := h.blt
  have hl := h.lt
  have HW : Hid (WW B w l b n C G Q N) := h
  clear h
  by_cases h1 : (n : Int) ≤ to
  · rw [show mayE n G i to m = 2 by simp [mayE, h1]]
    go_enter Try.func20, Try.ntmps20
    go_wp2_with fail
    refine Calls.mono H.out ?_
    rintro e w ⟨rfl, rfl⟩
    go_wp2_with fail
    go_ret
    exact ⟨rfl, 0, rfl⟩
  by_cases h2 : 2048 < m
  · have h2' : (2048 : Int) < (m : Int) := by omega
    rw [show mayE n G i to m = 3 by simp [mayE, h1, h2]]
    go_enter Try.func20, Try.ntmps20
    go_wp2_with fail
    refine Calls.mono H.out ?_
    rintro e w ⟨rfl, rfl⟩
    go_wp2_with fail
    go_ret
    exact ⟨rfl, 0, rfl⟩
  have h2' : ¬ (2048 : Int) < (m : Int) := by omega
  by_cases h3 : G i < 0
  · rw [show mayE n G i to m = 14 by simp [mayE, h1, h2, h3]]
    go_enter Try.func20, Try.ntmps20
    go_wp2_with fail
    refine Calls.mono H.out ?_
    rintro e w ⟨rfl, rfl⟩
    go_wp2_with fail
    go_ret
    exact ⟨rfl, 0, rfl⟩
  by_cases h4 : 0 ≤ to
  · obtain ⟨j, rfl⟩ := Int.eq_ofNat_of_zero_le h4
    have hj : j < n := by omega
    have J := joined_ok HW.out hi hj
    have e : mayE n G i (j : Int) m = if (i ≠ j ∧ G i = G j) then 0 else 14 := by
      simp only [mayE, h1, h2, h3, h4, if_false, Int.toNat_natCast, true_and]
      by_cases hh : i ≠ j ∧ G i = G j
      · rw [if_neg (by simpa using hh), if_pos hh]
      · rw [if_pos hh, if_neg hh]
    rw [e]
    by_cases hh : i ≠ j ∧ G i = G j
    · rw [if_pos hh]
      rw [decide_eq_true hh] at J
      clear e HW hh
      go_enter Try.func20, Try.ntmps20
      go_wp2_with fail
      refine Calls.mono H.out ?_
      rintro e w ⟨rfl, rfl⟩
      go_wp2_with fail
      refine J.mono ?_
      rintro e w1 ⟨rfl, k, rfl⟩
      clear J
      go_wp2_with fail
      go_ret
      exact ⟨rfl, k, rfl⟩
    · rw [if_neg hh]
      rw [decide_eq_false hh] at J
      clear e HW hh
      go_enter Try.func20, Try.ntmps20
      go_wp2_with fail
      refine Calls.mono H.out ?_
      rintro e w ⟨rfl, rfl⟩
      go_wp2_with fail
      refine J.mono ?_
      rintro e w1 ⟨rfl, k, rfl⟩
      clear J
      go_wp2_with fail
      go_ret
      exact ⟨rfl, k, rfl⟩
  · rw [show mayE n G i to m = 0 by simp [mayE, h1, h2, h3, h4]]
    clear HW
    go_enter Try.func20, Try.ntmps20
    go_wp2_with fail
    refine Calls.mono H.out ?_
    rintro e w ⟨rfl, rfl⟩
    go_wp2_with fail
    go_ret
    exact ⟨rfl, 0, rfl⟩
end
end Go.Proofs.Ytnjkbpjkaignbaa
