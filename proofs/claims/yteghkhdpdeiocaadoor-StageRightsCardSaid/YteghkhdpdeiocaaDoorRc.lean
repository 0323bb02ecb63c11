/-
  What the document's wrong, Alloc, Hold, Free, Move and Quota do.
-/
import Derived.Test.YteghkhdpdeiocaaDoorRf
namespace Go.Proofs.YteghkhdpdeiocaaDoor
open Go.RowKit
set_option linter.unusedVariables false
set_option maxRecDepth 100000

section
variable {B : Nat → Prop} {w w' : World} {R r : Nat} {S : Fs}
theorem rwrong (h : RF B w R r S) (f o : Int) : Calls Tryd.prog 88 #[.pointer (some ⟨R, 0, none⟩), .int .i64 f, .int .i64 o] w fun e w' => e = .returned (.int .i64 (errC S f o o)) ∧ w' = w := by
  have hl := h.lt
  have hrl := h.rlt
  have c0 := h.c0
  have n2 := h.ok.n2
  have O := rowner o w
  unfold errC
  by_cases h1 : isO o
  · rw [decide_eq_true h1] at O
    by_cases h2 : f < 0
    · rw [if_neg (fun e => by have := e.2.2.1; omega)]
      clear h h1
      go_enter Tryd.func88, Tryd.ntmps88
      go_wp2_with fail
      refine O.mono ?_
      rintro e w ⟨rfl, rfl⟩
      go_wp2_with fail
      go_ret
      exact ⟨rfl, rfl⟩
    · by_cases h3 : f < S.n
      · rw [if_pos ⟨h1, h1, by omega, h3⟩]
        obtain ⟨i, rfl⟩ : ∃ i : Nat, f = i := ⟨f.toNat, by omega⟩
        have hi : i < S.n := by omega
        have r0 := h.r0 hi
        have r1 := h.r1 hi
        have tt := h.ok.t i hi
        simp only [Int.toNat_natCast]
        by_cases h4 : S.cl i = 17
        · rw [if_neg (fun e => by have := h1.2; omega)]
          rw [tt.1 h4] at r1
          clear h h1 tt
          go_enter Tryd.func88, Tryd.ntmps88
          go_wp2_with fail
          refine O.mono ?_
          rintro e w ⟨rfl, rfl⟩
          go_wp2_with fail
          go_ret
          exact ⟨rfl, rfl⟩
        · have t1 : (0 : Int) < (S.ti i : Int) := by have := (tt.2 h4).1; omega
          rw [show rO S i = S.cl i by unfold rO; rw [if_neg h4]] at r0
          by_cases h5 : (S.cl i : Int) = o
          · rw [if_pos h5]
            rw [h5] at r0
            clear h h1 tt h4 h5
            generalize ((S.ti i : Nat) : Int) = t at *
            go_enter Tryd.func88, Tryd.ntmps88
            go_wp2_with fail
            refine O.mono ?_
            rintro e w ⟨rfl, rfl⟩
            go_wp2_with fail
            go_ret
            exact ⟨rfl, rfl⟩
          · rw [if_neg h5]
            clear h h1 tt h4
            generalize ((S.ti i : Nat) : Int) = t at *
            generalize ((S.cl i : Nat) : Int) = c at *
            have tb : (t == 0) = false := by simp; omega
            have cb : (c != o) = true := by simp [h5]
            go_enter Tryd.func88, Tryd.ntmps88
            go_wp2_with fail
            refine O.mono ?_
            rintro e w ⟨rfl, rfl⟩
            go_wp2_with fail
            go_ret
            exact ⟨rfl, rfl⟩
      · have h3' : (S.n : Int) ≤ f := by omega
        rw [if_neg (fun e => by have := e.2.2.2; omega)]
        clear h h1
        go_enter Tryd.func88, Tryd.ntmps88
        go_wp2_with fail
        refine O.mono ?_
        rintro e w ⟨rfl, rfl⟩
        go_wp2_with fail
        go_ret
        exact ⟨rfl, rfl⟩
  · rw [decide_eq_false h1] at O
    rw [if_neg (fun e => h1 e.1)]
    clear h h1
    go_enter Tryd.func88, Tryd.ntmps88
    go_wp2_with fail
    refine O.mono ?_
    rintro e w ⟨rfl, rfl⟩
    go_wp2_with fail
    go_ret
    exact ⟨rfl, rfl⟩
theorem rhold (h : RF B w R r S) (f o : Int) : Calls Tryd.prog 68 #[.pointer (some ⟨R, 0, none⟩), .int .i64 f, .int .i64 o] w fun e w' => e = .returned (.int .i64 (hoE S f o)) ∧ RF B w' R r (hoS S f o) ∧ Tu Or B w w' := by
  have hl := h.lt
  have K := rwrong h f o
  have hok2 := hoS_ok h.ok f o
  by_cases h0 : errC S f o o = 0
  · rw [h0] at K
    obtain ⟨i, a, c, rfl, rfl, hac, hi, ha, hcc, hc⟩ := errC_ok h0
    clear hac hcc
    have hok := h.ok
    have tt := (hok.t i hi).2 (by omega)
    have n2 := hok.n2
    have c0 := h.c0
    have hrl := h.rlt
    have r1 := h.r1 hi
    have f1 := h.rfz (i * 2 + 1)
    have hi' : (i : Int) < S.n := by omega
    by_cases h1 : S.ti i = 65536
    · have e0 : hoE S i a = 18 := by unfold hoE; rw [if_pos h0, Int.toNat_natCast, if_pos h1]
      have e2 : hoS S i a = S := by unfold hoS; rw [if_neg (by omega)]
      rw [e0, e2]
      have t1 : (65536 : Int) ≤ (S.ti i : Int) := by omega
      have HF : Hid (RF B w R r S) := h
      clear h e0 e2 h0 hok hok2 h1 tt
      generalize ((S.ti i : Nat) : Int) = t at *
      go_enter Tryd.func68, Tryd.ntmps68
      go_wp2_with fail
      refine K.mono ?_
      rintro e w ⟨rfl, rfl⟩
      go_wp2_with fail
      go_ret
      exact ⟨rfl, HF.out, Tu.refl _ _ _⟩
    · have e0 : hoE S i a = 0 := by unfold hoE; rw [if_pos h0, Int.toNat_natCast, if_neg h1]
      have e2 : hoS S i a = S.set i (S.cl i) (S.ti i + 1) := by unfold hoS; rw [if_pos e0, Int.toNat_natCast]
      rw [e2] at hok2
      rw [e0, e2]
      have m := h.times hi hok2
      rw [show ((S.ti i + 1 : Nat) : Int) = (S.ti i : Int) + 1 from rfl] at m
      have HE : Hid (_) := m
      have t1 : ((S.ti i : Nat) : Int) < 65536 := by omega
      have t0 : (0 : Int) ≤ (S.ti i : Int) := by omega
      clear h e0 e2 h0 hok hok2 h1 tt m
      generalize ((S.ti i : Nat) : Int) = t at *
      go_enter Tryd.func68, Tryd.ntmps68
      go_wp2_with fail
      refine K.mono ?_
      rintro e w ⟨rfl, rfl⟩
      go_wp2_with fail
      go_ret
      exact ⟨rfl, HE.out⟩
  · have e0 : hoE S f o = errC S f o o := by unfold hoE; rw [if_neg h0]
    have e2 : hoS S f o = S := by unfold hoS; rw [if_neg (by omega)]
    rw [e0, e2]
    have HF : Hid (RF B w R r S) := h
    clear h e0 e2 hok2
    generalize errC S f o o = x at *
    go_enter Tryd.func68, Tryd.ntmps68
    go_wp2_with fail
    refine K.mono ?_
    rintro e w ⟨rfl, rfl⟩
    go_wp2_with fail
    go_ret
    exact ⟨rfl, HF.out, Tu.refl _ _ _⟩
end
end Go.Proofs.YteghkhdpdeiocaaDoor
