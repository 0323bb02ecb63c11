/-
  What Owner tells.
-/
import Derived.Test.YteghkhdpdeiocaaDoorAl
import Derived.Test.YteghkhdpdeiocaaDoorRg
import Derived.LoopN
import Derived.OwnWalk
namespace Go.Proofs.YteghkhdpdeiocaaDoor
open Go.RowKit Go.ChangeMaps
set_option linter.unusedVariables false
set_option maxRecDepth 100000

/-- is it somebody's -/
def owK (S : Fs) (f : Int) : Bool := decide (0 ≤ f ∧ f < S.n) && decide (S.cl f.toNat ≠ 17)
def owO (S : Fs) (f : Int) : Int := if owK S f then S.cl f.toNat else 0
def owT (S : Fs) (f : Int) : Int := if owK S f then S.ti f.toNat else 0
section
variable {B : Nat → Prop} {w w' : World} {D : Nat} {S : Fs}
theorem owner_fx (h : FX B w D S) (f : Int) : Calls Tryd.prog 32 #[.pointer (some ⟨D, 0, none⟩), .int .i64 f] w fun e w' => e = .returned (.tuple #[.int .i64 (owO S f), .int .i64 (owT S f), .bool (owK S f)]) ∧ Below w.heap.size w w' := by
  obtain ⟨r, C, s, h⟩ := h
  have hl := h.ob.lt
  have M := made_fr h
  have F := isframe h f
  unfold owO owT
  by_cases h1 : 0 ≤ f ∧ f < S.n
  · rw [decide_eq_true h1] at F
    obtain ⟨i, rfl⟩ : ∃ i : Nat, f = i := ⟨f.toNat, by omega⟩
    have hi : i < S.n := by omega
    have hi' : (i : Int) < S.n := by omega
    have n2 := h.ok.n2
    have c0 := h.ob.c0
    have cr := h.row.c hi
    have hrl := h.row.lt
    by_cases h2 : S.cl i = 17
    · have e0 : owK S i = false := by unfold owK; rw [Int.toNat_natCast, h2]; simp
      rw [e0]
      rw [mv_nil h2] at cr
      obtain ⟨w0, b0, r0, r1⟩ := steps_nil w 0
      clear h h1 e0
      go_enter Tryd.func32, Tryd.ntmps32
      go_wp2_with fail
      refine M.mono ?_
      rintro e w ⟨rfl, rfl⟩
      go_wp2_with fail
      refine F.mono ?_
      rintro e w ⟨rfl, rfl⟩
      go_wp2_with fail
      refine wp_loop_rounds 1 ?_
      rw [rounds_succ]
      go_wp2_with fail
      go_ret3
      exact ⟨rfl, b0⟩
    · have e0 : owK S i = true := by unfold owK; rw [Int.toNat_natCast, decide_eq_true h1, decide_eq_true h2]; rfl
      rw [e0]
      rw [mv_map h2] at cr
      obtain ⟨born, clock, hm, hlt⟩ := h.mp i hi h2
      obtain ⟨w0, w1, b0, b1, r0, r1, r2, r3⟩ := steps_one hm hlt 0
      rw [Int.toNat_natCast]
      clear h h1 e0
      generalize S.cl i = a at *
      generalize S.ti i = t at *
      go_enter Tryd.func32, Tryd.ntmps32
      go_wp2_with fail
      refine M.mono ?_
      rintro e w ⟨rfl, rfl⟩
      go_wp2_with fail
      refine F.mono ?_
      rintro e w ⟨rfl, rfl⟩
      go_wp2_with fail
      refine wp_loop_rounds 2 ?_
      rw [rounds_succ]
      go_wp2_with fail
      rw [rounds_succ]
      go_wp2_with fail
      go_ret3
      exact ⟨rfl, b1⟩
  · have e0 : owK S f = false := by unfold owK; rw [decide_eq_false h1]; rfl
    rw [decide_eq_false h1] at F
    rw [e0]
    clear h h1 e0
    go_enter Tryd.func32, Tryd.ntmps32
    go_wp2_with fail
    refine M.mono ?_
    rintro e w ⟨rfl, rfl⟩
    go_wp2_with fail
    refine F.mono ?_
    rintro e w ⟨rfl, rfl⟩
    go_wp2_with fail
    go_ret3
    exact ⟨rfl, Below.refl _ _⟩
/-- how often the first j frames are had together -/
def sumT (ti : Nat → Nat) : Nat → Nat
  | 0 => 0
  | j + 1 => sumT ti j + ti j
theorem sumT_le (ti : Nat → Nat) (h : ∀ i, ti i ≤ 65536) : ∀ j, sumT ti j ≤ j * 65536
  | 0 => by simp [sumT]
  | j + 1 => by
    have := sumT_le ti h j
    have := h j
    simp only [sumT]
    omega
theorem sumT_lt (ti : Nat → Nat) : ∀ n, (∀ i, i < n → ti i ≤ 65536) → ∀ j, j ≤ n → sumT ti j ≤ j * 65536
  | n, h, 0, _ => by simp [sumT]
  | n, h, j + 1, hj => by
    have := sumT_lt ti n h j (by omega)
    have := h j (by omega)
    simp only [sumT]
    omega
set_option maxHeartbeats 800000 in
theorem sum_fx (h : FX B w D S) : Calls Tryd.prog 19 #[.pointer (some ⟨D, 0, none⟩)] w fun e w' => e = .returned (.int .i64 (sumT S.ti S.n)) ∧ Below w.heap.size w w' := by
  obtain ⟨r, C, s, h⟩ := h
  have hl := h.ob.lt
  have M := made_fr h
  have c0 := h.ob.c0
  have n2 := h.ok.n2
  have hle : ∀ j, j ≤ S.n → sumT S.ti j ≤ j * 65536 := sumT_lt S.ti S.n (fun i hi => by
    have := h.ok.t i hi
    by_cases e : S.cl i = 17
    · rw [this.1 e]; omega
    · exact (this.2 e).2)
  have HF : Hid (FR B w D r S C s) := h
  have HL : Hid (∀ j, j ≤ S.n → sumT S.ti j ≤ j * 65536) := hle
  clear h hle
  go_enter Tryd.func19, Tryd.ntmps19
  go_wp2_with fail
  refine M.mono ?_
  rintro e w ⟨rfl, rfl⟩
  go_wp2_with fail
  go_loopw [3, 16] (fun x i wr => ∃ j : Nat, j ≤ S.n ∧ i = .int .i64 j ∧ x = .int .i64 (sumT S.ti j) ∧ Hid (Below w.heap.size w wr)) (fun _ i _ => S.n - (intOf i).toNat)
  case atStart => exact ⟨0, by omega, rfl, rfl, Below.refl _ _⟩
  case round =>
    obtain ⟨j, hj, rfl, rfl, HJ⟩ := hrel
    by_cases hjn : j < S.n
    · have hjn' : (j : Int) < S.n := by omega
      have h1 := HF.out.below HJ.out
      have cr := h1.row.c hjn
      have hrl := h1.row.lt
      have l1 := HL.out j (by omega)
      have l2 := HL.out (j + 1) (by omega)
      by_cases h2 : S.cl j = 17
      · rw [mv_nil h2] at cr
        have ht : S.ti j = 0 := (h1.ok.t j hjn).1 h2
        obtain ⟨w0, b0, r0, r1⟩ := steps_nil wr 0
        have HB : Hid (Below w.heap.size w w0) := HJ.out.trans (b0.mono HJ.out.size)
        clear h1 b0
        go_wp2_with fail
        refine wp_loop_rounds 1 ?_
        rw [rounds_succ]
        go_wp2_with fail
        go_roundw
        case rel => exact ⟨j + 1, by omega, by go_num, by simp [sumT, ht], HB.out⟩
        case measure => simp [intOf]; omega
      · rw [mv_map h2] at cr
        obtain ⟨born, clock, hm, hlt⟩ := h1.mp j hjn h2
        obtain ⟨w0, w1, b0, b1, r0, r1, r2, r3⟩ := steps_one hm hlt 0
        have HB : Hid (Below w.heap.size w w1) := HJ.out.trans (b1.mono HJ.out.size)
        have e1 : ((sumT S.ti (j + 1) : Nat) : Int) = (sumT S.ti j : Int) + (S.ti j : Int) := by simp [sumT]
        have l3 : ((sumT S.ti j : Nat) : Int) + (S.ti j : Int) ≤ 9000000000 := by rw [← e1]; omega
        have l4 : ((sumT S.ti j : Nat) : Int) ≤ 9000000000 := by omega
        have l5 : (0 : Int) ≤ (sumT S.ti j : Int) := by omega
        have l6 : (0 : Int) ≤ (S.ti j : Int) := by omega
        have HE : Hid (((sumT S.ti (j + 1) : Nat) : Int) = (sumT S.ti j : Int) + (S.ti j : Int)) := e1
        clear h1 b0 b1 hm hlt l1 l2 e1
        generalize ((sumT S.ti j : Nat) : Int) = sj at *
        generalize ((S.ti j : Nat) : Int) = tj at *
        generalize S.cl j = a at *
        go_wp2_with fail
        refine wp_loop_rounds 2 ?_
        rw [rounds_succ]
        go_wp2_with fail
        rw [rounds_succ]
        go_wp2_with fail
        go_roundw
        case rel => exact ⟨j + 1, by omega, by go_num, by rw [HE.out], HB.out⟩
        case measure => simp [intOf]; omega
    · obtain rfl : j = S.n := by omega
      go_wp2_with fail
      go_ret
      exact ⟨rfl, HJ.out⟩
end
end Go.Proofs.YteghkhdpdeiocaaDoor
