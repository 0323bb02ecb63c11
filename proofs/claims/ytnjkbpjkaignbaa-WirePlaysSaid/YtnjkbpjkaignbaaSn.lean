/-
  What Send and Inject do, whatever they are called with.
-/
import Derived.Test.YtnjkbpjkaignbaaAl
namespace Go.Proofs.Ytnjkbpjkaignbaa
open Go.RowKit Go.Conc
set_option linter.unusedVariables false
set_option maxRecDepth 20000

/-- what Send tells: how many, and the error -/
def sndR (n : Nat) (Gr : Nat → Int) (A : Nat → List (Int × List Int)) (fr to : Int) (m : Nat) : Int × Int :=
  if fr < 0 ∨ (n : Int) ≤ fr then (0, 2) else if mayE n Gr fr.toNat to m ≠ 0 then (0, mayE n Gr fr.toNat to m) else if to < 0 then ((allN Gr A fr.toNat n : Int), 0) else if (A to.toNat).length < 16 then (1, 0) else (0, 18)
/-- what waits behind it -/
def sndA (n : Nat) (Gr : Nat → Int) (A : Nat → List (Int × List Int)) (fr to : Int) (bs : List Int) : Nat → List (Int × List Int) :=
  if fr < 0 ∨ (n : Int) ≤ fr then A else if mayE n Gr fr.toNat to bs.length ≠ 0 then A else if to < 0 then allA Gr A fr.toNat bs n else upd A to.toNat (addA (A to.toNat) (fr, bs))
/-- what Inject tells, and what waits behind it -/
def injR (n : Nat) (A : Nat → List (Int × List Int)) (to : Int) (m : Nat) : Int :=
  if to < 0 ∨ (n : Int) ≤ to then 2 else if 2048 < m then 3 else if (A to.toNat).length < 16 then 0 else 18
def injA (n : Nat) (A : Nat → List (Int × List Int)) (to : Int) (bs : List Int) : Nat → List (Int × List Int) :=
  if to < 0 ∨ (n : Int) ≤ to then A else if 2048 < bs.length then A else upd A to.toNat (addA (A to.toNat) (-1, bs))
theorem may_zero {n : Nat} {Gr : Nat → Int} {i : Nat} {to : Int} {m : Nat} (h : mayE n Gr i to m = 0) : to < (n : Int) ∧ m ≤ 2048 := by
  unfold mayE at h
  split at h
  · cases h
  · split at h
    · cases h
    · exact ⟨by omega, by omega⟩
section
variable {B : Nat} {w w' : World} {l b n : Nat} {C : Nat → Nat} {Gr : Nat → Int} {A : Nat → List (Int × List Int)} {N : Nat → Prop}
theorem send_in (h : WX B w l b n C Gr A N) {i : Nat} (hi : i < n) (to : Int) (a : Option Addr) (c : Nat) (bs : List Int) (hs : SL w a bs.length bs) :
    Calls Try.prog 10 #[.pointer (some ⟨l, 0, none⟩), .int .i64 i, .int .i64 to, .slice a bs.length c] w fun e w' => e = .returned (.tuple #[.int .i64 (sndR n Gr A i to bs.length).1, .int .i64 (sndR n Gr A i to bs.length).2]) ∧ WX B w' l b n C Gr (sndA n Gr A i to bs) N ∧ Trn (WS b n C) w w' := by
  have M := xmay h hi to a bs.length c
  have hin : ¬ ((i : Int) < 0 ∨ (n : Int) ≤ (i : Int)) := by omega
  simp only [sndR, sndA, if_neg hin, Int.toNat_natCast]
  have HX : Hid (WX B w l b n C Gr A N ∧ SL w a bs.length bs) := ⟨h, hs⟩
  clear h hs hin
  obtain ⟨r, hr⟩ : ∃ r, mayE n Gr i to bs.length = r := ⟨_, rfl⟩
  rw [hr] at M ⊢
  by_cases h0 : r = 0
  · subst h0
    obtain ⟨h1, h2⟩ := may_zero hr
    simp only [ne_eq, not_true_eq_false, if_false]
    clear hr
    by_cases ht : to < 0
    · rw [if_pos ht, if_pos ht]
      go_enter Try.func10, Try.ntmps10
      go_wp2_with fail
      refine M.mono ?_
      rintro e w1 ⟨rfl, k, rfl⟩
      clear M
      have AL := all_ok (HX.out.1.drewN k) hi a c bs (HX.out.2.trn (S := fun _ => False) (fun _ _ _ _ => id) (trn_drewN (Trn.refl _ _) k)) h2
      go_wp2_with fail
      refine AL.mono ?_
      rintro e w2 ⟨rfl, x2, t2⟩
      have HF : Hid (WX B w2 l b n C Gr (allA Gr A i bs n) N ∧ Trn (WS b n C) w w2) := ⟨x2, (trn_drewN (Trn.refl _ _) k).trans t2⟩
      clear AL x2 t2
      go_wp2_with fail
      go_ret2
      exact ⟨rfl, HF.out⟩
    · rw [if_neg ht, if_neg ht]
      obtain ⟨j, rfl⟩ := Int.eq_ofNat_of_zero_le (show 0 ≤ to by omega)
      have hj : j < n := by omega
      simp only [Int.toNat_natCast]
      by_cases hq : (A j).length < 16
      all_goals
        first
          | rw [if_pos hq]
          | rw [if_neg hq]
        go_enter Try.func10, Try.ntmps10
        go_wp2_with fail
        refine M.mono ?_
        rintro e w1 ⟨rfl, k, rfl⟩
        clear M
        have PT := xput (HX.out.1.drewN k) hj (i : Int) a c bs (HX.out.2.trn (S := fun _ => False) (fun _ _ _ _ => id) (trn_drewN (Trn.refl _ _) k)) h2
        obtain ⟨c0, hl, hb, _, _⟩ := (HX.out.1.drewN k).cs
        first
          | rw [decide_eq_true hq] at PT
          | rw [decide_eq_false hq] at PT
        go_wp2_with fail
        refine PT.mono ?_
        rintro e w2 ⟨rfl, x2, t2⟩
        have HF : Hid (WX B w2 l b n C Gr (upd A j (addA (A j) ((i : Int), bs))) N ∧ Trn (WS b n C) w w2) := ⟨x2, (trn_drewN (Trn.refl _ _) k).trans t2⟩
        clear PT x2 t2
        go_wp2_with fail
        go_ret2
        exact ⟨rfl, HF.out⟩
  · rw [if_pos h0, if_pos h0]
    go_enter Try.func10, Try.ntmps10
    go_wp2_with fail
    refine M.mono ?_
    rintro e w1 ⟨rfl, k, rfl⟩
    clear M
    go_wp2_with fail
    go_ret2
    exact ⟨rfl, HX.out.1.drewN k, trn_drewN (Trn.refl _ _) k⟩
theorem send_any (h : WX B w l b n C Gr A N) (fr to : Int) (a : Option Addr) (c : Nat) (bs : List Int) (hs : SL w a bs.length bs) :
    Calls Try.prog 10 #[.pointer (some ⟨l, 0, none⟩), .int .i64 fr, .int .i64 to, .slice a bs.length c] w fun e w' => e = .returned (.tuple #[.int .i64 (sndR n Gr A fr to bs.length).1, .int .i64 (sndR n Gr A fr to bs.length).2]) ∧ WX B w' l b n C Gr (sndA n Gr A fr to bs) N ∧ Trn (WS b n C) w w' := by
  by_cases hf : fr < 0 ∨ (n : Int) ≤ fr
  · refine (send_off (xoff h hf) (by decide) to _).mono fun e w' ⟨he, hw⟩ => ?_
    rw [sndR, if_pos hf, sndA, if_pos hf, hw]
    exact ⟨he, h, Trn.refl _ _⟩
  · obtain ⟨i, rfl⟩ := Int.eq_ofNat_of_zero_le (show 0 ≤ fr by omega)
    exact send_in h (by omega) to a c bs hs
theorem inject_any (h : WX B w l b n C Gr A N) (to : Int) (a : Option Addr) (c : Nat) (bs : List Int) (hs : SL w a bs.length bs) :
    Calls Try.prog 12 #[.pointer (some ⟨l, 0, none⟩), .int .i64 to, .slice a bs.length c] w fun e w' => e = .returned (.int .i64 (injR n A to bs.length)) ∧ WX B w' l b n C Gr (injA n A to bs) N ∧ Trn (WS b n C) w w' := by
  by_cases hf : to < 0 ∨ (n : Int) ≤ to
  · refine (inject_off (xoff h hf) (by decide) _).mono fun e w' ⟨he, hw⟩ => ?_
    rw [injR, if_pos hf, injA, if_pos hf, hw]
    exact ⟨he, h, Trn.refl _ _⟩
  · obtain ⟨i, rfl⟩ := Int.eq_ofNat_of_zero_le (show 0 ≤ to by omega)
    have hi : i < n := by omega
    simp only [injR, injA, if_neg hf, Int.toNat_natCast]
    have H : Hid (Of l b i w) := xof h hi
    by_cases hm : 2048 < bs.length
    · rw [if_pos hm, if_pos hm]
      have hm' : (2048 : Int) < (bs.length : Int) := by omega
      have HX : Hid (WX B w l b n C Gr A N) := h
      clear h hs hf
      go_enter Try.func12, Try.ntmps12
      go_wp2_with fail
      refine Calls.mono H.out ?_
      rintro e w ⟨rfl, rfl⟩
      go_wp2_with fail
      go_ret
      exact ⟨rfl, HX.out, Trn.refl _ _⟩
    · rw [if_neg hm, if_neg hm]
      have hm' : ¬ (2048 : Int) < (bs.length : Int) := by omega
      have PT := xput h hi (-1) a c bs hs (by omega)
      clear h hs hf
      by_cases hq : (A i).length < 16
      all_goals
        first
          | rw [if_pos hq]
          | rw [if_neg hq]
        first
          | rw [decide_eq_true hq] at PT
          | rw [decide_eq_false hq] at PT
        go_enter Try.func12, Try.ntmps12
        go_wp2_with fail
        refine Calls.mono H.out ?_
        rintro e w ⟨rfl, rfl⟩
        go_wp2_with fail
        refine PT.mono ?_
        rintro e w2 ⟨rfl, x2, t2⟩
        have HF : Hid (WX B w2 l b n C Gr (upd A i (addA (A i) (-1, bs))) N ∧ Trn (WS b n C) w w2) := ⟨x2, t2⟩
        clear PT x2 t2
        go_wp2_with fail
        go_ret
        exact ⟨rfl, HF.out⟩
end
end Go.Proofs.Ytnjkbpjkaignbaa
