/-
  What the document's Send does, whatever it is called with.
-/
import Derived.Test.YtnjkbpjkaignbaaRf
namespace Go.Proofs.Ytnjkbpjkaignbaa
open Go.RowKit
set_option linter.unusedVariables false
set_option maxRecDepth 20000

section
variable {B : Nat} {w w' : World} {r g d n gc : Nat} {V : Nat → Value} {Gr : Nat → Int} {A : Nat → List (Int × List Int)}
theorem rsend_none (h : RZ B w r g d n gc Gr A) {i : Nat} (hi : i < n) (to : Int) (h1 : ¬ (n : Int) ≤ to) (a : Option Addr) (m c : Nat) (hm : ¬ 2048 < m) (hn : Gr i < 0 ∨ ¬ Gr i < 0 ∧ 0 ≤ to ∧ ¬ (i ≠ to.toNat ∧ Gr i = Gr to.toNat)) :
    Calls Try.prog 11 #[.pointer (some ⟨r, 0, none⟩), .int .i64 i, .int .i64 to, .slice a m c] w fun e w' => e = .returned (.tuple #[.int .i64 0, .int .i64 14]) ∧ ∃ k, w' = w.drewN k := by
  have H : Hid (IsHas r i w) := xhas_ok h hi
  obtain ⟨c0, hl, hgl, hn1, hnn, hgs⟩ := h.cs
  have ci := hgs i hi
  have hi' : (i : Int) < (n : Int) := by omega
  have t2 : ¬ (2048 : Int) < (m : Int) := by omega
  rcases hn with hg | ⟨hg, h0, hh⟩
  · have u1 : decide (Gr i < 0) = true := decide_eq_true hg
    clear h hgs
    generalize Gr i = z at *
    go_enter Try.func11, Try.ntmps11
    go_wp2_with fail
    refine Calls.mono H.out ?_
    rintro e w ⟨rfl, rfl⟩
    go_wp2_with fail
    go_quiet (fail)
    go_wp2_with fail
    go_ret2
    exact ⟨rfl, _, rfl⟩
  · obtain ⟨j, rfl⟩ := Int.eq_ofNat_of_zero_le h0
    simp only [Int.toNat_natCast] at hh
    have hj' : (j : Int) < (n : Int) := by omega
    have cj := hgs j (by omega)
    have u1 : decide (Gr i < 0) = false := decide_eq_false hg
    have u2 : decide ((0 : Int) ≤ (j : Int)) = true := decide_eq_true h0
    clear h hgs
    by_cases hg2 : Gr j = Gr i
    · obtain rfl : i = j := by
        by_cases hij : i = j
        · exact hij
        · exact absurd ⟨hij, hg2.symm⟩ hh
      clear hh hg2 cj
      generalize Gr i = z at *
      go_enter Try.func11, Try.ntmps11
      go_wp2_with fail
      refine Calls.mono H.out ?_
      rintro e w ⟨rfl, rfl⟩
      go_wp2_with fail
      go_quiet (fail)
      go_wp2_with fail
      go_ret2
      exact ⟨rfl, _, rfl⟩
    · clear hh
      generalize Gr i = z at *
      generalize Gr j = z2 at *
      have u3 : (z2 != z) = true := by simpa using hg2
      go_enter Try.func11, Try.ntmps11
      go_wp2_with fail
      refine Calls.mono H.out ?_
      rintro e w ⟨rfl, rfl⟩
      go_wp2_with fail
      go_quiet (fail)
      go_wp2_with fail
      go_ret2
      exact ⟨rfl, _, rfl⟩
theorem rsend_bad (h : RZ B w r g d n gc Gr A) (fr to : Int) (v : Value) (hb : (fr < 0 ∨ (n : Int) ≤ fr) ∨ (n : Int) ≤ to) :
    Calls Try.prog 11 #[.pointer (some ⟨r, 0, none⟩), .int .i64 fr, .int .i64 to, v] w fun e w' => e = .returned (.tuple #[.int .i64 0, .int .i64 2]) ∧ w' = w := by
  obtain ⟨c0, hl, hgl, hn1, hnn, hgs⟩ := h.cs
  by_cases hf : fr < 0 ∨ (n : Int) ≤ fr
  · have H : Hid (NoHas r fr w) := xhas_bad h hf
    clear h hgs hb hf
    go_enter Try.func11, Try.ntmps11
    go_wp2_with fail
    refine Calls.mono H.out ?_
    rintro e w ⟨rfl, rfl⟩
    go_wp2_with fail
    go_ret2
    exact ⟨rfl, rfl⟩
  · have ht : (n : Int) ≤ to := by
      rcases hb with hb | hb
      · exact absurd hb hf
      · exact hb
    obtain ⟨i, rfl⟩ := Int.eq_ofNat_of_zero_le (show 0 ≤ fr by omega)
    have H : Hid (IsHas r i w) := xhas_ok h (by omega)
    clear h hgs hb hf
    go_enter Try.func11, Try.ntmps11
    go_wp2_with fail
    refine Calls.mono H.out ?_
    rintro e w ⟨rfl, rfl⟩
    go_wp2_with fail
    go_ret2
    exact ⟨rfl, rfl⟩
theorem rsend_big (h : RZ B w r g d n gc Gr A) {i : Nat} (hi : i < n) (to : Int) (h1 : ¬ (n : Int) ≤ to) (a : Option Addr) (m c : Nat) (hm : 2048 < m) :
    Calls Try.prog 11 #[.pointer (some ⟨r, 0, none⟩), .int .i64 i, .int .i64 to, .slice a m c] w fun e w' => e = .returned (.tuple #[.int .i64 0, .int .i64 3]) ∧ w' = w := by
  obtain ⟨c0, hl, hgl, hn1, hnn, hgs⟩ := h.cs
  have H : Hid (IsHas r i w) := xhas_ok h hi
  have t2 : (2048 : Int) < (m : Int) := by omega
  clear h hgs
  go_enter Try.func11, Try.ntmps11
  go_wp2_with fail
  refine Calls.mono H.out ?_
  rintro e w ⟨rfl, rfl⟩
  go_wp2_with fail
  go_ret2
  exact ⟨rfl, rfl⟩
theorem rsend_one (h : RZ B w r g d n gc Gr A) {i j : Nat} (hi : i < n) (hj : j < n) (a : Option Addr) (m c : Nat) (bs : List Int) (hs : ∀ w', Below B w w' → SL w' a m bs) (hm : ¬ 2048 < m) (hg : ¬ Gr i < 0) (hh : i ≠ j ∧ Gr i = Gr j) :
    Calls Try.prog 11 #[.pointer (some ⟨r, 0, none⟩), .int .i64 i, .int .i64 j, .slice a m c] w fun e w' => e = .returned (.tuple #[.int .i64 (if (A j).length < 16 then 1 else 0), .int .i64 (if (A j).length < 16 then 0 else 18)]) ∧ RZ B w' r g d n gc Gr (upd A j (addA (A j) ((i : Int), bs))) ∧ RT B w w' := by
  have H : Hid (IsHas r i w) := xhas_ok h hi
  obtain ⟨c0, hl, hgl, hn1, hnn, hgs⟩ := h.cs
  have ci := hgs i hi
  have cj := hgs j hj
  rw [← hh.2] at cj
  have hi' : (i : Int) < (n : Int) := by omega
  have hj' : (j : Int) < (n : Int) := by omega
  have t1 : ¬ (n : Int) ≤ (j : Int) := by omega
  have t2 : ¬ (2048 : Int) < (m : Int) := by omega
  have u1 : decide (Gr i < 0) = false := decide_eq_false hg
  have u2 : decide ((0 : Int) ≤ (j : Int)) = true := decide_eq_true (by omega)
  have u4 : ((j : Int) == (i : Int)) = false := by have := hh.1; simp; omega
  have u5 : ¬ ((j : Int) = (i : Int)) := by have := hh.1; omega
  have HX : Hid (RZ B w r g d n gc Gr A ∧ (∀ w', Below B w w' → SL w' a m bs)) := ⟨h, hs⟩
  clear h hgs hs hh
  generalize Gr i = z at ci cj hg u1
  by_cases hq : (A j).length < 16
  all_goals
    first
      | rw [if_pos hq, if_pos hq]
      | rw [if_neg hq, if_neg hq]
    go_enter Try.func11, Try.ntmps11
    go_wp2_with fail
    refine Calls.mono H.out ?_
    rintro e w ⟨rfl, rfl⟩
    go_wp2_with fail
    go_quiet (fail)
    have PT := xrput (HX.out.1.drewN nq) hj (i : Int) a m c bs (HX.out.2 _ ((RT.drewN w nq).below HX.out.1.bw))
    first
      | rw [decide_eq_true hq] at PT
      | rw [decide_eq_false hq] at PT
    go_wp2_with fail
    refine PT.mono ?_
    rintro e w2 ⟨rfl, x2, t2⟩
    have HF : Hid (RZ B w2 r g d n gc Gr (upd A j (addA (A j) ((i : Int), bs))) ∧ RT B w w2) := ⟨x2, (RT.drewN w nq).trans t2⟩
    clear PT x2 t2
    go_wp2_with fail
    go_ret2
    exact ⟨rfl, HF.out⟩
theorem rsend_any (h : RZ B w r g d n gc Gr A) (fr to : Int) (a : Option Addr) (m c : Nat) (bs : List Int) (hs : ∀ w', Below B w w' → SL w' a m bs) :
    Calls Try.prog 11 #[.pointer (some ⟨r, 0, none⟩), .int .i64 fr, .int .i64 to, .slice a m c] w fun e w' => e = .returned (.tuple #[.int .i64 (sndR n Gr A fr to bs.length).1, .int .i64 (sndR n Gr A fr to bs.length).2]) ∧ RZ B w' r g d n gc Gr (sndA n Gr A fr to bs) ∧ RT B w w' := by
  have em : bs.length = m := (hs w (Below.refl _ _)).1
  by_cases hf : fr < 0 ∨ (n : Int) ≤ fr
  · refine (rsend_bad h fr to _ (.inl hf)).mono fun e w' ⟨he, hw⟩ => ?_
    rw [sndR, if_pos hf, sndA, if_pos hf, hw]
    exact ⟨he, h, RT.refl _ _⟩
  obtain ⟨i, rfl⟩ := Int.eq_ofNat_of_zero_le (show 0 ≤ fr by omega)
  have hi : i < n := by omega
  simp only [sndR, sndA, if_neg hf, Int.toNat_natCast, em]
  by_cases h1 : (n : Int) ≤ to
  · have e0 : mayE n Gr i to m = 2 := by simp [mayE, h1]
    rw [e0]
    exact (rsend_bad h (i : Int) to _ (.inr h1)).mono fun e w' ⟨he, hw⟩ => ⟨he, hw ▸ h, hw ▸ RT.refl _ _⟩
  by_cases h2 : 2048 < m
  · have e0 : mayE n Gr i to m = 3 := by simp [mayE, h1, h2]
    rw [e0]
    exact (rsend_big h hi to h1 a m c h2).mono fun e w' ⟨he, hw⟩ => ⟨he, hw ▸ h, hw ▸ RT.refl _ _⟩
  by_cases h3 : Gr i < 0 ∨ ¬ Gr i < 0 ∧ 0 ≤ to ∧ ¬ (i ≠ to.toNat ∧ Gr i = Gr to.toNat)
  · have e0 : mayE n Gr i to m = 14 := by
      unfold mayE
      rw [if_neg h1, if_neg h2]
      rcases h3 with h3 | ⟨h3, h4⟩
      · rw [if_pos h3]
      · rw [if_neg h3, if_pos h4]
    rw [e0]
    exact (rsend_none h hi to h1 a m c h2 h3).mono fun e w' ⟨he, k, hw⟩ => ⟨he, hw ▸ h.drewN k, hw ▸ RT.drewN w k⟩
  · have h4 : ¬ Gr i < 0 := fun hh => h3 (.inl hh)
    have h5 : ¬ (0 ≤ to ∧ ¬ (i ≠ to.toNat ∧ Gr i = Gr to.toNat)) := fun hh => h3 (.inr ⟨h4, hh⟩)
    have e0 : mayE n Gr i to m = 0 := by
      unfold mayE
      rw [if_neg h1, if_neg h2, if_neg h4, if_neg h5]
    rw [e0]
    simp only [ne_eq, not_true_eq_false, if_false]
    by_cases h6 : to < 0
    · rw [if_pos h6, if_pos h6]
      exact rsend_all h hi to h6 h4 a m c bs (by omega) hs
    · rw [if_neg h6, if_neg h6]
      obtain ⟨j, rfl⟩ := Int.eq_ofNat_of_zero_le (show 0 ≤ to by omega)
      have hh : i ≠ j ∧ Gr i = Gr j := by
        by_cases hh : i ≠ j ∧ Gr i = Gr j
        · exact hh
        · exact absurd ⟨by omega, by simpa using hh⟩ h5
      simp only [Int.toNat_natCast]
      refine (rsend_one h hi (by omega) a m c bs hs h2 h4 hh).mono fun e w' ⟨he, hx, ht⟩ => ⟨?_, hx, ht⟩
      rw [he]
      split <;> rfl
end
end Go.Proofs.Ytnjkbpjkaignbaa
