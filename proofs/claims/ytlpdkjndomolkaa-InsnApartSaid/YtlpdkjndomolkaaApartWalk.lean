/-
  The law InsnApart: its walk.
-/
import Derived.Test.YtlpdkjndomolkaaWalks11
namespace Go.Proofs.Ytlpdkjndomolkaa
open Go.RowKit
set_option linter.unusedVariables false

theorem enc_ecall (w : World) : Calls Try.prog 7 #[ins 42 0 0 0 0] w fun e w' => e = .returned (.tuple #[.int .u32 2818572288, .int .i64 0]) ∧ Below w.heap.size w w' :=
  encode_yes 42 0 0 0 0 (by decide) (by decide) w

theorem apart_nn (a0 a1 a2 a3 a4 b0 b1 b2 b3 b4 : Int) (wa : (Lit.int .i64 a0).wf = true) (wb : (Lit.int .i64 b0).wf = true) (ha : validP a0 a1 a2 a3 a4 = true) (hb : validP b0 b1 b2 b3 b4 = true) (w : World) :
    Calls Try.prog 6 #[ins a0 a1 a2 a3 a4, ins b0 b1 b2 b3 b4] w fun e w' => e = .returned (.bool true) ∧ Below w.heap.size w w' := by
  have C1 := encode_yes a0 a1 a2 a3 a4 wa ha
  have C2 := encode_yes b0 b1 b2 b3 b4 wb hb
  have C3 := valid_any a0 a1 a2 a3 a4 wa
  have C4 := valid_any b0 b1 b2 b3 b4 wb
  have C5 := enc_ecall
  rw [ha] at C3
  rw [hb] at C4
  unfold ins at *
  go_enter Try.func6, Try.ntmps6
  go_wp2_with fail
  refine (C1 _).mono ?_
  rintro e w1 ⟨rfl, hb1⟩
  have HB1 : Hid (Below _ _ w1) := hb1
  obtain ⟨hcc1, hff1⟩ := bcell hb1
  simp only [World.size_alloc] at hcc1 hff1
  clear hb1 C1
  go_wp2_with fail
  refine (C2 _).mono ?_
  rintro e w2 ⟨rfl, hb2⟩
  have HB2 : Hid (Below _ _ w2) := HB1.out.trans (hb2.mono HB1.out.size)
  obtain ⟨hcc2, hff2⟩ := bcell HB2.out
  simp only [World.size_alloc] at hcc2 hff2
  clear hb2 C2 hcc1 hff1 HB1
  go_wp2_with fail
  refine (C3 _).mono ?_
  rintro e w3 ⟨rfl, hb3⟩
  have HB3 : Hid (Below _ _ w3) := HB2.out.trans (hb3.mono HB2.out.size)
  obtain ⟨hcc3, hff3⟩ := bcell HB3.out
  simp only [World.size_alloc] at hcc3 hff3
  clear hb3 C3 hcc2 hff2 HB2
  go_wp2_with fail
  refine (C4 _).mono ?_
  rintro e w4 ⟨rfl, hb4⟩
  have HB4 : Hid (Below _ _ w4) := HB3.out.trans (hb4.mono HB3.out.size)
  obtain ⟨hcc4, hff4⟩ := bcell HB4.out
  simp only [World.size_alloc] at hcc4 hff4
  clear hb4 C4 hcc3 hff3 HB3
  go_wp2_with fail
  refine (C5 _).mono ?_
  rintro e w5 ⟨rfl, hb5⟩
  have HB5 : Hid (Below _ _ w5) := HB4.out.trans (hb5.mono HB4.out.size)
  obtain ⟨hcc5, hff5⟩ := bcell HB5.out
  simp only [World.size_alloc] at hcc5 hff5
  clear hb5 C5 hcc4 hff4 HB4
  go_wp2_with fail
  all_goals
    go_ret
    refine ⟨ret_bool ?_, (((Below.refl _ _).alloc (Nat.le_refl _) _).alloc (by simp) _).trans (HB5.out.mono (by simp; omega))⟩
    clear HB5
    first
      | (simp; done)
      | (subst_vars
         refine Bool.not_eq_true' _ ▸ beq_eq_false_iff_ne.2 fun e => ?_
         obtain ⟨e0, e1, e2, e3, e4⟩ := word_inj ha hb e
         simp_all)

theorem apart_other (a0 a1 a2 a3 a4 b0 b1 b2 b3 b4 : Int) (wa : (Lit.int .i64 a0).wf = true) (wb : (Lit.int .i64 b0).wf = true) (h : ¬ (validP a0 a1 a2 a3 a4 = true ∧ validP b0 b1 b2 b3 b4 = true)) (w : World) :
    Calls Try.prog 6 #[ins a0 a1 a2 a3 a4, ins b0 b1 b2 b3 b4] w fun e w' => e = .returned (.bool true) ∧ Below w.heap.size w w' := by
  have C1 := encode_any a0 a1 a2 a3 a4 wa
  have C2 := encode_any b0 b1 b2 b3 b4 wb
  have C3 := valid_any a0 a1 a2 a3 a4 wa
  have C4 := valid_any b0 b1 b2 b3 b4 wb
  have C5 := enc_ecall
  unfold encW encE at C1 C2
  generalize wordP a0 a1 a2 a3 a4 = wx at *
  generalize wordP b0 b1 b2 b3 b4 = wy at *
  generalize validP a0 a1 a2 a3 a4 = vx at *
  generalize validP b0 b1 b2 b3 b4 = vy at *
  unfold ins at *
  cases vx <;> cases vy
  case true.true => exact absurd ⟨rfl, rfl⟩ h
  all_goals
    simp only [Bool.false_eq_true, if_true, if_false] at C1 C2
    clear h
    go_enter Try.func6, Try.ntmps6
    go_wp2_with fail
    refine (C1 _).mono ?_
    rintro e w1 ⟨rfl, hb1⟩
    have HB1 : Hid (Below _ _ w1) := hb1
    obtain ⟨hcc1, hff1⟩ := bcell hb1
    simp only [World.size_alloc] at hcc1 hff1
    clear hb1 C1
    go_wp2_with fail
    refine (C2 _).mono ?_
    rintro e w2 ⟨rfl, hb2⟩
    have HB2 : Hid (Below _ _ w2) := HB1.out.trans (hb2.mono HB1.out.size)
    obtain ⟨hcc2, hff2⟩ := bcell HB2.out
    simp only [World.size_alloc] at hcc2 hff2
    clear hb2 C2 hcc1 hff1 HB1
    go_wp2_with fail
    refine (C3 _).mono ?_
    rintro e w3 ⟨rfl, hb3⟩
    have HB3 : Hid (Below _ _ w3) := HB2.out.trans (hb3.mono HB2.out.size)
    obtain ⟨hcc3, hff3⟩ := bcell HB3.out
    simp only [World.size_alloc] at hcc3 hff3
    clear hb3 C3 hcc2 hff2 HB2
    go_wp2_with fail
    refine (C4 _).mono ?_
    rintro e w4 ⟨rfl, hb4⟩
    have HB4 : Hid (Below _ _ w4) := HB3.out.trans (hb4.mono HB3.out.size)
    obtain ⟨hcc4, hff4⟩ := bcell HB4.out
    simp only [World.size_alloc] at hcc4 hff4
    clear hb4 C4 hcc3 hff3 HB3
    go_wp2_with fail
    refine (C5 _).mono ?_
    rintro e w5 ⟨rfl, hb5⟩
    have HB5 : Hid (Below _ _ w5) := HB4.out.trans (hb5.mono HB4.out.size)
    obtain ⟨hcc5, hff5⟩ := bcell HB5.out
    simp only [World.size_alloc] at hcc5 hff5
    clear hb5 C5 hcc4 hff4 HB4
    go_wp2_with fail
    all_goals
      go_ret
      exact ⟨ret_bool rfl, (((Below.refl _ _).alloc (Nat.le_refl _) _).alloc (by simp) _).trans (HB5.out.mono (by simp; omega))⟩

theorem apart_any (a0 a1 a2 a3 a4 b0 b1 b2 b3 b4 : Int) (wa : (Lit.int .i64 a0).wf = true) (wb : (Lit.int .i64 b0).wf = true) (w : World) :
    Calls Try.prog 6 #[ins a0 a1 a2 a3 a4, ins b0 b1 b2 b3 b4] w fun e w' => e = .returned (.bool true) ∧ Below w.heap.size w w' := by
  by_cases h : validP a0 a1 a2 a3 a4 = true ∧ validP b0 b1 b2 b3 b4 = true
  · exact apart_nn a0 a1 a2 a3 a4 b0 b1 b2 b3 b4 wa wb h.1 h.2 w
  · exact apart_other a0 a1 a2 a3 a4 b0 b1 b2 b3 b4 wa wb h w
end Go.Proofs.Ytlpdkjndomolkaa
