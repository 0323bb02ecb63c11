/-
  What Tick does.
-/
import Derived.Test.YtdmegoglcnggoaaSm
namespace Go.Proofs.Ytdmegoglcnggoaa
open Go.RowKit Go.Conc
set_option linter.unusedVariables false
set_option maxRecDepth 20000

/-- the clock behind a tick -/
def ckP (ck x : Int) : Int := if x ≤ 4611686018427387904 - ck then ck + x else 4611686018427387904
/-- is the timer due -/
def dueP (y : Ln) (x : Int) : Bool := y.on && decide (y.tm ≤ ckP y.ck x)
def tickP (y : Ln) (x : Int) : Ln := if dueP y x then ⟨y.q, ckP y.ck x, 0, false⟩ else ⟨y.q, ckP y.ck x, y.tm, y.on⟩
section
variable {B : Nat} {w w' : World} {l b n : Nat} {C : Nat → Nat} {S : Nat → Ln}
theorem ckP_ok {y : Ln} (h : LOk y) {x : Int} (hx : 0 ≤ x) : 0 ≤ ckP y.ck x ∧ ckP y.ck x ≤ 4611686018427387904 := by
  obtain ⟨h1, h2, _⟩ := h
  unfold ckP
  split <;> omega
set_option maxHeartbeats 1000000 in
theorem tick_ok (h : LW B w l b n C S) {i : Nat} (hi : i < n) (x : Int) (hx : 0 ≤ x ∧ x < 18446744073709551616) : Calls Try.prog 17 #[.pointer (some ⟨l, 0, none⟩), .int .i64 i, .int .u64 x] w fun e w' => e = .returned (.tuple #[.bool (dueP (S i) x), .int .i64 0]) ∧ LW B w' l b n C (upd S i (tickP (S i) x)) ∧ Trn (LS b n C) w w' := by
  have H : Hid (Of l b i w) := of_ok h hi
  obtain ⟨c0, c1, c2, c3⟩ := h.r hi
  have hb := h.blt
  have hf1 := h.f (i * 4 + 1)
  have hf2 := h.f (i * 4 + 2)
  have hf3 := h.f (i * 4 + 3)
  obtain ⟨hk0, hk1, hk2⟩ := h.rg i hi
  have hck := ckP_ok (h.rg i hi) hx.1
  obtain ⟨hx0, hx1⟩ := hx
  have h1 := h.setc hi (j := 1) (by omega) (by omega) (.int .u64 (ckP (S i).ck x)) ⟨(S i).q, ckP (S i).ck x, (S i).tm, (S i).on⟩ ⟨hck.1, hck.2, hk2⟩ rfl rfl rfl rfl
  have h2 := h1.1.setc hi (j := 2) (by omega) (by omega) (.int .u64 0) ⟨(S i).q, ckP (S i).ck x, 0, (S i).on⟩ ⟨hck.1, hck.2, hk2⟩ (by rw [upd_self]) (by rw [upd_self]; rfl) rfl (by rw [upd_self]; rfl)
  have h3 := h2.1.setc hi (j := 3) (by omega) (by omega) (.bool false) ⟨(S i).q, ckP (S i).ck x, 0, false⟩ ⟨hck.1, hck.2, hk2⟩ (by rw [upd_self]) (by rw [upd_self]; rfl) (by rw [upd_self]; rfl) rfl
  rw [upd_upd] at h2
  rw [upd_upd, upd_upd] at h3
  have H1 : Hid (LW B (w.setCell ⟨b, i * 4 + 1, none⟩ (.int .u64 (ckP (S i).ck x))) l b n C (upd S i ⟨(S i).q, ckP (S i).ck x, (S i).tm, (S i).on⟩) ∧ Trn (LS b n C) w (w.setCell ⟨b, i * 4 + 1, none⟩ (.int .u64 (ckP (S i).ck x)))) := h1
  have H3 : Hid (LW B (((w.setCell ⟨b, i * 4 + 1, none⟩ (.int .u64 (ckP (S i).ck x))).setCell ⟨b, i * 4 + 2, none⟩ (.int .u64 0)).setCell ⟨b, i * 4 + 3, none⟩ (.bool false)) l b n C (upd S i ⟨(S i).q, ckP (S i).ck x, 0, false⟩) ∧ Trn (LS b n C) w (((w.setCell ⟨b, i * 4 + 1, none⟩ (.int .u64 (ckP (S i).ck x))).setCell ⟨b, i * 4 + 2, none⟩ (.int .u64 0)).setCell ⟨b, i * 4 + 3, none⟩ (.bool false))) := ⟨h3.1, h1.2.trans (h2.2.trans h3.2)⟩
  clear h h1 h2 h3
  unfold dueP tickP dueP
  generalize (S i).q = q at *
  generalize (S i).ck = ck at *
  generalize (S i).tm = tm at *
  generalize (S i).on = on at *
  obtain ⟨z, hz⟩ : ∃ z, ckP ck x = z := ⟨_, rfl⟩
  rw [hz] at hck H1 H3
  rw [hz]
  unfold ckP at hz
  by_cases hm : x ≤ 4611686018427387904 - ck
  · rw [if_pos hm] at hz
    subst hz
    cases on
    · rw [Bool.false_and, if_neg Bool.false_ne_true]
      clear H3
      go_enter Try.func17, Try.ntmps17
      go_wp2_with fail
      refine Calls.mono H.out ?_
      rintro e w ⟨rfl, rfl⟩
      go_wp2_with fail
      go_region
      all_goals
        go_wp2_with fail
        go_quiet (fail)
        go_wp2_with fail
        go_ret2
        exact ⟨rfl, (H1.out.1.keep fun _ _ _ => rfl), ⟨H1.out.2.os, H1.out.2.tape, H1.out.2.output, H1.out.2.size, H1.out.2.block⟩⟩
    · rw [Bool.true_and]
      by_cases hd : tm ≤ ck + x
      · rw [if_pos (decide_eq_true hd), decide_eq_true hd]
        clear H1
        go_enter Try.func17, Try.ntmps17
        go_wp2_with fail
        refine Calls.mono H.out ?_
        rintro e w ⟨rfl, rfl⟩
        go_wp2_with fail
        go_region
        all_goals
          go_wp2_with fail
          go_quiet (fail)
          go_wp2_with fail
          go_ret2
          exact ⟨rfl, (H3.out.1.keep fun _ _ _ => rfl), ⟨H3.out.2.os, H3.out.2.tape, H3.out.2.output, H3.out.2.size, H3.out.2.block⟩⟩
      · rw [if_neg (by simpa using hd), decide_eq_false hd]
        clear H3
        go_enter Try.func17, Try.ntmps17
        go_wp2_with fail
        refine Calls.mono H.out ?_
        rintro e w ⟨rfl, rfl⟩
        go_wp2_with fail
        go_region
        all_goals
          go_wp2_with fail
          go_quiet (fail)
          go_wp2_with fail
          go_ret2
          exact ⟨rfl, (H1.out.1.keep fun _ _ _ => rfl), ⟨H1.out.2.os, H1.out.2.tape, H1.out.2.output, H1.out.2.size, H1.out.2.block⟩⟩
  · rw [if_neg hm] at hz
    obtain rfl : z = ck + (4611686018427387904 - ck) := by omega
    clear hz
    cases on
    · rw [Bool.false_and, if_neg Bool.false_ne_true]
      clear H3
      go_enter Try.func17, Try.ntmps17
      go_wp2_with fail
      refine Calls.mono H.out ?_
      rintro e w ⟨rfl, rfl⟩
      go_wp2_with fail
      go_region
      all_goals
        go_wp2_with fail
        go_quiet (fail)
        go_wp2_with fail
        go_ret2
        exact ⟨rfl, (H1.out.1.keep fun _ _ _ => rfl), ⟨H1.out.2.os, H1.out.2.tape, H1.out.2.output, H1.out.2.size, H1.out.2.block⟩⟩
    · rw [Bool.true_and]
      by_cases hd : tm ≤ ck + (4611686018427387904 - ck)
      · rw [if_pos (decide_eq_true hd), decide_eq_true hd]
        clear H1
        go_enter Try.func17, Try.ntmps17
        go_wp2_with fail
        refine Calls.mono H.out ?_
        rintro e w ⟨rfl, rfl⟩
        go_wp2_with fail
        go_region
        all_goals
          go_wp2_with fail
          go_quiet (fail)
          go_wp2_with fail
          go_ret2
          exact ⟨rfl, (H3.out.1.keep fun _ _ _ => rfl), ⟨H3.out.2.os, H3.out.2.tape, H3.out.2.output, H3.out.2.size, H3.out.2.block⟩⟩
      · rw [if_neg (by simpa using hd), decide_eq_false hd]
        clear H3
        go_enter Try.func17, Try.ntmps17
        go_wp2_with fail
        refine Calls.mono H.out ?_
        rintro e w ⟨rfl, rfl⟩
        go_wp2_with fail
        go_region
        all_goals
          go_wp2_with fail
          go_quiet (fail)
          go_wp2_with fail
          go_ret2
          exact ⟨rfl, (H1.out.1.keep fun _ _ _ => rfl), ⟨H1.out.2.os, H1.out.2.tape, H1.out.2.output, H1.out.2.size, H1.out.2.block⟩⟩
end
end Go.Proofs.Ytdmegoglcnggoaa
