/-
  What the document's Tick and Take do.
-/
import Derived.Test.YtdmegoglcnggoaaRb
namespace Go.Proofs.Ytdmegoglcnggoaa
open Go.RowKit
set_option linter.unusedVariables false
set_option maxRecDepth 20000
section
variable {B : Nat} {w w' : World} {r d n : Nat} {V : Nat → Value} {S : Nat → Ln}
set_option maxHeartbeats 1000000 in
theorem rtick_ok (h : RW B w r d n V S) {i : Nat} (hi : i < n) (x : Int) (hx : 0 ≤ x ∧ x < 18446744073709551616) : Calls Try.prog 18 #[.pointer (some ⟨r, 0, none⟩), .int .i64 i, .int .u64 x] w fun e w' => e = .returned (.tuple #[.bool (dueP (S i) x), .int .i64 0]) ∧ RW B w' r d n V (upd S i (tickP (S i) x)) ∧ Trn (RS d n V) w w' := by
  have H : Hid (IsHas r i w) := has_ok h hi
  have c := h.cc
  have hl := h.lt
  have hi' : (i : Int) < (n : Int) := by omega
  obtain ⟨c0, c1, c2, c3⟩ := h.ri hi
  have hb := h.dlt
  have hf1 := h.f (i * 4 + 1)
  have hf2 := h.f (i * 4 + 2)
  have hf3 := h.f (i * 4 + 3)
  obtain ⟨hk0, hk1, hk2⟩ := h.rg i hi
  have hck := ckP_ok (h.rg i hi) hx.1
  obtain ⟨hx0, hx1⟩ := hx
  have h1 := h.setc hi (j := 1) (by omega) (by omega) (.int .u64 (ckP (S i).ck x)) ⟨(S i).q, ckP (S i).ck x, (S i).tm, (S i).on⟩ ⟨hck.1, hck.2, hk2⟩ rfl rfl rfl rfl
  have h2 := h1.1.setc hi (j := 3) (by omega) (by omega) (.bool false) ⟨(S i).q, ckP (S i).ck x, (S i).tm, false⟩ ⟨hck.1, hck.2, hk2⟩ (by rw [upd_self]) (by rw [upd_self]; rfl) (by rw [upd_self]; rfl) rfl
  have h3 := h2.1.setc hi (j := 2) (by omega) (by omega) (.int .u64 0) ⟨(S i).q, ckP (S i).ck x, 0, false⟩ ⟨hck.1, hck.2, hk2⟩ (by rw [upd_self]) (by rw [upd_self]; rfl) rfl (by rw [upd_self]; rfl)
  rw [upd_upd] at h2
  rw [upd_upd, upd_upd] at h3
  have H1 : Hid (RW B (w.setCell ⟨d, i * 4 + 1, none⟩ (.int .u64 (ckP (S i).ck x))) r d n V (upd S i ⟨(S i).q, ckP (S i).ck x, (S i).tm, (S i).on⟩) ∧ Trn (RS d n V) w (w.setCell ⟨d, i * 4 + 1, none⟩ (.int .u64 (ckP (S i).ck x)))) := h1
  have H3 : Hid (RW B (((w.setCell ⟨d, i * 4 + 1, none⟩ (.int .u64 (ckP (S i).ck x))).setCell ⟨d, i * 4 + 3, none⟩ (.bool false)).setCell ⟨d, i * 4 + 2, none⟩ (.int .u64 0)) r d n V (upd S i ⟨(S i).q, ckP (S i).ck x, 0, false⟩) ∧ Trn (RS d n V) w (((w.setCell ⟨d, i * 4 + 1, none⟩ (.int .u64 (ckP (S i).ck x))).setCell ⟨d, i * 4 + 3, none⟩ (.bool false)).setCell ⟨d, i * 4 + 2, none⟩ (.int .u64 0))) := ⟨h3.1, h1.2.trans (h2.2.trans h3.2)⟩
  clear h h1 h2 h3
  unfold dueP tickP dueP
  generalize (S i).q = q at *
  generalize (S i).ck = ck at *
  generalize (S i).tm = tm at *
  generalize (S i).on = on at *
  obtain ⟨z, hz⟩ : ∃ z, ckP ck x = z := ⟨_, rfl⟩
  rw [hz] at hck H1 H3
  rw [hz]
  unfold ckP at hz
  by_cases hm : x ≤ 4611686018427387904 - ck
  · rw [if_pos hm] at hz
    subst hz
    cases on
    · rw [Bool.false_and, if_neg Bool.false_ne_true]
      clear H3
      go_enter Try.func18, Try.ntmps18
      go_wp2_with fail
      refine Calls.mono H.out ?_
      rintro e w ⟨rfl, rfl⟩
      go_wp2_with fail
      go_quiet (fail)
      go_wp2_with fail
      go_ret2
      exact ⟨by first | rfl | simp [hd], (H1.out.1.keep fun _ _ _ => rfl), ⟨H1.out.2.os, H1.out.2.tape, H1.out.2.output, H1.out.2.size, H1.out.2.block⟩⟩
    · rw [Bool.true_and]
      by_cases hd : tm ≤ ck + x
      · rw [if_pos (decide_eq_true hd), decide_eq_true hd]
        clear H1
        go_enter Try.func18, Try.ntmps18
        go_wp2_with fail
        refine Calls.mono H.out ?_
        rintro e w ⟨rfl, rfl⟩
        go_wp2_with fail
        go_quiet (fail)
        go_wp2_with fail
        go_ret2
        exact ⟨rfl, (H3.out.1.keep fun _ _ _ => rfl), ⟨H3.out.2.os, H3.out.2.tape, H3.out.2.output, H3.out.2.size, H3.out.2.block⟩⟩
      · rw [if_neg (by simpa using hd), decide_eq_false hd]
        clear H3
        go_enter Try.func18, Try.ntmps18
        go_wp2_with fail
        refine Calls.mono H.out ?_
        rintro e w ⟨rfl, rfl⟩
        go_wp2_with fail
        go_quiet (fail)
        go_wp2_with fail
        go_ret2
        exact ⟨by first | rfl | simp [hd], (H1.out.1.keep fun _ _ _ => rfl), ⟨H1.out.2.os, H1.out.2.tape, H1.out.2.output, H1.out.2.size, H1.out.2.block⟩⟩
  · rw [if_neg hm] at hz
    subst hz
    cases on
    · rw [Bool.false_and, if_neg Bool.false_ne_true]
      clear H3
      go_enter Try.func18, Try.ntmps18
      go_wp2_with fail
      refine Calls.mono H.out ?_
      rintro e w ⟨rfl, rfl⟩
      go_wp2_with fail
      go_quiet (fail)
      go_wp2_with fail
      go_ret2
      exact ⟨by first | rfl | simp [hd], (H1.out.1.keep fun _ _ _ => rfl), ⟨H1.out.2.os, H1.out.2.tape, H1.out.2.output, H1.out.2.size, H1.out.2.block⟩⟩
    · rw [Bool.true_and]
      by_cases hd : tm ≤ 4611686018427387904
      · rw [if_pos (decide_eq_true hd), decide_eq_true hd]
        clear H1
        go_enter Try.func18, Try.ntmps18
        go_wp2_with fail
        refine Calls.mono H.out ?_
        rintro e w ⟨rfl, rfl⟩
        go_wp2_with fail
        go_quiet (fail)
        go_wp2_with fail
        go_ret2
        exact ⟨rfl, (H3.out.1.keep fun _ _ _ => rfl), ⟨H3.out.2.os, H3.out.2.tape, H3.out.2.output, H3.out.2.size, H3.out.2.block⟩⟩
      · rw [if_neg (by simpa using hd), decide_eq_false hd]
        clear H3
        go_enter Try.func18, Try.ntmps18
        go_wp2_with fail
        refine Calls.mono H.out ?_
        rintro e w ⟨rfl, rfl⟩
        go_wp2_with fail
        go_quiet (fail)
        go_wp2_with fail
        go_ret2
        exact ⟨by first | rfl | simp [hd], (H1.out.1.keep fun _ _ _ => rfl), ⟨H1.out.2.os, H1.out.2.tape, H1.out.2.output, H1.out.2.size, H1.out.2.block⟩⟩
theorem rtake_none (h : RW B w r d n V S) {i : Nat} (hi : i < n) (hq : (S i).q = []) : Calls Try.prog 14 #[.pointer (some ⟨r, 0, none⟩), .int .i64 i] w fun e w' => e = .returned (.tuple #[.int .i64 0, .bool false]) ∧ w' = w := by
  have H : Hid (IsHas r i w) := has_ok h hi
  have c := h.cc
  have hl := h.lt
  have hi' : (i : Int) < (n : Int) := by omega
  obtain ⟨c0, c1, c2, c3⟩ := h.ri hi
  have hb := h.dlt
  obtain ⟨a, cp, hv⟩ := (h.qs i hi).form
  rw [hq] at hv
  rw [hv] at c0
  clear h hv
  go_enter Try.func14, Try.ntmps14
  go_wp2_with fail
  refine Calls.mono H.out ?_
  rintro e w ⟨rfl, rfl⟩
  go_wp2_with fail
  go_ret2
  exact ⟨rfl, rfl⟩
theorem rtake_some (h : RW B w r d n V S) {i : Nat} (hi : i < n) (x : Int) (q : List Int) (hq : (S i).q = x :: q) : Calls Try.prog 14 #[.pointer (some ⟨r, 0, none⟩), .int .i64 i] w fun e w' => e = .returned (.tuple #[.int .i64 x, .bool true]) ∧ (∃ V', RW B w' r d n V' (upd S i ⟨q, (S i).ck, (S i).tm, (S i).on⟩)) ∧ Trn (RS d n V) w w' := by
  have H : Hid (IsHas r i w) := has_ok h hi
  have c := h.cc
  have hl := h.lt
  have hi' : (i : Int) < (n : Int) := by omega
  obtain ⟨c0, c1, c2, c3⟩ := h.ri hi
  have hb := h.dlt
  have hf := h.f (i * 4)
  have hlq := (h.rg i hi).2.2
  rw [hq] at hlq
  simp only [List.length_cons] at hlq
  obtain ⟨g, o, cp, hv, hgB, hrow⟩ : ∃ g o cp, V i = .slice (some ⟨g, o, none⟩) (q.length + 1) cp ∧ B ≤ g ∧ Row w g o cp (x :: q) := by
    have hQ := h.qs i hi
    rw [hq] at hQ
    rcases hQ with ⟨_, e⟩ | ⟨g, o, cp, e, hB, hr⟩
    · cases e
    · exact ⟨g, o, cp, by simpa using e, hB, hr⟩
  have hgl := hrow.lt
  have d0 : w.cell? ⟨g, o, none⟩ = some (.int .i64 x) := by have := hrow.ce 0 (by simp); simpa using this
  obtain ⟨cur, r1, r2, r3, r4, r5⟩ := hrow
  simp only [List.length_cons] at r3
  have HN : Hid (∀ o' c', o' + c' ≤ o + cp → q.length ≤ c' → c' ≤ cp → (q ≠ [] → o' = o + 1) → ∀ k, RW B ((w.drewN k).setCell ⟨d, i * 4, none⟩ (.slice (some ⟨g, o', none⟩) q.length c')) r d n (updV V i (.slice (some ⟨g, o', none⟩) q.length c')) (upd S i ⟨q, (S i).ck, (S i).tm, (S i).on⟩) ∧ Trn (RS d n V) w ((w.drewN k).setCell ⟨d, i * 4, none⟩ (.slice (some ⟨g, o', none⟩) q.length c'))) := fun o' c' h1 h2 h3 h4 k => by
    refine h.setv hi _ q (by omega) (w' := w.drewN k) (.inr ⟨g, o', c', rfl, hgB, cur, r1, by omega, h2, by omega, fun j hj => ?_⟩) (fun b hb => .inl ?_) ⟨rfl, rfl, rfl, Nat.le_refl _, fun _ _ _ => rfl⟩
    · have e4 := h4 (fun e => by rw [e] at hj; simp at hj)
      have := r5 (j + 1) (by simp; omega)
      rw [e4, Nat.add_assoc, Nat.add_comm 1 j]
      simpa using this
    · cases hb
      rw [hv]
      rfl
  rw [hv] at c0
  have r3' : ((q.length : Int) + 1) ≤ (cp : Int) := by omega
  clear h r1 r2 r5 hv hq
  by_cases hc1 : cp = 1
  · subst hc1
    obtain rfl : q = [] := List.eq_nil_of_length_eq_zero (by omega)
    simp only [List.length_nil] at *
    go_enter Try.func14, Try.ntmps14
    go_wp2_with fail
    refine Calls.mono H.out ?_
    rintro e w ⟨rfl, rfl⟩
    go_wp2_with fail
    go_region
    all_goals
      go_wp2_with fail
      go_ret2
      exact ⟨rfl, ⟨_, (HN.out o 0 (by omega) (by omega) (by omega) (fun h => absurd rfl h) 1).1⟩, (HN.out o 0 (by omega) (by omega) (by omega) (fun h => absurd rfl h) 1).2⟩
  · go_enter Try.func14, Try.ntmps14
    go_wp2_with fail
    refine Calls.mono H.out ?_
    rintro e w ⟨rfl, rfl⟩
    go_wp2_with fail
    go_region
    all_goals
      go_wp2_with fail
      go_ret2
      exact ⟨rfl, ⟨_, (HN.out (o + 1) (cp - 1) (by omega) (by omega) (by omega) (fun _ => rfl) 1).1⟩, (HN.out (o + 1) (cp - 1) (by omega) (by omega) (by omega) (fun _ => rfl) 1).2⟩
end
end Go.Proofs.Ytdmegoglcnggoaa
