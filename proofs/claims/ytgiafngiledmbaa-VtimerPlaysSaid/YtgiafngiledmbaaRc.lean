/-
  The document's Halt, and its going on.
-/
import Derived.Test.YtgiafngiledmbaaRb
namespace Go.Proofs.Ytgiafngiledmbaa
open Go.RowKit Go.Maps
set_option linter.unusedVariables false
set_option maxRecDepth 100000
section
variable {w : World} {r : Nat} {v : Value} {L : List Tm}
set_option maxHeartbeats 800000 in
theorem rhalt_dx (h : DX w r v L) (k c : Int) (hc : 0 ≤ c) : Calls Try.prog 23 #[.pointer (some ⟨r, 0, none⟩), .int .i64 k, .int .u64 c, .bool true] w fun e w' => e = .returned (.int .i64 (haE L k)) ∧ DX w' r v (haL L k c) ∧ Trn (Sr r v) w w' := by
  cases hf : fnd L k with
  | none =>
    have C' := find_no h hf
    have e3 : haE L k = 14 := by unfold haE; rw [hf]
    have e4 : haL L k c = L := by unfold haL; rw [e3]; rfl
    rw [e3, e4]
    have H0 : Hid (DX w r v L) := h
    clear h e3 e4
    go_enter Try.func23, Try.ntmps23
    go_wp2_with fail
    refine C'.mono ?_
    rintro e w1 ⟨rfl, rfl⟩
    go_wp2_with fail
    go_ret
    exact ⟨rfl, H0.out, Trn.refl _ _⟩
  | some x =>
    have hox := h.ok.ok x (fnd_mem hf).1
    obtain ⟨i, hi, C'⟩ := find_at h hf
    obtain rfl := (fnd_mem hf).2
    have hil := (List.getElem?_eq_some_iff.1 hi).1
    have h64 := h.ok.len
    obtain ⟨g, cc, rfl, hrow⟩ := h.row hi
    have hin : (i : Int) < (L.length : Int) := by omega
    cases hh : x.halted with
    | true =>
      obtain ⟨⟨c0, hl, hgl⟩, hfz, d0, d1, d2, d3, d4, d5⟩ := h.cs hi
      have e3 : haE L x.id = 21 := by unfold haE; rw [hf]; simp [hh]
      have e4 : haL L x.id c = L := by unfold haL; rw [e3]; rfl
      rw [e3, e4]
      rw [hh] at d2
      have H0 : Hid (DX w r (.slice (some ⟨g, 0, none⟩) L.length cc) L) := h
      clear h e3 e4 hrow hfz hf hi
      generalize L.length = n at *
      go_enter Try.func23, Try.ntmps23
      go_wp2_with fail
      refine C'.mono ?_
      rintro e w1 ⟨rfl, rfl⟩
      go_wp2_with fail
      go_ret
      exact ⟨rfl, H0.out, Trn.refl _ _⟩
    | false =>
      have e3 : haE L x.id = 0 := by unfold haE; rw [hf]; simp [hh]
      have e4 : haL L x.id c = mod L x.id (haF c) := by unfold haL; rw [if_pos e3]
      rw [e3, e4, mod_set h.ok.srt hi]
      obtain ⟨⟨c0, hl, hgl⟩, hfz, d0, d1, d2, d3, d4, d5⟩ := h.cs hi
      have K := fun w' => of_any x hox c hc w'
      unfold tv at K
      rw [hh] at K d2
      have HP : Hid (DX w r (.slice (some ⟨g, 0, none⟩) L.length cc) L) := h
      have HO : Hid (LOk L ∧ L[i]? = some x ∧ x.Ok ∧ i < L.length) := ⟨h.ok, hi, hox, hil⟩
      clear h e3 e4 hrow hfz hf hi
      have HT : Hid (tm x c = tm x c) := rfl
      generalize hrr : tm x c = rr at *
      go_enter Try.func23, Try.ntmps23
      go_wp2_with fail
      refine C'.mono ?_
      rintro e w1 ⟨rfl, rfl⟩
      go_wp2_with fail
      refine (K _).mono ?_
      rintro e y ⟨rfl, hb⟩
      have h1 := HP.out.below hb
      obtain ⟨⟨c0, hl, hgl⟩, hfz, q0, q1, q2, q3, q4, q5⟩ := h1.cs HO.out.2.1
      have f2 := hfz (i * 6 + 2)
      have P1 := h1.put HO.out.2.1 (y := ⟨x.id, x.base, true, x.still, x.set, x.due⟩) rfl ⟨HO.out.2.2.1.id, HO.out.2.2.1.b0, HO.out.2.2.1.b1, HO.out.2.2.1.s0, HO.out.2.2.1.s1, HO.out.2.2.1.d0, HO.out.2.2.1.d1⟩ 2 (by decide) (.bool true) rfl
      have hi2 : (L.set i ⟨x.id, x.base, true, x.still, x.set, x.due⟩)[i]? = some ⟨x.id, x.base, true, x.still, x.set, x.due⟩ := by simp [HO.out.2.2.2]
      obtain ⟨⟨e0, el, egl⟩, efz, x0, x1, x2, x3, x4, x5⟩ := P1.1.cs hi2
      have f3 := efz (i * 6 + 3)
      have P2 := P1.1.put hi2 (y := haF c x) rfl (haF_ok HO.out.2.2.1 c) 3 (by decide) (.int .u64 (tm x c)) rfl
      rw [List.set_set, hrr] at P2
      have HF : Hid (DX ((y.setCell ⟨g, i * 6 + 2, none⟩ (.bool true)).setCell ⟨g, i * 6 + 3, none⟩ (.int .u64 rr)) r (.slice (some ⟨g, 0, none⟩) L.length cc) (L.set i (haF c x)) ∧ Trn (Sr r (.slice (some ⟨g, 0, none⟩) L.length cc)) w1 ((y.setCell ⟨g, i * 6 + 2, none⟩ (.bool true)).setCell ⟨g, i * 6 + 3, none⟩ (.int .u64 rr))) := ⟨P2.1, (Trn.of_below hb).trans (P1.2.trans P2.2)⟩
      clear P1 P2 h1 hb hi2 hfz efz K HP hox HT hrr
      go_wp2_with fail
      go_ret
      exact ⟨rfl, HF.out⟩
set_option maxHeartbeats 800000 in
theorem rgo_dx (h : DX w r v L) (k c : Int) (hc : 0 ≤ c) : Calls Try.prog 23 #[.pointer (some ⟨r, 0, none⟩), .int .i64 k, .int .u64 c, .bool false] w fun e w' => e = .returned (.int .i64 (goE L k)) ∧ DX w' r v (goL L k c) ∧ Trn (Sr r v) w w' := by
  cases hf : fnd L k with
  | none =>
    have C' := find_no h hf
    have e3 : goE L k = 14 := by unfold goE; rw [hf]
    have e4 : goL L k c = L := by unfold goL; rw [e3]; rfl
    rw [e3, e4]
    have H0 : Hid (DX w r v L) := h
    clear h e3 e4
    go_enter Try.func23, Try.ntmps23
    go_wp2_with fail
    refine C'.mono ?_
    rintro e w1 ⟨rfl, rfl⟩
    go_wp2_with fail
    go_ret
    exact ⟨rfl, H0.out, Trn.refl _ _⟩
  | some x =>
    have hox := h.ok.ok x (fnd_mem hf).1
    obtain ⟨i, hi, C'⟩ := find_at h hf
    obtain rfl := (fnd_mem hf).2
    have hil := (List.getElem?_eq_some_iff.1 hi).1
    have h64 := h.ok.len
    obtain ⟨g, cc, rfl, hrow⟩ := h.row hi
    have hin : (i : Int) < (L.length : Int) := by omega
    cases hh : x.halted with
    | false =>
      obtain ⟨⟨c0, hl, hgl⟩, hfz, d0, d1, d2, d3, d4, d5⟩ := h.cs hi
      have e3 : goE L x.id = 21 := by unfold goE; rw [hf]; simp [hh]
      have e4 : goL L x.id c = L := by unfold goL; rw [e3]; rfl
      rw [e3, e4]
      rw [hh] at d2
      have H0 : Hid (DX w r (.slice (some ⟨g, 0, none⟩) L.length cc) L) := h
      clear h e3 e4 hrow hfz hf hi
      generalize L.length = n at *
      go_enter Try.func23, Try.ntmps23
      go_wp2_with fail
      refine C'.mono ?_
      rintro e w1 ⟨rfl, rfl⟩
      go_wp2_with fail
      go_ret
      exact ⟨rfl, H0.out, Trn.refl _ _⟩
    | true =>
      have e3 : goE L x.id = 0 := by unfold goE; rw [hf]; simp [hh]
      have e4 : goL L x.id c = mod L x.id (goF c) := by unfold goL; rw [if_pos e3]
      rw [e3, e4, mod_set h.ok.srt hi]
      obtain ⟨⟨c0, hl, hgl⟩, hfz, d0, d1, d2, d3, d4, d5⟩ := h.cs hi
      have K := fun w' => of_any x hox c hc w'
      unfold tv at K
      rw [hh] at K d2
      have HP : Hid (DX w r (.slice (some ⟨g, 0, none⟩) L.length cc) L) := h
      have HO : Hid (LOk L ∧ L[i]? = some x ∧ x.Ok ∧ i < L.length) := ⟨h.ok, hi, hox, hil⟩
      clear h e3 e4 hrow hfz hf hi
      have ht : tm x c = x.still := by unfold tm; rw [hh]; rfl
      rw [ht] at K
      have KC := fun w' => capped_any c w'
      have hs0 := hox.s0
      have hcl := cap_le c
      by_cases hlt : x.still < cap c
      · have hF : goF c x = ⟨x.id, cap c - x.still, false, x.still, x.set, x.due⟩ := by unfold goF; rw [if_pos hlt]
        have hwr : IntKind.u64.wrap (cap c - x.still) = cap c - x.still := by rw [IntKind.wrap_u64]; omega
        have HG : Hid ((goF c x).Ok) := goF_ok hox c
        rw [hF] at HG ⊢
        generalize cap c = cp at *
        clear hF
        go_enter Try.func23, Try.ntmps23
        go_wp2_with fail
        refine C'.mono ?_
        rintro e w1 ⟨rfl, rfl⟩
        go_wp2_with fail
        refine (K _).mono ?_
        rintro e y ⟨rfl, hb⟩
        have h1 := HP.out.below hb
        obtain ⟨⟨c0, hl, hgl⟩, hfz, q0, q1, q2, q3, q4, q5⟩ := h1.cs HO.out.2.1
        have f2 := hfz (i * 6 + 2)
        have P1 := h1.put HO.out.2.1 (y := ⟨x.id, x.base, false, x.still, x.set, x.due⟩) rfl ⟨HO.out.2.2.1.id, HO.out.2.2.1.b0, HO.out.2.2.1.b1, HO.out.2.2.1.s0, HO.out.2.2.1.s1, HO.out.2.2.1.d0, HO.out.2.2.1.d1⟩ 2 (by decide) (.bool false) rfl
        have hi2 : (L.set i ⟨x.id, x.base, false, x.still, x.set, x.due⟩)[i]? = some ⟨x.id, x.base, false, x.still, x.set, x.due⟩ := by simp [HO.out.2.2.2]
        obtain ⟨⟨e0, el, egl⟩, efz, x0, x1, x2, x3, x4, x5⟩ := P1.1.cs hi2
        have f3 := efz (i * 6 + 1)
        have P2 := P1.1.put hi2 (y := ⟨x.id, 0, false, x.still, x.set, x.due⟩) rfl ⟨HO.out.2.2.1.id, by simp, by simp, HO.out.2.2.1.s0, HO.out.2.2.1.s1, HO.out.2.2.1.d0, HO.out.2.2.1.d1⟩ 1 (by decide) (.int .u64 0) rfl
        rw [List.set_set] at P2
        have hi3 : (L.set i ⟨x.id, 0, false, x.still, x.set, x.due⟩)[i]? = some ⟨x.id, 0, false, x.still, x.set, x.due⟩ := by simp [HO.out.2.2.2]
        obtain ⟨⟨z0, zl, zgl⟩, zfz, z1, z2, z3, z4, z5, z6⟩ := P2.1.drew.cs hi3
        have f4 := zfz (i * 6 + 1)
        have P3 := P2.1.drew.put hi3 (y := ⟨x.id, cp - x.still, false, x.still, x.set, x.due⟩) rfl HG.out 1 (by decide) (.int .u64 (cp - x.still)) rfl
        rw [List.set_set] at P3
        have HF : Hid (DX (((y.setCell ⟨g, i * 6 + 2, none⟩ (.bool false)).setCell ⟨g, i * 6 + 1, none⟩ (.int .u64 0)).drew.setCell ⟨g, i * 6 + 1, none⟩ (.int .u64 (cp - x.still))) r (.slice (some ⟨g, 0, none⟩) L.length cc) (L.set i ⟨x.id, cp - x.still, false, x.still, x.set, x.due⟩) ∧ Trn (Sr r (.slice (some ⟨g, 0, none⟩) L.length cc)) w1 (((y.setCell ⟨g, i * 6 + 2, none⟩ (.bool false)).setCell ⟨g, i * 6 + 1, none⟩ (.int .u64 0)).drew.setCell ⟨g, i * 6 + 1, none⟩ (.int .u64 (cp - x.still)))) := ⟨P3.1, (Trn.of_below hb).trans (P1.2.trans (P2.2.drew.trans P3.2))⟩
        clear P1 P2 P3 h1 hb hi2 hi3 hfz efz zfz K HP hox ht HG
        go_wp2_with fail
        refine (KC _).mono ?_
        rintro e y2 ⟨rfl, rfl⟩
        go_wp2_with fail
        go_region_with ((refine (KC _).mono ?_; rintro e w2 ⟨rfl, rfl⟩))
        all_goals
          go_wp2_with fail
          go_ret
          exact ⟨rfl, HF.out⟩
      · have hF : goF c x = ⟨x.id, 0, false, x.still, x.set, x.due⟩ := by unfold goF; rw [if_neg hlt]
        have HG : Hid ((goF c x).Ok) := goF_ok hox c
        rw [hF] at HG ⊢
        generalize cap c = cp at *
        clear hF
        go_enter Try.func23, Try.ntmps23
        go_wp2_with fail
        refine C'.mono ?_
        rintro e w1 ⟨rfl, rfl⟩
        go_wp2_with fail
        refine (K _).mono ?_
        rintro e y ⟨rfl, hb⟩
        have h1 := HP.out.below hb
        obtain ⟨⟨c0, hl, hgl⟩, hfz, q0, q1, q2, q3, q4, q5⟩ := h1.cs HO.out.2.1
        have f2 := hfz (i * 6 + 2)
        have P1 := h1.put HO.out.2.1 (y := ⟨x.id, x.base, false, x.still, x.set, x.due⟩) rfl ⟨HO.out.2.2.1.id, HO.out.2.2.1.b0, HO.out.2.2.1.b1, HO.out.2.2.1.s0, HO.out.2.2.1.s1, HO.out.2.2.1.d0, HO.out.2.2.1.d1⟩ 2 (by decide) (.bool false) rfl
        have hi2 : (L.set i ⟨x.id, x.base, false, x.still, x.set, x.due⟩)[i]? = some ⟨x.id, x.base, false, x.still, x.set, x.due⟩ := by simp [HO.out.2.2.2]
        obtain ⟨⟨e0, el, egl⟩, efz, x0, x1, x2, x3, x4, x5⟩ := P1.1.cs hi2
        have f3 := efz (i * 6 + 1)
        have P2 := P1.1.put hi2 (y := ⟨x.id, 0, false, x.still, x.set, x.due⟩) rfl HG.out 1 (by decide) (.int .u64 0) rfl
        rw [List.set_set] at P2
        have HF : Hid (DX ((y.setCell ⟨g, i * 6 + 2, none⟩ (.bool false)).setCell ⟨g, i * 6 + 1, none⟩ (.int .u64 0)) r (.slice (some ⟨g, 0, none⟩) L.length cc) (L.set i ⟨x.id, 0, false, x.still, x.set, x.due⟩) ∧ Trn (Sr r (.slice (some ⟨g, 0, none⟩) L.length cc)) w1 ((y.setCell ⟨g, i * 6 + 2, none⟩ (.bool false)).setCell ⟨g, i * 6 + 1, none⟩ (.int .u64 0))) := ⟨P2.1, (Trn.of_below hb).trans (P1.2.trans P2.2)⟩
        clear P1 P2 h1 hb hi2 hfz efz K HP hox ht HG
        go_wp2_with fail
        refine (KC _).mono ?_
        rintro e y2 ⟨rfl, rfl⟩
        go_wp2_with fail
        go_ret
        exact ⟨rfl, HF.out⟩
end
end Go.Proofs.Ytgiafngiledmbaa
