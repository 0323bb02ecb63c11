/-
  The document's tables: what Unmap does.
  The document's tables: what Unmap does, walked.
-/
import Derived.Test.YteghkhdpdeiocaaGreatDoorUt
import Derived.Test.YteghkhdpdeiocaaGreatDoorGR
namespace Go.Proofs.YteghkhdpdeiocaaGreatDoor
open Go.RowKit Go.Maps
set_option linter.unusedVariables false
set_option maxRecDepth 100000

section
variable {N0 n : Nat} {O : Nat → Prop} {w w' : World} {c h R r U gu : Nat} {z : Zs}
theorem UZ.frames (x : UZ N0 w c h R r U gu z) {S' : Fs} (hf : RF (Lw N0) w' R r S') (t : Tu Or (Lw N0) w w') : UZ N0 w' c h R r U gu ⟨z.m, S', z.x⟩ := by
  obtain ⟨cs, k1, k2⟩ := x.ub.blk
  exact ⟨x.rz.frames hf t, x.ub.keep ((t.keep _ _ k1 (.inr (not_or (by decide)))).trans k1.symm)⟩
set_option maxHeartbeats 3200000 in
/-- a page's cells cleared -/
theorem UB.clear {x : Tp} (hu : UB w U c R gu x) {P : Nat} (hp : P < 1024) : UB (((((w.setCell ⟨U, 36 + P * 5, none⟩ (.bool false)).setCell ⟨U, 36 + P * 5 + 1, none⟩ (.int .i64 0)).setCell ⟨U, 36 + P * 5 + 2, none⟩ (.bool false)).setCell ⟨U, 36 + P * 5 + 3, none⟩ (.bool false)).setCell ⟨U, 36 + P * 5 + 4, none⟩ (.bool false)) U c R gu { x with pg := upd x.pg P none } ∧ Trn (fun k => k = U) w (((((w.setCell ⟨U, 36 + P * 5, none⟩ (.bool false)).setCell ⟨U, 36 + P * 5 + 1, none⟩ (.int .i64 0)).setCell ⟨U, 36 + P * 5 + 2, none⟩ (.bool false)).setCell ⟨U, 36 + P * 5 + 3, none⟩ (.bool false)).setCell ⟨U, 36 + P * 5 + 4, none⟩ (.bool false)) := by
  obtain ⟨cs, k, h1, h2, h3, h4, h5, h6, h7⟩ := hu.blk
  have k0 := setCell_eq_setRow w U (36 + P * 5) cs 89 (0, 0) (.bool false) k ▸ setRow_heap w U cs _ 89 _ k
  have k1 := setCell_eq_setRow _ U (36 + P * 5 + 1) _ 89 (0, 0) (.int .i64 0) k0 ▸ setRow_heap _ U _ _ 89 _ k0
  have k2 := setCell_eq_setRow _ U (36 + P * 5 + 2) _ 89 (0, 0) (.bool false) k1 ▸ setRow_heap _ U _ _ 89 _ k1
  have k3 := setCell_eq_setRow _ U (36 + P * 5 + 3) _ 89 (0, 0) (.bool false) k2 ▸ setRow_heap _ U _ _ 89 _ k2
  have k4 := setCell_eq_setRow _ U (36 + P * 5 + 4) _ 89 (0, 0) (.bool false) k3 ▸ setRow_heap _ U _ _ 89 _ k3
  have t0 := trn_setCell (fun k => k = U) k rfl (36 + P * 5) (.bool false)
  have t1 := trn_setCell (fun k => k = U) k0 rfl (36 + P * 5 + 1) (.int .i64 0)
  have t2 := trn_setCell (fun k => k = U) k1 rfl (36 + P * 5 + 2) (.bool false)
  have t3 := trn_setCell (fun k => k = U) k2 rfl (36 + P * 5 + 3) (.bool false)
  have t4 := trn_setCell (fun k => k = U) k3 rfl (36 + P * 5 + 4) (.bool false)
  have at_ : ∀ i, (((((cs.setIfInBounds (36 + P * 5) (.bool false)).setIfInBounds (36 + P * 5 + 1) (.int .i64 0)).setIfInBounds (36 + P * 5 + 2) (.bool false)).setIfInBounds (36 + P * 5 + 3) (.bool false)).setIfInBounds (36 + P * 5 + 4) (.bool false))[i]? = if i = 36 + P * 5 + 4 ∨ i = 36 + P * 5 + 3 ∨ i = 36 + P * 5 + 2 ∨ i = 36 + P * 5 then some (.bool false) else if i = 36 + P * 5 + 1 then some (.int .i64 0) else cs[i]? := fun i => by
    simp only [Array.getElem?_setIfInBounds, Array.size_setIfInBounds]
    by_cases a4 : 36 + P * 5 + 4 = i
    · rw [if_pos a4, if_pos (by omega), if_pos (by omega)]
    rw [if_neg a4]
    by_cases a3 : 36 + P * 5 + 3 = i
    · rw [if_pos a3, if_pos (by omega), if_pos (by omega)]
    rw [if_neg a3]
    by_cases a2 : 36 + P * 5 + 2 = i
    · rw [if_pos a2, if_pos (by omega), if_pos (by omega)]
    rw [if_neg a2]
    by_cases a1 : 36 + P * 5 + 1 = i
    · rw [if_pos a1, if_pos (by omega), if_neg (by omega), if_pos (by omega)]
    rw [if_neg a1]
    by_cases a0 : 36 + P * 5 = i
    · rw [if_pos a0, if_pos (by omega), if_pos (by omega)]
    rw [if_neg a0, if_neg (by omega), if_neg (by omega)]
  refine ⟨⟨_, k4, by simpa using h1, ?_, ?_, ?_, ?_, fun i hi => ?_, fun q hq => ?_⟩, (((t0.trans t1).trans t2).trans t3).trans t4⟩
  · rw [at_, if_neg (by omega), if_neg (by omega)]; exact h2
  · rw [at_, if_neg (by omega), if_neg (by omega)]; exact h3
  · rw [at_, if_neg (by omega), if_neg (by omega)]; exact h4
  · rw [at_, if_neg (by omega), if_neg (by omega)]; exact h5
  · rw [at_, if_neg (by omega), if_neg (by omega)]; exact h6 i hi
  · obtain ⟨e0, e1, e2, e3, e4⟩ := h7 q hq
    show _ = some (Value.bool (upd x.pg P none q).isSome) ∧ _ = some (Value.int .i64 (pgF (upd x.pg P none q))) ∧ _ = some (Value.bool (pgR (upd x.pg P none q))) ∧ _ = some (Value.bool (pgW (upd x.pg P none q))) ∧ _ = some (Value.bool (pgX (upd x.pg P none q)))
    by_cases e : q = P
    · subst e
      rw [upd_self]
      refine ⟨?_, ?_, ?_, ?_, ?_⟩
      · rw [at_, if_pos (by omega)]; rfl
      · rw [at_, if_neg (by omega), if_pos (by omega)]; rfl
      · rw [at_, if_pos (by omega)]; rfl
      · rw [at_, if_pos (by omega)]; rfl
      · rw [at_, if_pos (by omega)]; rfl
    · rw [upd_other _ _ _ e]
      refine ⟨?_, ?_, ?_, ?_, ?_⟩
      · rw [at_, if_neg (by omega), if_neg (by omega)]; exact e0
      · rw [at_, if_neg (by omega), if_neg (by omega)]; exact e1
      · rw [at_, if_neg (by omega), if_neg (by omega)]; exact e2
      · rw [at_, if_neg (by omega), if_neg (by omega)]; exact e3
      · rw [at_, if_neg (by omega), if_neg (by omega)]; exact e4
end
end Go.Proofs.YteghkhdpdeiocaaGreatDoor
namespace Go.Proofs.YteghkhdpdeiocaaGreatDoor
open Go.RowKit Go.Maps
set_option linter.unusedVariables false
set_option maxRecDepth 100000

section
variable {N0 n : Nat} {O : Nat → Prop} {w w' : World} {c h R r U gu : Nat} {z : Zs}
set_option maxHeartbeats 3200000 in
theorem runmap_uz (x : UZ N0 w c h R r U gu z) (hi : Iv n O z) (p : Int) : Calls Tryz.prog 23 #[.pointer (some ⟨U, 0, none⟩), .int .i64 p] w fun e w1 => e = .returned (.tuple #[.int .i64 (unR z p), .int .i64 (unQ z p)]) ∧ UZ N0 w1 c h R r U gu (unZ gu z p) ∧ Tq N0 (fun k => k = h ∨ k = U) w w1 := by
  have WR := wrong_uz x p
  by_cases h0 : unQ z p = 0
  · obtain ⟨hr, P, y, rfl, hP, hy⟩ := unQ_ok h0
    have e2 : unR z P = y.f := by unfold unR; rw [if_pos h0, Int.toNat_natCast, hy]; rfl
    have e3 : unZ gu z P = unD gu z P := by unfold unZ; rw [if_pos h0, Int.toNat_natCast]
    rw [e2, e3, h0]
    rw [h0] at WR
    have hl := hi.has hP hy
    obtain ⟨F, hF⟩ := Int.eq_ofNat_of_zero_le hl
    obtain ⟨R0, hR⟩ := Int.eq_ofNat_of_zero_le hr
    have l2 := (hi.lo (P / 32) (by omega)).2
    have hlen := hi.len
    have hn2 := hi.n2
    have hrt := hi.rt
    have hFl : F * 256 + 256 ≤ z.m.length := by omega
    have hRl : R0 * 256 + 256 ≤ z.m.length := by omega
    have hw : IntKind.i64.wrap ((P : Int) / 32) = ((P / 32 : Nat) : Int) := by rw [quo_w P hP]; omega
    have hk : P / 32 < 32 := by omega
    have hk' : ((P / 32 : Nat) : Int) < 32 := by omega
    have hP' : (P : Int) < 1024 := by omega
    have WT := fun (W : World) (hS : UZ N0 W c h R r U gu ⟨z.m, z.S, { z.x with pg := upd z.x.pg P none }⟩) => write_uz hS hP (F := F) hF hFl (fun q hq => by
      have hq' : upd z.x.pg P none P = some q := hq
      rw [upd_self] at hq'
      cases hq')
    simp only [upd_self] at WT
    have FR := fun (W : World) (hS : UZ N0 W c h R r U gu ⟨set8 z.m F (P % 32) (pgN none), z.S, { z.x with pg := upd z.x.pg P none }⟩) => rfree hS.rz.rf (y.f : Int) gu
    have HA : Hid (∀ W, UZ N0 W c h R r U gu ⟨set8 z.m F (P % 32) (pgN none), frS z.S y.f gu, { z.x with pg := upd z.x.pg P none }⟩ → UZ N0 W c h R r U gu (unA gu z P)) := fun W hW => by
      unfold unA
      rw [hF, Int.toNat_natCast, hy]
      exact hW
    have CL := x.ub.clear hP
    obtain ⟨p0, p1, p2, p3, p4⟩ := x.ub.cp hP
    rw [Nat.mul_comm 5 P, hy] at p0 p1 p2 p3 p4
    simp only [Option.isSome_some, pgF, pgR, pgW, pgX] at p0 p1 p2 p3 p4
    have f0 := x.ub.fz (36 + P * 5)
    have f1 := x.ub.fz (36 + P * 5 + 1)
    have f2 := x.ub.fz (36 + P * 5 + 2)
    have f3 := x.ub.fz (36 + P * 5 + 3)
    have f4 := x.ub.fz (36 + P * 5 + 4)
    have dl := x.ub.lt
    have H1 : Hid (UZ N0 (((((w.setCell ⟨U, 36 + P * 5, none⟩ (.bool false)).setCell ⟨U, 36 + P * 5 + 1, none⟩ (.int .i64 0)).setCell ⟨U, 36 + P * 5 + 2, none⟩ (.bool false)).setCell ⟨U, 36 + P * 5 + 3, none⟩ (.bool false)).setCell ⟨U, 36 + P * 5 + 4, none⟩ (.bool false)) c h R r U gu ⟨z.m, z.S, { z.x with pg := upd z.x.pg P none }⟩ ∧ Tq N0 (fun k => k = h ∨ k = U) w (((((w.setCell ⟨U, 36 + P * 5, none⟩ (.bool false)).setCell ⟨U, 36 + P * 5 + 1, none⟩ (.int .i64 0)).setCell ⟨U, 36 + P * 5 + 2, none⟩ (.bool false)).setCell ⟨U, 36 + P * 5 + 3, none⟩ (.bool false)).setCell ⟨U, 36 + P * 5 + 4, none⟩ (.bool false))) := ⟨x.block CL.1 CL.2, Tq.of_trn CL.2 fun _ e => .inr e⟩
    clear CL e2 e3 h0
    go_enter Tryz.func23, Tryz.ntmps23
    go_wp2_with fail
    refine WR.mono ?_
    rintro e w ⟨rfl, rfl⟩
    go_wp2_with fail
    refine (WT _ H1.out.1).mono ?_
    rintro e w2 ⟨rfl, h2, t2⟩
    have H2 : Hid (UZ N0 w2 c h R r U gu ⟨set8 z.m F (P % 32) (pgN none), z.S, { z.x with pg := upd z.x.pg P none }⟩ ∧ Tq N0 (fun k => k = h ∨ k = U) w w2) := ⟨h2, H1.out.2.trans (t2.mono fun _ e => .inl e)⟩
    clear h2 t2 WT H1 p0 p1 p2 p3 p4 f0 f1 f2 f3 f4 dl x
    have F1 := FR _ ⟨H2.out.1.rz.below (Below.refl _ _).drew, H2.out.1.drew.ub⟩
    have dl := H2.out.1.ub.lt
    have c1 := And.intro H2.out.1.drew.ub.c0.2.1 H2.out.1.drew.ub.c0.2.2.1
    go_wp2_with fail
    go_region_held2 (fun W => W.cell? ⟨U, 1, none⟩ = some (.pointer (some ⟨R, 0, none⟩)) ∧ W.cell? ⟨U, 2, none⟩ = some (.int .i64 gu))
      (first | exact c1 | exact hc2)
      (first
        | (go_at_call 61; refine F1.mono ?_; rintro q y3 ⟨rfl, hf3, ht3⟩; (have H3 : Hid (UZ N0 y3 c h R r U gu (unA gu z P) ∧ Tq N0 (fun k => k = h ∨ k = U) w y3) := ⟨HA.out _ (H2.out.1.drew.frames hf3 ht3), H2.out.2.drew.trans (Tq.of_tu ht3)⟩); (have hc2 := And.intro H3.out.1.ub.c0.2.1 H3.out.1.ub.c0.2.2.1)))
    clear c1 hc2 F1 FR H2 HA dl
    have eAx : (unA gu z P).x.pg = upd z.x.pg P none := rfl
    have eAr : (unA gu z P).x.rt = (R0 : Int) := hR
    have eAl : (unA gu z P).x.lo (P / 32) = (F : Int) := hF
    have eAm : R0 * 256 + 256 ≤ (unA gu z P).m.length := by
      show _ ≤ (set8 z.m (z.x.lo (P / 32)).toNat (P % 32) 0).length
      rw [hF, Int.toNat_natCast, set8_len _ _ hFl (by omega)]
      exact hRl
    have HD : Hid (unD gu z P = if cnt (unA gu z P).x.pg (P / 32) = 0 then razZ (unA gu z P) (P / 32) else unA gu z P) := rfl
    have hQ : unD gu z P = unD gu z P := rfl
    clear hQ eAx
    generalize hk0 : P / 32 = k at *
    generalize hza : unA gu z P = za at *
    have dl := H3.out.1.ub.lt
    have m1 : IntKind.i64.wrap (32 * (k : Int)) = ((32 * k : Nat) : Int) := by rw [IntKind.wrap_i64]; omega
    have m2 : IntKind.i64.wrap (((32 * k : Nat) : Int) + 32) = ((32 * k + 32 : Nat) : Int) := by rw [IntKind.wrap_i64]; omega
    clear hF hR hl hr hlen hn2 hrt hFl hRl l2 hi WR hy
    go_wp2_with fail
    go_loopw [9] (fun i wr => ∃ j : Nat, j ≤ 32 ∧ i = .int .i64 ((32 * k + j : Nat) : Int) ∧ wr = y3 ∧ Hid (∀ t, t < j → za.x.pg (32 * k + t) = none)) (fun i _ => 32 * k + 32 - (intOf i).toNat)
    case atStart => exact ⟨0, by omega, rfl, rfl, fun t ht => by omega⟩
    case round =>
      obtain ⟨j, hj, rfl, rfl, HN⟩ := hrel
      by_cases hj2 : j < 32
      · have hq : 32 * k + j < 1024 := by omega
        have hq' : ((32 * k + j : Nat) : Int) < 1024 := by omega
        have hq2 : ((32 * k + j : Nat) : Int) < ((32 * k + 32 : Nat) : Int) := by omega
        obtain ⟨s0, -⟩ := H3.out.1.ub.cp hq
        rw [Nat.mul_comm 5 (32 * k + j)] at s0
        have m5 : IntKind.i64.wrap (((32 * k + j : Nat) : Int) + 1) = ((32 * k + (j + 1) : Nat) : Int) := by rw [IntKind.wrap_i64]; omega
        cases hs : za.x.pg (32 * k + j) with
        | none =>
          rw [hs] at s0
          simp only [Option.isSome_none] at s0
          have HN2 : Hid (∀ t, t < j + 1 → za.x.pg (32 * k + t) = none) := fun t ht => by
            by_cases e : t = j
            · subst e; exact hs
            · exact HN.out t (by omega)
          have mm : 32 * k + 32 - (32 * k + (j + 1)) < 32 * k + 32 - (32 * k + j) := by omega
          generalize hqq : 32 * k + j = qq at *
          generalize hqe : ((32 * k + 32 : Nat) : Int) = qe at *
          go_wp2_with fail
          go_roundw
          case rel => exact ⟨j + 1, by omega, by first | rfl | go_num, by first | rfl | trivial, HN2.out⟩
          case measure => simp [intOf]; omega
        | some yy =>
          rw [hs] at s0
          simp only [Option.isSome_some] at s0
          have HC : Hid (cnt za.x.pg k ≠ 0) := fun e => by
            have := cnt_zero e (j := j) hj2
            rw [hs] at this
            cases this
          generalize hqq : 32 * k + j = qq at *
          generalize hqe : ((32 * k + 32 : Nat) : Int) = qe at *
          go_wp2_with fail
          go_ret2
          exact ⟨rfl, by rw [HD.out, if_neg HC.out]; exact H3.out.1, H3.out.2⟩
      · obtain rfl : j = 32 := by omega
        have hc0 : cnt za.x.pg k = 0 := by
          unfold cnt
          refine List.countP_eq_zero.2 fun a ha => ?_
          rw [HN.out a (List.mem_range.1 ha)]
          simp
        have F2 := rfree (H3.out.1.rz.below (Below.refl _ _).drew).rf (F : Int) 0
        have c4 := H3.out.1.drew.ub.cl hk
        rw [eAl] at c4
        have c1 := And.intro H3.out.1.drew.ub.c0.2.1 c4
        have hlt : ¬ ((32 * k + 32 : Nat) : Int) < ((32 * k + 32 : Nat) : Int) := by omega
        generalize hqe : ((32 * k + 32 : Nat) : Int) = qe at *
        go_wp2_with fail
        go_region_held2 (fun W => W.cell? ⟨U, 1, none⟩ = some (.pointer (some ⟨R, 0, none⟩)) ∧ W.cell? ⟨U, 4 + k, none⟩ = some (.int .i64 F))
          (first | exact c1 | exact hc2)
          (first
            | (go_at_call 61; refine F2.mono ?_; rintro q y4 ⟨rfl, hf4, ht4⟩; (have H4 : Hid (UZ N0 y4 c h R r U gu ⟨za.m, frS za.S F 0, za.x⟩ ∧ Tq N0 (fun k => k = h ∨ k = U) w y4) := ⟨H3.out.1.drew.frames hf4 ht4, H3.out.2.drew.trans (Tq.of_tu ht4)⟩); (have hc2 : y4.cell? ⟨U, 1, none⟩ = some (.pointer (some ⟨R, 0, none⟩)) ∧ y4.cell? ⟨U, 4 + k, none⟩ = some (.int .i64 F) := ⟨H4.out.1.ub.c0.2.1, by have := H4.out.1.ub.cl hk; rwa [show (Zs.mk za.m (frS za.S F 0) za.x).x.lo k = (F : Int) from eAl] at this⟩)))
        have f4 := H4.out.1.ub.fz (4 + k)
        have d4 := H4.out.1.ub.lt
        obtain ⟨u5, t5⟩ := H4.out.1.ub.setL hk (-1)
        have H5 : Hid (UZ N0 (y4.setCell ⟨U, 4 + k, none⟩ (.int .i64 (-1))) c h R r U gu ⟨za.m, frS za.S F 0, { za.x with lo := upd za.x.lo k (-1) }⟩ ∧ Tq N0 (fun k => k = h ∨ k = U) w (y4.setCell ⟨U, 4 + k, none⟩ (.int .i64 (-1)))) := ⟨H4.out.1.block u5 t5, H4.out.2.trans (Tq.of_trn t5 fun _ e => .inr e)⟩
        have PT := point_uz H5.out.1 hk eAr eAm (by show upd za.x.lo k (-1) k < 65536; rw [upd_self]; decide)
        have eL : (Zs.mk za.m (frS za.S F 0) { za.x with lo := upd za.x.lo k (-1) }).x.lo k = -1 := upd_self _ _ _
        rw [eL, show loN (-1) = 0 from rfl] at PT
        clear u5 t5 c1 c4 F2
        go_wp2_with fail
        refine PT.mono ?_
        rintro e w6 ⟨rfl, h6, t6⟩
        have H6 : Hid (UZ N0 w6 c h R r U gu (razZ za k) ∧ Tq N0 (fun k => k = h ∨ k = U) w w6) := by
          refine ⟨?_, H5.out.2.trans (t6.mono fun _ e => .inl e)⟩
          unfold razZ
          rw [eAr, eAl, Int.toNat_natCast]
          exact h6
        clear h6 t6 PT
        go_wp2_with fail
        go_ret2
        exact ⟨rfl, by rw [HD.out, if_pos hc0]; exact H6.out.1, H6.out.2⟩
  · have e2 : unR z p = 0 := by unfold unR; rw [if_neg h0]
    have e3 : unZ gu z p = z := by unfold unZ; rw [if_neg h0]
    rw [e2, e3]
    have HS : Hid (UZ N0 w c h R r U gu z) := x
    clear x hi e2 e3
    generalize unQ z p = y at *
    go_enter Tryz.func23, Tryz.ntmps23
    go_wp2_with fail
    refine WR.mono ?_
    rintro e w ⟨rfl, rfl⟩
    go_wp2_with fail
    go_ret2
    exact ⟨rfl, HS.out, Tq.refl _ _ _⟩
end
end Go.Proofs.YteghkhdpdeiocaaGreatDoor
