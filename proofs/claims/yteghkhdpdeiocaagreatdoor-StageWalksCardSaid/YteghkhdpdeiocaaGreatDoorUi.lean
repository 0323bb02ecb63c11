/-
  The document's tables: Map of a frame that is the guest's own.
-/
import Derived.Test.YteghkhdpdeiocaaGreatDoorUj
import Derived.Test.YteghkhdpdeiocaaGreatDoorSv
import Derived.Deep.RegionHeld2
namespace Go.Proofs.YteghkhdpdeiocaaGreatDoor
open Go.RowKit Go.Maps
set_option linter.unusedVariables false
set_option maxRecDepth 100000

section
variable {N0 n : Nat} {O : Nat → Prop} {w w' : World} {c h R r U gu : Nat} {z z' : Zs}
theorem UZ.not4 (x : UZ N0 w c h R r U gu z) {q : Nat} {a b d : Bool} (k : B4 w q a b d) : ¬ (q = h ∨ q = U) := by
  obtain ⟨cs, k1, _⟩ := x.ub.blk
  rintro (e | e)
  · exact ne_typ k x.rz.rm.row (by decide) e
  · exact ne_typ k k1 (by decide) e
theorem B4.tq {q : Nat} {a b d : Bool} (k : B4 w q a b d) (t : Tq N0 (fun k => k = h ∨ k = U) w w') (hn : ¬ (q = h ∨ q = U)) : B4 w' q a b d := t.keep _ _ k hn (.inr (not_or (by decide)))
/-- the document's frames turn -/
theorem UZ.tab (x : UZ N0 w c h R r U gu z) {m' : List Int} {S' : Fs} (hz : RZ N0 w' c h R r m' S') (t : Tq N0 (fun k => k = h) w w') : UZ N0 w' c h R r U gu ⟨m', S', z.x⟩ := by
  obtain ⟨cs, k1, _⟩ := x.ub.blk
  exact ⟨hz, x.ub.keep ((t.keep _ _ k1 (ne_typ k1 x.rz.rm.row (by decide)) (.inr (not_or (by decide)))).trans k1.symm)⟩
set_option maxHeartbeats 3200000 in
theorem rmap_full (x : UZ N0 w c h R r U gu z) (hi : Iv n O z) (hg : 1 ≤ gu ∧ gu ≤ 16) {P F : Nat} {a b d : Bool} (hr : ¬ z.x.rt < 0) (hP : P < 1024) (hm : mayR a b d = true) (hF : F < n) (hs : (z.x.pg P).isSome = false) (hn : F < z.S.n) (hc : z.S.cl F = gu) (hh : hoE z.S F gu ≠ 0) : Calls Tryz.prog 21 #[.pointer (some ⟨U, 0, none⟩), .int .i64 P, .int .i64 F, .agg #[.bool a, .bool b, .bool d]] w fun e w1 => e = .returned (.int .i64 (hoE z.S F gu)) ∧ UZ N0 w1 c h R r U gu z ∧ Tq N0 (fun k => k = h ∨ k = U) w w1 := by
  have HB : Hid (Below w.heap.size w (w.alloc (.cells #[.bool a, .bool b, .bool d] 76))) := (Below.refl _ _).alloc (Nat.le_refl _) _
  have HS : Hid (UZ N0 (w.alloc (.cells #[.bool a, .bool b, .bool d] 76)) c h R r U gu z ∧ B4 (w.alloc (.cells #[.bool a, .bool b, .bool d] 76)) w.heap.size a b d) := ⟨x.below HB.out, heap_alloc_at _ _⟩
  have c3 := HS.out.1.ub.c0.2.2.2
  have hx := x.ub.lt
  have hlen := hi.len
  have hn2 := hi.n2
  have ho := hi.ok
  have R0 := right_any a b d
  rw [hm] at R0
  have hP' : (P : Int) < 1024 := by omega
  have hF' : (F : Int) < n := by omega
  have hdiv : IntKind.i64.wrap ((z.m.length : Int) / 256) = n := by rw [IntKind.wrap_i64]; omega
  have MB : Hid (∀ W, UZ N0 W c h R r U gu z → W.cell? ⟨c, 0, none⟩ = some (.slice (some ⟨h, 0, none⟩) z.m.length z.m.length) ∧ c < W.heap.size) := fun W hW => ⟨hW.rz.rm.cell0, hW.rz.rm.blt⟩
  have RB : Hid (∀ W, UZ N0 W c h R r U gu z → W.cell? ⟨R, 0, none⟩ = some (.slice (some ⟨r, 0, none⟩) z.S.n z.S.n) ∧ R < W.heap.size) := fun W hW => ⟨hW.rz.rf.c0, hW.rz.rf.lt⟩
  have CC : Hid (∀ W, UZ N0 W c h R r U gu z → W.cell? ⟨U, 0, none⟩ = some (.pointer (some ⟨c, 0, none⟩)) ∧ W.cell? ⟨U, 1, none⟩ = some (.pointer (some ⟨R, 0, none⟩)) ∧ W.cell? ⟨U, 2, none⟩ = some (.int .i64 gu) ∧ W.cell? ⟨U, 3, none⟩ = some (.int .i64 z.x.rt)) := fun W hW => hW.ub.c0
  have PC : Hid (∀ W, UZ N0 W c h R r U gu z → W.cell? ⟨U, 36 + P * 5, none⟩ = some (.bool false)) := fun W hW => by
    have := (hW.ub.cp hP).1
    rwa [Nat.mul_comm 5 P, hs] at this
  have RR : Hid (∀ W, UZ N0 W c h R r U gu z → W.cell? ⟨r, F * 2, none⟩ = some (.int .i64 (rO z.S F)) ∧ W.cell? ⟨r, F * 2 + 1, none⟩ = some (.int .i64 (z.S.ti F)) ∧ r < W.heap.size) := fun W hW => ⟨hW.rz.rf.r0 hn, hW.rz.rf.r1 hn, hW.rz.rf.rlt⟩
  have hn' : (F : Int) < z.S.n := by omega
  have hgn : decide ((z.S.n : Int) ≤ F) = false := decide_eq_false (by omega)
  have hgm : decide (z.S.n ≤ F) = false := decide_eq_false (by omega)
  have hmy := hm
  have HFF : Hid (F < 65536 ∧ mayR a b d = true) := ⟨by omega, hm⟩
  have h17 : z.S.cl F ≠ 17 := by omega
  obtain ⟨t3, t4⟩ := (ho.t F hn).2 h17
  have e1 : rO z.S F = gu := by unfold rO; rw [if_neg h17, hc]
  rw [e1] at RR
  have hti : ((z.S.ti F : Int) == 0) = false := by simp; omega
  have hgo : ((gu : Int) != (gu : Int)) = false := by simp
  clear e1 t3 t4 h17 ho
  generalize (z.S.ti F : Int) = ti at *
  have HZ : Hid (∀ W, UZ N0 W c h R r U gu ⟨z.m, hoS z.S F gu, z.x⟩ → UZ N0 W c h R r U gu z) := fun W hW => by rw [ho_no hh] at hW; exact hW
  obtain ⟨er, her⟩ : ∃ er, hoE z.S F gu = er := ⟨_, rfl⟩
  rw [her] at hh ⊢
  clear x hi hm hmy hs hn hc
  generalize hml : z.m.length = ml at *
  generalize z.x.rt = y at *
  generalize z.S.n = sn at *
  go_enter Tryz.func21, Tryz.ntmps21
  go_wp2_with fail
  refine (R0 _).mono ?_
  rintro e w1 ⟨rfl, hb1⟩
  have H1 : Hid (UZ N0 w1 c h R r U gu z ∧ Below w.heap.size w w1 ∧ B4 w1 w.heap.size a b d) := ⟨HS.out.1.below hb1, HB.out.trans (hb1.mono (by simp)), (hb1.block _ (lt_of_heap HS.out.2)).trans HS.out.2⟩
  obtain ⟨c0, c1, c2, c4⟩ := CC.out _ H1.out.1
  obtain ⟨mb, mlt⟩ := MB.out _ H1.out.1
  obtain ⟨rb, rlt⟩ := RB.out _ H1.out.1
  obtain ⟨r0, r1, rrlt⟩ := RR.out _ H1.out.1
  have q0 := PC.out _ H1.out.1
  have dl := H1.out.1.ub.lt
  clear hb1 c3 c4
  go_wp2_with fail
  go_quiet (fail)
  have H2 : Hid (UZ N0 (w1.drewN nq) c h R r U gu z ∧ Below w.heap.size w (w1.drewN nq) ∧ B4 (w1.drewN nq) w.heap.size a b d) := ⟨H1.out.1.below (below_drewN (Below.refl _ _) _), below_drewN H1.out.2.1 _, H1.out.2.2⟩
  clear H1 c0 c1 c2 mb mlt rb rlt r0 r1 rrlt q0 dl MB RB CC PC RR
  generalize w1.drewN nq = w2 at *
  have G1 := rhold (H2.out.1.rz.below (Below.refl _ _).drew).rf (F : Int) gu
  rw [her] at G1
  have dl := H2.out.1.ub.lt
  have c1 := And.intro H2.out.1.drew.ub.c0.2.1 H2.out.1.drew.ub.c0.2.2.1
  go_wp2_with fail
  go_region_held2 (fun W => W.cell? ⟨U, 1, none⟩ = some (.pointer (some ⟨R, 0, none⟩)) ∧ W.cell? ⟨U, 2, none⟩ = some (.int .i64 gu))
    (first | exact c1 | exact hc2)
    (first
      | (go_at_call 60; refine G1.mono ?_; rintro q y3 ⟨rfl, hf3, ht3⟩; (have H3 : Hid (UZ N0 y3 c h R r U gu ⟨z.m, hoS z.S F gu, z.x⟩ ∧ Tq N0 (fun k => k = h ∨ k = U) w y3 ∧ B4 y3 w.heap.size a b d) := ⟨H2.out.1.drew.frames hf3 ht3, ((Tq.of_below H2.out.2.1).drew).trans (Tq.of_tu ht3), B4.tq (N0 := N0) (h := h) (U := U) H2.out.2.2 ((Tq.of_below (Below.refl _ _)).drew.trans (Tq.of_tu ht3)) (H2.out.1.not4 H2.out.2.2)⟩); (have hc2 := And.intro H3.out.1.ub.c0.2.1 H3.out.1.ub.c0.2.2.1)))
  clear G1 c1 hc2 hf3 ht3 H2 dl
  go_wp2_with fail
  go_ret
  exact ⟨rfl, HZ.out _ H3.out.1, H3.out.2.1⟩
set_option maxHeartbeats 6400000 in
theorem rmap_low (x : UZ N0 w c h R r U gu z) (hi : Iv n O z) (hg : 1 ≤ gu ∧ gu ≤ 16) {P F : Nat} {a b d : Bool} (hr : ¬ z.x.rt < 0) (hP : P < 1024) (hm : mayR a b d = true) (hF : F < n) (hs : (z.x.pg P).isSome = false) (hn : F < z.S.n) (hc : z.S.cl F = gu) (hh : hoE z.S F gu = 0) (hl : 0 ≤ z.x.lo (P / 32)) : Calls Tryz.prog 21 #[.pointer (some ⟨U, 0, none⟩), .int .i64 P, .int .i64 F, .agg #[.bool a, .bool b, .bool d]] w fun e w1 => e = .returned (.int .i64 0) ∧ UZ N0 w1 c h R r U gu (mapD ⟨z.m, hoS z.S F gu, z.x⟩ P ⟨F, a, b, d⟩) ∧ Tq N0 (fun k => k = h ∨ k = U) w w1 := by
  have HB : Hid (Below w.heap.size w (w.alloc (.cells #[.bool a, .bool b, .bool d] 76))) := (Below.refl _ _).alloc (Nat.le_refl _) _
  have HS : Hid (UZ N0 (w.alloc (.cells #[.bool a, .bool b, .bool d] 76)) c h R r U gu z ∧ B4 (w.alloc (.cells #[.bool a, .bool b, .bool d] 76)) w.heap.size a b d) := ⟨x.below HB.out, heap_alloc_at _ _⟩
  have c3 := HS.out.1.ub.c0.2.2.2
  have hx := x.ub.lt
  have hlen := hi.len
  have hn2 := hi.n2
  have ho := hi.ok
  have R0 := right_any a b d
  rw [hm] at R0
  have hP' : (P : Int) < 1024 := by omega
  have hF' : (F : Int) < n := by omega
  have hdiv : IntKind.i64.wrap ((z.m.length : Int) / 256) = n := by rw [IntKind.wrap_i64]; omega
  have MB : Hid (∀ W, UZ N0 W c h R r U gu z → W.cell? ⟨c, 0, none⟩ = some (.slice (some ⟨h, 0, none⟩) z.m.length z.m.length) ∧ c < W.heap.size) := fun W hW => ⟨hW.rz.rm.cell0, hW.rz.rm.blt⟩
  have RB : Hid (∀ W, UZ N0 W c h R r U gu z → W.cell? ⟨R, 0, none⟩ = some (.slice (some ⟨r, 0, none⟩) z.S.n z.S.n) ∧ R < W.heap.size) := fun W hW => ⟨hW.rz.rf.c0, hW.rz.rf.lt⟩
  have CC : Hid (∀ W, UZ N0 W c h R r U gu z → W.cell? ⟨U, 0, none⟩ = some (.pointer (some ⟨c, 0, none⟩)) ∧ W.cell? ⟨U, 1, none⟩ = some (.pointer (some ⟨R, 0, none⟩)) ∧ W.cell? ⟨U, 2, none⟩ = some (.int .i64 gu) ∧ W.cell? ⟨U, 3, none⟩ = some (.int .i64 z.x.rt)) := fun W hW => hW.ub.c0
  have PC : Hid (∀ W, UZ N0 W c h R r U gu z → W.cell? ⟨U, 36 + P * 5, none⟩ = some (.bool false)) := fun W hW => by
    have := (hW.ub.cp hP).1
    rwa [Nat.mul_comm 5 P, hs] at this
  have RR : Hid (∀ W, UZ N0 W c h R r U gu z → W.cell? ⟨r, F * 2, none⟩ = some (.int .i64 (rO z.S F)) ∧ W.cell? ⟨r, F * 2 + 1, none⟩ = some (.int .i64 (z.S.ti F)) ∧ r < W.heap.size) := fun W hW => ⟨hW.rz.rf.r0 hn, hW.rz.rf.r1 hn, hW.rz.rf.rlt⟩
  have hn' : (F : Int) < z.S.n := by omega
  have hgn : decide ((z.S.n : Int) ≤ F) = false := decide_eq_false (by omega)
  have hgm : decide (z.S.n ≤ F) = false := decide_eq_false (by omega)
  have hmy := hm
  have HFF : Hid (F < 65536 ∧ mayR a b d = true) := ⟨by omega, hm⟩
  have h17 : z.S.cl F ≠ 17 := by omega
  obtain ⟨t3, t4⟩ := (ho.t F hn).2 h17
  have e1 : rO z.S F = gu := by unfold rO; rw [if_neg h17, hc]
  rw [e1] at RR
  have hti : ((z.S.ti F : Int) == 0) = false := by simp; omega
  have hgo : ((gu : Int) != (gu : Int)) = false := by simp
  clear e1 t3 t4 h17 ho
  generalize (z.S.ti F : Int) = ti at *
  have hrt0 : 0 ≤ z.x.rt := by omega
  have hk : P / 32 < 32 := by omega
  obtain ⟨ih, -⟩ := hi.hold (F : Int) hg.1
  obtain ⟨Rt, hR⟩ := Int.eq_ofNat_of_zero_le hrt0
  have hRl : Rt * 256 + 256 ≤ z.m.length := by have := hi.rt; omega
  have hw : IntKind.i64.wrap ((P : Int) / 32) = ((P / 32 : Nat) : Int) := by rw [quo_w P hP]; omega
  have hk' : ((P / 32 : Nat) : Int) < 32 := by omega
  have hpg : z.x.pg P = none := by cases h : z.x.pg P; rfl; rw [h] at hs; cases hs
  obtain ⟨L, hL⟩ := Int.eq_ofNat_of_zero_le hl
  obtain ⟨z1, hz1⟩ : ∃ z1, Zs.mk z.m (hoS z.S F gu) z.x = z1 := ⟨_, rfl⟩
  have HLL : Hid (z1.x.lo (P / 32) = (L : Int) ∧ L * 256 + 256 ≤ z1.m.length ∧ z1.x.pg P = none) := by
    rw [← hz1]
    exact ⟨hL, by show L * 256 + 256 ≤ z.m.length; have := (hi.lo _ hk).2; omega, hpg⟩
  rw [hz1]
  have LC : Hid (∀ W, UZ N0 W c h R r U gu ⟨z.m, hoS z.S F gu, z.x⟩ → W.cell? ⟨U, 4 + P / 32, none⟩ = some (.int .i64 L)) := fun W hW => by
    have := hW.ub.cl hk
    rwa [show (⟨z.m, hoS z.S F gu, z.x⟩ : Zs).x.lo (P / 32) = (L : Int) from hL] at this
  clear x hi hm hmy hs hn hc ih hR hRl hrt0 hl hL hpg
  generalize hml : z.m.length = ml at *
  generalize z.x.rt = y at *
  generalize z.S.n = sn at *
  go_enter Tryz.func21, Tryz.ntmps21
  go_wp2_with fail
  refine (R0 _).mono ?_
  rintro e w1 ⟨rfl, hb1⟩
  have H1 : Hid (UZ N0 w1 c h R r U gu z ∧ Below w.heap.size w w1 ∧ B4 w1 w.heap.size a b d) := ⟨HS.out.1.below hb1, HB.out.trans (hb1.mono (by simp)), (hb1.block _ (lt_of_heap HS.out.2)).trans HS.out.2⟩
  obtain ⟨c0, c1, c2, c4⟩ := CC.out _ H1.out.1
  obtain ⟨mb, mlt⟩ := MB.out _ H1.out.1
  obtain ⟨rb, rlt⟩ := RB.out _ H1.out.1
  obtain ⟨r0, r1, rrlt⟩ := RR.out _ H1.out.1
  have q0 := PC.out _ H1.out.1
  have dl := H1.out.1.ub.lt
  clear hb1 c3 c4
  go_wp2_with fail
  go_quiet (fail)
  have H2 : Hid (UZ N0 (w1.drewN nq) c h R r U gu z ∧ Below w.heap.size w (w1.drewN nq) ∧ B4 (w1.drewN nq) w.heap.size a b d) := ⟨H1.out.1.below (below_drewN (Below.refl _ _) _), below_drewN H1.out.2.1 _, H1.out.2.2⟩
  clear H1 c0 c1 c2 mb mlt rb rlt r0 r1 rrlt q0 dl MB RB CC PC RR
  generalize w1.drewN nq = w2 at *
  have G1 := rhold (H2.out.1.rz.below (Below.refl _ _).drew).rf (F : Int) gu
  rw [hh] at G1
  have dl := H2.out.1.ub.lt
  have c1 := And.intro H2.out.1.drew.ub.c0.2.1 H2.out.1.drew.ub.c0.2.2.1
  go_wp2_with fail
  go_region_held2 (fun W => W.cell? ⟨U, 1, none⟩ = some (.pointer (some ⟨R, 0, none⟩)) ∧ W.cell? ⟨U, 2, none⟩ = some (.int .i64 gu))
    (first | exact c1 | exact hc2)
    (first
      | (go_at_call 60; refine G1.mono ?_; rintro q y3 ⟨rfl, hf3, ht3⟩; (have H3 : Hid (UZ N0 y3 c h R r U gu ⟨z.m, hoS z.S F gu, z.x⟩ ∧ Tq N0 (fun k => k = h ∨ k = U) w y3 ∧ B4 y3 w.heap.size a b d) := ⟨H2.out.1.drew.frames hf3 ht3, ((Tq.of_below H2.out.2.1).drew).trans (Tq.of_tu ht3), B4.tq (N0 := N0) (h := h) (U := U) H2.out.2.2 ((Tq.of_below (Below.refl _ _)).drew.trans (Tq.of_tu ht3)) (H2.out.1.not4 H2.out.2.2)⟩); (have hc2 := And.intro H3.out.1.ub.c0.2.1 H3.out.1.ub.c0.2.2.1)))
  clear G1 c1 hc2 hf3 ht3 H2 dl
  have lc := LC.out _ H3.out.1
  have dl := H3.out.1.ub.lt
  have HZ : Hid (UZ N0 y3 c h R r U gu z1 ∧ Tq N0 (fun k => k = h ∨ k = U) w y3 ∧ B4 y3 w.heap.size a b d) := by
    rw [← hz1]
    exact H3.out
  clear H3 hz1 LC
  go_upto_region 19 with fail
  clear lc dl
  have hL1 : z1.x.lo (P / 32) = (L : Int) := HLL.out.1
  have hL2 : L * 256 + 256 ≤ z1.m.length := HLL.out.2.1
  obtain ⟨d0, d1, d2, lK⟩ := HZ.out.2.2.cs
  obtain ⟨p0, p1, p2, p3, p4⟩ := HZ.out.1.ub.cp hP
  rw [Nat.mul_comm 5 P, HLL.out.2.2] at p0 p1 p2 p3 p4
  simp only [Option.isSome_none, pgF, pgR, pgW, pgX] at p0 p1 p2 p3 p4
  have f0 := HZ.out.1.ub.fz (36 + P * 5)
  have f1 := HZ.out.1.ub.fz (36 + P * 5 + 1)
  have f2 := HZ.out.1.ub.fz (36 + P * 5 + 2)
  have f3 := HZ.out.1.ub.fz (36 + P * 5 + 3)
  have f4 := HZ.out.1.ub.fz (36 + P * 5 + 4)
  have dl := HZ.out.1.ub.lt
  have HU := HZ.out.1.ub.page hP ⟨F, a, b, d⟩
  have WT := fun (W : World) (hS : UZ N0 W c h R r U gu ⟨z1.m, z1.S, { z1.x with pg := upd z1.x.pg P (some ⟨F, a, b, d⟩) }⟩) => write_uz hS hP (F := L) hL1 hL2 (fun q hq => by
    have hq' : upd z1.x.pg P (some ⟨F, a, b, d⟩) P = some q := hq
    rw [upd_self] at hq'
    cases hq'
    exact ⟨by show F < 65536; exact HFF.out.1, HFF.out.2⟩)
  simp only [upd_self] at WT
  have HE : Hid (∀ W, UZ N0 W c h R r U gu ⟨set8 z1.m L (P % 32) (pgN (some ⟨F, a, b, d⟩)), z1.S, { z1.x with pg := upd z1.x.pg P (some ⟨F, a, b, d⟩) }⟩ → UZ N0 W c h R r U gu (mapD z1 P ⟨F, a, b, d⟩)) := fun W hW => by
    unfold mapD
    rw [hL1, Int.toNat_natCast]
    exact hW
  have H6 : Hid (UZ N0 (((((y3.setCell ⟨U, 36 + P * 5, none⟩ (.bool true)).setCell ⟨U, 36 + P * 5 + 1, none⟩ (.int .i64 F)).setCell ⟨U, 36 + P * 5 + 2, none⟩ (.bool a)).setCell ⟨U, 36 + P * 5 + 3, none⟩ (.bool b)).setCell ⟨U, 36 + P * 5 + 4, none⟩ (.bool d)).drew c h R r U gu ⟨z1.m, z1.S, { z1.x with pg := upd z1.x.pg P (some ⟨F, a, b, d⟩) }⟩ ∧ Tq N0 (fun k => k = h ∨ k = U) w (((((y3.setCell ⟨U, 36 + P * 5, none⟩ (.bool true)).setCell ⟨U, 36 + P * 5 + 1, none⟩ (.int .i64 F)).setCell ⟨U, 36 + P * 5 + 2, none⟩ (.bool a)).setCell ⟨U, 36 + P * 5 + 3, none⟩ (.bool b)).setCell ⟨U, 36 + P * 5 + 4, none⟩ (.bool d)).drew) := ⟨(HZ.out.1.block HU.1 HU.2).drew, (HZ.out.2.1.trans (Tq.of_trn HU.2 fun _ e => .inr e)).drew⟩
  clear HU HLL hL1 hL2 HZ
  go_region
  clear d0 d1 d2 lK p0 p1 p2 p3 p4 f0 f1 f2 f3 f4 dl
  generalize (((((y3.setCell ⟨U, 36 + P * 5, none⟩ (.bool true)).setCell ⟨U, 36 + P * 5 + 1, none⟩ (.int .i64 F)).setCell ⟨U, 36 + P * 5 + 2, none⟩ (.bool a)).setCell ⟨U, 36 + P * 5 + 3, none⟩ (.bool b)).setCell ⟨U, 36 + P * 5 + 4, none⟩ (.bool d)).drew = w7 at *
  go_wp2_with fail
  refine (WT _ H6.out.1).mono ?_
  rintro e w8 ⟨rfl, h8, t8⟩
  have H8 : Hid (UZ N0 w8 c h R r U gu (mapD z1 P ⟨F, a, b, d⟩) ∧ Tq N0 (fun k => k = h ∨ k = U) w w8) := ⟨HE.out _ h8, H6.out.2.trans (t8.mono fun _ e => .inl e)⟩
  clear h8 t8 WT
  go_wp2_with fail
  go_ret
  exact ⟨rfl, H8.out.1, H8.out.2⟩
set_option maxHeartbeats 6400000 in
theorem rmap_tno (x : UZ N0 w c h R r U gu z) (hi : Iv n O z) (hg : 1 ≤ gu ∧ gu ≤ 16) {P F : Nat} {a b d : Bool} (hr : ¬ z.x.rt < 0) (hP : P < 1024) (hm : mayR a b d = true) (hF : F < n) (hs : (z.x.pg P).isSome = false) (hn : F < z.S.n) (hc : z.S.cl F = gu) (hh : hoE z.S F gu = 0) (hl : ¬ 0 ≤ z.x.lo (P / 32)) (hq : takeE n (hoS z.S F gu) ≠ 0) : Calls Tryz.prog 21 #[.pointer (some ⟨U, 0, none⟩), .int .i64 P, .int .i64 F, .agg #[.bool a, .bool b, .bool d]] w fun e w1 => e = .returned (.int .i64 (takeE n (hoS z.S F gu))) ∧ UZ N0 w1 c h R r U gu ⟨z.m, frS (takeS n (hoS z.S F gu)) F gu, z.x⟩ ∧ Tq N0 (fun k => k = h ∨ k = U) w w1 := by
  have HB : Hid (Below w.heap.size w (w.alloc (.cells #[.bool a, .bool b, .bool d] 76))) := (Below.refl _ _).alloc (Nat.le_refl _) _
  have HS : Hid (UZ N0 (w.alloc (.cells #[.bool a, .bool b, .bool d] 76)) c h R r U gu z ∧ B4 (w.alloc (.cells #[.bool a, .bool b, .bool d] 76)) w.heap.size a b d) := ⟨x.below HB.out, heap_alloc_at _ _⟩
  have c3 := HS.out.1.ub.c0.2.2.2
  have hx := x.ub.lt
  have hlen := hi.len
  have hn2 := hi.n2
  have ho := hi.ok
  have R0 := right_any a b d
  rw [hm] at R0
  have hP' : (P : Int) < 1024 := by omega
  have hF' : (F : Int) < n := by omega
  have hdiv : IntKind.i64.wrap ((z.m.length : Int) / 256) = n := by rw [IntKind.wrap_i64]; omega
  have MB : Hid (∀ W, UZ N0 W c h R r U gu z → W.cell? ⟨c, 0, none⟩ = some (.slice (some ⟨h, 0, none⟩) z.m.length z.m.length) ∧ c < W.heap.size) := fun W hW => ⟨hW.rz.rm.cell0, hW.rz.rm.blt⟩
  have RB : Hid (∀ W, UZ N0 W c h R r U gu z → W.cell? ⟨R, 0, none⟩ = some (.slice (some ⟨r, 0, none⟩) z.S.n z.S.n) ∧ R < W.heap.size) := fun W hW => ⟨hW.rz.rf.c0, hW.rz.rf.lt⟩
  have CC : Hid (∀ W, UZ N0 W c h R r U gu z → W.cell? ⟨U, 0, none⟩ = some (.pointer (some ⟨c, 0, none⟩)) ∧ W.cell? ⟨U, 1, none⟩ = some (.pointer (some ⟨R, 0, none⟩)) ∧ W.cell? ⟨U, 2, none⟩ = some (.int .i64 gu) ∧ W.cell? ⟨U, 3, none⟩ = some (.int .i64 z.x.rt)) := fun W hW => hW.ub.c0
  have PC : Hid (∀ W, UZ N0 W c h R r U gu z → W.cell? ⟨U, 36 + P * 5, none⟩ = some (.bool false)) := fun W hW => by
    have := (hW.ub.cp hP).1
    rwa [Nat.mul_comm 5 P, hs] at this
  have RR : Hid (∀ W, UZ N0 W c h R r U gu z → W.cell? ⟨r, F * 2, none⟩ = some (.int .i64 (rO z.S F)) ∧ W.cell? ⟨r, F * 2 + 1, none⟩ = some (.int .i64 (z.S.ti F)) ∧ r < W.heap.size) := fun W hW => ⟨hW.rz.rf.r0 hn, hW.rz.rf.r1 hn, hW.rz.rf.rlt⟩
  have hn' : (F : Int) < z.S.n := by omega
  have hgn : decide ((z.S.n : Int) ≤ F) = false := decide_eq_false (by omega)
  have hgm : decide (z.S.n ≤ F) = false := decide_eq_false (by omega)
  have hmy := hm
  have HFF : Hid (F < 65536 ∧ mayR a b d = true) := ⟨by omega, hm⟩
  have h17 : z.S.cl F ≠ 17 := by omega
  obtain ⟨t3, t4⟩ := (ho.t F hn).2 h17
  have e1 : rO z.S F = gu := by unfold rO; rw [if_neg h17, hc]
  rw [e1] at RR
  have hti : ((z.S.ti F : Int) == 0) = false := by simp; omega
  have hgo : ((gu : Int) != (gu : Int)) = false := by simp
  clear e1 t3 t4 h17 ho
  generalize (z.S.ti F : Int) = ti at *
  have hrt0 : 0 ≤ z.x.rt := by omega
  have hk : P / 32 < 32 := by omega
  obtain ⟨ih, -⟩ := hi.hold (F : Int) hg.1
  obtain ⟨Rt, hR⟩ := Int.eq_ofNat_of_zero_le hrt0
  have hRl : Rt * 256 + 256 ≤ z.m.length := by have := hi.rt; omega
  have hw : IntKind.i64.wrap ((P : Int) / 32) = ((P / 32 : Nat) : Int) := by rw [quo_w P hP]; omega
  have hk' : ((P / 32 : Nat) : Int) < 32 := by omega
  have hpg : z.x.pg P = none := by cases h : z.x.pg P; rfl; rw [h] at hs; cases hs
  obtain ⟨S0, hS0⟩ : ∃ S0, hoS z.S F gu = S0 := ⟨_, rfl⟩
  obtain ⟨te, hte⟩ : ∃ te, takeE n S0 = te := ⟨_, rfl⟩
  have GT := fun (W : World) (hS : UZ N0 W c h R r U gu ⟨z.m, S0, z.x⟩) => rtable_rz hS.rz hlen hn2
  have LC : Hid (∀ W, UZ N0 W c h R r U gu ⟨z.m, S0, z.x⟩ → W.cell? ⟨U, 4 + P / 32, none⟩ = some (.int .i64 (z.x.lo (P / 32)))) := fun W hW => hW.ub.cl hk
  have hlk : z.x.lo (P / 32) < 0 := by omega
  rw [hS0] at hq ⊢
  rw [hte] at hq ⊢
  have eM : takeM n z.m S0 = z.m := by unfold takeM; rw [if_neg (by rw [hte]; exact hq)]
  have hqb : (te != 0) = true := by simp [hq]
  simp only [hte, if_neg hq] at GT
  clear x hi hm hmy hs hn hc ih hR hRl hrt0 hl hpg hte hq hlen
  generalize hml : z.m.length = ml at *
  generalize z.x.rt = y at *
  generalize z.S.n = sn at *
  generalize z.x.lo (P / 32) = lk at *
  go_enter Tryz.func21, Tryz.ntmps21
  go_wp2_with fail
  refine (R0 _).mono ?_
  rintro e w1 ⟨rfl, hb1⟩
  have H1 : Hid (UZ N0 w1 c h R r U gu z ∧ Below w.heap.size w w1 ∧ B4 w1 w.heap.size a b d) := ⟨HS.out.1.below hb1, HB.out.trans (hb1.mono (by simp)), (hb1.block _ (lt_of_heap HS.out.2)).trans HS.out.2⟩
  obtain ⟨c0, c1, c2, c4⟩ := CC.out _ H1.out.1
  obtain ⟨mb, mlt⟩ := MB.out _ H1.out.1
  obtain ⟨rb, rlt⟩ := RB.out _ H1.out.1
  obtain ⟨r0, r1, rrlt⟩ := RR.out _ H1.out.1
  have q0 := PC.out _ H1.out.1
  have dl := H1.out.1.ub.lt
  clear hb1 c3 c4
  go_wp2_with fail
  go_quiet (fail)
  have H2 : Hid (UZ N0 (w1.drewN nq) c h R r U gu z ∧ Below w.heap.size w (w1.drewN nq) ∧ B4 (w1.drewN nq) w.heap.size a b d) := ⟨H1.out.1.below (below_drewN (Below.refl _ _) _), below_drewN H1.out.2.1 _, H1.out.2.2⟩
  clear H1 c0 c1 c2 mb mlt rb rlt r0 r1 rrlt q0 dl MB RB CC PC RR
  generalize w1.drewN nq = w2 at *
  have G1 := rhold (H2.out.1.rz.below (Below.refl _ _).drew).rf (F : Int) gu
  rw [hh] at G1
  have dl := H2.out.1.ub.lt
  have c1 := And.intro H2.out.1.drew.ub.c0.2.1 H2.out.1.drew.ub.c0.2.2.1
  go_wp2_with fail
  go_region_held2 (fun W => W.cell? ⟨U, 1, none⟩ = some (.pointer (some ⟨R, 0, none⟩)) ∧ W.cell? ⟨U, 2, none⟩ = some (.int .i64 gu))
    (first | exact c1 | exact hc2)
    (first
      | (go_at_call 60; refine G1.mono ?_; rintro q y3 ⟨rfl, hf3, ht3⟩; (have H3 : Hid (UZ N0 y3 c h R r U gu ⟨z.m, hoS z.S F gu, z.x⟩ ∧ Tq N0 (fun k => k = h ∨ k = U) w y3 ∧ B4 y3 w.heap.size a b d) := ⟨H2.out.1.drew.frames hf3 ht3, ((Tq.of_below H2.out.2.1).drew).trans (Tq.of_tu ht3), B4.tq (N0 := N0) (h := h) (U := U) H2.out.2.2 ((Tq.of_below (Below.refl _ _)).drew.trans (Tq.of_tu ht3)) (H2.out.1.not4 H2.out.2.2)⟩); (have hc2 := And.intro H3.out.1.ub.c0.2.1 H3.out.1.ub.c0.2.2.1)))
  clear G1 c1 hc2 hf3 ht3 H2 dl
  rw [hS0] at H3
  have lc := LC.out _ H3.out.1
  have dl := H3.out.1.ub.lt
  have G2 := GT _ H3.out.1.drew
  have c1 := And.intro H3.out.1.drew.ub.c0.1 H3.out.1.drew.ub.c0.2.1
  go_wp2_with fail
  go_region_held2 (fun W => W.cell? ⟨U, 0, none⟩ = some (.pointer (some ⟨c, 0, none⟩)) ∧ W.cell? ⟨U, 1, none⟩ = some (.pointer (some ⟨R, 0, none⟩)))
    (first | exact c1 | exact hc2)
    (first
      | (go_at_call 49; refine G2.mono ?_; rintro q y4 ⟨rfl, hz4, ht4⟩; (have H4 : Hid (UZ N0 y4 c h R r U gu ⟨takeM n z.m S0, takeS n S0, z.x⟩ ∧ Tq N0 (fun k => k = h ∨ k = U) w y4 ∧ B4 y4 w.heap.size a b d) := ⟨H3.out.1.drew.tab hz4 ht4, H3.out.2.1.drew.trans (ht4.mono fun _ e => .inl e), B4.tq (N0 := N0) (h := h) (U := U) H3.out.2.2 ((Tq.refl _ _ _).drew.trans (ht4.mono fun _ e => .inl e)) (H3.out.1.not4 H3.out.2.2)⟩); (have hc2 := And.intro H4.out.1.ub.c0.1 H4.out.1.ub.c0.2.1)))
  clear G2 c1 hc2 hz4 ht4 H3 dl lc LC GT
  rw [eM] at H4
  have dl := H4.out.1.ub.lt
  have F1 := rfree (H4.out.1.rz.below (Below.refl _ _).drew).rf (F : Int) gu
  have c1 := And.intro H4.out.1.drew.ub.c0.2.1 H4.out.1.drew.ub.c0.2.2.1
  go_wp2_with fail
  go_region_held2 (fun W => W.cell? ⟨U, 1, none⟩ = some (.pointer (some ⟨R, 0, none⟩)) ∧ W.cell? ⟨U, 2, none⟩ = some (.int .i64 gu))
    (first | exact c1 | exact hc2)
    (first
      | (go_at_call 61; refine F1.mono ?_; rintro q y5 ⟨rfl, hf5, ht5⟩; (have H5 : Hid (UZ N0 y5 c h R r U gu ⟨z.m, frS (takeS n S0) F gu, z.x⟩ ∧ Tq N0 (fun k => k = h ∨ k = U) w y5) := ⟨H4.out.1.drew.frames hf5 ht5, H4.out.2.1.drew.trans (Tq.of_tu ht5)⟩); (have hc2 := And.intro H5.out.1.ub.c0.2.1 H5.out.1.ub.c0.2.2.1)))
  clear F1 c1 hc2 hf5 ht5 H4 dl
  go_wp2_with fail
  go_ret
  exact ⟨rfl, H5.out.1, H5.out.2⟩
set_option maxHeartbeats 6400000 in
theorem rmap_tab (x : UZ N0 w c h R r U gu z) (hi : Iv n O z) (hg : 1 ≤ gu ∧ gu ≤ 16) {P F : Nat} {a b d : Bool} (hr : ¬ z.x.rt < 0) (hP : P < 1024) (hm : mayR a b d = true) (hF : F < n) (hs : (z.x.pg P).isSome = false) (hn : F < z.S.n) (hc : z.S.cl F = gu) (hh : hoE z.S F gu = 0) (hl : ¬ 0 ≤ z.x.lo (P / 32)) (hq : takeE n (hoS z.S F gu) = 0) : Calls Tryz.prog 21 #[.pointer (some ⟨U, 0, none⟩), .int .i64 P, .int .i64 F, .agg #[.bool a, .bool b, .bool d]] w fun e w1 => e = .returned (.int .i64 0) ∧ UZ N0 w1 c h R r U gu (mapD (raiZ n ⟨z.m, hoS z.S F gu, z.x⟩ (P / 32)) P ⟨F, a, b, d⟩) ∧ Tq N0 (fun k => k = h ∨ k = U) w w1 := by
  have HB : Hid (Below w.heap.size w (w.alloc (.cells #[.bool a, .bool b, .bool d] 76))) := (Below.refl _ _).alloc (Nat.le_refl _) _
  have HS : Hid (UZ N0 (w.alloc (.cells #[.bool a, .bool b, .bool d] 76)) c h R r U gu z ∧ B4 (w.alloc (.cells #[.bool a, .bool b, .bool d] 76)) w.heap.size a b d) := ⟨x.below HB.out, heap_alloc_at _ _⟩
  have c3 := HS.out.1.ub.c0.2.2.2
  have hx := x.ub.lt
  have hlen := hi.len
  have hn2 := hi.n2
  have ho := hi.ok
  have R0 := right_any a b d
  rw [hm] at R0
  have hP' : (P : Int) < 1024 := by omega
  have hF' : (F : Int) < n := by omega
  have hdiv : IntKind.i64.wrap ((z.m.length : Int) / 256) = n := by rw [IntKind.wrap_i64]; omega
  have MB : Hid (∀ W, UZ N0 W c h R r U gu z → W.cell? ⟨c, 0, none⟩ = some (.slice (some ⟨h, 0, none⟩) z.m.length z.m.length) ∧ c < W.heap.size) := fun W hW => ⟨hW.rz.rm.cell0, hW.rz.rm.blt⟩
  have RB : Hid (∀ W, UZ N0 W c h R r U gu z → W.cell? ⟨R, 0, none⟩ = some (.slice (some ⟨r, 0, none⟩) z.S.n z.S.n) ∧ R < W.heap.size) := fun W hW => ⟨hW.rz.rf.c0, hW.rz.rf.lt⟩
  have CC : Hid (∀ W, UZ N0 W c h R r U gu z → W.cell? ⟨U, 0, none⟩ = some (.pointer (some ⟨c, 0, none⟩)) ∧ W.cell? ⟨U, 1, none⟩ = some (.pointer (some ⟨R, 0, none⟩)) ∧ W.cell? ⟨U, 2, none⟩ = some (.int .i64 gu) ∧ W.cell? ⟨U, 3, none⟩ = some (.int .i64 z.x.rt)) := fun W hW => hW.ub.c0
  have PC : Hid (∀ W, UZ N0 W c h R r U gu z → W.cell? ⟨U, 36 + P * 5, none⟩ = some (.bool false)) := fun W hW => by
    have := (hW.ub.cp hP).1
    rwa [Nat.mul_comm 5 P, hs] at this
  have RR : Hid (∀ W, UZ N0 W c h R r U gu z → W.cell? ⟨r, F * 2, none⟩ = some (.int .i64 (rO z.S F)) ∧ W.cell? ⟨r, F * 2 + 1, none⟩ = some (.int .i64 (z.S.ti F)) ∧ r < W.heap.size) := fun W hW => ⟨hW.rz.rf.r0 hn, hW.rz.rf.r1 hn, hW.rz.rf.rlt⟩
  have hn' : (F : Int) < z.S.n := by omega
  have hgn : decide ((z.S.n : Int) ≤ F) = false := decide_eq_false (by omega)
  have hgm : decide (z.S.n ≤ F) = false := decide_eq_false (by omega)
  have hmy := hm
  have HFF : Hid (F < 65536 ∧ mayR a b d = true) := ⟨by omega, hm⟩
  have h17 : z.S.cl F ≠ 17 := by omega
  obtain ⟨t3, t4⟩ := (ho.t F hn).2 h17
  have e1 : rO z.S F = gu := by unfold rO; rw [if_neg h17, hc]
  rw [e1] at RR
  have hti : ((z.S.ti F : Int) == 0) = false := by simp; omega
  have hgo : ((gu : Int) != (gu : Int)) = false := by simp
  clear e1 t3 t4 h17 ho
  generalize (z.S.ti F : Int) = ti at *
  have hrt0 : 0 ≤ z.x.rt := by omega
  have hk : P / 32 < 32 := by omega
  obtain ⟨ih, -⟩ := hi.hold (F : Int) hg.1
  obtain ⟨Rt, hR⟩ := Int.eq_ofNat_of_zero_le hrt0
  have hRl : Rt * 256 + 256 ≤ z.m.length := by have := hi.rt; omega
  have hw : IntKind.i64.wrap ((P : Int) / 32) = ((P / 32 : Nat) : Int) := by rw [quo_w P hP]; omega
  have hk' : ((P / 32 : Nat) : Int) < 32 := by omega
  have hpg : z.x.pg P = none := by cases h : z.x.pg P; rfl; rw [h] at hs; cases hs
  obtain ⟨S0, hS0⟩ : ∃ S0, hoS z.S F gu = S0 := ⟨_, rfl⟩
  obtain ⟨te, hte⟩ : ∃ te, takeE n S0 = te := ⟨_, rfl⟩
  have GT := fun (W : World) (hS : UZ N0 W c h R r U gu ⟨z.m, S0, z.x⟩) => rtable_rz hS.rz hlen hn2
  have LC : Hid (∀ W, UZ N0 W c h R r U gu ⟨z.m, S0, z.x⟩ → W.cell? ⟨U, 4 + P / 32, none⟩ = some (.int .i64 (z.x.lo (P / 32)))) := fun W hW => hW.ub.cl hk
  have hlk : z.x.lo (P / 32) < 0 := by omega
  obtain ⟨ir, -⟩ := ih.raise hrt0 hk
  rw [hS0] at hq ir ⊢
  rw [hte] at hq
  have hal : alE S0 0 = 0 := by
    by_cases h0 : alE S0 0 = 0
    · exact h0
    · exfalso
      have := hte
      unfold takeE at this
      rw [if_pos h0] at this
      omega
  obtain ⟨L, hLr⟩ : ∃ L : Nat, alR S0 0 = (L : Int) := by
    obtain ⟨a', ha, ha1, aR, aS, l1, l2⟩ := al_at hal
    exact ⟨_, aR⟩
  have hz1 : raiZ n ⟨z.m, S0, z.x⟩ (P / 32) = ⟨set8 (takeM n z.m S0) Rt (P / 32) (loN L), takeS n S0, { z.x with lo := upd z.x.lo (P / 32) (L : Int) }⟩ := by
    unfold raiZ
    rw [if_neg hl, if_pos (by show takeE n S0 = 0; rw [hte]; exact hq), hR, Int.toNat_natCast, hLr]
  have hlm : (takeM n z.m S0).length = n * 256 := takeM_len hlen hn2
  have hln : L < 65536 ∧ L * 256 + 256 ≤ n * 256 := by
    have := hte
    unfold takeE at this
    rw [if_neg (not_not_intro hal)] at this
    by_cases h1 : alR S0 0 < n
    · rw [hLr] at h1
      exact ⟨by omega, by omega⟩
    · rw [if_neg h1] at this
      omega
  obtain ⟨z1, hz0⟩ : ∃ z1, raiZ n ⟨z.m, S0, z.x⟩ (P / 32) = z1 := ⟨_, rfl⟩
  rw [hz0] at hz1 ⊢
  have HLL : Hid (z1.x.lo (P / 32) = (L : Int) ∧ L * 256 + 256 ≤ z1.m.length ∧ z1.x.pg P = none) := by
    rw [hz1]
    refine ⟨upd_self _ _ _, ?_, hpg⟩
    show _ ≤ (set8 (takeM n z.m S0) Rt (P / 32) (loN L)).length
    rw [set8_len _ _ (by omega) hk, hlm]
    exact hln.2
  have PT := fun (W : World) (hS : UZ N0 W c h R r U gu ⟨takeM n z.m S0, takeS n S0, { z.x with lo := upd z.x.lo (P / 32) (L : Int) }⟩) => point_uz (R0 := Rt) hS hk hR (by show Rt * 256 + 256 ≤ (takeM n z.m S0).length; omega) (by show upd z.x.lo (P / 32) (L : Int) (P / 32) < 65536; rw [upd_self]; omega)
  simp only [upd_self] at PT
  have HZ1 : Hid (∀ W, UZ N0 W c h R r U gu ⟨set8 (takeM n z.m S0) Rt (P / 32) (loN L), takeS n S0, { z.x with lo := upd z.x.lo (P / 32) (L : Int) }⟩ → UZ N0 W c h R r U gu z1) := fun W hW => by rw [hz1]; exact hW
  subst hq
  simp only [hte, if_true, hLr] at GT
  clear x hi hm hmy hs hn hc ih hR hRl hrt0 hl hpg hte hlen ir hz1 hz0 hlm hln hLr hal
  generalize hml : z.m.length = ml at *
  generalize z.S.n = sn at *
  generalize hlq : z.x.lo (P / 32) = lk at *
  go_enter Tryz.func21, Tryz.ntmps21
  go_wp2_with fail
  refine (R0 _).mono ?_
  rintro e w1 ⟨rfl, hb1⟩
  have H1 : Hid (UZ N0 w1 c h R r U gu z ∧ Below w.heap.size w w1 ∧ B4 w1 w.heap.size a b d) := ⟨HS.out.1.below hb1, HB.out.trans (hb1.mono (by simp)), (hb1.block _ (lt_of_heap HS.out.2)).trans HS.out.2⟩
  obtain ⟨c0, c1, c2, c4⟩ := CC.out _ H1.out.1
  obtain ⟨mb, mlt⟩ := MB.out _ H1.out.1
  obtain ⟨rb, rlt⟩ := RB.out _ H1.out.1
  obtain ⟨r0, r1, rrlt⟩ := RR.out _ H1.out.1
  have q0 := PC.out _ H1.out.1
  have dl := H1.out.1.ub.lt
  clear hb1 c3 c4
  go_wp2_with fail
  go_quiet (fail)
  have H2 : Hid (UZ N0 (w1.drewN nq) c h R r U gu z ∧ Below w.heap.size w (w1.drewN nq) ∧ B4 (w1.drewN nq) w.heap.size a b d) := ⟨H1.out.1.below (below_drewN (Below.refl _ _) _), below_drewN H1.out.2.1 _, H1.out.2.2⟩
  clear H1 c0 c1 c2 mb mlt rb rlt r0 r1 rrlt q0 dl MB RB CC PC RR
  generalize w1.drewN nq = w2 at *
  have G1 := rhold (H2.out.1.rz.below (Below.refl _ _).drew).rf (F : Int) gu
  rw [hh] at G1
  have dl := H2.out.1.ub.lt
  have c1 := And.intro H2.out.1.drew.ub.c0.2.1 H2.out.1.drew.ub.c0.2.2.1
  go_wp2_with fail
  go_region_held2 (fun W => W.cell? ⟨U, 1, none⟩ = some (.pointer (some ⟨R, 0, none⟩)) ∧ W.cell? ⟨U, 2, none⟩ = some (.int .i64 gu))
    (first | exact c1 | exact hc2)
    (first
      | (go_at_call 60; refine G1.mono ?_; rintro q y3 ⟨rfl, hf3, ht3⟩; (have H3 : Hid (UZ N0 y3 c h R r U gu ⟨z.m, hoS z.S F gu, z.x⟩ ∧ Tq N0 (fun k => k = h ∨ k = U) w y3 ∧ B4 y3 w.heap.size a b d) := ⟨H2.out.1.drew.frames hf3 ht3, ((Tq.of_below H2.out.2.1).drew).trans (Tq.of_tu ht3), B4.tq (N0 := N0) (h := h) (U := U) H2.out.2.2 ((Tq.of_below (Below.refl _ _)).drew.trans (Tq.of_tu ht3)) (H2.out.1.not4 H2.out.2.2)⟩); (have hc2 := And.intro H3.out.1.ub.c0.2.1 H3.out.1.ub.c0.2.2.1)))
  clear G1 c1 hc2 hf3 ht3 H2 dl
  rw [hS0] at H3
  have lc := LC.out _ H3.out.1
  have dl := H3.out.1.ub.lt
  have G2 := GT _ H3.out.1.drew
  have c1 := And.intro H3.out.1.drew.ub.c0.1 H3.out.1.drew.ub.c0.2.1
  go_wp2_with fail
  go_region_held2 (fun W => W.cell? ⟨U, 0, none⟩ = some (.pointer (some ⟨c, 0, none⟩)) ∧ W.cell? ⟨U, 1, none⟩ = some (.pointer (some ⟨R, 0, none⟩)))
    (first | exact c1 | exact hc2)
    (first
      | (go_at_call 49; refine G2.mono ?_; rintro q y4 ⟨rfl, hz4, ht4⟩; (have H4 : Hid (UZ N0 y4 c h R r U gu ⟨takeM n z.m S0, takeS n S0, z.x⟩ ∧ Tq N0 (fun k => k = h ∨ k = U) w y4 ∧ B4 y4 w.heap.size a b d) := ⟨H3.out.1.drew.tab hz4 ht4, H3.out.2.1.drew.trans (ht4.mono fun _ e => .inl e), B4.tq (N0 := N0) (h := h) (U := U) H3.out.2.2 ((Tq.refl _ _ _).drew.trans (ht4.mono fun _ e => .inl e)) (H3.out.1.not4 H3.out.2.2)⟩); (have hc2 := And.intro H4.out.1.ub.c0.1 H4.out.1.ub.c0.2.1)))
  clear G2 c1 hc2 hz4 ht4 H3 dl lc LC GT
  have c4 := H4.out.1.ub.cl hk
  have f4 := H4.out.1.ub.fz (4 + P / 32)
  have dl := H4.out.1.ub.lt
  obtain ⟨u5, t5⟩ := H4.out.1.ub.setL hk (L : Int)
  have H5 : Hid (UZ N0 (y4.setCell ⟨U, 4 + P / 32, none⟩ (.int .i64 L)) c h R r U gu ⟨takeM n z.m S0, takeS n S0, { z.x with lo := upd z.x.lo (P / 32) (L : Int) }⟩ ∧ Tq N0 (fun k => k = h ∨ k = U) w (y4.setCell ⟨U, 4 + P / 32, none⟩ (.int .i64 L)) ∧ B4 (y4.setCell ⟨U, 4 + P / 32, none⟩ (.int .i64 L)) w.heap.size a b d) := ⟨H4.out.1.block u5 t5, H4.out.2.1.trans (Tq.of_trn t5 fun _ e => .inr e), B4.tq (N0 := N0) (h := h) (U := U) H4.out.2.2 (Tq.of_trn t5 fun _ e => .inr e) (H4.out.1.not4 H4.out.2.2)⟩
  have P1 := PT _ H5.out.1
  clear u5 t5 H4 PT
  go_wp2_with fail
  refine P1.mono ?_
  rintro e w6 ⟨rfl, h6, t6⟩
  have HZ : Hid (UZ N0 w6 c h R r U gu z1 ∧ Tq N0 (fun k => k = h ∨ k = U) w w6 ∧ B4 w6 w.heap.size a b d) := ⟨HZ1.out _ h6, H5.out.2.1.trans (t6.mono fun _ e => .inl e), B4.tq (N0 := N0) (h := h) (U := U) H5.out.2.2 (t6.mono fun _ e => .inl e) (H5.out.1.not4 H5.out.2.2)⟩
  clear h6 t6 H5 P1 c4 f4 dl HZ1
  go_upto_region 19 with fail
  have hL1 : z1.x.lo (P / 32) = (L : Int) := HLL.out.1
  have hL2 : L * 256 + 256 ≤ z1.m.length := HLL.out.2.1
  obtain ⟨d0, d1, d2, lK⟩ := HZ.out.2.2.cs
  obtain ⟨p0, p1, p2, p3, p4⟩ := HZ.out.1.ub.cp hP
  rw [Nat.mul_comm 5 P, HLL.out.2.2] at p0 p1 p2 p3 p4
  simp only [Option.isSome_none, pgF, pgR, pgW, pgX] at p0 p1 p2 p3 p4
  have f0 := HZ.out.1.ub.fz (36 + P * 5)
  have f1 := HZ.out.1.ub.fz (36 + P * 5 + 1)
  have f2 := HZ.out.1.ub.fz (36 + P * 5 + 2)
  have f3 := HZ.out.1.ub.fz (36 + P * 5 + 3)
  have f4 := HZ.out.1.ub.fz (36 + P * 5 + 4)
  have dl := HZ.out.1.ub.lt
  have HU := HZ.out.1.ub.page hP ⟨F, a, b, d⟩
  have WT := fun (W : World) (hS : UZ N0 W c h R r U gu ⟨z1.m, z1.S, { z1.x with pg := upd z1.x.pg P (some ⟨F, a, b, d⟩) }⟩) => write_uz hS hP (F := L) hL1 hL2 (fun q hq => by
    have hq' : upd z1.x.pg P (some ⟨F, a, b, d⟩) P = some q := hq
    rw [upd_self] at hq'
    cases hq'
    exact ⟨by show F < 65536; exact HFF.out.1, HFF.out.2⟩)
  simp only [upd_self] at WT
  have HE : Hid (∀ W, UZ N0 W c h R r U gu ⟨set8 z1.m L (P % 32) (pgN (some ⟨F, a, b, d⟩)), z1.S, { z1.x with pg := upd z1.x.pg P (some ⟨F, a, b, d⟩) }⟩ → UZ N0 W c h R r U gu (mapD z1 P ⟨F, a, b, d⟩)) := fun W hW => by
    unfold mapD
    rw [hL1, Int.toNat_natCast]
    exact hW
  have H6 : Hid (UZ N0 (((((w6.setCell ⟨U, 36 + P * 5, none⟩ (.bool true)).setCell ⟨U, 36 + P * 5 + 1, none⟩ (.int .i64 F)).setCell ⟨U, 36 + P * 5 + 2, none⟩ (.bool a)).setCell ⟨U, 36 + P * 5 + 3, none⟩ (.bool b)).setCell ⟨U, 36 + P * 5 + 4, none⟩ (.bool d)).drew c h R r U gu ⟨z1.m, z1.S, { z1.x with pg := upd z1.x.pg P (some ⟨F, a, b, d⟩) }⟩ ∧ Tq N0 (fun k => k = h ∨ k = U) w (((((w6.setCell ⟨U, 36 + P * 5, none⟩ (.bool true)).setCell ⟨U, 36 + P * 5 + 1, none⟩ (.int .i64 F)).setCell ⟨U, 36 + P * 5 + 2, none⟩ (.bool a)).setCell ⟨U, 36 + P * 5 + 3, none⟩ (.bool b)).setCell ⟨U, 36 + P * 5 + 4, none⟩ (.bool d)).drew) := ⟨(HZ.out.1.block HU.1 HU.2).drew, (HZ.out.2.1.trans (Tq.of_trn HU.2 fun _ e => .inr e)).drew⟩
  clear HU HLL hL1 hL2 HZ
  go_region
  clear d0 d1 d2 lK p0 p1 p2 p3 p4 f0 f1 f2 f3 f4 dl
  generalize (((((w6.setCell ⟨U, 36 + P * 5, none⟩ (.bool true)).setCell ⟨U, 36 + P * 5 + 1, none⟩ (.int .i64 F)).setCell ⟨U, 36 + P * 5 + 2, none⟩ (.bool a)).setCell ⟨U, 36 + P * 5 + 3, none⟩ (.bool b)).setCell ⟨U, 36 + P * 5 + 4, none⟩ (.bool d)).drew = w7 at *
  go_wp2_with fail
  refine (WT _ H6.out.1).mono ?_
  rintro e w8 ⟨rfl, h8, t8⟩
  have H8 : Hid (UZ N0 w8 c h R r U gu (mapD z1 P ⟨F, a, b, d⟩) ∧ Tq N0 (fun k => k = h ∨ k = U) w w8) := ⟨HE.out _ h8, H6.out.2.trans (t8.mono fun _ e => .inl e)⟩
  clear h8 t8 WT
  go_wp2_with fail
  go_ret
  exact ⟨rfl, H8.out.1, H8.out.2⟩
theorem rmap_uz (x : UZ N0 w c h R r U gu z) (hi : Iv n O z) (hg : 1 ≤ gu ∧ gu ≤ 16) (p f : Int) (a b d : Bool) : Calls Tryz.prog 21 #[.pointer (some ⟨U, 0, none⟩), .int .i64 p, .int .i64 f, .agg #[.bool a, .bool b, .bool d]] w fun e w1 => e = .returned (.int .i64 (mapE gu n z p f a b d)) ∧ UZ N0 w1 c h R r U gu (mapZ gu n z p f a b d) ∧ Tq N0 (fun k => k = h ∨ k = U) w w1 := by
  by_cases hq : z.x.rt < 0 ∨ ¬ (0 ≤ p ∧ p < 1024 ∧ mayR a b d = true ∧ 0 ≤ f ∧ f < n)
  · have e0 : mapQ gu n z p f a b d = (if z.x.rt < 0 then 21 else 2) := by
      unfold mapQ
      by_cases h1 : z.x.rt < 0
      · rw [if_pos h1, if_pos h1]
      · rw [if_neg h1, if_neg h1, if_pos (hq.resolve_left h1)]
    obtain ⟨e1, e2⟩ := map_no e0 (by split <;> decide)
    rw [e1, e2]
    exact (rmap_arg x hi p f a b d hq).mono fun e w1 q => ⟨q.1, q.2.1, Tq.of_below q.2.2⟩
  have hr : ¬ z.x.rt < 0 := fun e => hq (.inl e)
  obtain ⟨p0, p1, hm, f0, f1⟩ : 0 ≤ p ∧ p < 1024 ∧ mayR a b d = true ∧ 0 ≤ f ∧ f < n := Classical.byContradiction fun e => hq (.inr e)
  obtain ⟨P, rfl⟩ := Int.eq_ofNat_of_zero_le p0
  obtain ⟨F, rfl⟩ := Int.eq_ofNat_of_zero_le f0
  have hP : P < 1024 := by omega
  have hF : F < n := by omega
  have eQ : mapQ gu n z P F a b d = if (z.x.pg P).isSome = true then 13 else if ¬ ((F : Int) < z.S.n ∧ z.S.cl F = gu) then 15 else hoE z.S F gu := by
    unfold mapQ
    rw [if_neg hr, if_neg (not_not_intro ⟨p0, p1, hm, f0, f1⟩), Int.toNat_natCast, Int.toNat_natCast]
  by_cases hs : (z.x.pg P).isSome = true
  · rw [if_pos hs] at eQ
    obtain ⟨e1, e2⟩ := map_no eQ (by decide)
    rw [e1, e2]
    refine (rmap_there x hi hg hr hP hm hF (.inl hs)).mono fun e w1 q => ?_
    rw [if_pos hs] at q
    exact ⟨q.1, q.2.1, Tq.of_below q.2.2⟩
  rw [if_neg hs] at eQ
  have hs' : (z.x.pg P).isSome = false := by simpa using hs
  by_cases hn : F < z.S.n
  case neg =>
    rw [if_pos (fun e => hn (by omega))] at eQ
    obtain ⟨e1, e2⟩ := map_no eQ (by decide)
    rw [e1, e2]
    refine (rmap_there x hi hg hr hP hm hF (.inr hn)).mono fun e w1 q => ?_
    rw [if_neg hs] at q
    exact ⟨q.1, q.2.1, Tq.of_below q.2.2⟩
  by_cases hc : z.S.cl F = gu
  case neg =>
    rw [if_pos (fun e => hc e.2)] at eQ
    obtain ⟨e1, e2⟩ := map_no eQ (by decide)
    rw [e1, e2]
    exact (rmap_own x hi hg hr hP hm hF hs' hn hc).mono fun e w1 q => ⟨q.1, q.2.1, Tq.of_below q.2.2⟩
  rw [if_neg (not_not_intro ⟨by omega, hc⟩)] at eQ
  by_cases hh : hoE z.S F gu = 0
  case neg =>
    obtain ⟨e1, e2⟩ := map_no eQ hh
    rw [e1, e2]
    exact rmap_full x hi hg hr hP hm hF hs' hn hc hh
  have eE : mapE gu n z P F a b d = raiE n ⟨z.m, hoS z.S F gu, z.x⟩ (P / 32) := by unfold mapE; rw [eQ, hh, if_neg (by simp), Int.toNat_natCast]
  have eZ : mapZ gu n z P F a b d = if raiE n ⟨z.m, hoS z.S F gu, z.x⟩ (P / 32) = 0 then mapD (raiZ n ⟨z.m, hoS z.S F gu, z.x⟩ (P / 32)) P ⟨F, a, b, d⟩ else ⟨z.m, frS (raiZ n ⟨z.m, hoS z.S F gu, z.x⟩ (P / 32)).S F gu, z.x⟩ := by unfold mapZ; rw [eQ, hh, if_neg (by simp), Int.toNat_natCast, Int.toNat_natCast]
  rw [eE, eZ]
  by_cases hl : 0 ≤ z.x.lo (P / 32)
  · have e1 : raiE n ⟨z.m, hoS z.S F gu, z.x⟩ (P / 32) = 0 := by unfold raiE; rw [if_pos hl]
    have e2 : raiZ n ⟨z.m, hoS z.S F gu, z.x⟩ (P / 32) = ⟨z.m, hoS z.S F gu, z.x⟩ := by unfold raiZ; rw [if_pos hl]
    rw [e1, if_pos rfl, e2]
    exact rmap_low x hi hg hr hP hm hF hs' hn hc hh hl
  have e1 : raiE n ⟨z.m, hoS z.S F gu, z.x⟩ (P / 32) = takeE n (hoS z.S F gu) := by unfold raiE; rw [if_neg hl]
  rw [e1]
  by_cases hq : takeE n (hoS z.S F gu) = 0
  · rw [if_pos hq, hq]
    exact rmap_tab x hi hg hr hP hm hF hs' hn hc hh hl hq
  · have e2 : (raiZ n ⟨z.m, hoS z.S F gu, z.x⟩ (P / 32)).S = takeS n (hoS z.S F gu) := by unfold raiZ; rw [if_neg hl, if_neg hq]
    rw [if_neg hq, e2]
    exact rmap_tno x hi hg hr hP hm hF hs' hn hc hh hl hq
end
end Go.Proofs.YteghkhdpdeiocaaGreatDoor
