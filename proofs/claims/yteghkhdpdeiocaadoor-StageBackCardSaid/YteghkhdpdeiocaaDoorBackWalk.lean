/-
  The walk of StageBack.
-/
import Derived.Test.YteghkhdpdeiocaaDoorDd
namespace Go.Proofs.YteghkhdpdeiocaaDoor
open Go.RowKit Go.Maps
set_option linter.unusedVariables false
set_option maxRecDepth 100000
theorem nwS_ok (n f : Nat) (h1 : 1 ≤ n) (h2 : n ≤ 65536) (h3 : f ≤ n) : Ok (nwS n f f) ∧ Fst (nwS n f f) := by
  refine ⟨⟨h1, h2, h3, fun i => ?_, fun i hi => ?_, fun k => by simp only [nwS]; omega⟩, fun i hi => ?_⟩
  · simp only [nwS]
    split <;> omega
  · simp only [nwS]
    split <;> omega
  · have hi' : i < f := hi
    simp only [nwS]
    rw [if_pos hi']
/-- the frames as the law has them -/
def sC : Fs := takeS 40 (takeS 40 (nwS 40 2 2))
theorem sC1 : takeE 40 (nwS 40 2 2) = 0 ∧ takeE 40 (takeS 40 (nwS 40 2 2)) = 0 := by decide
theorem sC2 : alR (nwS 40 2 2) 0 = 2 ∧ alR (takeS 40 (nwS 40 2 2)) 0 = 3 := by decide
theorem sC3 : sC.n = 40 ∧ sC.fi = 2 := by decide
theorem sC4 : ∀ f, f < 40 → (sC.cl f = if f < 4 then 0 else 17) ∧ (sC.ti f = if f < 4 then 1 else 0) := by decide
theorem sC5 : ∀ f : Nat, TF (xr 2) f → (takeS 40 (nwS 40 2 2)).cl f = 0 := by
  rintro f (e | ⟨k, _, e⟩)
  · have e' : (2 : Int) = f := e
    obtain rfl : f = 2 := by omega
    decide
  · have e' : (-1 : Int) = f := e
    omega
theorem ln_xr (t : Int) : Ln (xr t) := fun k _ h => by
  have h' : (0 : Int) ≤ -1 := h
  omega
theorem wn0 : Wn 1 2 sC (xr 2) (xr 3) := by
  have C : ∀ f, f < sC.n → (sC.cl f = if f < 4 then 0 else 17) ∧ (sC.ti f = if f < 4 then 1 else 0) := fun f hf => sC4 f (by rw [sC3.1] at hf; exact hf)
  refine ⟨fun f hf => ?_, fun f hf h => ?_, fun f hf h => ?_, fun f hf h h2 => ?_, fun f hf h => ?_, (fun p a _ h => by cases h), fun p a _ h => by cases h⟩
  · have := (C f hf).1
    split at this
    · exact .inl this
    · exact .inr (.inr (.inr this))
  · have := (C f hf).1
    split at this <;> omega
  · have := (C f hf).1
    split at this <;> omega
  · have k := (C f hf).1
    rw [sC3.2] at h2
    split at k
    · rcases (show f = 2 ∨ f = 3 by omega) with rfl | rfl
      · exact .inl (.inl rfl)
      · exact .inr (.inl rfl)
    · omega
  · obtain ⟨k1, k2⟩ := C f hf
    split at k1
    · rw [if_pos (by assumption)] at k2; exact k2
    · omega
/-- the counts at the end -/
structure Ends (S : Fs) : Prop where
  a : own S 0 = 2
  s : ((sumT S.ti S.n : Nat) : Int) = 2 + own S 1 + own S 2
  f : ((S.ct 17 : Nat) : Int) = 38 - own S 1 - own S 2
  b1 : 0 ≤ own S 1 ∧ own S 1 ≤ 40
  b2 : 0 ≤ own S 2 ∧ own S 2 ≤ 40
theorem own_at (S : Fs) (k : Nat) (h : k ≤ 16) : own S k = S.ct k := by
  unfold own
  rw [if_pos ⟨by omega, by omega⟩, Int.toNat_natCast]
theorem ends {z : Zs} {y : Tp} (h : W2 40 1 2 z y) (sn : z.S.n = 40 ∧ z.S.fi = 2) (cx : Cd z.x) (cy : Cd y) : Ends z.S := by
  obtain ⟨k1, k2, k3⟩ := h.wn.counts h.iv.ok h.iv.fst cx cy
  have o0 : own z.S 0 = z.S.ct 0 := own_at z.S 0 (by decide)
  have o1 : own z.S 1 = z.S.ct 1 := own_at z.S 1 (by decide)
  have o2 : own z.S 2 = z.S.ct 2 := own_at z.S 2 (by decide)
  exact ⟨by omega, by omega, by omega, by omega, by omega⟩
namespace stageBack
set_option maxHeartbeats 12800000 in
theorem walk (ad : Option Addr) (len cap : Nat) (w : World) (hL : SZ w ∧ E.BT w) (hA : ActsIn w ad len) (hl : (len : Int) ≤ 9223372036854775807) :
    Calls Tryd.prog 4 #[.slice ad len cap] w fun e w' => e = .returned (.bool true) ∧ Below w.heap.size w w' := by
  have BG := begin_ub 40 40 2 w hL.1 hL.2 (by decide) (by decide) (by decide) sC1.1 sC1.2
  have hlen : (List.replicate (40 * 256) (0 : Int)).length = 40 * 256 := List.length_replicate
  have ok0 := nwS_ok 40 2 (by decide) (by decide) (by decide)
  have HA : Hid (ActsIn w ad len) := hA
  clear hA
  go_enter Tryd.func4, Tryd.ntmps4
  go_wp2_with fail
  refine BG.mono ?_
  rintro e w1 ⟨N1, N2, Q, b, g, D, c', h, R, r, rfl, T0, L0, U0, T1, L1, U1, p2, hlo, bj, ub0, ub1, nU⟩
  have i0 := (Iv.fresh (O := fun _ => False) (by decide) hlen ok0.1 ok0.2 (fun _ e => e.elim) sC1.1).next sC1.2
  have i1 := Iv.fresh (n := 40) (O := TF (xr 2)) (m := takeM 40 (List.replicate (40 * 256) 0) (nwS 40 2 2)) (S := takeS 40 (nwS 40 2 2)) (by decide) (takeM_len hlen (by decide)) (Iv.fresh (O := fun _ => False) (by decide) hlen ok0.1 ok0.2 (fun _ e => e.elim) sC1.1).ok (Iv.fresh (O := fun _ => False) (by decide) hlen ok0.1 ok0.2 (fun _ e => e.elim) sC1.1).fst sC5 sC1.2
  rw [sC2.1, sC2.2] at p2
  rw [sC2.1] at ub0
  rw [sC2.2] at ub1
  rw [sC2.2] at i1
  simp only [sC2.1, sC2.2] at i0
  rw [show (fun f => False ∨ TF (xr 3) f) = TF (xr 3) from funext fun f => propext ⟨fun h => h.resolve_left id, .inr⟩] at i0
  have w2 : W2 40 1 2 ⟨takeM 40 (takeM 40 (List.replicate (40 * 256) 0) (nwS 40 2 2)) (takeS 40 (nwS 40 2 2)), sC, xr 2⟩ (xr 3) := ⟨i0, i1, wn0, ln_xr 2, ln_xr 3, by rw [sC3.1]; decide⟩
  have hlb := bj.lo
  have H1 : Hid (∃ B q, LP w w1 N1 40 B Q b g D T0 L0 T1 L1 c' h R r U0 U1 q ⟨takeM 40 (takeM 40 (List.replicate (40 * 256) 0) (nwS 40 2 2)) (takeS 40 (nwS 40 2 2)), sC, xr 2⟩ (xr 3)) :=
    ⟨_, _, ⟨p2.s0, p2.s1, p2.nT, p2.nL, ⟨bj.rz, ub0⟩, ⟨bj.rz, ub1⟩, nU, bj.wb, bj.gh, bj.bel, ⟨hlo.1, hlo.2.1, hlb.1, hlb.2.1, hlo.2.2.2.2.1, hlb.2.2.2.1, (fun k hk => .inl (.inl (by show k < N2; omega))), hlb.2.2.2.2.2⟩, ⟨hlo.2.2.1, hlo.2.2.2.1, hlo.2.2.2.2.2⟩⟩, w2, ⟨rfl, rfl, rfl, rfl⟩, ⟨rfl, rfl, rfl, rfl⟩, ⟨by show (0 : Int) ≤ 2; decide, by show (0 : Int) ≤ 3; decide⟩, ⟨sC3.1, sC3.2⟩⟩
  clear BG p2 hlo bj i0 i1 hL ok0 hlen ub0 ub1 nU w2 hlb
  obtain ⟨B, q, H2⟩ := H1.out
  have H1 : Hid (_) := H2
  clear H2
  generalize (⟨takeM 40 (takeM 40 (List.replicate (40 * 256) 0) (nwS 40 2 2)) (takeS 40 (nwS 40 2 2)), sC, xr 2⟩ : Zs) = z0 at *
  generalize xr 3 = y0 at *
  go_wp2_with fail
  go_loopw [5] (fun v wr => ∃ j : Nat, j ≤ len ∧ v = .int .i64 j ∧ ∃ z y, Hid (LP w wr N1 40 B Q b g D T0 L0 T1 L1 c' h R r U0 U1 q z y)) (fun v _ => len - (intOf v).toNat)
  case atStart => exact ⟨0, by omega, rfl, _, _, H1⟩
  case round =>
    obtain ⟨j, hj, rfl, z, y, HJ⟩ := hrel
    clear H1
    by_cases hjl : j < len
    · have p1 : decide ((j : Int) < len) = true := decide_eq_true (by omega)
      have hj0 : (j : Int) < len := by omega
      have hj3 : (j : Int) < 9223372036854775807 := by omega
      obtain ⟨kb, off, rfl, hkb, x, hx, hAc⟩ := HA.out.at hjl
      obtain ⟨a0, a1, a2, a3, a4, a5, a6⟩ := hAc.below HJ.out.pf.bel hkb
      have lB : kb < wr.heap.size := Nat.lt_of_lt_of_le hkb HJ.out.pf.bel.size
      by_cases h4 : x.kd = 4
      · rw [h4] at a0
        have HJ2 := HJ
        clear HJ hAc a1 a2 a3 a4 a5 a6
        go_wp2_with fail
        go_roundw
        case rel => exact ⟨j + 1, by omega, by go_num, _, _, HJ2⟩
        case measure => simp [intOf]; omega
      · have CD := HJ.out.does x h4
        unfold acA at CD
        obtain ⟨kd, hkd⟩ : ∃ kd, x.kd = kd := ⟨_, rfl⟩
        rw [hkd] at a0 CD h4
        have p4 : (kd != 4) = true := by simpa using h4
        have p4b : (kd == 4) = false := by simpa using h4
        clear HJ hAc hkd
        generalize x.wh = wh at *
        generalize x.pa = pa at *
        generalize x.fr = fr at *
        generalize x.a = ra at *
        generalize x.b = rb at *
        generalize x.c = rc at *
        go_wp2_with fail
        refine CD.mono ?_
        rintro e w2 ⟨rfl, z2, y2, h2⟩
        have H2 : Hid (_) := h2
        clear CD h2 a0 a1 a2 a3 a4 a5 a6 lB
        go_wp2_with fail
        go_roundw
        case rel => exact ⟨j + 1, by omega, by go_num, _, _, H2⟩
        case measure => simp [intOf]; omega
    · have p1 : decide ((j : Int) < len) = false := decide_eq_false (by omega)
      have hT0 : q[2]? = some (.pointer (some ⟨T0, 0, none⟩)) := HJ.out.q0.qT
      have hT1 : q[3]? = some (.pointer (some ⟨T1, 0, none⟩)) := HJ.out.q1.qT
      have hD : q[1]? = some (.pointer (some ⟨D, 0, none⟩)) := HJ.out.q0.qD
      have HC : Hid (∃ z y, CP w wr N1 40 B Q b g D T0 L0 1 T1 L1 2 c' h R r U0 U1 q z y ∧ 0 ≤ z.x.rt ∧ 0 ≤ y.rt) := ⟨z, y, HJ.out.cp, HJ.out.rt.1, HJ.out.rt.2⟩
      clear HJ HA
      go_wp2_with fail
      go_loopw [6] (fun v wr => ∃ i : Int, (i = 0 ∨ i = 1 ∨ i = 2) ∧ v = .int .i64 i ∧ Hid (∃ z y, CP w wr N1 40 B Q b g D T0 L0 1 T1 L1 2 c' h R r U0 U1 q z y ∧ (i = 0 → 0 ≤ z.x.rt) ∧ (0 < i → Cd z.x) ∧ (i ≤ 1 → 0 ≤ y.rt) ∧ (1 < i → Cd y))) (fun v _ => 2 - (intOf v).toNat)
      case atStart =>
        obtain ⟨z, y, cp, r0, r1⟩ := HC.out
        exact ⟨0, .inl rfl, rfl, z, y, cp, fun _ => r0, fun h => by omega, fun _ => r1, fun h => by omega⟩
      case round =>
        obtain ⟨i, hi, rfl, HI⟩ := hrel
        clear HC
        rcases hi with rfl | rfl | rfl
        · obtain ⟨z, y, cp, k0, k1, k2, _⟩ := HI.out
          have rt0 := k0 rfl
          have ry := k2 (by decide)
          have HP : Hid (CP w wr N1 40 B Q b g D T0 L0 1 T1 L1 2 c' h R r U0 U1 q z y) := cp
          obtain ⟨w2c, sg, cd⟩ := HP.out.w2.close HP.out.gs rt0
          clear cp k0 k1 k2 HI
          have d1 := (HP.out.cell 1).1.trans hD
          have lQ := (HP.out.cell 1).2
          have C1 := HP.out.count 1
          obtain ⟨o1, ho1⟩ : ∃ o, own z.S 1 = o := ⟨_, rfl⟩
          have ho2 : own (clZ 1 z).S 1 = o1 := by rw [← ho1, own_at _ 1 (by decide) |> (fun h : own (clZ 1 z).S ((1 : Nat) : Int) = _ => (show own (clZ 1 z).S 1 = _ from h)), (show own z.S 1 = _ from own_at _ 1 (by decide)), sg.count]
          obtain ⟨f1, hf1⟩ : ∃ f : Nat, z.S.ct 17 = f := ⟨_, rfl⟩
          obtain ⟨f2, hf2⟩ : ∃ f : Nat, (clZ 1 z).S.ct 17 = f := ⟨_, rfl⟩
          rw [ho1, hf1] at C1
          go_wp2_with fail
          refine C1.mono ?_
          rintro e w3 ⟨rfl, c3⟩
          have H3 : Hid (_) := c3
          have d1 := (H3.out.cell 2).1.trans hT0
          have lQ := (H3.out.cell 1).2
          have C2 := H3.out.close rt0
          clear C1 c3 HP ho1 hf1
          go_wp2_with fail
          refine C2.mono ?_
          rintro e w4 ⟨rfl, c4⟩
          have H4 : Hid (_) := c4
          have d1 := (H4.out.cell 2).1.trans hT0
          have lQ := (H4.out.cell 1).2
          have C3 := H4.out.close2 cd
          clear C2 c4 H3
          go_wp2_with fail
          refine C3.mono ?_
          rintro e w5 ⟨rfl, c5⟩
          have H5 : Hid (_) := c5
          have d1 := (H5.out.cell 2).1.trans hT0
          have lQ := (H5.out.cell 1).2
          have C4 := H5.out.root cd
          clear C3 c5 H4
          go_wp2_with fail
          refine C4.mono ?_
          rintro e w6 ⟨rfl, rfl⟩
          have d1 := (H5.out.cell 1).1.trans hD
          have lQ := (H5.out.cell 1).2
          have C5 := H5.out.count 1
          rw [ho2, hf2] at C5
          clear C4 hf2
          go_wp2_with fail
          refine C5.mono ?_
          rintro e w7 ⟨rfl, c7⟩
          have H7 : Hid (∃ z y, CP w w7 N1 40 B Q b g D T0 L0 1 T1 L1 2 c' h R r U0 U1 q z y ∧ ((1 : Int) = 0 → 0 ≤ z.x.rt) ∧ ((0 : Int) < 1 → Cd z.x) ∧ ((1 : Int) ≤ 1 → 0 ≤ y.rt) ∧ ((1 : Int) < 1 → Cd y)) := ⟨_, _, c7, fun h => by omega, fun _ => cd, fun _ => ry, fun h => by omega⟩
          clear C5 c7 H5 ho2
          go_wp2_with fail
          go_roundw
          case rel => exact ⟨1, by omega, by go_num, H7⟩
          case measure => simp [intOf]
        · obtain ⟨z, y, cp, k0, k1, k2, _⟩ := HI.out
          have cx := k1 (by decide)
          have rt0 := k2 (by decide)
          have HP : Hid (CP w wr N1 40 B Q b g D T1 L1 2 T0 L0 1 c' h R r U1 U0 q ⟨z.m, z.S, y⟩ z.x) := cp.flip
          obtain ⟨w2c, sg, cd⟩ := HP.out.w2.close HP.out.gs rt0
          clear cp k0 k1 k2 HI
          have d1 := (HP.out.cell 1).1.trans hD
          have lQ := (HP.out.cell 1).2
          have C1 := HP.out.count 2
          obtain ⟨o1, ho1⟩ : ∃ o, own (⟨z.m, z.S, y⟩ : Zs).S 2 = o := ⟨_, rfl⟩
          have ho2 : own (clZ 2 (⟨z.m, z.S, y⟩ : Zs)).S 2 = o1 := by rw [← ho1, own_at _ 2 (by decide) |> (fun h : own (clZ 2 (⟨z.m, z.S, y⟩ : Zs)).S ((2 : Nat) : Int) = _ => (show own (clZ 2 (⟨z.m, z.S, y⟩ : Zs)).S 2 = _ from h)), (show own (⟨z.m, z.S, y⟩ : Zs).S 2 = _ from own_at _ 2 (by decide)), sg.count]
          obtain ⟨f1, hf1⟩ : ∃ f : Nat, (⟨z.m, z.S, y⟩ : Zs).S.ct 17 = f := ⟨_, rfl⟩
          obtain ⟨f2, hf2⟩ : ∃ f : Nat, (clZ 2 (⟨z.m, z.S, y⟩ : Zs)).S.ct 17 = f := ⟨_, rfl⟩
          rw [ho1, hf1] at C1
          go_wp2_with fail
          refine C1.mono ?_
          rintro e w3 ⟨rfl, c3⟩
          have H3 : Hid (_) := c3
          have d1 := (H3.out.cell 3).1.trans hT1
          have lQ := (H3.out.cell 1).2
          have C2 := H3.out.close rt0
          clear C1 c3 HP ho1 hf1
          go_wp2_with fail
          refine C2.mono ?_
          rintro e w4 ⟨rfl, c4⟩
          have H4 : Hid (_) := c4
          have d1 := (H4.out.cell 3).1.trans hT1
          have lQ := (H4.out.cell 1).2
          have C3 := H4.out.close2 cd
          clear C2 c4 H3
          go_wp2_with fail
          refine C3.mono ?_
          rintro e w5 ⟨rfl, c5⟩
          have H5 : Hid (_) := c5
          have d1 := (H5.out.cell 3).1.trans hT1
          have lQ := (H5.out.cell 1).2
          have C4 := H5.out.root cd
          clear C3 c5 H4
          go_wp2_with fail
          refine C4.mono ?_
          rintro e w6 ⟨rfl, rfl⟩
          have d1 := (H5.out.cell 1).1.trans hD
          have lQ := (H5.out.cell 1).2
          have C5 := H5.out.count 2
          rw [ho2, hf2] at C5
          clear C4 hf2
          go_wp2_with fail
          refine C5.mono ?_
          rintro e w7 ⟨rfl, c7⟩
          have H7 : Hid (∃ z y, CP w w7 N1 40 B Q b g D T0 L0 1 T1 L1 2 c' h R r U0 U1 q z y ∧ ((2 : Int) = 0 → 0 ≤ z.x.rt) ∧ ((0 : Int) < 2 → Cd z.x) ∧ ((2 : Int) ≤ 1 → 0 ≤ y.rt) ∧ ((1 : Int) < 2 → Cd y)) := ⟨_, _, c7.flip, fun h => by omega, fun _ => cx, fun h => by omega, fun _ => cd⟩
          clear C5 c7 H5 ho2
          go_wp2_with fail
          go_roundw
          case rel => exact ⟨2, by omega, by go_num, H7⟩
          case measure => simp [intOf]
        · obtain ⟨z, y, cp, k0, k1, k2, k3⟩ := HI.out
          have en := ends cp.w2 cp.sn (k1 (by decide)) (k3 (by decide))
          have HP : Hid (CP w wr N1 40 B Q b g D T0 L0 1 T1 L1 2 c' h R r U0 U1 q z y) := cp
          obtain ⟨o1, ho1⟩ : ∃ o, own z.S 1 = o := ⟨_, rfl⟩
          obtain ⟨o2, ho2⟩ : ∃ o, own z.S 2 = o := ⟨_, rfl⟩
          obtain ⟨ea, es, ef, eb1, eb2⟩ := en
          rw [ho1] at es ef eb1
          rw [ho2] at es ef eb2
          have HE : Hid (own z.S 0 = 2 ∧ ((sumT z.S.ti z.S.n : Nat) : Int) = 2 + o1 + o2 ∧ ((z.S.ct 17 : Nat) : Int) = 38 - o1 - o2 ∧ own z.S 1 = o1 ∧ own z.S 2 = o2) := ⟨ea, es, ef, ho1, ho2⟩
          obtain ⟨e1, e2⟩ := eb1
          obtain ⟨e3, e4⟩ := eb2
          clear cp k0 k1 k2 k3 HI ea es ef ho1 ho2
          have d1 := (HP.out.cell 1).1.trans hD
          have lQ := (HP.out.cell 1).2
          have C1 := HP.out.count 0
          rw [HE.out.2.2.1, HE.out.1] at C1
          go_wp2_with fail
          refine C1.mono ?_
          rintro e v0 ⟨rfl, c0⟩
          have G0 : Hid (_) := c0
          have d1 := (G0.out.cell 1).1.trans hD
          have lQ := (G0.out.cell 1).2
          clear C1 c0 HP
          have C1 := G0.out.count 1
          rw [HE.out.2.2.1, HE.out.2.2.2.1] at C1
          go_wp2_with fail
          refine C1.mono ?_
          rintro e v1 ⟨rfl, c1⟩
          have G1 : Hid (_) := c1
          have d1 := (G1.out.cell 1).1.trans hD
          have lQ := (G1.out.cell 1).2
          clear C1 c1 G0
          have C1 := G1.out.count 2
          rw [HE.out.2.2.1, HE.out.2.2.2.2] at C1
          go_wp2_with fail
          refine C1.mono ?_
          rintro e v2 ⟨rfl, c2⟩
          have G2 : Hid (_) := c2
          have d1 := (G2.out.cell 1).1.trans hD
          have lQ := (G2.out.cell 1).2
          clear C1 c2 G1
          have C1 := G2.out.sum
          rw [HE.out.2.1] at C1
          go_wp2_with fail
          refine C1.mono ?_
          rintro e v3 ⟨rfl, c3⟩
          have HB : Hid (Below w.heap.size w v3) := c3.bel
          clear C1 c3 G2
          go_wp2_with fail
          go_ret
          exact ⟨rfl, HB.out⟩
end stageBack
end Go.Proofs.YteghkhdpdeiocaaDoor
