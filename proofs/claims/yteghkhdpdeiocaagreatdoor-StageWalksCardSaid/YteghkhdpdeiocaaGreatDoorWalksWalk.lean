/-
  The walk of StageWalks: the acts.
-/
import Derived.Test.YteghkhdpdeiocaaGreatDoorWz
import Derived.Test.YteghkhdpdeiocaaGreatDoorSw
import Derived.Deep.MidRow
import Derived.Deep.RegionHeld
namespace Go.Proofs.YteghkhdpdeiocaaGreatDoor
open Go.RowKit Go.Maps
set_option linter.unusedVariables false
set_option maxRecDepth 100000
theorem nwS_ok (n f : Nat) (h1 : 1 ≤ n) (h2 : n ≤ 65536) (h3 : f ≤ n) : Ok (nwS n f f) ∧ Fst (nwS n f f) := by
  refine ⟨⟨h1, h2, h3, fun i => ?_, fun i hi => ?_, fun k => by simp only [nwS]; omega⟩, fun i hi => ?_⟩
  · simp only [nwS]
    split <;> omega
  · simp only [nwS]
    split <;> omega
  · have hi' : i < f := hi
    simp only [nwS]
    rw [if_pos hi']
def sC : Fs := takeS 40 (takeS 40 (nwS 40 1 1))
theorem sC1 : takeE 40 (nwS 40 1 1) = 0 ∧ takeE 40 (takeS 40 (nwS 40 1 1)) = 0 := by decide
theorem sC2 : alR (nwS 40 1 1) 0 = 1 ∧ alR (takeS 40 (nwS 40 1 1)) 0 = 2 := by decide
theorem sC3 : sC.n = 40 ∧ sC.fi = 1 := by decide
theorem sC4 : ∀ f, f < 40 → (sC.cl f = if f < 3 then 0 else 17) ∧ (sC.ti f = if f < 3 then 1 else 0) := by decide
theorem sC5 : ∀ f : Nat, TF (xr 1) f → (takeS 40 (nwS 40 1 1)).cl f = 0 := by
  rintro f (e | ⟨k, _, e⟩)
  · have e' : (1 : Int) = f := e
    obtain rfl : f = 1 := by omega
    decide
  · have e' : (-1 : Int) = f := e
    omega
theorem ln_xr (t : Int) : Ln (xr t) := fun k _ h => by
  have h' : (0 : Int) ≤ -1 := h
  omega
theorem wn0 : Wn 1 2 sC (xr 1) (xr 2) := by
  have C : ∀ f, f < sC.n → (sC.cl f = if f < 3 then 0 else 17) ∧ (sC.ti f = if f < 3 then 1 else 0) := fun f hf => sC4 f (by rw [sC3.1] at hf; exact hf)
  refine ⟨fun f hf => ?_, fun f hf h => ?_, fun f hf h => ?_, fun f hf h h2 => ?_, fun f hf h => ?_, (fun p a _ h => by cases h), fun p a _ h => by cases h⟩
  · have := (C f hf).1
    split at this
    · exact .inl this
    · exact .inr (.inr (.inr this))
  · have := (C f hf).1
    split at this <;> omega
  · have := (C f hf).1
    split at this <;> omega
  · have k := (C f hf).1
    rw [sC3.2] at h2
    split at k
    · rcases (show f = 1 ∨ f = 2 by omega) with rfl | rfl
      · exact .inl (.inl rfl)
      · exact .inr (.inl rfl)
    · omega
  · obtain ⟨k1, k2⟩ := C f hf
    split at k1
    · rw [if_pos (by assumption)] at k2; exact k2
    · omega
theorem below_box' (w : World) (o : Obj) : Below w.heap.size w (w.alloc o) := (Below.refl _ _).alloc (Nat.le_refl _) _
namespace stageWalks
set_option maxHeartbeats 12800000 in
theorem walk (ad : Option Addr) (len cap : Nat) (w : World) (hL : SZ w ∧ E.BT w) (hA : ActsIn w ad len) (hl : (len : Int) ≤ 9223372036854775807) :
    Calls Tryz.prog 4 #[.slice ad len cap] w fun e w' => e = .returned (.bool true) ∧ Below w.heap.size w w' := by
  have BG := begin_ub 40 40 1 w hL.1 hL.2 (by decide) (by decide) (by decide) sC1.1 sC1.2
  have hlen : (List.replicate (40 * 256) (0 : Int)).length = 40 * 256 := List.length_replicate
  have ok0 := nwS_ok 40 1 (by decide) (by decide) (by decide)
  have HA : Hid (ActsIn w ad len) := hA
  clear hA
  go_enter Tryz.func4, Tryz.ntmps4
  go_wp2_with fail
  refine BG.mono ?_
  rintro e w1 ⟨N1, N2, Q, b, g, D, c', h, R, r, rfl, T0, L0, U0, T1, L1, U1, p2, hlo, bj, ub0, ub1, nU⟩
  have i0 := (Iv.fresh (O := fun _ => False) (by decide) hlen ok0.1 ok0.2 (fun _ e => e.elim) sC1.1).next sC1.2
  have i1 := Iv.fresh (n := 40) (O := TF (xr 1)) (m := takeM 40 (List.replicate (40 * 256) 0) (nwS 40 1 1)) (S := takeS 40 (nwS 40 1 1)) (by decide) (takeM_len hlen (by decide)) (Iv.fresh (O := fun _ => False) (by decide) hlen ok0.1 ok0.2 (fun _ e => e.elim) sC1.1).ok (Iv.fresh (O := fun _ => False) (by decide) hlen ok0.1 ok0.2 (fun _ e => e.elim) sC1.1).fst sC5 sC1.2
  rw [sC2.1, sC2.2] at p2
  rw [sC2.1] at ub0
  rw [sC2.2] at ub1
  rw [sC2.2] at i1
  simp only [sC2.1, sC2.2] at i0
  rw [show (fun f => False ∨ TF (xr 2) f) = TF (xr 2) from funext fun f => propext ⟨fun h => h.resolve_left id, .inr⟩] at i0
  have w2 : W2 40 1 2 ⟨takeM 40 (takeM 40 (List.replicate (40 * 256) 0) (nwS 40 1 1)) (takeS 40 (nwS 40 1 1)), sC, xr 1⟩ (xr 2) := ⟨i0, i1, wn0, ln_xr 2, ln_xr 2, by rw [sC3.1]; decide⟩
  have hlb := bj.lo
  have H1 : Hid (∃ B q, LP w w1 N1 40 B Q b g D T0 L0 T1 L1 c' h R r U0 U1 q ⟨takeM 40 (takeM 40 (List.replicate (40 * 256) 0) (nwS 40 1 1)) (takeS 40 (nwS 40 1 1)), sC, xr 1⟩ (xr 2) ∧ q[0]? = some (.pointer (some ⟨b, 0, none⟩))) :=
    ⟨_, _, ⟨⟨p2.s0, p2.s1, p2.nT, p2.nL, ⟨bj.rz, ub0⟩, ⟨bj.rz, ub1⟩, nU, bj.wb, bj.gh, bj.bel, ⟨hlo.1, hlo.2.1, hlb.1, hlb.2.1, hlo.2.2.2.2.1, hlb.2.2.2.1, (fun k hk => .inl (.inl (by show k < N2; omega))), hlb.2.2.2.2.2⟩, ⟨hlo.2.2.1, hlo.2.2.2.1, hlo.2.2.2.2.2⟩⟩, w2, ⟨rfl, rfl, rfl, rfl⟩, ⟨rfl, rfl, rfl, rfl⟩, ⟨by show (0 : Int) ≤ 1; decide, by show (0 : Int) ≤ 2; decide⟩, ⟨sC3.1, sC3.2⟩⟩, rfl⟩
  clear BG p2 hlo bj i0 i1 hL ok0 hlen ub0 ub1 nU w2 hlb
  obtain ⟨B, q, H2, hb0⟩ := H1.out
  have H1 : Hid (_) := H2
  clear H2
  generalize (⟨takeM 40 (takeM 40 (List.replicate (40 * 256) 0) (nwS 40 1 1)) (takeS 40 (nwS 40 1 1)), sC, xr 1⟩ : Zs) = z0 at *
  generalize xr 2 = y0 at *
  go_wp2_with fail
  go_loopw [5] (fun v wr => ∃ j : Nat, j ≤ len ∧ v = .int .i64 j ∧ ∃ z y, Hid (LP w wr N1 40 B Q b g D T0 L0 T1 L1 c' h R r U0 U1 q z y)) (fun v _ => len - (intOf v).toNat)
  case atStart => exact ⟨0, by omega, rfl, _, _, H1⟩
  case round =>
    obtain ⟨j, hj, rfl, z, y, HJ⟩ := hrel
    clear H1
    by_cases hjl : j < len
    · have p1 : decide ((j : Int) < len) = true := decide_eq_true (by omega)
      have hj0 : (j : Int) < len := by omega
      have hj3 : (j : Int) < 9223372036854775807 := by omega
      obtain ⟨kb, off, rfl, hkb, x, hx, hAc⟩ := HA.out.at hjl
      obtain ⟨a0, a1, a2, a3, a4, a5, a6⟩ := hAc.below HJ.out.pf.bel hkb
      have lB : kb < wr.heap.size := Nat.lt_of_lt_of_le hkb HJ.out.pf.bel.size
      clear hx
      obtain ⟨kd, wh, pa, fr, ra, rb, rc⟩ := x
      simp only at a0 a1 a2 a3 a4 a5 a6
      by_cases h4 : kd = 4
      · subst h4
        clear hAc
        have HB0 : Hid (LP w (wr.alloc (.cells #[.int .i64 0, .int .i64 wh, .int .i64 pa, .int .i64 fr, .bool ra, .bool rb, .bool rc] 31)) N1 40 B Q b g D T0 L0 T1 L1 c' h R r U0 U1 q z y) := HJ.out.below (below_box' wr _)
        have CD := HB0.out.does ⟨0, wh, pa, fr, ra, rb, rc⟩ ( by show (0 : Int) ≠ 4; decide)
        have hh := heap_alloc_at wr (.cells #[.int .i64 0, .int .i64 wh, .int .i64 pa, .int .i64 fr, .bool ra, .bool rb, .bool rc] 31)
        have b0 := (cell_at hh 0)
        have b1 := (cell_at hh 1)
        have b2 := (cell_at hh 2)
        have b3 := (cell_at hh 3)
        have b4 := (cell_at hh 4)
        have b5 := (cell_at hh 5)
        have b6 := (cell_at hh 6)
        have bl := lt_of_heap hh
        unfold acA at CD
        clear hh HJ HB0
        go_upto_region 10 with fail
        clear a0 a1 a2 a3 a4 a5 a6 lB
        go_wp2_with fail
        refine CD.mono ?_
        rintro e w2 ⟨rfl, z2, y2, h2⟩
        have H2 : Hid (_) := h2
        clear CD h2 b0 b1 b2 b3 b4 b5 b6 bl
        go_wp2_with fail
        go_roundw
        case rel => exact ⟨j + 1, by omega, by go_num, _, _, H2⟩
        case measure => simp [intOf]; omega
      · have p4 : (kd == 4) = false := by simpa using h4
        clear hAc
        have HB0 : Hid (LP w (wr.alloc (.cells #[.int .i64 kd, .int .i64 wh, .int .i64 pa, .int .i64 fr, .bool ra, .bool rb, .bool rc] 31)) N1 40 B Q b g D T0 L0 T1 L1 c' h R r U0 U1 q z y) := HJ.out.below (below_box' wr _)
        have CD := HB0.out.does ⟨kd, wh, pa, fr, ra, rb, rc⟩ (h4)
        have hh := heap_alloc_at wr (.cells #[.int .i64 kd, .int .i64 wh, .int .i64 pa, .int .i64 fr, .bool ra, .bool rb, .bool rc] 31)
        have b0 := (cell_at hh 0)
        have b1 := (cell_at hh 1)
        have b2 := (cell_at hh 2)
        have b3 := (cell_at hh 3)
        have b4 := (cell_at hh 4)
        have b5 := (cell_at hh 5)
        have b6 := (cell_at hh 6)
        have bl := lt_of_heap hh
        unfold acA at CD
        clear hh HJ HB0
        go_upto_region 10 with fail
        clear a0 a1 a2 a3 a4 a5 a6 lB
        go_wp2_with fail
        refine CD.mono ?_
        rintro e w2 ⟨rfl, z2, y2, h2⟩
        have H2 : Hid (_) := h2
        clear CD h2 b0 b1 b2 b3 b4 b5 b6 bl
        go_wp2_with fail
        go_roundw
        case rel => exact ⟨j + 1, by omega, by go_num, _, _, H2⟩
        case measure => simp [intOf]; omega
    · have p1 : decide ((j : Int) < len) = false := decide_eq_false (by omega)
      have HLP : Hid (_) := HJ.out
      have hD : q[1]? = some (.pointer (some ⟨D, 0, none⟩)) := HJ.out.q0.qD
      clear HJ HA
      go_upto_region 12 with fail
      obtain ⟨yK, rfl⟩ : ∃ y, y = wr := ⟨_, rfl⟩
      have HG : Hid (∀ i, i < 2 → ∃ (O : Nat → Prop) (zi : Zs) (Ti Li : Nat), q[2 + i]? = some (.pointer (some ⟨Ti, 0, none⟩)) ∧ GD yK B b g D (1 + i) Ti Li O zi ∧ zi.S = z.S ∧ zi.m = z.m) := fun i hi => HLP.out.guest hi
      have QC : Hid (∀ W, Below yK.heap.size yK W → ∀ o, W.cell? ⟨Q, o, none⟩ = q[o]? ∧ Q < W.heap.size) := fun W hb o => ⟨cell_at (HLP.out.pf.below hb).wb o, lt_of_heap (HLP.out.pf.below hb).wb⟩
      have HBL : Hid (Below w.heap.size w yK) := HLP.out.pf.bel
      clear HLP
      have hmk : ∀ w : World, (Instr.makeSlice 51 (.int .i64 40) (.int .i64 40)).run Tryz.prog w = .ok (.slice (some ⟨w.heap.size, 0, none⟩) 40 40) (w.alloc (.cells (Array.replicate 40 (.int .i64 0)) 3)) := fun w => by kernel_rfl
      have H0 : Hid (Below yK.heap.size yK (yK.alloc (.cells (Array.replicate 40 (.int .i64 0)) 3)) ∧ WR (yK.alloc (.cells (Array.replicate 40 (.int .i64 0)) 3)) yK.heap.size (fun _ => 0)) := ⟨below_box' _ _, WR.new _⟩
      go_wp2_with fail
      clear hmk
      have HKK : Hid (yK.heap.size ≤ yK.heap.size) := Nat.le_refl _
      obtain ⟨K, hKe⟩ : ∃ K, yK.heap.size = K := ⟨_, rfl⟩
      have HKK : Hid (yK.heap.size ≤ K) := Nat.le_of_eq hKe
      have H1 : Hid (Below yK.heap.size yK (yK.alloc (.cells (Array.replicate 40 (.int .i64 0)) 3)) ∧ WR (yK.alloc (.cells (Array.replicate 40 (.int .i64 0)) 3)) K (fun _ => 0)) := ⟨H0.out.1, hKe ▸ H0.out.2⟩
      rw [hKe]
      clear H0
      generalize (yK.alloc (.cells (Array.replicate 40 (.int .i64 0)) 3)) = y0 at *
      clear hKe
      go_loopw [8] (fun v wr => ∃ i : Nat, i ≤ 2 ∧ v = .int .i64 i ∧ ∃ R : Nat → Int, Hid (Below yK.heap.size yK wr ∧ WR wr K R ∧ ∀ f, f < 40 → R f = 0 ∨ R f = z.S.cl f)) (fun v _ => 2 - (intOf v).toNat)
      case atStart => exact ⟨0, by omega, rfl, fun _ => 0, H1.out.1, H1.out.2, fun _ _ => .inl rfl⟩
      case round =>
        obtain ⟨i, hi, rfl, R, HI⟩ := hrel
        clear H1
        by_cases hi2 : i < 2
        · obtain ⟨O, zi, Ti, Li, hT, G, eS, em⟩ := HG.out i hi2
          have pI : decide ((i : Int) < 2) = true := decide_eq_true (by omega)
          have hiI : (i : Int) < 2 := by omega
          go_wp2_with fail
          go_loopw [9] (fun v wr => ∃ P : Nat, P ≤ 1024 ∧ v = .int .i64 P ∧ ∃ R : Nat → Int, Hid (Below yK.heap.size yK wr ∧ WR wr K R ∧ ∀ f, f < 40 → R f = 0 ∨ R f = z.S.cl f)) (fun v _ => 1024 - (intOf v).toNat)
          case atStart => exact ⟨0, by omega, rfl, R, HI⟩
          case round =>
            clear HI R
            obtain ⟨P, hP0, rfl, R, HI⟩ := hrel
            by_cases hP : P < 1024
            · have pP : decide ((P : Int) < 1024) = true := decide_eq_true (by omega)
              have hPI : (P : Int) < 1024 := by omega
              obtain ⟨tt, htt⟩ : ∃ tt : Int, ((256 * P : Nat) : Int) = tt := ⟨_, rfl⟩
              have hmul : IntKind.i64.wrap (256 * (P : Int)) = tt := by rw [← htt, IntKind.wrap_i64]; omega
              have hcv : IntKind.u64.wrap tt = tt := by rw [← htt, IntKind.wrap_u64]; omega
              have HTT : Hid (((256 * P : Nat) : Int) = tt) := htt
              obtain ⟨fr, ra, rb, rc, ok, tl⟩ := G.told hP
              have CL := G.look tl HI.out.1
              have HTL : Hid (Tl zi P fr ra rb rc ok) := tl
              have q2 := (QC.out _ HI.out.1 (2 + i)).1.trans hT
              have lQ := (QC.out _ HI.out.1 0).2
              clear htt tl
              go_wp2_with fail
              refine CL.mono ?_
              rintro e w7 ⟨rfl, hb7⟩
              have H7 : Hid (Below yK.heap.size yK (w7.alloc (.cells #[.bool ra, .bool rb, .bool rc] 29)) ∧ WR (w7.alloc (.cells #[.bool ra, .bool rb, .bool rc] 29)) K R ∧ (w7.alloc (.cells #[.bool ra, .bool rb, .bool rc] 29)).heap[w7.heap.size]? = some (.cells #[.bool ra, .bool rb, .bool rc] 29 (0, 0))) := by
                have hb := hb7.alloc hb7.size (.cells #[.bool ra, .bool rb, .bool rc] 29)
                exact ⟨HI.out.1.trans (hb.mono HI.out.1.size), HI.out.2.1.below hb, heap_alloc_at _ _⟩
              have HRR : Hid (∀ f, f < 40 → R f = 0 ∨ R f = z.S.cl f) := HI.out.2.2
              clear CL hb7 q2 lQ HI
              go_wp2_with fail
              generalize (w7.alloc (.cells #[.bool ra, .bool rb, .bool rc] 29)) = y7 at *
              generalize w7.heap.size = K2 at *
              go_loopw [13] (fun v wr => ∃ j : Nat, j ≤ 3 ∧ v = .int .i64 j ∧ Hid (Below yK.heap.size yK wr ∧ WR wr K R ∧ wr.heap[K2]? = some (.cells #[.bool ra, .bool rb, .bool rc] 29 (0, 0)))) (fun v _ => 3 - (intOf v).toNat)
              case atStart => exact ⟨0, by omega, rfl, H7⟩
              case round =>
                clear H7
                obtain ⟨j, hj0, rfl, HJ⟩ := hrel
                by_cases hj : j < 3
                · have pj : decide ((j : Int) < 3) = true := decide_eq_true (by omega)
                  have hjI : (j : Int) < 3 := by omega
                  obtain ⟨f1, d1, d2, d3, d4, l1, ON0, hf1⟩ := G.one hP HTL.out hj
                  rw [HTT.out] at ON0
                  obtain ⟨bv, hbv⟩ : ∃ bv, (ok && may j ra rb rc) = bv := ⟨_, rfl⟩
                  have HBV : Hid ((ok && may j ra rb rc) = bv ∧ (bv = true → f1 = fr)) := ⟨hbv, fun e => hf1 (hbv.trans e)⟩
                  rw [hbv] at ON0
                  have ON : Hid (_) := ON0
                  have RT : Hid (∀ W, Below yK.heap.size yK W → Calls Tryz.prog 12 #[.pointer (some ⟨Ti, 0, none⟩)] W fun e w' => e = .returned (.int .i64 zi.x.rt) ∧ w' = W) := fun W hW => G.root hW
                  have HK : Hid (∀ W, Below wr.heap.size wr W → Below yK.heap.size yK W) := fun W hb => HJ.out.1.trans (hb.mono HJ.out.1.size)
                  have q0 := (QC.out _ HJ.out.1 0).1.trans hb0
                  have q2 := (QC.out _ HJ.out.1 (2 + i)).1.trans hT
                  have lQ := (QC.out _ HJ.out.1 0).2
                  clear ON0 hf1 hbv
                  go_upto_region 23 with fail
                  go_cut [14, 15] from 70 to 88 (fun u v wx => v = .bool bv ∧ ∃ q1, u = .pointer (some ⟨q1, 0, none⟩) ∧ Below wr.heap.size wr wx ∧ wx.cell? ⟨q1, 0, none⟩ = some (.int .i64 f1) ∧ q1 < wx.heap.size)
                  case first => as_aux_lemma =>
                    have hS0 : Below wr.heap.size wr wr.drew := (Below.refl _ _).drew
                    have hi55 : (Tryz.prog.info? 55).map (·.size) = some 6 := by kernel_rfl
                    refine wp_region_held_drew (S := fun W : World => Below wr.heap.size wr W) (by kernel_rfl) hS0 (fun _ => ?_)
                    refine wpAnyH_take (i := 0) (v := .pointer (some ⟨Q, 0, none⟩)) rfl (by kernel_rfl) (by kernel_rfl) (by kernel_rfl) (fun _ _ _ h => h) (Or.inl ⟨by rfl, ?_⟩) hS0 ?_
                    · intro wq hw
                      go_simp
                    try simp only [Act.put, List.getElem_toArray, List.getElem_cons_zero, List.setIfInBounds_toArray, List.set_cons_zero, List.set_cons_succ]
                    refine wpAnyH_take (i := 1) (v := .pointer (some ⟨Q, 0, none⟩)) rfl (by kernel_rfl) (by kernel_rfl) (by kernel_rfl) (fun _ _ _ h => h) (Or.inl ⟨by rfl, ?_⟩) hS0 ?_
                    · intro wq hw
                      go_simp
                    try simp only [Act.put, List.getElem_toArray, List.getElem_cons_succ, List.getElem_cons_zero, List.setIfInBounds_toArray, List.set_cons_zero, List.set_cons_succ]
                    refine wpAnyH_take (i := 2) (v := .pointer (some ⟨Q, 0, none⟩)) rfl (by kernel_rfl) (by kernel_rfl) (by kernel_rfl) (fun _ _ _ h => h) (Or.inl ⟨by rfl, ?_⟩) hS0 ?_
                    · intro wq hw
                      go_simp
                    try simp only [Act.put, List.getElem_toArray, List.getElem_cons_succ, List.getElem_cons_zero, List.setIfInBounds_toArray, List.set_cons_zero, List.set_cons_succ]
                    refine wpAnyH_take (i := 3) (v := .pointer (some ⟨b, 0, none⟩)) rfl (by kernel_rfl) (by kernel_rfl) (by kernel_rfl) (fun _ _ _ h => h) (Or.inl ⟨by rfl, ?_⟩) hS0 ?_
                    · intro wq hw
                      have hc := ((hw : Below wr.heap.size wr wq).cell (p := ⟨Q, 0, none⟩) lQ).trans q0
                      have hl := lt_cell' hc
                      go_simp
                    try simp only [Act.put, List.getElem_toArray, List.getElem_cons_succ, List.getElem_cons_zero, List.setIfInBounds_toArray, List.set_cons_zero, List.set_cons_succ]
                    refine wpAnyH_take (i := 4) (v := .iface 36 (.pointer (some ⟨b, 0, none⟩))) rfl (by kernel_rfl) (by kernel_rfl) (by kernel_rfl) (fun _ _ _ h => h) (Or.inl ⟨by rfl, ?_⟩) hS0 ?_
                    · intro wq hw
                      go_simp
                    try simp only [Act.put, List.getElem_toArray, List.getElem_cons_succ, List.getElem_cons_zero, List.setIfInBounds_toArray, List.set_cons_zero, List.set_cons_succ]
                    refine wpAnyH_take (i := 5) (v := .pointer (some ⟨Q, 0, none⟩)) rfl (by kernel_rfl) (by kernel_rfl) (by kernel_rfl) (fun _ _ _ h => h) (Or.inl ⟨by rfl, ?_⟩) hS0 ?_
                    · intro wq hw
                      go_simp
                    try simp only [Act.put, List.getElem_toArray, List.getElem_cons_succ, List.getElem_cons_zero, List.setIfInBounds_toArray, List.set_cons_zero, List.set_cons_succ]
                    refine wpAnyH_take (i := 6) (v := .int .i64 i) rfl (by kernel_rfl) (by kernel_rfl) (by kernel_rfl) (fun _ _ _ h => h) (Or.inl ⟨by rfl, ?_⟩) hS0 ?_
                    · intro wq hw
                      go_simp
                    try simp only [Act.put, List.getElem_toArray, List.getElem_cons_succ, List.getElem_cons_zero, List.setIfInBounds_toArray, List.set_cons_zero, List.set_cons_succ]
                    refine wpAnyH_take (i := 7) (v := .pointer (some ⟨Q, 0, none⟩)) rfl (by kernel_rfl) (by kernel_rfl) (by kernel_rfl) (fun _ _ _ h => h) (Or.inl ⟨by rfl, ?_⟩) hS0 ?_
                    · intro wq hw
                      go_simp
                    try simp only [Act.put, List.getElem_toArray, List.getElem_cons_succ, List.getElem_cons_zero, List.setIfInBounds_toArray, List.set_cons_zero, List.set_cons_succ]
                    refine wpAnyH_take (i := 8) (v := .pointer (some ⟨Q, 2, none⟩)) rfl (by kernel_rfl) (by kernel_rfl) (by kernel_rfl) (fun _ _ _ h => h) (Or.inl ⟨by rfl, ?_⟩) hS0 ?_
                    · intro wq hw
                      go_simp
                    try simp only [Act.put, List.getElem_toArray, List.getElem_cons_succ, List.getElem_cons_zero, List.setIfInBounds_toArray, List.set_cons_zero, List.set_cons_succ]
                    refine wpAnyH_take (i := 12) (v := .int .i64 P) rfl (by kernel_rfl) (by kernel_rfl) (by kernel_rfl) (fun _ _ _ h => h) (Or.inl ⟨by rfl, ?_⟩) hS0 ?_
                    · intro wq hw
                      go_simp
                    try simp only [Act.put, List.getElem_toArray, List.getElem_cons_succ, List.getElem_cons_zero, List.setIfInBounds_toArray, List.set_cons_zero, List.set_cons_succ]
                    refine wpAnyH_take (i := 13) (v := .int .i64 tt) rfl (by kernel_rfl) (by kernel_rfl) (by kernel_rfl) (fun _ _ _ h => h) (Or.inl ⟨by rfl, ?_⟩) hS0 ?_
                    · intro wq hw
                      go_simp
                    try simp only [Act.put, List.getElem_toArray, List.getElem_cons_succ, List.getElem_cons_zero, List.setIfInBounds_toArray, List.set_cons_zero, List.set_cons_succ]
                    refine wpAnyH_take (i := 14) (v := .int .u64 tt) rfl (by kernel_rfl) (by kernel_rfl) (by kernel_rfl) (fun _ _ _ h => h) (Or.inl ⟨by rfl, ?_⟩) hS0 ?_
                    · intro wq hw
                      go_simp
                    try simp only [Act.put, List.getElem_toArray, List.getElem_cons_succ, List.getElem_cons_zero, List.setIfInBounds_toArray, List.set_cons_zero, List.set_cons_succ]
                    refine wpAnyH_take (i := 15) (v := .int .i64 j) rfl (by kernel_rfl) (by kernel_rfl) (by kernel_rfl) (fun _ _ _ h => h) (Or.inl ⟨by rfl, ?_⟩) hS0 ?_
                    · intro wq hw
                      go_simp
                    try simp only [Act.put, List.getElem_toArray, List.getElem_cons_succ, List.getElem_cons_zero, List.setIfInBounds_toArray, List.set_cons_zero, List.set_cons_succ]
                    refine wpAnyH_take (i := 9) (v := .pointer (some ⟨Q, 2 + i, none⟩)) rfl (by kernel_rfl) (by kernel_rfl) (by kernel_rfl) (fun _ _ _ h => h) (Or.inl ⟨by rfl, ?_⟩) hS0 ?_
                    · intro wq hw
                      go_simp
                    try simp only [Act.put, List.getElem_toArray, List.getElem_cons_succ, List.getElem_cons_zero, List.setIfInBounds_toArray, List.set_cons_zero, List.set_cons_succ]
                    refine wpAnyH_take (i := 10) (v := .pointer (some ⟨Ti, 0, none⟩)) rfl (by kernel_rfl) (by kernel_rfl) (by kernel_rfl) (fun _ _ _ h => h) (Or.inl ⟨by rfl, ?_⟩) hS0 ?_
                    · intro wq hw
                      have hc := ((hw : Below wr.heap.size wr wq).cell (p := ⟨Q, 2 + i, none⟩) lQ).trans q2
                      have hl := lt_cell' hc
                      go_simp
                    try simp only [Act.put, List.getElem_toArray, List.getElem_cons_succ, List.getElem_cons_zero, List.setIfInBounds_toArray, List.set_cons_zero, List.set_cons_succ]
                    refine wpAnyH_ready (rs := [11, 20]) (by kernel_rfl) (by simp) ?_
                    refine AllReadyH.cons rfl (fun K hK => ?_) (AllReadyH.cons rfl (fun K hK => ?_) AllReadyH.nil)
                    · have CC := RT.out _ (HK.out _ hS0)
                      go_simp
                      go_wp2_with (go_at_call 12; refine CC.mono ?_; rintro e y1 ⟨rfl, rfl⟩)
                      refine hK.out _ _ hS0 (fun hS1 => ?_)
                      clear hK K CC
                      try simp only [Act.put, List.getElem_toArray, List.getElem_cons_succ, List.getElem_cons_zero, List.setIfInBounds_toArray, List.set_cons_zero, List.set_cons_succ]
                      refine wpAnyH_ready (rs := [16, 20]) (by kernel_rfl) (by simp) ?_
                      refine AllReadyH.cons rfl (fun K hK => ?_) (AllReadyH.cons rfl (fun K hK => ?_) AllReadyH.nil)
                      · have CC := ON.out _ (HK.out _ hS1)
                        go_simp
                        go_wp2_with (go_at_call 11; refine CC.mono ?_; rintro e y8 ⟨rfl, hbo⟩)
                        refine hK.out _ _ (Below.trans hS1 (hbo.mono hS1.size)) (fun hS2 => ?_)
                        clear hK K CC
                        try simp only [Act.put, List.getElem_toArray, List.getElem_cons_succ, List.getElem_cons_zero, List.setIfInBounds_toArray, List.set_cons_zero, List.set_cons_succ]
                        refine wpAnyH_take (i := 17) (v := .tuple #[.agg #[.int .i64 f1, .bool d1, .bool d2, .bool d3, .bool d4, .int .i64 l1], .bool bv]) rfl (by kernel_rfl) (by kernel_rfl) (by kernel_rfl) (fun _ _ _ h => h) (Or.inl ⟨by rfl, ?_⟩) hS2 ?_
                        · intro wq hw
                          go_simp
                        try simp only [Act.put, List.getElem_toArray, List.getElem_cons_succ, List.getElem_cons_zero, List.setIfInBounds_toArray, List.set_cons_zero, List.set_cons_succ]
                        refine wpAnyH_take (i := 18) (v := .agg #[.int .i64 f1, .bool d1, .bool d2, .bool d3, .bool d4, .int .i64 l1]) rfl (by kernel_rfl) (by kernel_rfl) (by kernel_rfl) (fun _ _ _ h => h) (Or.inl ⟨by rfl, ?_⟩) hS2 ?_
                        · intro wq hw
                          go_simp
                        try simp only [Act.put, List.getElem_toArray, List.getElem_cons_succ, List.getElem_cons_zero, List.setIfInBounds_toArray, List.set_cons_zero, List.set_cons_succ]
                        refine wpAnyH_take (i := 19) (v := .bool bv) rfl (by kernel_rfl) (by kernel_rfl) (by kernel_rfl) (fun _ _ _ h => h) (Or.inl ⟨by rfl, ?_⟩) hS2 ?_
                        · intro wq hw
                          go_simp
                        try simp only [Act.put, List.getElem_toArray, List.getElem_cons_succ, List.getElem_cons_zero, List.setIfInBounds_toArray, List.set_cons_zero, List.set_cons_succ]
                        refine wpAnyH_ready (rs := [20]) (by kernel_rfl) (by simp) ?_
                        refine AllReadyH.cons rfl (fun K hK => ?_) AllReadyH.nil
                        go_simp
                        refine hK.out _ _ (Below.alloc hS2 hS2.size _) (fun hS3 => ?_)
                        clear hK K
                        try simp only [Act.put, List.getElem_toArray, List.getElem_cons_succ, List.getElem_cons_zero, List.setIfInBounds_toArray, List.set_cons_zero, List.set_cons_succ]
                        refine wpAnyH_ready (rs := [21]) (by kernel_rfl) (by simp) ?_
                        refine AllReadyH.cons rfl (fun K hK => ?_) AllReadyH.nil
                        rw [if_pos (by rfl)]
                        have hX : (y8.alloc (.cells #[.int .i64 0, .bool false, .bool false, .bool false, .bool false, .int .i64 0] 55)).heap[y8.heap.size]? = some (.cells #[.int .i64 0, .bool false, .bool false, .bool false, .bool false, .int .i64 0] 55 (0, 0)) := heap_alloc_at _ _
                        have hge : wr.heap.size ≤ y8.heap.size := hS2.size
                        refine wp_store_row 55 _ _ rfl (y8.heap.size) #[.int .i64 f1, .bool d1, .bool d2, .bool d3, .bool d4, .int .i64 l1] rfl rfl 55 _ hX hi55 rfl (by simp [Value.oneCell']) ?_
                        have hbs : Below wr.heap.size wr ((y8.alloc (.cells #[.int .i64 0, .bool false, .bool false, .bool false, .bool false, .int .i64 0] 55)).setRow (y8.heap.size) #[.int .i64 f1, .bool d1, .bool d2, .bool d3, .bool d4, .int .i64 l1]) := Below.trans hS3 ⟨rfl, rfl, rfl, by simp [World.setRow], fun k hk => setRow_other _ _ k _ (by omega)⟩
                        have hXr := setRow_heap (y8.alloc (.cells #[.int .i64 0, .bool false, .bool false, .bool false, .bool false, .int .i64 0] 55)) (y8.heap.size) _ #[.int .i64 f1, .bool d1, .bool d2, .bool d3, .bool d4, .int .i64 l1] 55 _ hX
                        have hXc : ((y8.alloc (.cells #[.int .i64 0, .bool false, .bool false, .bool false, .bool false, .int .i64 0] 55)).setRow (y8.heap.size) #[.int .i64 f1, .bool d1, .bool d2, .bool d3, .bool d4, .int .i64 l1]).cell? ⟨y8.heap.size, 0, none⟩ = some (.int .i64 f1) := cell_at hXr 0
                        have hXl : y8.heap.size < ((y8.alloc (.cells #[.int .i64 0, .bool false, .bool false, .bool false, .bool false, .int .i64 0] 55)).setRow (y8.heap.size) #[.int .i64 f1, .bool d1, .bool d2, .bool d3, .bool d4, .int .i64 l1]).heap.size := lt_of_heap hXr
                        refine hK.out _ _ hbs (fun hS4 => ?_)
                        clear hK K hX hge hXr
                        try simp only [Act.put, List.getElem_toArray, List.getElem_cons_succ, List.getElem_cons_zero]
                        refine wpAnyH_take (i := 22) (v := .bool bv) rfl (by kernel_rfl) (by kernel_rfl) (by kernel_rfl) (fun _ _ _ h => h) (Or.inl ⟨by rfl, ?_⟩) hS4 ?_
                        · intro wq hw
                          go_simp
                        try simp only [Act.put, List.getElem_toArray, List.getElem_cons_succ, List.getElem_cons_zero, List.setIfInBounds_toArray, List.set_cons_zero, List.set_cons_succ]
                        refine wpAnyH_done (by kernel_rfl) ?_ _
                        go_wp2_with fail
                        go_meet
                        case rel => exact ⟨rfl, y8.heap.size, rfl, hS4, hXc, hXl⟩
                      · go_simp
                        refine hK.out _ _ (Below.alloc hS1 hS1.size _) (fun hS2 => ?_)
                        clear hK K
                        try simp only [Act.put, List.getElem_toArray, List.getElem_cons_succ, List.getElem_cons_zero, List.setIfInBounds_toArray, List.set_cons_zero, List.set_cons_succ]
                        refine wpAnyH_ready (rs := [16]) (by kernel_rfl) (by simp) ?_
                        refine AllReadyH.cons rfl (fun K hK => ?_) AllReadyH.nil
                        have CC := ON.out _ (HK.out _ hS2)
                        go_simp
                        go_wp2_with (go_at_call 11; refine CC.mono ?_; rintro e y8 ⟨rfl, hbo⟩)
                        refine hK.out _ _ (Below.trans hS2 (hbo.mono hS2.size)) (fun hS3 => ?_)
                        clear hK K CC
                        try simp only [Act.put, List.getElem_toArray, List.getElem_cons_succ, List.getElem_cons_zero, List.setIfInBounds_toArray, List.set_cons_zero, List.set_cons_succ]
                        refine wpAnyH_take (i := 17) (v := .tuple #[.agg #[.int .i64 f1, .bool d1, .bool d2, .bool d3, .bool d4, .int .i64 l1], .bool bv]) rfl (by kernel_rfl) (by kernel_rfl) (by kernel_rfl) (fun _ _ _ h => h) (Or.inl ⟨by rfl, ?_⟩) hS3 ?_
                        · intro wq hw
                          go_simp
                        try simp only [Act.put, List.getElem_toArray, List.getElem_cons_succ, List.getElem_cons_zero, List.setIfInBounds_toArray, List.set_cons_zero, List.set_cons_succ]
                        refine wpAnyH_take (i := 18) (v := .agg #[.int .i64 f1, .bool d1, .bool d2, .bool d3, .bool d4, .int .i64 l1]) rfl (by kernel_rfl) (by kernel_rfl) (by kernel_rfl) (fun _ _ _ h => h) (Or.inl ⟨by rfl, ?_⟩) hS3 ?_
                        · intro wq hw
                          go_simp
                        try simp only [Act.put, List.getElem_toArray, List.getElem_cons_succ, List.getElem_cons_zero, List.setIfInBounds_toArray, List.set_cons_zero, List.set_cons_succ]
                        refine wpAnyH_take (i := 19) (v := .bool bv) rfl (by kernel_rfl) (by kernel_rfl) (by kernel_rfl) (fun _ _ _ h => h) (Or.inl ⟨by rfl, ?_⟩) hS3 ?_
                        · intro wq hw
                          go_simp
                        try simp only [Act.put, List.getElem_toArray, List.getElem_cons_succ, List.getElem_cons_zero, List.setIfInBounds_toArray, List.set_cons_zero, List.set_cons_succ]
                        refine wpAnyH_ready (rs := [21]) (by kernel_rfl) (by simp) ?_
                        refine AllReadyH.cons rfl (fun K hK => ?_) AllReadyH.nil
                        rw [if_pos (by rfl)]
                        have hX : (y8).heap[wr.heap.size]? = some (.cells #[.int .i64 0, .bool false, .bool false, .bool false, .bool false, .int .i64 0] 55 (0, 0)) := (hbo.block _ (by simp)).trans (heap_alloc_at wr.drew _)
                        have hge : wr.heap.size ≤ wr.heap.size := Nat.le_refl _
                        refine wp_store_row 55 _ _ rfl (wr.heap.size) #[.int .i64 f1, .bool d1, .bool d2, .bool d3, .bool d4, .int .i64 l1] rfl rfl 55 _ hX hi55 rfl (by simp [Value.oneCell']) ?_
                        have hbs : Below wr.heap.size wr ((y8).setRow (wr.heap.size) #[.int .i64 f1, .bool d1, .bool d2, .bool d3, .bool d4, .int .i64 l1]) := Below.trans hS3 ⟨rfl, rfl, rfl, by simp [World.setRow], fun k hk => setRow_other _ _ k _ (by omega)⟩
                        have hXr := setRow_heap (y8) (wr.heap.size) _ #[.int .i64 f1, .bool d1, .bool d2, .bool d3, .bool d4, .int .i64 l1] 55 _ hX
                        have hXc : ((y8).setRow (wr.heap.size) #[.int .i64 f1, .bool d1, .bool d2, .bool d3, .bool d4, .int .i64 l1]).cell? ⟨wr.heap.size, 0, none⟩ = some (.int .i64 f1) := cell_at hXr 0
                        have hXl : wr.heap.size < ((y8).setRow (wr.heap.size) #[.int .i64 f1, .bool d1, .bool d2, .bool d3, .bool d4, .int .i64 l1]).heap.size := lt_of_heap hXr
                        refine hK.out _ _ hbs (fun hS4 => ?_)
                        clear hK K hX hge hXr
                        try simp only [Act.put, List.getElem_toArray, List.getElem_cons_succ, List.getElem_cons_zero]
                        refine wpAnyH_take (i := 22) (v := .bool bv) rfl (by kernel_rfl) (by kernel_rfl) (by kernel_rfl) (fun _ _ _ h => h) (Or.inl ⟨by rfl, ?_⟩) hS4 ?_
                        · intro wq hw
                          go_simp
                        try simp only [Act.put, List.getElem_toArray, List.getElem_cons_succ, List.getElem_cons_zero, List.setIfInBounds_toArray, List.set_cons_zero, List.set_cons_succ]
                        refine wpAnyH_done (by kernel_rfl) ?_ _
                        go_wp2_with fail
                        go_meet
                        case rel => exact ⟨rfl, wr.heap.size, rfl, hS4, hXc, hXl⟩
                    · go_simp
                      refine hK.out _ _ (Below.alloc hS0 hS0.size _) (fun hS1 => ?_)
                      clear hK K
                      try simp only [Act.put, List.getElem_toArray, List.getElem_cons_succ, List.getElem_cons_zero, List.setIfInBounds_toArray, List.set_cons_zero, List.set_cons_succ]
                      refine wpAnyH_ready (rs := [11]) (by kernel_rfl) (by simp) ?_
                      refine AllReadyH.cons rfl (fun K hK => ?_) AllReadyH.nil
                      have CC := RT.out _ (HK.out _ hS1)
                      go_simp
                      go_wp2_with (go_at_call 12; refine CC.mono ?_; rintro e y1 ⟨rfl, rfl⟩)
                      refine hK.out _ _ hS1 (fun hS2 => ?_)
                      clear hK K CC
                      try simp only [Act.put, List.getElem_toArray, List.getElem_cons_succ, List.getElem_cons_zero, List.setIfInBounds_toArray, List.set_cons_zero, List.set_cons_succ]
                      refine wpAnyH_ready (rs := [16]) (by kernel_rfl) (by simp) ?_
                      refine AllReadyH.cons rfl (fun K hK => ?_) AllReadyH.nil
                      have CC := ON.out _ (HK.out _ hS2)
                      go_simp
                      go_wp2_with (go_at_call 11; refine CC.mono ?_; rintro e y8 ⟨rfl, hbo⟩)
                      refine hK.out _ _ (Below.trans hS2 (hbo.mono hS2.size)) (fun hS3 => ?_)
                      clear hK K CC
                      try simp only [Act.put, List.getElem_toArray, List.getElem_cons_succ, List.getElem_cons_zero, List.setIfInBounds_toArray, List.set_cons_zero, List.set_cons_succ]
                      refine wpAnyH_take (i := 17) (v := .tuple #[.agg #[.int .i64 f1, .bool d1, .bool d2, .bool d3, .bool d4, .int .i64 l1], .bool bv]) rfl (by kernel_rfl) (by kernel_rfl) (by kernel_rfl) (fun _ _ _ h => h) (Or.inl ⟨by rfl, ?_⟩) hS3 ?_
                      · intro wq hw
                        go_simp
                      try simp only [Act.put, List.getElem_toArray, List.getElem_cons_succ, List.getElem_cons_zero, List.setIfInBounds_toArray, List.set_cons_zero, List.set_cons_succ]
                      refine wpAnyH_take (i := 18) (v := .agg #[.int .i64 f1, .bool d1, .bool d2, .bool d3, .bool d4, .int .i64 l1]) rfl (by kernel_rfl) (by kernel_rfl) (by kernel_rfl) (fun _ _ _ h => h) (Or.inl ⟨by rfl, ?_⟩) hS3 ?_
                      · intro wq hw
                        go_simp
                      try simp only [Act.put, List.getElem_toArray, List.getElem_cons_succ, List.getElem_cons_zero, List.setIfInBounds_toArray, List.set_cons_zero, List.set_cons_succ]
                      refine wpAnyH_take (i := 19) (v := .bool bv) rfl (by kernel_rfl) (by kernel_rfl) (by kernel_rfl) (fun _ _ _ h => h) (Or.inl ⟨by rfl, ?_⟩) hS3 ?_
                      · intro wq hw
                        go_simp
                      try simp only [Act.put, List.getElem_toArray, List.getElem_cons_succ, List.getElem_cons_zero, List.setIfInBounds_toArray, List.set_cons_zero, List.set_cons_succ]
                      refine wpAnyH_ready (rs := [21]) (by kernel_rfl) (by simp) ?_
                      refine AllReadyH.cons rfl (fun K hK => ?_) AllReadyH.nil
                      rw [if_pos (by rfl)]
                      have hX : (y8).heap[wr.heap.size]? = some (.cells #[.int .i64 0, .bool false, .bool false, .bool false, .bool false, .int .i64 0] 55 (0, 0)) := (hbo.block _ (by simp)).trans (heap_alloc_at wr.drew _)
                      have hge : wr.heap.size ≤ wr.heap.size := Nat.le_refl _
                      refine wp_store_row 55 _ _ rfl (wr.heap.size) #[.int .i64 f1, .bool d1, .bool d2, .bool d3, .bool d4, .int .i64 l1] rfl rfl 55 _ hX hi55 rfl (by simp [Value.oneCell']) ?_
                      have hbs : Below wr.heap.size wr ((y8).setRow (wr.heap.size) #[.int .i64 f1, .bool d1, .bool d2, .bool d3, .bool d4, .int .i64 l1]) := Below.trans hS3 ⟨rfl, rfl, rfl, by simp [World.setRow], fun k hk => setRow_other _ _ k _ (by omega)⟩
                      have hXr := setRow_heap (y8) (wr.heap.size) _ #[.int .i64 f1, .bool d1, .bool d2, .bool d3, .bool d4, .int .i64 l1] 55 _ hX
                      have hXc : ((y8).setRow (wr.heap.size) #[.int .i64 f1, .bool d1, .bool d2, .bool d3, .bool d4, .int .i64 l1]).cell? ⟨wr.heap.size, 0, none⟩ = some (.int .i64 f1) := cell_at hXr 0
                      have hXl : wr.heap.size < ((y8).setRow (wr.heap.size) #[.int .i64 f1, .bool d1, .bool d2, .bool d3, .bool d4, .int .i64 l1]).heap.size := lt_of_heap hXr
                      refine hK.out _ _ hbs (fun hS4 => ?_)
                      clear hK K hX hge hXr
                      try simp only [Act.put, List.getElem_toArray, List.getElem_cons_succ, List.getElem_cons_zero]
                      refine wpAnyH_take (i := 22) (v := .bool bv) rfl (by kernel_rfl) (by kernel_rfl) (by kernel_rfl) (fun _ _ _ h => h) (Or.inl ⟨by rfl, ?_⟩) hS4 ?_
                      · intro wq hw
                        go_simp
                      try simp only [Act.put, List.getElem_toArray, List.getElem_cons_succ, List.getElem_cons_zero, List.setIfInBounds_toArray, List.set_cons_zero, List.set_cons_succ]
                      refine wpAnyH_done (by kernel_rfl) ?_ _
                      go_wp2_with fail
                      go_meet
                      case rel => exact ⟨rfl, wr.heap.size, rfl, hS4, hXc, hXl⟩
                  case rest =>
                    obtain ⟨rfl, q1, rfl, hbc, hcc, hlc⟩ := hcut
                    have HC : Hid (Below yK.heap.size yK wc ∧ WR wc K R ∧ wc.heap[K2]? = some (.cells #[.bool ra, .bool rb, .bool rc] 29 (0, 0))) := ⟨HK.out _ hbc, HJ.out.2.1.below hbc, (hbc.block _ (lt_of_heap HJ.out.2.2)).trans HJ.out.2.2⟩
                    have c0 : wc.cell? ⟨K2, 0, none⟩ = some (.bool ra) := cell_at HC.out.2.2 0
                    have c1 : wc.cell? ⟨K2, 1, none⟩ = some (.bool rb) := cell_at HC.out.2.2 1
                    have c2 : wc.cell? ⟨K2, 2, none⟩ = some (.bool rc) := cell_at HC.out.2.2 2
                    have cl := lt_of_heap HC.out.2.2
                    clear q0 q2 lQ RT ON HK HJ hbc
                    have hbv' := HBV.out
                    clear HBV HTL
                    rcases (show (j : Int) = 0 ∨ (j : Int) = 1 ∨ (j : Int) = 2 by omega) with hjj | hjj | hjj
                    · have hsel : may j ra rb rc = rc := by
                        unfold may
                        rw [if_pos (by omega)]
                      rw [hsel] at hbv'
                      rw [hjj]
                      clear hsel pj
                      cases ok <;> cases ra <;> cases rb <;> cases rc
                      all_goals as_aux_lemma =>
                        obtain ⟨hb1, hb2⟩ := hbv'
                        simp only [Bool.and_true, Bool.and_false] at hb1
                        subst hb1
                        first
                          | (have hff := hb2 rfl
                             subst hff
                             clear hb2
                             go_wp2_with fail
                             go_roundw
                             case rel => exact ⟨j + 1, by omega, congrArg (Value.int .i64) (by omega), HC⟩
                             case measure => simp [intOf]; omega)
                          | (clear hb2
                             go_wp2_with fail
                             go_roundw
                             case rel => exact ⟨j + 1, by omega, congrArg (Value.int .i64) (by omega), HC⟩
                             case measure => simp [intOf]; omega)
                    · have hsel : may j ra rb rc = ra := by
                        unfold may
                        rw [if_neg (by omega), if_pos (by omega)]
                      rw [hsel] at hbv'
                      rw [hjj]
                      clear hsel pj
                      cases ok <;> cases ra <;> cases rb <;> cases rc
                      all_goals as_aux_lemma =>
                        obtain ⟨hb1, hb2⟩ := hbv'
                        simp only [Bool.and_true, Bool.and_false] at hb1
                        subst hb1
                        first
                          | (have hff := hb2 rfl
                             subst hff
                             clear hb2
                             go_wp2_with fail
                             go_roundw
                             case rel => exact ⟨j + 1, by omega, congrArg (Value.int .i64) (by omega), HC⟩
                             case measure => simp [intOf]; omega)
                          | (clear hb2
                             go_wp2_with fail
                             go_roundw
                             case rel => exact ⟨j + 1, by omega, congrArg (Value.int .i64) (by omega), HC⟩
                             case measure => simp [intOf]; omega)
                    · have hsel : may j ra rb rc = rb := by
                        unfold may
                        rw [if_neg (by omega), if_neg (by omega)]
                      rw [hsel] at hbv'
                      rw [hjj]
                      clear hsel pj
                      cases ok <;> cases ra <;> cases rb <;> cases rc
                      all_goals as_aux_lemma =>
                        obtain ⟨hb1, hb2⟩ := hbv'
                        simp only [Bool.and_true, Bool.and_false] at hb1
                        subst hb1
                        first
                          | (have hff := hb2 rfl
                             subst hff
                             clear hb2
                             go_wp2_with fail
                             go_roundw
                             case rel => exact ⟨j + 1, by omega, congrArg (Value.int .i64) (by omega), HC⟩
                             case measure => simp [intOf]; omega)
                          | (clear hb2
                             go_wp2_with fail
                             go_roundw
                             case rel => exact ⟨j + 1, by omega, congrArg (Value.int .i64) (by omega), HC⟩
                             case measure => simp [intOf]; omega)
                · obtain rfl : j = 3 := by omega
                  have pj : decide (((3 : Nat) : Int) < 3) = false := rfl
                  as_aux_lemma =>
                    cases ok with
                    | false =>
                      have HX : Hid (Below yK.heap.size yK wr ∧ WR wr K R ∧ ∀ f, f < 40 → R f = 0 ∨ R f = z.S.cl f) := ⟨HJ.out.1, HJ.out.2.1, HRR.out⟩
                      clear HJ HRR
                      go_wp2_with fail
                      go_roundw
                      case rel => exact ⟨P + 1, by omega, by go_num, R, HX⟩
                      case measure => simp [intOf]; omega
                    | true =>
                      obtain ⟨a, hx, hfr, _, _, _⟩ := HTL.out.yes rfl
                      obtain ⟨g1, g2, g3⟩ := G.pg P a hP hx
                      have CO := G.owner hP hx HJ.out.1
                      have e1 : ((1 + i : Nat) : Int) = 1 + (i : Int) := by omega
                      rw [e1, ← hfr] at CO
                      obtain ⟨f, hf⟩ : ∃ f : Nat, a.f = f := ⟨_, rfl⟩
                      obtain ⟨tm, htm⟩ : ∃ tm : Int, ((zi.S.ti a.f : Nat) : Int) = tm := ⟨_, rfl⟩
                      rw [htm] at CO
                      have tm2 : ¬ tm < 2 := by omega
                      have p5 : decide (tm < 2) = false := decide_eq_false tm2
                      have p5b : (tm < 2) = False := eq_false tm2
                      rw [hfr, hf] at CO
                      have f40 : f < 40 := by omega
                      have f40i : (f : Int) < 40 := by omega
                      rw [hfr, hf]
                      have HCL : Hid (z.S.cl f = 1 + i) := by rw [← eS, ← hf]; exact g2
                      have q0 := (QC.out _ HJ.out.1 1).1.trans hD
                      have lQ := (QC.out _ HJ.out.1 1).2
                      clear hf hfr htm g1 g2 g3 hx HTL tm2
                      go_wp2_with fail
                      refine CO.mono ?_
                      rintro e w8 ⟨rfl, hb8⟩
                      have H8 : Hid (Below yK.heap.size yK w8 ∧ WR w8 K R ∧ ∀ f, f < 40 → R f = 0 ∨ R f = z.S.cl f) := ⟨HJ.out.1.trans (hb8.mono HJ.out.1.size), HJ.out.2.1.below hb8, HRR.out⟩
                      clear CO hb8 HJ HRR q0 lQ
                      obtain ⟨r0, r1⟩ := H8.out.2.1.at f40
                      have lK := H8.out.2.1.lt
                      have HS : Hid (Below yK.heap.size yK (w8.setCell ⟨K, f, none⟩ (.int .i64 (1 + (i : Int)))) ∧ WR (w8.setCell ⟨K, f, none⟩ (.int .i64 (1 + (i : Int)))) K (upd R f (1 + i)) ∧ ∀ k, k < 40 → upd R f (1 + (i : Int)) k = 0 ∨ upd R f (1 + (i : Int)) k = z.S.cl k) := by
                        refine ⟨H8.out.1.setCell HKK.out _, (H8.out.2.1.set f40 _).1, fun k hk => ?_⟩
                        by_cases e : k = f
                        · subst e
                          rw [upd_self, HCL.out]
                          exact .inr (by omega)
                        · rw [upd_other _ _ _ e]
                          exact H8.out.2.2 k hk
                      have p6 : ((1 : Int) + i != 1 + i) = false := by simp
                      rcases H8.out.2.2 f f40 with hR | hR
                      · rw [hR] at r0
                        clear H8 hR
                        go_wp2_with fail
                        go_roundw
                        case rel => exact ⟨P + 1, by omega, by go_num, _, HS⟩
                        case measure => simp [intOf]; omega
                      · rw [HCL.out] at hR
                        have hR' : R f = 1 + (i : Int) := by omega
                        rw [hR'] at r0
                        have p7 : ((1 : Int) + i != 0) = true := by simp; omega
                        clear H8 hR hR'
                        go_wp2_with fail
                        go_roundw
                        case rel => exact ⟨P + 1, by omega, by go_num, _, HS⟩
                        case measure => simp [intOf]; omega
            · obtain rfl : P = 1024 := by omega
              have pP : decide (((1024 : Nat) : Int) < 1024) = false := rfl
              have HX : Hid (_) := HI
              clear HI
              go_wp2_with fail
              go_roundw
              case rel => exact ⟨i + 1, by omega, by go_num, R, HX.out⟩
              case measure => simp [intOf]; omega
        · obtain rfl : i = 2 := by omega
          have pI : decide (((2 : Nat) : Int) < 2) = false := rfl
          have HB : Hid (Below w.heap.size w wr) := HBL.out.trans (HI.out.1.mono HBL.out.size)
          clear HI HG QC
          go_wp2_with fail
          go_ret
          exact ⟨rfl, HB.out⟩
end stageWalks
end Go.Proofs.YteghkhdpdeiocaaGreatDoor
