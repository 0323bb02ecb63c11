/-
  The walk of CreditShares.
-/
import Derived.Test.YtgdnklmnchcmeaaVw
import Derived.Test.YtgdnklmnchcmeaaOpens
namespace Go.Proofs.Ytgdnklmnchcmeaa
open Go.RowKit Go.Maps
set_option linter.unusedVariables false
set_option maxRecDepth 100000
namespace shares
/-- two, on one core -/
structure Two (S : St) (a b : Int) (x y : Int) : Prop where
  l : S.L = [⟨1, a, x, 0, 1⟩, ⟨2, b, y, 0, 1⟩]
  x1 : x ≤ 500
  y1 : y ≤ 500
  x0 : 0 ≤ x
  y0 : 0 ≤ y
  ab : b ≤ a → y ≤ x
  ba : a ≤ b → x ≤ y
theorem gain_mono {wt wu sm : Int} (h : wt ≤ wu) (h0 : 1 ≤ wt) (hs : 1 ≤ sm) : gain 500 wt sm ≤ gain 500 wu sm := by
  unfold gain
  rw [Int.tdiv_eq_ediv_of_nonneg (by omega), Int.tdiv_eq_ediv_of_nonneg (by omega)]
  have := Int.ediv_le_ediv (a := 500 * wt) (b := 500 * wu) (c := sm) (by omega) (by omega)
  omega
theorem gain_one (wt sm : Int) : 1 ≤ gain 500 wt sm := by unfold gain; omega
theorem Two.ref {S : St} {a b x y : Int} (h : Two S a b x y) (ha : 1 ≤ a) (hb : 1 ≤ b) : ∃ x' y', Two (refS 500 S) a b x' y' ∧ 1 ≤ x' ∧ 1 ≤ y' := by
  have hs : sumW S.L = a + b := by rw [h.l]; unfold sumW; simp
  have g1 := gain_one a (a + b)
  have g2 := gain_one b (a + b)
  have := h.x0
  have := h.y0
  refine ⟨min (x + gain 500 a (a + b)) 500, min (y + gain 500 b (a + b)) 500, ⟨?_, by omega, by omega, by omega, by omega, fun e => ?_, fun e => ?_⟩, by omega, by omega⟩
  · show S.L.map (rfF 500 (sumW S.L)) = _
    rw [hs, h.l]
    rfl
  · have := h.ab e
    have := gain_mono (sm := a + b) e hb (by omega)
    omega
  · have := h.ba e
    have := gain_mono (sm := a + b) e ha (by omega)
    omega
theorem low8 (v : Int) : ∃ i : Nat, i ≤ 255 ∧ bits .and .i64 v 255 = (i : Int) := and_low v 255 255 (by decide) (by decide)
theorem low6 (v : Int) : ∃ i : Nat, i ≤ 63 ∧ bits .and .i64 v 63 = (i : Int) := and_low v 63 63 (by decide) (by decide)
set_option maxHeartbeats 3200000 in
theorem walk (a0 b0 d0 : Int) (w : World) : Calls Try.prog 7 #[.int .i64 a0, .int .i64 b0, .int .i64 d0] w fun e w' => e = .returned (.bool true) ∧ Below w.heap.size w w' := by
  obtain ⟨a1, ha1, ha⟩ := low8 a0
  obtain ⟨b1, hb1, hb⟩ := low8 b0
  obtain ⟨d1, hd1, hd⟩ := low6 d0
  obtain ⟨a, hae⟩ : ∃ a : Int, 1 + (a1 : Int) = a := ⟨_, rfl⟩
  obtain ⟨b, hbe⟩ : ∃ b : Int, 1 + (b1 : Int) = b := ⟨_, rfl⟩
  have hwa : IntKind.i64.wrap (1 + (a1 : Int)) = a := by rw [IntKind.wrap_i64]; omega
  have hwb : IntKind.i64.wrap (1 + (b1 : Int)) = b := by rw [IntKind.wrap_i64]; omega
  have hab : 1 ≤ a ∧ a ≤ 256 ∧ 1 ≤ b ∧ b ≤ 256 := by omega
  have C1 : Calls Try.prog 9 #[.int .i64 1, .int .i64 500] w _ := new_vw 1 500 w ⟨by decide, by decide, by decide, by decide⟩
  go_enter Try.func7, Try.ntmps7
  go_wp2_with fail
  refine C1.mono ?_
  rintro e w1 ⟨c, rfl, m, p, hv⟩
  have C2 := hv.add_ (k := 1) (show (Lit.int .i64 1).wf = true by decide) a 0
  have e2 : addE S0 1 1 a 0 = 0 := by
    unfold addE
    rw [if_neg (by omega), if_neg (by omega)]
    rfl
  have e3 : addT S0 1 1 a 0 = addS S0 1 a 0 := by unfold addT; rw [e2, if_pos rfl]; rfl
  rw [e2, e3] at C2
  clear hv C1 e2 e3
  go_wp2_with fail
  refine C2.mono ?_
  rintro e w2 ⟨rfl, hv⟩
  have C3 := hv.add_ (k := 2) (show (Lit.int .i64 2).wf = true by decide) b 0
  have e2 : addE (addS S0 1 a 0) 1 2 b 0 = 0 := by
    unfold addE
    rw [if_neg (by omega), if_neg (by omega)]
    rfl
  have e3 : addT (addS S0 1 a 0) 1 2 b 0 = addS (addS S0 1 a 0) 2 b 0 := by unfold addT; rw [e2, if_pos rfl]; rfl
  rw [e2, e3] at C3
  clear hv C2 e2 e3
  go_wp2_with fail
  refine C3.mono ?_
  rintro e w3 ⟨rfl, hv⟩
  have H0 : Hid (VW w K0 w3 c m p 1 500 (addS (addS S0 1 a 0) 2 b 0) ∧ Two (addS (addS S0 1 a 0) 2 b 0) a b 0 0) := ⟨hv, ⟨rfl, by decide, by decide, by decide, by decide, fun _ => by decide, fun _ => by decide⟩⟩
  clear hv C3
  go_wp2_with fail
  go_loopw [9] (fun q wr => ∃ j : Nat, j ≤ d1 ∧ q = .int .i64 j ∧ ∃ S x y, Hid (VW w K0 wr c m p 1 500 S ∧ Two S a b x y)) (fun q _ => d1 - (intOf q).toNat)
  case atStart => exact ⟨0, by omega, rfl, _, _, _, H0⟩
  case round =>
    obtain ⟨j, hj, rfl, S, x, y, HJ⟩ := hrel
    clear H0
    by_cases hjn : j < d1
    · have hjn' : (j : Int) < (d1 : Int) := by omega
      have K := HJ.out.1.refill_
      obtain ⟨x', y', ht, hx', hy'⟩ := HJ.out.2.ref hab.1 hab.2.2.1
      generalize refS 500 S = T at *
      go_wp2_with fail
      refine K.mono ?_
      rintro e y1 ⟨rfl, hv⟩
      have L1 := hv.look_ (k := 1) (show (Lit.int .i64 1).wf = true by decide)
      have HT : Hid (VW w K0 y1 c m p 1 500 T ∧ Two T a b x' y') := ⟨hv, ht⟩
      have f1 : fnd T.L 1 = some ⟨1, a, x', 0, 1⟩ := by rw [ht.l]; rfl
      have f2 : fnd T.L 2 = some ⟨2, b, y', 0, 1⟩ := by rw [ht.l]; rfl
      have HF2 : Hid (lkV T.L 2 = .agg #[.int .i64 1, .int .i64 0, .int .i64 b, .int .i64 y'] ∧ (fnd T.L 2).isSome = true) := ⟨by unfold lkV; rw [f2]; rfl, by rw [f2]; rfl⟩
      have e1 : lkV T.L 1 = .agg #[.int .i64 1, .int .i64 0, .int .i64 a, .int .i64 x'] := by unfold lkV; rw [f1]; rfl
      rw [e1, f1] at L1
      simp only [Option.isSome_some] at L1
      clear hv ht K HJ e1 f1 f2
      go_wp2_with fail
      refine L1.mono ?_
      rintro e y2 ⟨rfl, hb⟩
      have H2 : Hid (VW w (K1 K0 y2.heap.size (.cells #[.int .i64 1, .int .i64 0, .int .i64 a, .int .i64 x'] 36)) (y2.alloc (.cells #[.int .i64 1, .int .i64 0, .int .i64 a, .int .i64 x'] 36)) c m p 1 500 T ∧ Two T a b x' y') := ⟨(HT.out.1.below hb).box _, HT.out.2⟩
      have K2 := H2.out.1.look_ (k := 2) (show (Lit.int .i64 2).wf = true by decide)
      rw [HF2.out.1, HF2.out.2] at K2
      clear hb L1 HT HF2
      go_wp2_with fail
      refine K2.mono ?_
      rintro e y3 ⟨rfl, hb⟩
      have H3 : Hid (VW w (K1 (K1 K0 y2.heap.size (.cells #[.int .i64 1, .int .i64 0, .int .i64 a, .int .i64 x'] 36)) y3.heap.size (.cells #[.int .i64 1, .int .i64 0, .int .i64 b, .int .i64 y'] 36)) (y3.alloc (.cells #[.int .i64 1, .int .i64 0, .int .i64 b, .int .i64 y'] 36)) c m p 1 500 T ∧ Two T a b x' y') := ⟨(H2.out.1.below hb).box _, H2.out.2⟩
      have g1 := H3.out.1.kp (.inr (.inl ⟨rfl, rfl⟩))
      have b3 := cell_at g1 3
      have bl := lt_of_heap g1
      simp at b3
      have t1 := H3.out.2.x1
      have t2 := H3.out.2.y1
      have HR : Hid (VW w K0 (y3.alloc (.cells #[.int .i64 1, .int .i64 0, .int .i64 b, .int .i64 y'] 36)) c m p 1 500 T ∧ Two T a b x' y') := ⟨H3.out.1.weak (fun k o h => h.elim), H3.out.2⟩
      by_cases hba : b ≤ a
      · have o1 := H3.out.2.ab hba
        by_cases hba2 : a ≤ b
        · have o2 := H3.out.2.ba hba2
          clear hb K2 H2 g1 H3
          go_wp2_with fail
          go_roundw
          case rel => exact ⟨j + 1, by omega, by go_num, _, _, _, HR⟩
          case measure => simp [intOf]; omega
        · clear hb K2 H2 g1 H3
          go_wp2_with fail
          go_roundw
          case rel => exact ⟨j + 1, by omega, by go_num, _, _, _, HR⟩
          case measure => simp [intOf]; omega
      · have o2 := H3.out.2.ba (by omega)
        have hba2 : a ≤ b := by omega
        clear hb K2 H2 g1 H3
        go_wp2_with fail
        go_roundw
        case rel => exact ⟨j + 1, by omega, by go_num, _, _, _, HR⟩
        case measure => simp [intOf]; omega
    · obtain rfl : j = d1 := by omega
      have HB : Hid (_) := HJ.out.1.bel
      clear HJ
      go_wp2_with fail
      go_ret
      exact ⟨rfl, HB.out⟩
end shares
theorem swalk (a b d : Int) (w : World) : Calls Try.prog 7 #[.int .i64 a, .int .i64 b, .int .i64 d] w fun e w' => e = .returned (.bool true) ∧ Below w.heap.size w w' := shares.walk a b d w
end Go.Proofs.Ytgdnklmnchcmeaa
