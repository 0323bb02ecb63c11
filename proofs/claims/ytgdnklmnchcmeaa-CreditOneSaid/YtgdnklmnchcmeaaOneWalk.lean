/-
  The walk of CreditOne.
-/
import Derived.Test.YtgdnklmnchcmeaaAl
import Derived.Test.YtgdnklmnchcmeaaOpens
import Derived.Deep.Cut
import Derived.Deep.CutRange
import Derived.Deep.RegionWith
import Derived.Deep.RegionHeld2
namespace Go.Proofs.Ytgdnklmnchcmeaa
open Go.RowKit Go.Maps
set_option linter.unusedVariables false
set_option maxRecDepth 100000
namespace one
theorem lkV_some {L : List On} {k : Int} {x : On} (h : fnd L k = some x) : lkV L k = lv x := by unfold lkV; rw [h]
theorem low3 (v : Int) : ∃ i : Nat, i ≤ 7 ∧ bits .and .i64 v 7 = (i : Int) := and_low v 7 7 (by decide) (by decide)
/-- the scheduler with an act's box -/
def BX (w wx : World) (c m p n : Nat) (A : Nat) (x : Ac) (S : St) : Prop := VW w (K1 K0 A (.cells #[.int .i64 x.kd, .int .i64 x.id, .int .i64 x.wt, .int .i64 x.co, .int .i64 x.nn] 33)) wx c m p n 100 S
set_option maxHeartbeats 6400000 in
theorem walk (a0 : Int) (ad : Option Addr) (len cap : Nat) (w : World) (hK : ActsIn w ad len) (hl : (len : Int) ≤ 9223372036854775807) : Calls Try.prog 6 #[.int .i64 a0, .slice ad len cap] w fun e w' => e = .returned (.bool true) ∧ Below w.heap.size w w' := by
  have HK : Hid (ActsIn w ad len) := hK
  clear hK
  obtain ⟨a1, ha1, ha⟩ := low3 a0
  obtain ⟨n, hn⟩ : ∃ n : Nat, n = 1 + a1 := ⟨_, rfl⟩
  have hwn : IntKind.i64.wrap (1 + (a1 : Int)) = (n : Int) := by rw [IntKind.wrap_i64]; omega
  have hn8 : 1 ≤ n ∧ n ≤ 8 := by omega
  have C1 := new_vw n 100 w ⟨by omega, by omega, by decide, by decide⟩
  clear hn
  go_enter Try.func6, Try.ntmps6
  go_wp2_with fail
  refine C1.mono ?_
  rintro e w1 ⟨c, rfl, m, p, hv⟩
  have H0 : Hid (VW w K0 w1 c m p n 100 S0) := hv
  clear hv C1
  go_wp2_with fail
  go_loopw [7] (fun q wr => ∃ j : Nat, j ≤ len ∧ q = .int .i64 j ∧ ∃ S, Hid (VW w K0 wr c m p n 100 S)) (fun q _ => len - (intOf q).toNat)
  case atStart => exact ⟨0, by omega, rfl, _, H0⟩
  case round =>
    obtain ⟨j, hj, rfl, S, HJ⟩ := hrel
    clear H0
    by_cases hjn : j < len
    · have hjn' : (j : Int) < len := by omega
      have hj0 : (j : Int) < 9223372036854775807 := by omega
      obtain ⟨B, off, rfl, hB, x, hx, hA⟩ := HK.out.at hjn
      obtain ⟨k0, k1, k2, k3, k4⟩ := hA.below HJ.out.bel hB
      have lB : B < wr.heap.size := Nat.lt_of_lt_of_le hB HJ.out.bel.size
      obtain ⟨A, hAe⟩ : ∃ A, wr.heap.size = A := ⟨_, rfl⟩
      have H1 : Hid (BX w (wr.alloc (.cells #[.int .i64 x.kd, .int .i64 x.id, .int .i64 x.wt, .int .i64 x.co, .int .i64 x.nn] 33)) c m p n A x S) := hAe ▸ HJ.out.box _
      have HX : Hid (AcOk x) := hx
      have HLN : Hid (j < len ∧ (j : Int) < 9223372036854775807) := ⟨hjn, hj0⟩
      clear HJ hA hx hB hj
      go_upto_region 9 with fail
      go_cut [8, 46] from 35 to 190 (fun p8 k46 wx => (p8 = .pointer (some ⟨A, 0, none⟩) ∧ k46 = .int .i64 x.kd) ∧ Hid (BX w wx c m p n A x S))
      case first =>
        go_wp2_with fail
        go_meet
        case rel => exact ⟨⟨rfl, rfl⟩, H1⟩
      case rest =>
        obtain ⟨⟨rfl, rfl⟩, HA0⟩ := hcut
        clear H1 k0 k1 k2 k3 k4 lB hAe
        obtain ⟨y0, hy0⟩ : ∃ y0, y0 = wc := ⟨_, rfl⟩
        rw [← hy0] at HA0 ⊢
        clear hy0
        go_step
        go_cut [] from 35 to 190 (fun wx => Hid (∃ T, VW w K0 wx c m p n 100 T))
        case first =>
         as_aux_lemma =>
          have k1 := cell_at (HA0.out.kp (.inl ⟨rfl, rfl⟩)) 1
          have k2 := cell_at (HA0.out.kp (.inl ⟨rfl, rfl⟩)) 2
          have k3 := cell_at (HA0.out.kp (.inl ⟨rfl, rfl⟩)) 3
          have kl := lt_of_heap (HA0.out.kp (.inl ⟨rfl, rfl⟩))
          simp only [List.getElem?_toArray, List.getElem?_cons_zero, List.getElem?_cons_succ] at k1 k2 k3
          have HG : Hid (∀ wx T KP, VW w KP wx c m p n 100 T → ∃ T, VW w K0 wx c m p n 100 T) := fun wx T KP h => ⟨T, h.weak (fun k o h => h.elim)⟩
          obtain ⟨wt1, hwt1, hwt⟩ := low3 x.wt
          obtain ⟨co1, hco1, hco⟩ := low3 x.co
          have hnz : ¬ (n : Int) = 0 := by omega
          have hnz2 : ((n : Int) == 0) = false := by simpa using hnz
          obtain ⟨co, hcoe⟩ : ∃ co : Nat, co = co1 % n := ⟨_, rfl⟩
          have hcl : co < n := by rw [hcoe]; exact Nat.mod_lt _ (by omega)
          have hrem : Int.tmod (co1 : Int) (n : Int) = (co : Int) := by rw [hcoe]; rfl
          have hw1 : IntKind.i64.wrap (1 + (wt1 : Int)) = 1 + (wt1 : Int) := by rw [IntKind.wrap_i64]; omega
          have hw2 : IntKind.i64.wrap (co : Int) = (co : Int) := by rw [IntKind.wrap_i64]; omega
          have hn0 : ¬ n = 0 := by omega
          clear hcoe
          by_cases d0 : x.kd = 0
          · rw [d0]
            have C := (HA0.out.drew).add_ (k := x.id) HX.out.2.1 (1 + (wt1 : Int)) co
            generalize addE S n x.id (1 + (wt1 : Int)) co = ae at C
            generalize addT S n x.id (1 + (wt1 : Int)) co = at_ at C
            clear d0
            obtain ⟨id, hid⟩ : ∃ id, x.id = id := ⟨_, rfl⟩
            obtain ⟨wt, hwte⟩ : ∃ wt, x.wt = wt := ⟨_, rfl⟩
            obtain ⟨xco, hxco⟩ : ∃ xco, x.co = xco := ⟨_, rfl⟩
            have HN : Hid (x.id = id ∧ x.wt = wt ∧ x.co = xco) := ⟨hid, hwte, hxco⟩
            rw [hid] at k1 C
            rw [hwte] at k2 hwt
            rw [hxco] at k3 hco
            clear hid hwte hxco
            go_upto_region 11 with fail
            have e1 : (fun w' : World => w'.cell? ⟨A, 1, none⟩ = some (.int .i64 id) ∧ w'.cell? ⟨A, 2, none⟩ = some (.int .i64 wt) ∧ w'.cell? ⟨A, 3, none⟩ = some (.int .i64 xco)) y0.drew := ⟨k1, k2, k3⟩
            go_region_held2 (fun w' : World => w'.cell? ⟨A, 1, none⟩ = some (.int .i64 id) ∧ w'.cell? ⟨A, 2, none⟩ = some (.int .i64 wt) ∧ w'.cell? ⟨A, 3, none⟩ = some (.int .i64 xco)) (first | exact e1 | exact e2)
              (first | (go_at_call 19; refine C.mono ?_; rintro e w2 ⟨rfl, hv⟩; (have e2 : (fun w' : World => w'.cell? ⟨A, 1, none⟩ = some (.int .i64 id) ∧ w'.cell? ⟨A, 2, none⟩ = some (.int .i64 wt) ∧ w'.cell? ⟨A, 3, none⟩ = some (.int .i64 xco)) w2 := ⟨(cell_at (hv.kp (.inl ⟨rfl, rfl⟩)) 1).trans (by rw [← HN.out.1]; rfl), (cell_at (hv.kp (.inl ⟨rfl, rfl⟩)) 2).trans (by rw [← HN.out.2.1]; rfl), (cell_at (hv.kp (.inl ⟨rfl, rfl⟩)) 3).trans (by rw [← HN.out.2.2]; rfl)⟩)))
            have H2 : Hid (∃ T, VW w K0 w2 c m p n 100 T) := HG.out _ _ _ hv
            clear hv C
            go_wp2_with fail
            go_meet
            case rel => exact H2
          by_cases d1 : x.kd = 1
          · rw [d1]
            have C := HA0.out.remove_ (k := x.id) HX.out.2.1
            go_wp2_with fail
            refine C.mono ?_
            rintro e w2 ⟨rfl, hv⟩
            have H2 : Hid (∃ T, VW w K0 w2 c m p n 100 T) := HG.out _ _ _ hv
            clear hv C
            go_wp2_with fail
            go_meet
            case rel => exact H2
          by_cases d2 : x.kd = 2
          · rw [d2]
            have C := HA0.out.wake_ (k := x.id) HX.out.2.1
            go_wp2_with fail
            refine C.mono ?_
            rintro e w2 ⟨rfl, hv⟩
            have H2 : Hid (∃ T, VW w K0 w2 c m p n 100 T) := HG.out _ _ _ hv
            clear hv C
            go_wp2_with fail
            go_meet
            case rel => exact H2
          by_cases d3 : x.kd = 3
          · rw [d3]
            have C := HA0.out.block_ (k := x.id) HX.out.2.1
            go_wp2_with fail
            refine C.mono ?_
            rintro e w2 ⟨rfl, hv⟩
            have H2 : Hid (∃ T, VW w K0 w2 c m p n 100 T) := HG.out _ _ _ hv
            clear hv C
            go_wp2_with fail
            go_meet
            case rel => exact H2
          by_cases d4 : x.kd = 4
          · rw [d4]
            have C := HA0.out.pick_ co
            go_wp2_with fail
            refine C.mono ?_
            rintro e w2 ⟨rfl, hv⟩
            have H2 : Hid (∃ T, VW w K0 w2 c m p n 100 T) := HG.out _ _ _ hv
            clear hv C
            go_wp2_with fail
            go_meet
            case rel => exact H2
          by_cases d6 : x.kd = 6
          · rw [d6]
            have C := HA0.out.yield_ co
            go_wp2_with fail
            refine C.mono ?_
            rintro e w2 ⟨rfl, hv⟩
            have H2 : Hid (∃ T, VW w K0 w2 c m p n 100 T) := HG.out _ _ _ hv
            clear hv C
            go_wp2_with fail
            go_meet
            case rel => exact H2
          by_cases d7 : x.kd = 7
          · rw [d7]
            have C := HA0.out.refill_
            go_wp2_with fail
            refine C.mono ?_
            rintro e w2 ⟨rfl, hv⟩
            have H2 : Hid (∃ T, VW w K0 w2 c m p n 100 T) := HG.out _ _ _ hv
            clear hv C
            go_wp2_with fail
            go_meet
            case rel => exact H2
          have H2 : Hid (∃ T, VW w K0 y0 c m p n 100 T) := HG.out _ _ _ HA0.out
          have g0 : (x.kd == 0) = false := by simpa using d0
          have g1 : (x.kd == 1) = false := by simpa using d1
          have g2 : (x.kd == 2) = false := by simpa using d2
          have g3 : (x.kd == 3) = false := by simpa using d3
          have g4 : (x.kd == 4) = false := by simpa using d4
          have g6 : (x.kd == 6) = false := by simpa using d6
          have g7 : (x.kd == 7) = false := by simpa using d7
          clear k1 k2 k3 kl HG
          go_wp2_with fail
          go_meet
          case rel => exact H2
        case rest =>
          obtain ⟨T, HT⟩ := hcut.out
          clear HA0 HX
          obtain ⟨y1, hy1⟩ : ∃ y1, y1 = wc := ⟨_, rfl⟩
          rw [← hy1] at HT ⊢
          clear hy1 hcut
          have HT1 : Hid (VW w K0 y1 c m p n 100 T) := HT
          clear HT
          go_wp2_with fail
          go_loopw [9, 10] (fun q9 q10 wr => ∃ (a : Nat) (v : Value), a ≤ n ∧ v = q9 ∧ q10 = .int .i64 a ∧ Hid (Below y1.heap.size y1 wr ∧ LR y1.heap.size wr v (allC T a))) (fun _ q10 _ => n - (intOf q10).toNat)
          case atStart => exact ⟨0, _, by omega, rfl, rfl, Below.refl _ _, LR.nil _ _⟩
          case round =>
            obtain ⟨a, v, haN, rfl, rfl, HL⟩ := hrel
            by_cases han : a < n
            · have han' : (a : Int) < (n : Int) := by omega
              have C := (HT1.out.below HL.out.1).queue_ a han
              go_wp2_with fail
              refine C.mono ?_
              rintro e y2 ⟨qv, rfl, hq, hq2, hb2⟩
              have HQ : Hid (Below y1.heap.size y1 y2 ∧ LR y1.heap.size y2 v (allC T a) ∧ Qs y2 qv (T.Q a)) := ⟨HL.out.1.trans (hb2.mono HL.out.1.size), HL.out.2.below hb2, hq⟩
              obtain ⟨ad2, c2, hform⟩ := hq.form
              obtain ⟨ln, hln⟩ : ∃ ln, (T.Q a).length = ln := ⟨_, rfl⟩
              rw [hln] at hform
              subst hform
              clear C hq hq2 hb2 HL
              go_wp2_with fail
              go_loopw [12] (fun q12 wr => ∃ k : Nat, k ≤ ln ∧ q12 = .int .i64 k ∧ Hid (Below y1.heap.size y1 wr ∧ LR y1.heap.size wr v (allC T a) ∧ Qs wr (.slice ad2 ln c2) (T.Q a) ∧ (T.Q a).length = ln)) (fun q12 _ => ln - (intOf q12).toNat)
              case atStart => exact ⟨0, by omega, rfl, HQ.out.1, HQ.out.2.1, HQ.out.2.2, hln⟩
              case round =>
                obtain ⟨k, hkn, rfl, HM⟩ := hrel
                clear HQ
                by_cases hkl : k < ln
                · have hkl' : (k : Int) < (ln : Int) := by omega
                  have hk9 : (k : Int) < 9223372036854775807 := by have := HT1.out.ok.qlen han; omega
                  have hkq : k < (T.Q a).length := by have := HM.out.2.2.2; omega
                  obtain ⟨g, c', e9, hr⟩ := HM.out.2.2.1.pos (by omega)
                  simp only [Value.slice.injEq] at e9
                  obtain ⟨rfl, e91, e92⟩ := e9
                  clear e91 e92
                  have x0 := hr.at_ hkq
                  have xl := hr.lt
                  have hmem : (T.Q a).getD k 0 ∈ T.Q a := by simp [List.getD, hkq]
                  obtain ⟨z, hz, hzid, hzs, hzc⟩ := (HT1.out.ok.q1 a han _).1 hmem
                  rw [← hzid] at x0
                  have hfz := fnd_of HT1.out.ok.nd hz
                  have K := (HT1.out.below HM.out.1).look_ (HT1.out.ok.ok z hz).id
                  have e1 : lkV T.L z.id = .agg #[.int .i64 1, .int .i64 a, .int .i64 z.w, .int .i64 z.cr] := by rw [lkV_some hfz]; unfold lv; rw [hzs, hzc]
                  rw [e1, hfz] at K
                  simp only [Option.isSome_some] at K
                  have HJ2 : Hid (k < ln) := hkl
                  clear e1 hfz hz hzid hzs hzc hr hmem hkq hln
                  generalize z.id = zi at *
                  generalize z.w = zw at *
                  generalize z.cr = zr at *
                  go_wp2_with fail
                  refine K.mono ?_
                  rintro e y3 ⟨rfl, hb3⟩
                  have hb4 := hb3.alloc hb3.size (.cells #[.int .i64 1, .int .i64 a, .int .i64 zw, .int .i64 zr] 36)
                  have HM2 : Hid (Below y1.heap.size y1 (y3.alloc (.cells #[.int .i64 1, .int .i64 a, .int .i64 zw, .int .i64 zr] 36)) ∧ LR y1.heap.size (y3.alloc (.cells #[.int .i64 1, .int .i64 a, .int .i64 zw, .int .i64 zr] 36)) v (allC T a) ∧ Qs (y3.alloc (.cells #[.int .i64 1, .int .i64 a, .int .i64 zw, .int .i64 zr] 36)) (.slice (some ⟨g, 0, none⟩) ln c2) (T.Q a) ∧ (T.Q a).length = ln) := ⟨HM.out.1.trans (hb4.mono HM.out.1.size), HM.out.2.1.below hb4, HM.out.2.2.1.below hb4, HM.out.2.2.2⟩
                  clear hb3 hb4 K HM x0 xl
                  go_wp2_with fail
                  go_roundw
                  case rel => exact ⟨k + 1, by have := HJ2.out; omega, by go_num, HM2.out⟩
                  case measure => simp [intOf]; have := HJ2.out; omega
                · obtain rfl : k = ln := by omega
                  have hal := allC_len HT1.out.ok (j := a) (by omega)
                  obtain ⟨v', y3, hrun, hlr, hg⟩ := HM.out.2.1.append HM.out.2.2.1 (by omega) (HT1.out.ok.qlen han) HM.out.1.size
                  have hb3 : Below y1.heap.size y1 y3 := HM.out.2.1.grow HM.out.1 (Nat.le_refl _) hg
                  have HN : Hid (Below y1.heap.size y1 y3 ∧ LR y1.heap.size y3 v' (allC T a ++ T.Q a)) := ⟨hb3, hlr⟩
                  have K := (HT1.out.below hb3).runs_ a han
                  clear hlr hg hb3 HM
                  go_wp2_with (at_builtin; refine step_append_run rfl _ _ 57 rfl _ _ v' y3 rfl rfl hrun ?_)
                  refine K.mono ?_
                  rintro e y4 ⟨rfl, hb4⟩
                  have HN2 : Hid (Below y1.heap.size y1 y4 ∧ LR y1.heap.size y4 v' (allC T a ++ T.Q a)) := ⟨HN.out.1.trans (hb4.mono HN.out.1.size), HN.out.2.below hb4⟩
                  clear hb4 K HN hrun
                  cases hrn : rn T.L a with
                  | none =>
                    have et : tkB T.L a = false := by unfold tkB; rw [hrn]; rfl
                    rw [et]
                    have HE : Hid (Below y1.heap.size y1 y4 ∧ LR y1.heap.size y4 v' (allC T (a + 1))) := by
                      have : allC T (a + 1) = allC T a ++ T.Q a := by
                        have h1 : onC T a = T.Q a := by unfold onC; rw [et]; simp
                        show flat (onC T) a ++ onC T a = _
                        rw [h1]
                        rfl
                      rw [this]
                      exact HN2.out
                    clear HN2 et
                    go_wp2_with fail
                    go_roundw
                    case rel => exact ⟨a + 1, _, by omega, rfl, by go_num, HE.out⟩
                    case measure => simp [intOf]; omega
                  | some z =>
                    obtain ⟨hz, hzs, hzc⟩ := rn_mem hrn
                    have et : tkB T.L a = true := by unfold tkB; rw [hrn]; rfl
                    have ei : riI T.L a = z.id := by unfold riI; rw [hrn]
                    rw [et, ei]
                    have hfz := fnd_of HT1.out.ok.nd hz
                    have K := (HT1.out.below HN2.out.1).look_ (HT1.out.ok.ok z hz).id
                    have e1 : lkV T.L z.id = .agg #[.int .i64 2, .int .i64 a, .int .i64 z.w, .int .i64 z.cr] := by rw [lkV_some hfz]; unfold lv; rw [hzs, hzc]
                    rw [e1, hfz] at K
                    simp only [Option.isSome_some] at K
                    have HAL : Hid (allC T (a + 1) = allC T a ++ T.Q a ++ [z.id]) := by
                      have : allC T (a + 1) = allC T a ++ T.Q a ++ [z.id] := by
                        have h1 : onC T a = T.Q a ++ [z.id] := by unfold onC; rw [et, ei]; rfl
                        show flat (onC T) a ++ onC T a = _
                        rw [h1, ← List.append_assoc]
                        rfl
                      exact this
                    clear e1 hfz hz hzs hzc et ei
                    generalize z.id = zi at *
                    generalize z.w = zw at *
                    generalize z.cr = zr at *
                    go_wp2_with fail
                    refine K.mono ?_
                    rintro e y5 ⟨rfl, hb5⟩
                    have hb6 := hb5.alloc hb5.size (.cells #[.int .i64 2, .int .i64 a, .int .i64 zw, .int .i64 zr] 36)
                    have HN3 : Hid (Below y1.heap.size y1 (y5.alloc (.cells #[.int .i64 2, .int .i64 a, .int .i64 zw, .int .i64 zr] 36)) ∧ LR y1.heap.size (y5.alloc (.cells #[.int .i64 2, .int .i64 a, .int .i64 zw, .int .i64 zr] 36)) v' (allC T a ++ T.Q a)) := ⟨HN2.out.1.trans (hb6.mono HN2.out.1.size), HN2.out.2.below hb6⟩
                    have hql := HT1.out.ok.qlen han
                    obtain ⟨v2, y6, hrun, hlr, hg⟩ := HN3.out.2.push zi (by simp; omega) HN3.out.1.size
                    have HE : Hid (Below y1.heap.size y1 y6 ∧ LR y1.heap.size y6 v2 (allC T (a + 1))) := ⟨HN3.out.2.grow HN3.out.1 (Nat.le_refl _) hg, by rw [HAL.out]; exact hlr⟩
                    have hsz : (y5.alloc (.cells #[.int .i64 2, .int .i64 a, .int .i64 zw, .int .i64 zr] 36)).heap.size = y5.heap.size + 1 := by simp
                    rw [hsz] at hrun
                    clear hb5 hb6 K HN2 HN3 hlr hg hsz
                    go_wp2_with (at_builtin; refine step_append_run rfl _ _ 57 rfl _ _ v2 y6 rfl rfl hrun ?_)
                    go_roundw
                    case rel => exact ⟨a + 1, _, by omega, rfl, by go_num, HE.out⟩
                    case measure => simp [intOf]; omega
            · obtain rfl : a = n := by omega
              have HV : Hid (VW w K0 wr c m p a 100 T) := HT1.out.below HL.out.1
              have HNd : Hid ((allC T a).Nodup) := allC_nd HT1.out.ok (Nat.le_refl _)
              have hall := allC_len HT1.out.ok (j := a) (by omega)
              have HQ : Hid (Qs wr v (allC T a)) := HL.out.2.qs
              obtain ⟨al, hal⟩ : ∃ al, allC T a = al := ⟨_, rfl⟩
              rw [hal] at HNd HQ hall
              obtain ⟨ad2, c2, hform⟩ := HQ.out.form
              obtain ⟨ln, hln⟩ : ∃ ln, al.length = ln := ⟨_, rfl⟩
              rw [hln] at hform hall
              subst hform
              have HLN2 : Hid (al.length = ln) := hln
              obtain ⟨y9, hy9⟩ : ∃ y9, y9 = wr := ⟨_, rfl⟩
              rw [← hy9] at HV HQ ⊢
              clear hal hln HT1 HL hy9
              go_wp2_with fail
              go_loopw [19] (fun q19 wx => ∃ i : Nat, i ≤ ln ∧ q19 = .int .i64 i ∧ Hid (Below y9.heap.size y9 wx)) (fun q19 _ => ln - (intOf q19).toNat)
              case atStart => exact ⟨0, by omega, rfl, Below.refl _ _⟩
              case round =>
                obtain ⟨i, hi, rfl, HI⟩ := hrel
                by_cases hil : i < ln
                · have hil' : (i : Int) < (ln : Int) := by omega
                  have hi9 : (i : Int) < 9223372036854775807 := by omega
                  go_wp2_with fail
                  go_loopw [20] (fun q20 wx => ∃ k : Nat, k ≤ i ∧ q20 = .int .i64 k ∧ Hid (Below y9.heap.size y9 wx)) (fun q20 _ => i - (intOf q20).toNat)
                  case atStart => exact ⟨0, by omega, rfl, HI⟩
                  case round =>
                    obtain ⟨k, hk, rfl, HI2⟩ := hrel
                    clear HI
                    by_cases hki : k < i
                    · have hki' : (k : Int) < (i : Int) := by omega
                      have hkl' : (k : Int) < (ln : Int) := by omega
                      have hk9 : (k : Int) < 9223372036854775807 := by omega
                      obtain ⟨g, c', e9, hr⟩ := HQ.out.pos (by have := HLN2.out; omega)
                      simp only [Value.slice.injEq] at e9
                      obtain ⟨rfl, _, _⟩ := e9
                      have hr2 : Row wr g c' al := hr.keep (HI2.out.block g hr.lt)
                      have x1 := hr2.at_ (i := i) (by have := HLN2.out; omega)
                      have x2 := hr2.at_ (i := k) (by have := HLN2.out; omega)
                      have xl := hr2.lt
                      have hne : ¬ al.getD k 0 = al.getD i 0 := fun e => by
                        have hl := HLN2.out
                        have h1 : al[k]'(by omega) = al[i]'(by omega) := by simpa [List.getD, show k < al.length by omega, show i < al.length by omega] using e
                        exact List.pairwise_iff_getElem.1 HNd.out k i (by omega) (by omega) hki h1
                      have hne2 : (al.getD k 0 == al.getD i 0) = false := by simpa using hne
                      have HKI : Hid (k < i) := hki
                      clear hr hr2
                      generalize al.getD k 0 = u1 at *
                      generalize al.getD i 0 = u2 at *
                      go_wp2_with fail
                      go_quiet (fail)
                      go_wp2_with fail
                      go_roundw
                      case rel => exact ⟨k + 1, by have := HKI.out; omega, by go_num, below_drewN HI2.out nq⟩
                      case measure => simp [intOf]; have := HKI.out; omega
                    · obtain rfl : k = i := by omega
                      go_wp2_with fail
                      go_roundw
                      case rel => exact ⟨k + 1, by omega, by go_num, HI2.out⟩
                      case measure => simp [intOf]; omega
                · obtain rfl : i = ln := by omega
                  have HF : Hid (VW w K0 wr c m p a 100 T) := HV.out.below HI.out
                  have hj0 := HLN.out.2
                  go_wp2_with fail
                  go_roundw
                  case rel => exact ⟨j + 1, by have := HLN.out.1; omega, by go_num, T, HF.out⟩
                  case measure => simp [intOf]; have := HLN.out.1; omega
    · obtain rfl : j = len := by omega
      have HB : Hid (Below w.heap.size w wr) := HJ.out.bel
      clear HJ HK hl
      go_wp2_with fail
      go_ret
      exact ⟨rfl, HB.out⟩
end one
theorem owalk (a : Int) (ad : Option Addr) (len cap : Nat) (w : World) (hK : ActsIn w ad len) (hl : (len : Int) ≤ 9223372036854775807) : Calls Try.prog 6 #[.int .i64 a, .slice ad len cap] w fun e w' => e = .returned (.bool true) ∧ Below w.heap.size w w' := one.walk a ad len cap w hK hl
end Go.Proofs.Ytgdnklmnchcmeaa
