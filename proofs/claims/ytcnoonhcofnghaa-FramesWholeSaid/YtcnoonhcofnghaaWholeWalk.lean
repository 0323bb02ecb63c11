/-
  Each frame has one owner at most, and all counts are all frames: the walk of FramesWhole.
-/
import Derived.Test.YtcnoonhcofnghaaWh
import Derived.Test.YtcnoonhcofnghaaQuotaWalk
import Derived.Deep.Cut
import Derived.Deep.DeepCutAuto
import Derived.Deep.CutRange
namespace Go.Proofs.Ytcnoonhcofnghaa.framesWhole
open Go.RowKit
set_option linter.unusedVariables false
set_option maxRecDepth 20000
set_option maxHeartbeats 1600000 in
theorem walk (a b : Int) (ad : Option Addr) (len cap : Nat) (w : World) (hK : ActsIn w ad len) (hn : len < 9223372036854775808) :
    Calls Try.prog 5 #[.int .i64 a, .int .i64 b, .slice ad len cap] w fun e w' => e = .returned (.bool true) ∧ Below w.heap.size w w' := by
  have HK : Hid (ActsIn w ad len) := hK
  obtain ⟨p, hp, hpe⟩ := and_low a 63 63 (by decide) (by decide)
  obtain ⟨q, hq, hqe⟩ := and_low b 63 63 (by decide) (by decide)
  clear hK
  go_enter Try.func5, Try.ntmps5
  go_wp2_with fail
  obtain ⟨n, hn1⟩ : ∃ n : Nat, 1 + (p : Int) = n := ⟨1 + p, by omega⟩
  obtain ⟨f, hf1⟩ : ∃ f : Nat, (q : Int) % (1 + (p : Int) + 1) = f := ⟨((q : Int) % (1 + (p : Int) + 1)).toNat, by have := Int.emod_nonneg (q : Int) (show (1 + (p : Int) + 1) ≠ 0 by omega); omega⟩
  have hfn : f ≤ n := by have := Int.emod_lt_of_pos (q : Int) (show 0 < (1 + (p : Int) + 1) by omega); omega
  have hnn : 1 ≤ n ∧ n ≤ 64 := by omega
  rw [hf1, hn1]
  clear hf1 hpe hqe
  refine (new_yes n f w (by omega) (by omega) hfn).mono ?_
  rintro e w1 ⟨D, rfl, hf2, hb2⟩
  have E0 : Hid (WA w w1 D n f (nwS n f f)) := ⟨hf2, fun i hi => if_pos hi, rfl, rfl, hb2⟩
  clear hf2 hb2
  go_wp2_with fail
  go_loopw [9] (fun i wr => ∃ j : Nat, j ≤ len ∧ i = .int .i64 j ∧ Hid (∃ S, WA w wr D n f S)) (fun i _ => len - (intOf i).toNat)
  case atStart => exact ⟨0, by omega, rfl, ⟨_, E0.out⟩⟩
  case round =>
    obtain ⟨j, hj, rfl, HJ⟩ := hrel
    clear E0
    obtain ⟨S, hS⟩ := HJ.out
    have HS : Hid (WA w wr D n f S) := hS
    clear hS HJ
    by_cases hjn : j < len
    · have hjn' : (j : Int) < len := by omega
      obtain ⟨X, off, rfl, hX, x, hx, A⟩ := HK.out.at hjn
      obtain ⟨a0, a1, a2, a3⟩ := A.below HS.out.bel hX
      have hXr : X < wr.heap.size := by have := HS.out.bel.size; omega
      obtain ⟨x1, x2, x3⟩ := hx
      have hxt : x.to ≤ 9223372036854775807 := x3.2
      clear A x1 x2 x3
      have HA : Hid (WA w (wr.alloc (.cells #[.int .i64 x.kd, .int .i64 x.fr, .int .i64 x.ow, .int .i64 x.to] 33)) D n f S ∧ (wr.alloc (.cells #[.int .i64 x.kd, .int .i64 x.fr, .int .i64 x.ow, .int .i64 x.to] 33)).heap[wr.heap.size]? = some (.cells #[.int .i64 x.kd, .int .i64 x.fr, .int .i64 x.ow, .int .i64 x.to] 33 (0, 0))) := ⟨HS.out.below ((Below.refl _ _).alloc (Nat.le_refl _) _), heap_alloc_at _ _⟩
      clear HS
      obtain ⟨A, hA⟩ : ∃ A, wr.heap.size = A := ⟨_, rfl⟩
      rw [hA] at HA
      go_upto_region 10 with fail
      go_cut [10, 58] from 47 to 208 (fun p k wx => (p = .pointer (some ⟨A, 0, none⟩) ∧ k = .int .i64 x.kd) ∧ Hid (WA w wx D n f S ∧ wx.heap[A]? = some (.cells #[.int .i64 x.kd, .int .i64 x.fr, .int .i64 x.ow, .int .i64 x.to] 33 (0, 0))))
      case first =>
        go_wp2_with fail
        go_meet
        case rel => exact ⟨⟨rfl, rfl⟩, HA⟩
      case rest =>
        obtain ⟨⟨rfl, rfl⟩, HA0⟩ := hcut
        clear HA a0 a1 a2 a3 hA
        obtain ⟨y0, hy0⟩ : ∃ y0, y0 = wc := ⟨_, rfl⟩
        rw [← hy0] at HA0 ⊢
        clear hy0
        go_step
        go_cut [11, 12, 13, 14, 15] from 47 to 208 (fun _ _ _ _ _ wx => True ∧ Hid (∃ T, WA w wx D n f T))
        case first =>
         as_aux_lemma =>
          have k1 := cell_at HA0.out.2 1
          have k2 := cell_at HA0.out.2 2
          have k3 := cell_at HA0.out.2 3
          have kl := lt_of_heap HA0.out.2
          simp only [List.getElem?_toArray, List.getElem?_cons_zero, List.getElem?_cons_succ] at k1 k2 k3
          by_cases d0 : x.kd = 0
          · rw [d0]
            go_wp2_with fail
            refine (HA0.out.1.al x.ow).mono ?_
            rintro e w2 ⟨rfl, hw2, ht2⟩
            have H2 : Hid (WA w w2 D n f (alS S x.ow)) := hw2
            have hA2 : w2.heap[A]? = some (.cells #[.int .i64 x.kd, .int .i64 x.fr, .int .i64 x.ow, .int .i64 x.to] 33 (0, 0)) := ht2.keep _ _ HA0.out.2 (.inr (by intro h; rcases h with h | h <;> cases h))
            clear hw2 ht2
            by_cases e0 : alE S x.ow = 0
            · obtain ⟨o1, o2, o3, o4⟩ := al_own HA0.out.1.fst e0
              rw [HA0.out.1.sf] at o1
              have C := owner_fx H2.out.fx (alR S x.ow)
              rw [o2, o3, o4] at C
              rw [e0]
              clear e0 o2 o3 o4
              generalize alR S x.ow = z at *
              go_wp2_with fail
              refine C.mono ?_
              rintro e w3 ⟨rfl, b3⟩
              have H3 : Hid (∃ T, WA w w3 D n f T) := ⟨_, H2.out.below b3⟩
              have hA3 := (b3.block A (lt_of_heap hA2)).trans hA2
              have j2 := cell_at hA3 2
              have jl := lt_of_heap hA3
              simp only [List.getElem?_toArray, List.getElem?_cons_zero, List.getElem?_cons_succ] at j2
              clear b3 hA3 hA2 k1 k2 k3 kl
              go_wp2_with fail
              go_meet
              case rel => exact ⟨trivial, H3⟩
            · have H3 : Hid (∃ T, WA w w2 D n f T) := ⟨_, H2.out⟩
              generalize alR S x.ow = z at *
              generalize alE S x.ow = z2 at *
              clear hA2 H2
              go_wp2_with fail
              go_meet
              case rel => exact ⟨trivial, H3⟩
          · by_cases d1 : x.kd = 1
            · rw [d1]
              go_wp2_with fail
              refine (HA0.out.1.ho x.fr x.ow).mono ?_
              rintro e w2 ⟨rfl, hw2⟩
              have H2 : Hid (∃ T, WA w w2 D n f T) := ⟨_, hw2⟩
              clear hw2
              generalize hoE S x.fr x.ow = z at *
              go_wp2_with fail
              go_meet
              case rel => exact ⟨trivial, H2⟩
            · by_cases d2 : x.kd = 2
              · rw [d2]
                go_wp2_with fail
                refine (HA0.out.1.fr x.fr x.ow).mono ?_
                rintro e w2 ⟨rfl, hw2⟩
                have H2 : Hid (∃ T, WA w w2 D n f T) := ⟨_, hw2⟩
                clear hw2
                generalize frB S x.fr x.ow = z at *
                generalize errL S x.fr x.ow x.ow = z2 at *
                go_wp2_with fail
                go_meet
                case rel => exact ⟨trivial, H2⟩
              · by_cases d3 : x.kd = 3
                · rw [d3]
                  go_wp2_with fail
                  refine (HA0.out.1.mo x.fr x.ow x.to).mono ?_
                  rintro e w2 ⟨rfl, hw2⟩
                  have H2 : Hid (∃ T, WA w w2 D n f T) := ⟨_, hw2⟩
                  clear hw2
                  generalize moE S x.fr x.ow x.to = z at *
                  go_wp2_with fail
                  go_meet
                  case rel => exact ⟨trivial, H2⟩
                · by_cases d4 : x.kd = 4
                  · rw [d4]
                    go_wp2_with fail
                    refine (HA0.out.1.qu x.ow x.to hxt).mono ?_
                    rintro e w2 ⟨rfl, hw2⟩
                    have H2 : Hid (∃ T, WA w w2 D n f T) := ⟨_, hw2⟩
                    clear hw2
                    generalize quE x.ow x.to = z at *
                    go_wp2_with fail
                    go_meet
                    case rel => exact ⟨trivial, H2⟩
                  · have H2 : Hid (∃ T, WA w y0 D n f T) := ⟨_, HA0.out.1⟩
                    generalize x.kd = kd at *
                    go_wp2_with fail
                    go_meet
                    case rel => exact ⟨trivial, H2⟩
        case rest =>
          obtain ⟨_, HT⟩ := hcut
          obtain ⟨T, hT⟩ := HT.out
          have HT1 : Hid (WA w wc D n f T) := hT
          clear hT HT HA0
          have hmk := make_seen wc n (by omega)
          have E1 : Hid (WI w (wc.alloc (.cells (madeCells #[.bool false] n) 4)) D n f T wc.heap.size (seenP T 0 0)) := ⟨HT1.out.below ((Below.refl _ _).alloc (Nat.le_refl _) _), (SB.made wc n).congr (fun i _ => (seenP_zero T i).symm), HT1.out.bel.size⟩
          have hTn : T.n = n := HT1.out.sn
          have hTc : ∀ m, T.ct m ≤ n := fun m => hTn ▸ cn_le T.cl T.n m
          have HC : Hid (∀ m, T.ct m ≤ n) := hTc
          have HO : Hid (Ok T) := HT1.out.fx.ok
          obtain ⟨g, hg⟩ : ∃ g, wc.heap.size = g := ⟨_, rfl⟩
          rw [hg] at hmk E1
          clear HT1 hTc hg
          go_wp2_with fail
          go_loopw [16, 18, 19] (fun sm fe who wq => ∃ m : Nat, m ≤ 17 ∧ who = .int .i64 m ∧ sm = .int .i64 (cnL T.cl n m) ∧ fe = .int .i64 (if m = 0 then 0 else (T.ct 17 : Int)) ∧ Hid (WI w wq D n f T g (seenP T m 0))) (fun _ _ who _ => 17 - (intOf who).toNat)
          case atStart => exact ⟨0, by omega, rfl, by rw [cnL_zero]; rfl, rfl, E1⟩
          case round =>
            obtain ⟨m, hm, rfl, rfl, rfl, HW⟩ := hrel
            clear E1 hmk
            by_cases hm16 : m ≤ 16
            · have hm' : (m : Int) ≤ 16 := by omega
              obtain ⟨L, hL⟩ : ∃ L, lsL T.cl m T.n = L := ⟨_, rfl⟩
              have hLl : L.length = T.ct m := by rw [← hL]; exact lsL_length _ _ _
              have c1 := HC.out m
              have s1 := cnL_succ T.cl m n
              have s2 := cnL_le T.cl n m
              rw [show cn T.cl n m = L.length by rw [hLl, ← hTn]; rfl] at s1
              obtain ⟨sj, hsj⟩ : ∃ x : Int, ((cnL T.cl n m : Nat) : Int) = x := ⟨_, rfl⟩
              rw [hsj]
              have s3 : ((cnL T.cl n (m + 1) : Nat) : Int) = sj + (L.length : Int) := by omega
              have HS3 : Hid (((cnL T.cl n (m + 1) : Nat) : Int) = sj + (L.length : Int)) := s3
              have s4 : 0 ≤ sj ∧ sj ≤ 64 := by omega
              obtain ⟨s5, s6⟩ := s4
              have hL64 : (L.length : Int) ≤ 64 := by omega
              have K1 := HW.out.wa.cnt m hm16
              rw [← hLl] at K1
              clear s1 s2 s3 hsj c1
              generalize (if m = 0 then (0 : Int) else (T.ct 17 : Int)) = fe0
              go_wp2_with fail
              refine K1.mono ?_
              rintro e w2 ⟨rfl, b2⟩
              have H2 : Hid (WI w w2 D n f T g (seenP T m 0)) := HW.out.below b2
              clear b2 K1
              go_wp2_with fail
              refine (list_yes H2.out.wa.fx m hm16).mono ?_
              rintro e w3 ⟨v, rfl, hv, b3⟩
              rw [hL] at hv
              obtain ⟨la, lc, rfl⟩ := hv.form
              have hgl : g < w2.heap.size := H2.out.sb.lt
              have H3 : Hid (WI w w3 D n f T g (seenP T m 0) ∧ LR w2.heap.size w3 (.slice la L.length lc) L) := ⟨H2.out.below b3, hv⟩
              obtain ⟨bs, hbs⟩ : ∃ b, w2.heap.size = b := ⟨_, rfl⟩
              rw [hbs] at H3 hgl
              clear b3 hv hbs H2 HW
              go_wp2_with fail
              go_loopw [23] (fun k wz => ∃ i : Nat, i ≤ L.length ∧ k = .int .i64 i ∧ Hid (WI w wz D n f T g (seenP T m i) ∧ LR bs wz (.slice la L.length lc) L)) (fun k _ => L.length - (intOf k).toNat)
              case atStart => exact ⟨0, by omega, rfl, H3⟩
              case round =>
                obtain ⟨i, hi, rfl, HI⟩ := hrel
                clear H3
                by_cases hil : i < L.length
                · have hil' : (i : Int) < L.length := by omega
                  have hk0 : i < (lsL T.cl m T.n).length := by rw [hL]; exact hil
                  obtain ⟨g1, c1, hv, hb1, hl1, cl1⟩ := HI.out.2.c hil
                  cases hv
                  have C := HI.out.1.wa.ow hm16 hk0
                  have hz := ls_at hk0
                  have hnot := seenP_not T m i hk0
                  have HSu : Hid (upd (seenP T m i) ((lsL T.cl m T.n).getD i 0) true = seenP T m (i + 1)) := seenP_succ T m i hk0
                  rw [hL] at C hz hnot HSu
                  obtain ⟨hz1, hz2⟩ := hz
                  rw [hTn] at hz1
                  clear hk0 hz2
                  generalize L.getD i 0 = z at *
                  have hz3 : (z : Int) < n := by omega
                  go_wp2_with fail
                  refine C.mono ?_
                  rintro e w4 ⟨⟨t, rfl⟩, b4⟩
                  have H4 : Hid (WI w w4 D n f T g (seenP T m i) ∧ LR bs w4 (.slice (some ⟨g1, 0, none⟩) L.length lc) L) := ⟨HI.out.1.below b4, HI.out.2.below b4⟩
                  have cl4 := ((bcell b4).1 g1 i hl1).trans cl1
                  have hl4 : g1 < w4.heap.size := by have := b4.size; omega
                  have cs4 := H4.out.1.sb.c hz1
                  rw [hnot] at cs4
                  have fs4 := H4.out.1.sb.fz z
                  have gs4 := H4.out.1.sb.lt
                  have HN : Hid (WI w (w4.setCell ⟨g, z, none⟩ (.bool true)) D n f T g (seenP T m (i + 1)) ∧ LR bs (w4.setCell ⟨g, z, none⟩ (.bool true)) (.slice (some ⟨g1, 0, none⟩) L.length lc) L) := by
                    obtain ⟨n1, n2⟩ := H4.out.1.set hz1
                    rw [HSu.out] at n1
                    exact ⟨n1, H4.out.2.turned n2 hgl⟩
                  clear b4 cl1 hl1 C HI H4 HSu hnot
                  go_wp2_with fail
                  go_roundw
                  case rel => exact ⟨i + 1, by omega, by go_num, HN⟩
                  case measure => simp [intOf]; omega
                · obtain rfl : i = L.length := by omega
                  have HN : Hid (∃ b : Nat, m + 1 ≤ 17 ∧ WI w wr D n f T g (seenP T (m + 1) 0)) := by
                    refine ⟨0, by omega, HI.out.1.wa, HI.out.1.sb.congr (fun i hi => ?_), HI.out.1.gw⟩
                    rw [← hL]
                    exact seenP_next T m i (by omega)
                  clear HI
                  go_wp2_with fail
                  go_roundw
                  case rel =>
                    obtain ⟨_, h1, h2⟩ := HN.out
                    exact ⟨m + 1, by omega, by go_num, by rw [HS3.out, hLl], by rw [if_neg (by omega)], h2⟩
                  case measure => simp [intOf]; omega
            · obtain rfl : m = 17 := by omega
              have HF : Hid (∃ T, WA w wr D n f T) := ⟨_, HW.out.wa⟩
              have e1 := cnL_succ T.cl 17 n
              rw [cnL_all T.cl HO.out.c n, show cn T.cl n 17 = T.ct 17 by rw [← hTn]; rfl] at e1
              have e2 : ((cnL T.cl n 17 : Nat) : Int) + (T.ct 17 : Int) = n := by omega
              have e3 : (0 : Int) ≤ (cnL T.cl n 17 : Int) ∧ (0 : Int) ≤ (T.ct 17 : Int) := by omega
              obtain ⟨e4, e5⟩ := e3
              rw [if_neg (by decide)]
              clear HW e1
              generalize ((cnL T.cl n 17 : Nat) : Int) = y1 at *
              generalize ((T.ct 17 : Nat) : Int) = y2 at *
              go_wp2_with fail
              go_roundw
              case rel => exact ⟨j + 1, by omega, by go_num, HF.out⟩
              case measure => simp [intOf]; omega
    · obtain rfl : j = len := by omega
      obtain ⟨a1, ha1⟩ : ∃ x : Hid (Below w.heap.size w wr), True := ⟨HS.out.bel, trivial⟩
      clear HS
      go_wp2_with fail
      go_ret
      exact ⟨rfl, a1.out⟩
end Go.Proofs.Ytcnoonhcofnghaa.framesWhole
