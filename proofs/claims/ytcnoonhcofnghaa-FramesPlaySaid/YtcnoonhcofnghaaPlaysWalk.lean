/-
  Frames under any calls are whose the document says: the walk of FramesPlay.
-/
import Derived.Test.YtcnoonhcofnghaaPa
namespace Go.Proofs.Ytcnoonhcofnghaa
open Go.RowKit
set_option linter.unusedVariables false
set_option maxRecDepth 20000
theorem lsL_split (cl : Nat → Nat) (a i m : Nat) : ∃ rest, lsL cl a (i + m) = lsL cl a i ++ rest := by
  induction m with
  | zero => exact ⟨[], by simp⟩
  | succ m ih =>
    obtain ⟨rest, h⟩ := ih
    rw [show i + (m + 1) = i + m + 1 from rfl, lsL_succ, h]
    exact ⟨_, List.append_assoc _ _ _⟩
/-- an owner's next frame stands next in its list -/
theorem lsL_next {cl : Nat → Nat} {a i n : Nat} (hi : i < n) (hc : cl i = a) : (lsL cl a i).length < (lsL cl a n).length ∧ (lsL cl a n).getD (lsL cl a i).length 0 = i := by
  obtain ⟨rest, h⟩ := lsL_split cl a (i + 1) (n - (i + 1))
  rw [show i + 1 + (n - (i + 1)) = n by omega, lsL_succ, if_pos hc] at h
  rw [h]
  refine ⟨by simp, ?_⟩
  rw [List.getD_eq_getElem?_getD, List.append_assoc, List.getElem?_append_right (Nat.le_refl _)]
  simp
theorem lsL_le (cl : Nat → Nat) (a i : Nat) : (lsL cl a i).length ≤ i := by rw [lsL_length]; exact cn_le _ _ _
theorem names_ok (w : World) : Calls Try.prog 9 #[] w fun e w' => e = .returned (.bool true) ∧ w' = w := by
  go_enter Try.func9, Try.ntmps9
  go_wp2_with fail
  go_ret
  exact ⟨rfl, rfl⟩
/-- how far the list is told behind the first i frames -/
def kk (S : Fs) (o : Int) (i : Nat) : Nat := if isO o then (lsL S.cl o.toNat i).length else 0
theorem kk_zero (S : Fs) (o : Int) : kk S o 0 = 0 := by unfold kk; split <;> simp [lsL]
theorem kk_le (S : Fs) (o : Int) (i : Nat) : kk S o i ≤ i := by
  unfold kk
  split
  · exact lsL_le _ _ _
  · omega
theorem kk_stay (S : Fs) (o : Int) (i : Nat) (hc : S.cl i ≤ 17) (h : S.cl i = 17 ∨ (S.cl i : Int) ≠ o) : kk S o (i + 1) = kk S o i := by
  unfold kk
  by_cases h1 : isO o
  · rw [if_pos h1, if_pos h1, lsL_succ, if_neg (by have := h1.1; have := h1.2; omega)]
    simp
  · rw [if_neg h1, if_neg h1]
theorem kk_go (S : Fs) (o : Int) (i : Nat) (hc : S.cl i ≤ 17) (h1 : S.cl i ≠ 17) (h2 : (S.cl i : Int) = o) : kk S o (i + 1) = kk S o i + 1 ∧ isO o ∧ S.cl i = o.toNat := by
  have ho : isO o := ⟨by omega, by omega⟩
  unfold kk
  rw [if_pos ho, if_pos ho, lsL_succ, if_pos (by omega)]
  exact ⟨by simp, ho, by omega⟩
/-- what List tells, of any number -/
theorem list_any {B : Nat} {w : World} {D : Nat} {S : Fs} (h : FX B w D S) (o : Int) : Calls Try.prog 15 #[.pointer (some ⟨D, 0, none⟩), .int .i64 o] w fun e w' => ∃ (la : Option Addr) (lc : Nat), e = .returned (.slice la (kk S o S.n) lc) ∧ Below w.heap.size w w' ∧ (isO o → LR w.heap.size w' (.slice la (kk S o S.n) lc) (lsL S.cl o.toNat S.n)) := by
  by_cases ho : isO o
  · obtain ⟨a, rfl⟩ : ∃ a : Nat, o = a := ⟨o.toNat, by have := ho.1; omega⟩
    refine (list_yes h a (by have := ho.2; omega)).mono fun e w' ⟨v, he, hv, hb⟩ => ?_
    obtain ⟨la, lc, hf⟩ := hv.form
    have hk : kk S a S.n = (lsL S.cl a S.n).length := by unfold kk; rw [if_pos ho, Int.toNat_natCast]
    rw [hk, Int.toNat_natCast]
    subst hf
    exact ⟨la, lc, he, hb, fun _ => hv⟩
  · refine (list_no h o ho).mono fun e w' ⟨he, hw⟩ => ?_
    have hk : kk S o S.n = 0 := by unfold kk; rw [if_neg ho]
    rw [hk, hw]
    exact ⟨none, 0, he, Below.refl _ _, fun h => absurd h ho⟩
namespace framesPlay
set_option maxHeartbeats 1600000 in
theorem walk_no (a b : Int) (ad : Option Addr) (len cap : Nat) (w : World) (hn : len < 9223372036854775808) (hg : ¬ (1 ≤ a ∧ a ≤ 65536 ∧ 0 ≤ b ∧ b ≤ a)) :
    Calls Try.prog 3 #[.int .i64 a, .int .i64 b, .slice ad len cap] w fun e w' => e = .returned (.bool true) ∧ Below w.heap.size w w' := by
  have C1 := new_no a b w hg
  have C2 := rnew_no a b w hg
  clear hg
  go_enter Try.func3, Try.ntmps3
  go_wp2_with fail
  refine C1.mono ?_
  rintro e w1 ⟨rfl, rfl⟩
  go_wp2_with fail
  refine C2.mono ?_
  rintro e w1 ⟨rfl, rfl⟩
  go_wp2_with fail
  refine (names_ok w1).mono ?_
  rintro e w1 ⟨rfl, rfl⟩
  go_wp2_with fail
  refine wp_loop_rounds 1 ?_
  rw [rounds_succ]
  go_wp2_with fail
  all_goals
    refine wp_loop_rounds 1 ?_
    rw [rounds_succ]
    go_wp2_with fail
    go_ret
    exact ⟨rfl, Below.refl _ _⟩
set_option maxHeartbeats 3200000 in
theorem walk_yes (n f : Nat) (ad : Option Addr) (len cap : Nat) (w : World) (hK : ActsIn w ad len) (hn : len < 9223372036854775808) (h1 : 1 ≤ n) (h2 : n ≤ 65536) (h3 : f ≤ n) :
    Calls Try.prog 3 #[.int .i64 n, .int .i64 f, .slice ad len cap] w fun e w' => e = .returned (.bool true) ∧ Below w.heap.size w w' := by
  have HK : Hid (ActsIn w ad len) := hK
  clear hK
  go_enter Try.func3, Try.ntmps3
  go_wp2_with fail
  refine (new_yes n f w h1 h2 h3).mono ?_
  rintro e w1 ⟨D, rfl, hf1, hb1⟩
  have H1 : Hid (FX w.heap.size w1 D (nwS n f f) ∧ Below w.heap.size w w1) := ⟨hf1, hb1⟩
  clear hf1 hb1
  go_wp2_with fail
  refine (rnew_yes n f w1 h1 h2 h3).mono ?_
  rintro e w2 ⟨R, r, rfl, hr2, hb2⟩
  have H2 : Hid (∃ S, PX w.heap.size w w2 D R r S S) := ⟨_, ⟨H1.out.1.below hb2, ⟨hr2.ob, hr2.row, hr2.ok, by have := hr2.lo.1; have := H1.out.2.size; omega, by have := hr2.lo.2; have := H1.out.2.size; omega⟩, H1.out.2.trans (hb2.mono H1.out.2.size), Nat.le_refl _⟩⟩
  clear hr2 hb2 H1
  go_wp2_with fail
  refine (names_ok w2).mono ?_
  rintro e w2' ⟨rfl, rfl⟩
  go_wp2_with fail
  go_loopw [11] (fun i wr => ∃ j : Nat, j ≤ len ∧ i = .int .i64 j ∧ Hid (∃ S, PX w.heap.size w wr D R r S S)) (fun i _ => len - (intOf i).toNat)
  case atStart => exact ⟨0, by omega, rfl, H2⟩
  case round =>
    obtain ⟨j, hj, rfl, HJ⟩ := hrel
    clear H2
    obtain ⟨S, hS⟩ := HJ.out
    have HS : Hid (PX w.heap.size w wr D R r S S) := hS
    clear hS HJ
    by_cases hjn : j < len
    · have hjn' : (j : Int) < len := by omega
      obtain ⟨X, off, rfl, hX, x, hx, A⟩ := HK.out.at hjn
      obtain ⟨a0, a1, a2, a3⟩ := A.below HS.out.bel hX
      have hXr : X < wr.heap.size := by have := HS.out.bel.size; omega
      have HA : Hid (AcAt w X (off + j * 4) x) := A
      obtain ⟨x1, x2, x3⟩ := hx
      have C1 := does_any HS.out x x3.2
      clear A x3
      go_wp2_with fail
      refine C1.mono ?_
      rintro e w3 ⟨rfl, T, hT⟩
      have H3 : Hid (PX w.heap.size w w3 D R r T T) := hT
      clear hT C1 HS a0 a1 a2 a3 hXr
      have c0 := H3.out.rf.c0
      have hl := H3.out.rf.lt
      have hrl := H3.out.rf.rlt
      have n2 := H3.out.rf.ok.n2
      have HL : Hid (∀ k, k ≤ T.n → sumT T.ti k ≤ k * 65536) := sumT_lt T.ti T.n (fun i hi => by
        have := H3.out.rf.ok.t i hi
        by_cases e : T.cl i = 17
        · rw [this.1 e]; omega
        · exact (this.2 e).2)
      go_wp2_with fail
      go_loopw [12, 13] (fun sm k wq => ∃ i : Nat, i ≤ T.n ∧ k = .int .i64 i ∧ sm = .int .i64 (sumT T.ti i) ∧ wq = w3) (fun _ k _ => T.n - (intOf k).toNat)
      case atStart => exact ⟨0, by omega, rfl, rfl, rfl⟩
      case round =>
        obtain ⟨i, hi, rfl, rfl, rfl⟩ := hrel
        by_cases hin : i < T.n
        · have hin' : (i : Int) < T.n := by omega
          have r1 := H3.out.rf.r1 hin
          have l1 := HL.out i (by omega)
          have l2 := HL.out (i + 1) (by omega)
          have e1 : ((sumT T.ti (i + 1) : Nat) : Int) = (sumT T.ti i : Int) + (T.ti i : Int) := by simp [sumT]
          have l3 : ((sumT T.ti i : Nat) : Int) + (T.ti i : Int) ≤ 9000000000 := by rw [← e1]; omega
          have l4 : ((sumT T.ti i : Nat) : Int) ≤ 9000000000 := by omega
          have l5 : (0 : Int) ≤ (sumT T.ti i : Int) := by omega
          have l6 : (0 : Int) ≤ (T.ti i : Int) := by omega
          have HE : Hid (((sumT T.ti (i + 1) : Nat) : Int) = (sumT T.ti i : Int) + (T.ti i : Int)) := e1
          clear l1 l2 e1
          generalize ((sumT T.ti i : Nat) : Int) = sj at *
          generalize ((T.ti i : Nat) : Int) = tj at *
          go_wp2_with fail
          go_roundw
          case rel => exact ⟨i + 1, by omega, by go_num, by rw [HE.out], trivial⟩
          case measure => simp [intOf]; omega
        · obtain rfl : i = T.n := by omega
          have C2 := sum_fx H3.out.fx
          generalize ((sumT T.ti T.n : Nat) : Int) = sj at *
          go_wp2_with fail
          refine C2.mono ?_
          rintro e w4 ⟨rfl, b4⟩
          have H4 : Hid (PX w.heap.size w w4 D R r T T) := H3.out.below b4
          obtain ⟨a0, a1, a2, a3⟩ := HA.out.below H4.out.bel hX
          have hX4 : X < w4.heap.size := by have := H4.out.bel.size; omega
          clear b4 C2 c0 hl hrl H3 HL
          have C3 : Calls Try.prog 12 #[.pointer (some ⟨D, 0, none⟩), .int .i64 x.ow] w4 fun e w' => e = .returned (.tuple #[.int .i64 (own T x.ow), .int .i64 (T.ct 17)]) ∧ Below w4.heap.size w4 w' := by
            obtain ⟨r0, CC, ss, hfr⟩ := H4.out.fx
            exact count_fr hfr x.ow
          have HC : Hid (∀ w5, PX w.heap.size w w5 D R r T T → Calls Try.prog 13 #[.pointer (some ⟨R, 0, none⟩), .int .i64 x.ow] w5 fun e w' => e = .returned (.tuple #[.int .i64 (own T x.ow), .int .i64 (T.ct 17)]) ∧ w' = w5) := fun w5 h5 => rcount h5.rf x.ow
          generalize own T x.ow = ow at *
          generalize ((T.ct 17 : Nat) : Int) = c17 at *
          go_wp2_with fail
          refine C3.mono ?_
          rintro e w5 ⟨rfl, b5⟩
          have H5 : Hid (PX w.heap.size w w5 D R r T T) := H4.out.below b5
          clear a0 a1 a2 a3 hX4 b5 C3 H4
          obtain ⟨a0, a1, a2, a3⟩ := HA.out.below H5.out.bel hX
          have hX5 : X < w5.heap.size := by have := H5.out.bel.size; omega
          go_wp2_with fail
          refine (HC.out w5 H5.out).mono ?_
          rintro e w6 ⟨rfl, rfl⟩
          clear HC
          go_wp2_with fail
          refine (owner_fx H5.out.fx x.fr).mono ?_
          rintro e w8 ⟨rfl, b8⟩
          have H8 : Hid (PX w.heap.size w w8 D R r T T) := H5.out.below b8
          clear a0 a1 a2 a3 hX5 b8 H5
          obtain ⟨a0, a1, a2, a3⟩ := HA.out.below H8.out.bel hX
          have hX8 : X < w8.heap.size := by have := H8.out.bel.size; omega
          have c0 := H8.out.rf.c0
          have hl := H8.out.rf.lt
          have hrl := H8.out.rf.rlt
          by_cases g0 : 0 ≤ x.fr
          · by_cases g1 : x.fr < T.n
            · obtain ⟨i, hi⟩ : ∃ i : Nat, x.fr = i := ⟨x.fr.toNat, by omega⟩
              rw [hi] at a1 g1 ⊢
              have hi1 : i < T.n := by omega
              have r0 := H8.out.rf.r0 hi1
              have r1 := H8.out.rf.r1 hi1
              have tt := H8.out.rf.ok.t i hi1
              by_cases g2 : T.cl i = 17
              · have k0 : owK T i = false := by unfold owK; rw [Int.toNat_natCast, g2]; simp
                have k1 : owO T i = 0 := by unfold owO; rw [k0]; rfl
                have k2 : owT T i = 0 := by unfold owT; rw [k0]; rfl
                rw [tt.1 g2] at r1
                rw [k0, k1, k2]
                clear k0 k1 k2 tt g0 hi
                go_wp2_with fail
                go_quiet (fail)
                go_wp2_with fail
                go_quiet (fail)
                go_wp2_with fail
                go_roundw
                case rel => exact ⟨j + 1, by omega, by go_num, ⟨_, H8.out.below (below_drewN (Below.refl _ _) _)⟩⟩
                case measure => simp [intOf]; omega
              · have k0 : owK T i = true := by unfold owK; rw [Int.toNat_natCast, decide_eq_true (by omega), decide_eq_true g2]; rfl
                have k1 : owO T i = T.cl i := by unfold owO; rw [k0, if_pos rfl, Int.toNat_natCast]
                have k2 : owT T i = T.ti i := by unfold owT; rw [k0, if_pos rfl, Int.toNat_natCast]
                have t1 : (0 : Int) < (T.ti i : Int) := by have := (tt.2 g2).1; omega
                rw [show rO T i = T.cl i by unfold rO; rw [if_neg g2]] at r0
                rw [k0, k1, k2]
                clear k0 k1 k2 tt g0 hi g2
                generalize ((T.cl i : Nat) : Int) = tc at *
                generalize ((T.ti i : Nat) : Int) = tv at *
                have hd : decide (0 < tv) = true := decide_eq_true t1
                go_wp2_with fail
                go_quiet (fail)
                go_wp2_with fail
                go_quiet (fail)
                go_wp2_with fail
                go_roundw
                case rel => exact ⟨j + 1, by omega, by go_num, ⟨_, H8.out.below (below_drewN (Below.refl _ _) _)⟩⟩
                case measure => simp [intOf]; omega
            · have k0 : owK T x.fr = false := by unfold owK; rw [decide_eq_false (fun e => g1 e.2)]; rfl
              have k1 : owO T x.fr = 0 := by unfold owO; rw [k0]; rfl
              have k2 : owT T x.fr = 0 := by unfold owT; rw [k0]; rfl
              rw [k0, k1, k2]
              have hd0 : decide (0 ≤ x.fr) = true := decide_eq_true g0
              have hd : decide (x.fr < T.n) = false := decide_eq_false g1
              clear k0 k1 k2
              generalize x.fr = xf at *
              go_wp2_with fail
              go_quiet (fail)
              go_wp2_with fail
              go_quiet (fail)
              go_wp2_with fail
              go_roundw
              case rel => exact ⟨j + 1, by omega, by go_num, ⟨_, H8.out.below (below_drewN (Below.refl _ _) _)⟩⟩
              case measure => simp [intOf]; omega
          · have k0 : owK T x.fr = false := by unfold owK; rw [decide_eq_false (fun e => g0 e.1)]; rfl
            have k1 : owO T x.fr = 0 := by unfold owO; rw [k0]; rfl
            have k2 : owT T x.fr = 0 := by unfold owT; rw [k0]; rfl
            rw [k0, k1, k2]
            have hd0 : decide (0 ≤ x.fr) = false := decide_eq_false g0
            clear k0 k1 k2
            generalize x.fr = xf at *
            go_wp2_with fail
            go_quiet (fail)
            go_wp2_with fail
            go_quiet (fail)
            go_wp2_with fail
            go_roundw
            case rel => exact ⟨j + 1, by omega, by go_num, ⟨_, H8.out.below (below_drewN (Below.refl _ _) _)⟩⟩
            case measure => simp [intOf]; omega
    · obtain rfl : j = len := by omega
      clear HK
      go_wp2_with fail
      go_loopw [22] (fun who wq => ∃ t : Nat, t ≤ 19 ∧ who = .int .i64 ((t : Int) - 1) ∧ Hid (PX w.heap.size w wq D R r S S)) (fun who _ => 19 - ((intOf who) + 1).toNat)
      case atStart => exact ⟨0, by omega, rfl, HS⟩
      case round =>
        obtain ⟨t, ht, rfl, HT⟩ := hrel
        clear HS
        obtain ⟨o, ho⟩ : ∃ o : Int, (t : Int) - 1 = o := ⟨_, rfl⟩
        rw [ho]
        by_cases ht9 : t < 19
        · have ho1 : -1 ≤ o := by omega
          have ho2 : o ≤ 17 := by omega
          go_wp2_with fail
          refine (list_any HT.out.fx o).mono ?_
          rintro e w4 ⟨la, lc, rfl, b4, hv⟩
          have H4 : Hid (PX w.heap.size w w4 D R r S S ∧ (isO o → LR wr.heap.size w4 (.slice la (kk S o S.n) lc) (lsL S.cl o.toNat S.n))) := ⟨HT.out.below b4, hv⟩
          clear b4 hv HT
          obtain ⟨bs, hbs⟩ : ∃ b, wr.heap.size = b := ⟨_, rfl⟩
          rw [hbs] at H4
          have c0 := H4.out.1.rf.c0
          have hl := H4.out.1.rf.lt
          have hrl := H4.out.1.rf.rlt
          have n2 := H4.out.1.rf.ok.n2
          have kN := kk_le S o S.n
          obtain ⟨K, hKk⟩ : ∃ K : Nat, kk S o S.n = K := ⟨_, rfl⟩
          rw [hKk] at H4 kN ⊢
          go_wp2_with fail
          go_loopw [24, 25] (fun k i wq => ∃ m : Nat, m ≤ S.n ∧ i = .int .i64 m ∧ k = .int .i64 (kk S o m) ∧ wq = w4) (fun _ i _ => S.n - (intOf i).toNat)
          case atStart => exact ⟨0, by omega, rfl, by rw [kk_zero]; rfl, rfl⟩
          case round =>
            obtain ⟨m, hm, rfl, rfl, rfl⟩ := hrel
            have km := kk_le S o m
            by_cases hmn : m < S.n
            · have hmn' : (m : Int) < S.n := by omega
              have r0 := H4.out.1.rf.r0 hmn
              have r1 := H4.out.1.rf.r1 hmn
              have tt := H4.out.1.rf.ok.t m hmn
              have hc := H4.out.1.rf.ok.c m
              by_cases g1 : S.cl m = 17
              · rw [tt.1 g1] at r1
                have HK1 : Hid (kk S o (m + 1) = kk S o m) := kk_stay S o m hc (.inl g1)
                clear tt hc g1
                generalize kk S o m = k at *
                go_wp2_with fail
                go_roundw
                case rel => exact ⟨m + 1, by omega, by go_num, by rw [HK1.out], trivial⟩
                case measure => simp [intOf]; omega
              · have t1 : (0 : Int) < (S.ti m : Int) := by have := (tt.2 g1).1; omega
                rw [show rO S m = S.cl m by unfold rO; rw [if_neg g1]] at r0
                by_cases g2 : (S.cl m : Int) = o
                · obtain ⟨k1, k2, k3⟩ := kk_go S o m hc g1 g2
                  obtain ⟨q1, q2⟩ := lsL_next (n := S.n) hmn k3
                  have hL := H4.out.2 k2
                  have e1 : kk S o m = (lsL S.cl o.toNat m).length := by unfold kk; rw [if_pos k2]
                  have e2 : K = (lsL S.cl o.toNat S.n).length := by rw [← hKk]; unfold kk; rw [if_pos k2]
                  rw [← e1, ← e2] at q1
                  rw [← e1] at q2
                  obtain ⟨g, c, hv, hbg, hlg, cg⟩ := hL.c (i := kk S o m) (by rw [← e2]; exact q1)
                  rw [q2] at cg
                  rw [← e2] at hv
                  cases hv
                  rw [g2] at r0
                  have HK1 : Hid (kk S o (m + 1) = kk S o m + 1) := k1
                  clear tt hc g1 g2 k1 k2 k3 q2 hL e1 e2
                  generalize kk S o m = k at *
                  have q1' : (k : Int) < K := by omega
                  generalize ((S.ti m : Nat) : Int) = tv at *
                  go_wp2_with fail
                  go_roundw
                  case rel => exact ⟨m + 1, by omega, by go_num, by rw [HK1.out]; go_num, trivial⟩
                  case measure => simp [intOf]; omega
                · have HK1 : Hid (kk S o (m + 1) = kk S o m) := kk_stay S o m hc (.inr g2)
                  clear tt hc g1
                  generalize kk S o m = k at *
                  generalize ((S.cl m : Nat) : Int) = tc at *
                  generalize ((S.ti m : Nat) : Int) = tv at *
                  go_wp2_with fail
                  go_roundw
                  case rel => exact ⟨m + 1, by omega, by go_num, by rw [HK1.out], trivial⟩
                  case measure => simp [intOf]; omega
            · obtain rfl : m = S.n := by omega
              rw [hKk]
              have H5 : Hid (PX w.heap.size w wr D R r S S) := H4.out.1
              clear H4
              go_wp2_with fail
              go_roundw
              case rel => exact ⟨t + 1, by omega, by rw [← ho]; go_num, H5⟩
              case measure => simp [intOf]; omega
        · obtain rfl : t = 19 := by omega
          have ho1 : o = 18 := by omega
          subst ho1
          go_wp2_with fail
          go_ret
          exact ⟨rfl, HT.out.bel⟩
theorem walk (a b : Int) (ad : Option Addr) (len cap : Nat) (w : World) (hK : ActsIn w ad len) (hn : len < 9223372036854775808) :
    Calls Try.prog 3 #[.int .i64 a, .int .i64 b, .slice ad len cap] w fun e w' => e = .returned (.bool true) ∧ Below w.heap.size w w' := by
  by_cases hg : 1 ≤ a ∧ a ≤ 65536 ∧ 0 ≤ b ∧ b ≤ a
  · obtain ⟨n, rfl⟩ : ∃ n : Nat, a = n := ⟨a.toNat, by omega⟩
    obtain ⟨f, rfl⟩ : ∃ f : Nat, b = f := ⟨b.toNat, by omega⟩
    exact walk_yes n f ad len cap w hK hn (by omega) (by omega) (by omega)
  · exact walk_no a b ad len cap w hn hg
end framesPlay
end Go.Proofs.Ytcnoonhcofnghaa
