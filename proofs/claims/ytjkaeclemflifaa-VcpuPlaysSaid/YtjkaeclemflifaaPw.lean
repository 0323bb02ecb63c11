/-
  The walk of VcpuPlays.
-/
import Derived.Test.YtjkaeclemflifaaPd
namespace Go.Proofs.Ytjkaeclemflifaa
open Go.RowKit
set_option linter.unusedVariables false
set_option maxRecDepth 100000
set_option maxHeartbeats 12800000 in
theorem playsWalk (gu ix : Int) (ad : Option Addr) (len cap : Nat) (w : World) (hK : ActsIn w ad len) (hcap : len < 9223372036854775808) : Calls Try.prog 3 #[.int .i64 gu, .int .i64 ix, .slice ad len cap] w fun e w' => e = .returned (.bool true) ∧ Below w.heap.size w w' := by
  have C1 := new_m 2 2 (by decide) (by decide) (by decide) (by decide) w
  have HK : Hid (ActsIn w ad len) := hK
  clear hK
  by_cases hbad : gu < 1 ∨ 16 < gu ∨ ix < 0 ∨ 4 ≤ ix
  · go_enter Try.func3, Try.ntmps3
    go_wp2_with fail
    refine C1.mono ?_
    rintro e w1 ⟨M, mb, cr, o, rfl, m1, a1, b1⟩
    have HB : Hid (Below w.heap.size w w1) := b1
    have C2 := vnew_no gu ix 64 hbad w1
    have C3 := rnew_no gu ix 64 hbad w1
    have C4 := names_any w1
    clear C1 m1 a1 b1 hbad
    go_wp2_with fail
    refine C2.mono ?_
    rintro e w1 ⟨rfl, rfl⟩
    go_wp2_with fail
    refine C3.mono ?_
    rintro e w1 ⟨rfl, rfl⟩
    go_wp2_with fail
    refine C4.mono ?_
    rintro e w1 ⟨rfl, rfl⟩
    go_wp2_with fail
    go_ret
    exact ⟨rfl, HB.out⟩
  obtain ⟨h1, h2, h3, h4⟩ : 1 ≤ gu ∧ gu ≤ 16 ∧ 0 ≤ ix ∧ ix < 4 := by omega
  clear hbad
  go_enter Try.func3, Try.ntmps3
  go_wp2_with fail
  refine C1.mono ?_
  rintro e w1 ⟨M, mb, cr, o, rfl, m1, a1, b1⟩
  have H1 : Hid (MS w1 M mb cr 2 2 o (fun _ => .pointer none) ∧ (∀ k, own M mb cr 2 o k → w.heap.size ≤ k) ∧ Below w.heap.size w w1) := ⟨m1, a1, b1⟩
  clear C1 m1 a1 b1
  have C2 := vnew_yes gu ix 64 h1 h2 h3 h4 ⟨by decide, by decide⟩ w1
  go_wp2_with fail
  refine C2.mono ?_
  rintro e w2 ⟨V, F, rfl, v2, f2, l2, k2, b2⟩
  have H2 : Hid (VS w2 V gu F ix 1 (-1) (newN 64) ∧ FF w2 F (newP ix) ∧ w1.heap.size ≤ V ∧ Below w1.heap.size w1 w2) := ⟨v2, f2, l2, b2⟩
  clear C2 v2 f2 l2 k2 b2
  have C3 := rnew_yes gu ix 64 h1 h2 h3 h4 w2
  go_wp2_with fail
  refine C3.mono ?_
  rintro e w3 ⟨Q, rfl, r3, l3, b3⟩
  have H3 : Hid (RV w3 Q gu ix 1 (-1) (newN 64) ∧ w2.heap.size ≤ Q ∧ Below w2.heap.size w2 w3) := ⟨r3, l3, b3⟩
  clear C3 r3 l3 b3
  have C4 := names_any w3
  go_wp2_with fail
  refine C4.mono ?_
  rintro e w3 ⟨rfl, rfl⟩
  clear C4
  have C5 := vnew_yes (1 + gu % 16) ix 0 (by omega) (by omega) h3 h4 ⟨by decide, by decide⟩ w3
  go_wp2_with fail
  refine C5.mono ?_
  rintro e w5 ⟨V', F', rfl, v5, f5, l5, k5, b5⟩
  have H5 : Hid (VS w5 V' (1 + gu % 16) F' ix 1 (-1) (newN 0) ∧ FF w5 F' (newP ix) ∧ w3.heap.size ≤ V' ∧ Below w3.heap.size w3 w5) := ⟨v5, f5, l5, b5⟩
  clear C5 v5 f5 l5 k5 b5
  have C6 := rnew_yes (1 + gu % 16) ix 0 (by omega) (by omega) h3 h4 w5
  go_wp2_with fail
  refine C6.mono ?_
  rintro e w6 ⟨Q', rfl, r6, l6, b6⟩
  have bx1 := below_box w6 (.cells #[.pointer (some ⟨V, 0, none⟩), .pointer (some ⟨V', 0, none⟩)] 27)
  have bx2 := below_box (w6.alloc (.cells #[.pointer (some ⟨V, 0, none⟩), .pointer (some ⟨V', 0, none⟩)] 27)) (.cells #[.pointer (some ⟨Q, 0, none⟩), .pointer (some ⟨Q', 0, none⟩)] 31)
  have bx3 := below_box ((w6.alloc (.cells #[.pointer (some ⟨V, 0, none⟩), .pointer (some ⟨V', 0, none⟩)] 27)).alloc (.cells #[.pointer (some ⟨Q, 0, none⟩), .pointer (some ⟨Q', 0, none⟩)] 31)) (.cells #[.int .i64 0, .int .i64 0] 37)
  have z1 : (w6.alloc (.cells #[.pointer (some ⟨V, 0, none⟩), .pointer (some ⟨V', 0, none⟩)] 27)).heap.size = w6.heap.size + 1 := by simp
  have z2 : ((w6.alloc (.cells #[.pointer (some ⟨V, 0, none⟩), .pointer (some ⟨V', 0, none⟩)] 27)).alloc (.cells #[.pointer (some ⟨Q, 0, none⟩), .pointer (some ⟨Q', 0, none⟩)] 31)).heap.size = w6.heap.size + 1 + 1 := by simp
  have HE : Hid (PW w (((w6.alloc (.cells #[.pointer (some ⟨V, 0, none⟩), .pointer (some ⟨V', 0, none⟩)] 27)).alloc (.cells #[.pointer (some ⟨Q, 0, none⟩), .pointer (some ⟨Q', 0, none⟩)] 31)).alloc (.cells #[.int .i64 0, .int .i64 0] 37)) ⟨M, mb, cr, o⟩ (fun _ => .pointer none) (bk2 ⟨V, F, Q⟩ ⟨V', F', Q'⟩) (q2 ⟨gu, ix, 1, -1, newN 64⟩ ⟨1 + gu % 16, ix, 1, -1, newN 0⟩) (w6.heap.size + 1 + 1) w6.heap.size (w6.heap.size + 1) (fun _ => 0)) := by
    have s1 := H1.out.2.2.size
    have s2 := H2.out.2.2.2.size
    have s3 := H3.out.2.2.size
    have s5 := H5.out.2.2.2.size
    have s6 := b6.size
    have c36 := H5.out.2.2.2.trans (b6.mono s5)
    have c26 := H3.out.2.2.trans (c36.mono s3)
    have c16 := H2.out.2.2.2.trans (c26.mono s2)
    have c06 := H1.out.2.2.trans (c16.mono s1)
    have bb : Below w6.heap.size w6 (((w6.alloc (.cells #[.pointer (some ⟨V, 0, none⟩), .pointer (some ⟨V', 0, none⟩)] 27)).alloc (.cells #[.pointer (some ⟨Q, 0, none⟩), .pointer (some ⟨Q', 0, none⟩)] 31)).alloc (.cells #[.int .i64 0, .int .i64 0] 37)) := (bx1.trans (bx2.mono (by omega))).trans (bx3.mono (by omega))
    have lv := H2.out.1.lt
    have lq := H3.out.1.lt
    refine pw_new (a := ⟨M, mb, cr, o⟩) (b := ⟨V, F, Q⟩) (c := ⟨V', F', Q'⟩) ((H1.out.1.below c16).below bb) ((H2.out.1.below c26).below bb) ((H5.out.1.below b6).below bb) ((H2.out.2.1.below c26).below bb) ((H5.out.2.1.below b6).below bb) ((H3.out.1.below c36).below bb) (r6.below bb) (keepB (keepB (heap_alloc_at w6 _) bx2) bx3) (keepB ?_ bx3) ?_ (by show V ≠ V'; have := H5.out.2.2.1; omega) (by show Q ≠ Q'; omega) (by omega) (by omega) ⟨by decide, by decide⟩ (c06.trans (bb.mono c06.size)) ⟨by have := H2.out.2.2.1; show _ ≤ V; omega, by have := H5.out.2.2.1; show _ ≤ V'; omega, by have := H3.out.2.1; show _ ≤ Q; omega, by show _ ≤ Q'; omega, by omega⟩ H1.out.2.1
    · rw [← z1]; exact heap_alloc_at _ _
    · rw [← z2]; exact heap_alloc_at _ _
  clear C6 r6 l6 b6 bx1 bx2 bx3 z1 z2 H1 H2 H3 H5
  obtain ⟨y6, hy6⟩ : ∃ y6, ((w6.alloc (.cells #[.pointer (some ⟨V, 0, none⟩), .pointer (some ⟨V', 0, none⟩)] 27)).alloc (.cells #[.pointer (some ⟨Q, 0, none⟩), .pointer (some ⟨Q', 0, none⟩)] 31)).alloc (.cells #[.int .i64 0, .int .i64 0] 37) = y6 := ⟨_, rfl⟩
  rw [hy6] at HE
  obtain ⟨bk, HE2⟩ : ∃ bk, Hid (∃ x q u, PW w y6 ⟨M, mb, cr, o⟩ x bk q (w6.heap.size + 1 + 1) w6.heap.size (w6.heap.size + 1) u) := ⟨_, _, _, _, HE.out⟩
  clear HE h1 h2 h3 h4
  go_wp2_with fail
  clear hy6
  generalize w6.heap.size = vr at HE2 ⊢
  go_loopw [19] (fun p wr => ∃ j : Nat, j ≤ len ∧ p = .int .i64 j ∧ Hid (∃ x q u, PW w wr ⟨M, mb, cr, o⟩ x bk q (vr + 1 + 1) vr (vr + 1) u)) (fun p _ => len - (intOf p).toNat)
  case atStart => exact ⟨0, by omega, rfl, HE2⟩
  case round =>
    obtain ⟨j, hj, rfl, HJ⟩ := hrel
    clear HE2
    by_cases hjn : j < len
    · have hjn' : (j : Int) < (len : Int) := by omega
      obtain ⟨kb, off, rfl, hkb, act, hact, hN⟩ := HK.out.at hjn
      obtain ⟨x, q, u, hP⟩ := HJ.out
      have hrg : wr.rangeAt kb (off + j * 21) (acA act).toList := fun i v hv => (hP.bl.cell (p := ⟨kb, off + j * 21 + i, none⟩) hkb).trans (hact i v hv)
      have HRG : Hid (_) := hrg
      have kbl : kb < wr.heap.size := by have := hP.bl.size; omega
      obtain ⟨y, hy⟩ : ∃ y, wr.alloc (.cells zeroAc 42) = y := ⟨_, rfl⟩
      have by0 : Below wr.heap.size wr y := by rw [← hy]; exact below_box _ _
      have m0 : y.heap[wr.heap.size]? = some (.cells zeroAc 42 (0, 0)) := by rw [← hy]; exact heap_alloc_at _ _
      have HM0 : Hid (_) := m0
      obtain ⟨d, hd⟩ : ∃ d, y.setRow wr.heap.size (acA act) = d := ⟨_, rfl⟩
      have bd : Below wr.heap.size y d := by rw [← hd]; exact below_setRow' _ _ (Nat.le_refl _) _
      have m1 : d.heap[wr.heap.size]? = some (.cells (acA act) 42 (0, 0)) := by rw [← hd]; exact setRow_heap _ _ _ _ _ _ m0
      have HP : Hid (PW w d ⟨M, mb, cr, o⟩ x bk q (vr + 1 + 1) vr (vr + 1) u ∧ d.heap[wr.heap.size]? = some (.cells (acA act) 42 (0, 0))) := ⟨hP.below (by0.trans bd), m1⟩
      obtain ⟨k, hk1, ek⟩ := and_low act.who 1 1 rfl (by decide)
      have hk : k < 2 := by omega
      have a0 : d.cell? ⟨wr.heap.size, 0, none⟩ = some (.int .i64 act.kd) := (cell_at m1 0).trans rfl
      have a1 : d.cell? ⟨wr.heap.size, 1, none⟩ = some (.int .i64 act.who) := (cell_at m1 1).trans rfl
      have acl := lt_of_heap m1
      clear hP HJ hrg hact by0 bd m0 m1
      rw [zeroAc_eq] at hy
      go_upto_region 18 with (first
        | refine wpList_load_mid rfl 42 _ rfl kb (off + j * 21) rfl (acA act).toList _ HRG.out Try.underlying42 rfl inf42 ?_
        | refine wpList_store_row rfl 42 _ _ rfl wr.heap.size (acA act) rfl rfl 42 zeroAc HM0.out inf42 rfl (acA_one _) ?_
        | fail)
      simp only [Act.put, hd]
      clear hy hd HM0 HRG
      as_aux_lemma =>
        generalize wr.heap.size = A at *
        have hk0 : (0 : Int) ≤ k := by omega
        have hk2 : (k : Int) < 2 := by omega
        have HNA : Hid (W18 act.N) := hN
        clear hN kbl
        go_cut [21] from 93 to 377 (fun p wx => p = .int .i64 k ∧ wx = d)
        case first =>
          go_wp2_with fail
          go_meet
          case rel => exact ⟨rfl, rfl⟩
        case rest =>
          obtain ⟨rfl, rfl⟩ := hcut
          obtain ⟨d, rfl⟩ : ∃ d, d = wc := ⟨_, rfl⟩
          go_step
          go_step
          go_cut [22, 23] from 93 to 377 (fun _ _ wx => True ∧ Hid (∃ x q u, PW w wx ⟨M, mb, cr, o⟩ x bk q (vr + 1 + 1) vr (vr + 1) u))
          case first =>
            as_aux_lemma =>
              by_cases h0 : act.kd = 0
              · rw [h0] at a0
                as_aux_lemma =>
                  go_upto_region 21 with fail
                  have HQ : Hid (PW w d.drew ⟨M, mb, cr, o⟩ x bk q (vr + 1 + 1) vr (vr + 1) u) := HP.out.1.below (below_drew' _)
                  clear HP
                  have hS0 : (fun W : World => W.cell? ⟨vr, k, none⟩ = some (.pointer (some ⟨(bk k).V, 0, none⟩)) ∧ W.cell? ⟨vr + 1, k, none⟩ = some (.pointer (some ⟨(bk k).Q, 0, none⟩))) d.drew := HQ.out.rows hk
                  refine wp_region_held_drew (S := fun W : World => W.cell? ⟨vr, k, none⟩ = some (.pointer (some ⟨(bk k).V, 0, none⟩)) ∧ W.cell? ⟨vr + 1, k, none⟩ = some (.pointer (some ⟨(bk k).Q, 0, none⟩))) (by kernel_rfl) hS0 (fun _ => ?_)
                  refine wpAnyH_take (i := 0) (v := .slice (some ⟨vr, 0, none⟩) 2 2) rfl (by kernel_rfl) (by kernel_rfl) (by kernel_rfl) (fun _ _ _ h => h) (Or.inl ⟨by rfl, ?_⟩) hS0 ?_
                  · intro w hw
                    go_simp
                  try simp only [Act.put, List.getElem_toArray, List.getElem_cons_zero, List.setIfInBounds_toArray, List.set_cons_zero, List.set_cons_succ]
                  refine wpAnyH_take (i := 1) (v := .int .i64 k) rfl (by kernel_rfl) (by kernel_rfl) (by kernel_rfl) (fun _ _ _ h => h) (Or.inl ⟨by rfl, ?_⟩) hS0 ?_
                  · intro w hw
                    go_simp
                  try simp only [Act.put, List.getElem_toArray, List.getElem_cons_succ, List.getElem_cons_zero, List.setIfInBounds_toArray, List.set_cons_zero, List.set_cons_succ]
                  refine wpAnyH_take (i := 2) (v := .pointer (some ⟨vr, k, none⟩)) rfl (by kernel_rfl) (by kernel_rfl) (by kernel_rfl) (fun _ _ _ h => h) (Or.inl ⟨by rfl, ?_⟩) hS0 ?_
                  · intro w hw
                    go_simp
                  try simp only [Act.put, List.getElem_toArray, List.getElem_cons_succ, List.getElem_cons_zero, List.setIfInBounds_toArray, List.set_cons_zero, List.set_cons_succ]
                  refine wpAnyH_take (i := 3) (v := .pointer (some ⟨(bk k).V, 0, none⟩)) rfl (by kernel_rfl) (by kernel_rfl) (by kernel_rfl) (fun _ _ _ h => h) (Or.inl ⟨by rfl, ?_⟩) hS0 ?_
                  · intro w hw
                    have hc := hw.1
                    have hl := lt_cell hw.1
                    go_simp
                  try simp only [Act.put, List.getElem_toArray, List.getElem_cons_succ, List.getElem_cons_zero, List.setIfInBounds_toArray, List.set_cons_zero, List.set_cons_succ]
                  refine wpAnyH_take (i := 5) (v := .slice (some ⟨vr + 1, 0, none⟩) 2 2) rfl (by kernel_rfl) (by kernel_rfl) (by kernel_rfl) (fun _ _ _ h => h) (Or.inl ⟨by rfl, ?_⟩) hS0 ?_
                  · intro w hw
                    go_simp
                  try simp only [Act.put, List.getElem_toArray, List.getElem_cons_succ, List.getElem_cons_zero, List.setIfInBounds_toArray, List.set_cons_zero, List.set_cons_succ]
                  refine wpAnyH_take (i := 6) (v := .int .i64 k) rfl (by kernel_rfl) (by kernel_rfl) (by kernel_rfl) (fun _ _ _ h => h) (Or.inl ⟨by rfl, ?_⟩) hS0 ?_
                  · intro w hw
                    go_simp
                  try simp only [Act.put, List.getElem_toArray, List.getElem_cons_succ, List.getElem_cons_zero, List.setIfInBounds_toArray, List.set_cons_zero, List.set_cons_succ]
                  refine wpAnyH_take (i := 7) (v := .pointer (some ⟨vr + 1, k, none⟩)) rfl (by kernel_rfl) (by kernel_rfl) (by kernel_rfl) (fun _ _ _ h => h) (Or.inl ⟨by rfl, ?_⟩) hS0 ?_
                  · intro w hw
                    go_simp
                  try simp only [Act.put, List.getElem_toArray, List.getElem_cons_succ, List.getElem_cons_zero, List.setIfInBounds_toArray, List.set_cons_zero, List.set_cons_succ]
                  refine wpAnyH_take (i := 8) (v := .pointer (some ⟨(bk k).Q, 0, none⟩)) rfl (by kernel_rfl) (by kernel_rfl) (by kernel_rfl) (fun _ _ _ h => h) (Or.inl ⟨by rfl, ?_⟩) hS0 ?_
                  · intro w hw
                    have hc := hw.2
                    have hl := lt_cell hw.2
                    go_simp
                  try simp only [Act.put, List.getElem_toArray, List.getElem_cons_succ, List.getElem_cons_zero, List.setIfInBounds_toArray, List.set_cons_zero, List.set_cons_succ]
                  refine wpAnyH_ready (rs := [4]) (by kernel_rfl) (by simp) ?_
                  refine AllReadyH.cons rfl (fun K hK => ?_) AllReadyH.nil
                  have CC := HQ.out.doBlock hk
                  go_simp
                  go_wp2_with (go_at_call 12; refine CC.mono ?_; rintro e y1 ⟨rfl, v1, t1⟩)
                  have hR1 := HQ.out.rAt hk t1
                  have HV1 : Hid (VS y1 (bk k).V (q k).g (bk k).F (q k).ix (setS 0 (q k).s) (q k).c (q k).N ∧ Trn (fun j => j = (bk k).V) d.drew y1) := ⟨v1, t1⟩
                  refine hK.out _ _ (HQ.out.rowsV hk t1) (fun hS1 => ?_)
                  clear hK K CC v1 t1 hS0
                  try simp only [Act.put, List.getElem_toArray, List.getElem_cons_succ, List.getElem_cons_zero, List.setIfInBounds_toArray, List.set_cons_zero, List.set_cons_succ]
                  refine wpAnyH_ready (rs := [9]) (by kernel_rfl) (by simp) ?_
                  refine AllReadyH.cons rfl (fun K hK => ?_) AllReadyH.nil
                  have CC := rset hR1 0 (by decide) (HQ.out.st k hk)
                  go_simp
                  go_wp2_with (go_at_call 13; refine CC.mono ?_; rintro e y2 ⟨rfl, r2, t2⟩)
                  have HF : Hid (∃ x q u, PW w y2 ⟨M, mb, cr, o⟩ x bk q (vr + 1 + 1) vr (vr + 1) u) := ⟨_, _, _, HQ.out.acted hk 0 (by decide) HV1.out.1 HV1.out.2 r2 t2⟩
                  refine hK.out _ _ (HQ.out.rowsVQ hk HV1.out.2 t2) (fun hS2 => ?_)
                  clear hK K CC r2 t2 hR1 HV1 hS1
                  try simp only [Act.put, List.getElem_toArray, List.getElem_cons_succ, List.getElem_cons_zero, List.setIfInBounds_toArray, List.set_cons_zero, List.set_cons_succ]
                  refine wpAnyH_take (i := 10) (v := .bool false) rfl (by kernel_rfl) (by kernel_rfl) (by kernel_rfl) (fun _ _ _ h => h) (Or.inl ⟨by rfl, ?_⟩) hS2 ?_
                  · intro w hw
                    go_simp
                  try simp only [Act.put, List.getElem_toArray, List.getElem_cons_succ, List.getElem_cons_zero, List.setIfInBounds_toArray, List.set_cons_zero, List.set_cons_succ]
                  refine wpAnyH_done (by kernel_rfl) ?_ _
                  clear hS2 HQ
                  go_wp2_with fail
                  go_meet
                  case rel => exact ⟨trivial, HF⟩
              by_cases h1 : act.kd = 1
              · rw [h1] at a0
                as_aux_lemma =>
                  go_upto_region 24 with fail
                  have HQ : Hid (PW w d.drew ⟨M, mb, cr, o⟩ x bk q (vr + 1 + 1) vr (vr + 1) u) := HP.out.1.below (below_drew' _)
                  clear HP
                  have hS0 : (fun W : World => W.cell? ⟨vr, k, none⟩ = some (.pointer (some ⟨(bk k).V, 0, none⟩)) ∧ W.cell? ⟨vr + 1, k, none⟩ = some (.pointer (some ⟨(bk k).Q, 0, none⟩))) d.drew := HQ.out.rows hk
                  refine wp_region_held_drew (S := fun W : World => W.cell? ⟨vr, k, none⟩ = some (.pointer (some ⟨(bk k).V, 0, none⟩)) ∧ W.cell? ⟨vr + 1, k, none⟩ = some (.pointer (some ⟨(bk k).Q, 0, none⟩))) (by kernel_rfl) hS0 (fun _ => ?_)
                  refine wpAnyH_take (i := 0) (v := .slice (some ⟨vr, 0, none⟩) 2 2) rfl (by kernel_rfl) (by kernel_rfl) (by kernel_rfl) (fun _ _ _ h => h) (Or.inl ⟨by rfl, ?_⟩) hS0 ?_
                  · intro w hw
                    go_simp
                  try simp only [Act.put, List.getElem_toArray, List.getElem_cons_zero, List.setIfInBounds_toArray, List.set_cons_zero, List.set_cons_succ]
                  refine wpAnyH_take (i := 1) (v := .int .i64 k) rfl (by kernel_rfl) (by kernel_rfl) (by kernel_rfl) (fun _ _ _ h => h) (Or.inl ⟨by rfl, ?_⟩) hS0 ?_
                  · intro w hw
                    go_simp
                  try simp only [Act.put, List.getElem_toArray, List.getElem_cons_succ, List.getElem_cons_zero, List.setIfInBounds_toArray, List.set_cons_zero, List.set_cons_succ]
                  refine wpAnyH_take (i := 2) (v := .pointer (some ⟨vr, k, none⟩)) rfl (by kernel_rfl) (by kernel_rfl) (by kernel_rfl) (fun _ _ _ h => h) (Or.inl ⟨by rfl, ?_⟩) hS0 ?_
                  · intro w hw
                    go_simp
                  try simp only [Act.put, List.getElem_toArray, List.getElem_cons_succ, List.getElem_cons_zero, List.setIfInBounds_toArray, List.set_cons_zero, List.set_cons_succ]
                  refine wpAnyH_take (i := 3) (v := .pointer (some ⟨(bk k).V, 0, none⟩)) rfl (by kernel_rfl) (by kernel_rfl) (by kernel_rfl) (fun _ _ _ h => h) (Or.inl ⟨by rfl, ?_⟩) hS0 ?_
                  · intro w hw
                    have hc := hw.1
                    have hl := lt_cell hw.1
                    go_simp
                  try simp only [Act.put, List.getElem_toArray, List.getElem_cons_succ, List.getElem_cons_zero, List.setIfInBounds_toArray, List.set_cons_zero, List.set_cons_succ]
                  refine wpAnyH_take (i := 5) (v := .slice (some ⟨vr + 1, 0, none⟩) 2 2) rfl (by kernel_rfl) (by kernel_rfl) (by kernel_rfl) (fun _ _ _ h => h) (Or.inl ⟨by rfl, ?_⟩) hS0 ?_
                  · intro w hw
                    go_simp
                  try simp only [Act.put, List.getElem_toArray, List.getElem_cons_succ, List.getElem_cons_zero, List.setIfInBounds_toArray, List.set_cons_zero, List.set_cons_succ]
                  refine wpAnyH_take (i := 6) (v := .int .i64 k) rfl (by kernel_rfl) (by kernel_rfl) (by kernel_rfl) (fun _ _ _ h => h) (Or.inl ⟨by rfl, ?_⟩) hS0 ?_
                  · intro w hw
                    go_simp
                  try simp only [Act.put, List.getElem_toArray, List.getElem_cons_succ, List.getElem_cons_zero, List.setIfInBounds_toArray, List.set_cons_zero, List.set_cons_succ]
                  refine wpAnyH_take (i := 7) (v := .pointer (some ⟨vr + 1, k, none⟩)) rfl (by kernel_rfl) (by kernel_rfl) (by kernel_rfl) (fun _ _ _ h => h) (Or.inl ⟨by rfl, ?_⟩) hS0 ?_
                  · intro w hw
                    go_simp
                  try simp only [Act.put, List.getElem_toArray, List.getElem_cons_succ, List.getElem_cons_zero, List.setIfInBounds_toArray, List.set_cons_zero, List.set_cons_succ]
                  refine wpAnyH_take (i := 8) (v := .pointer (some ⟨(bk k).Q, 0, none⟩)) rfl (by kernel_rfl) (by kernel_rfl) (by kernel_rfl) (fun _ _ _ h => h) (Or.inl ⟨by rfl, ?_⟩) hS0 ?_
                  · intro w hw
                    have hc := hw.2
                    have hl := lt_cell hw.2
                    go_simp
                  try simp only [Act.put, List.getElem_toArray, List.getElem_cons_succ, List.getElem_cons_zero, List.setIfInBounds_toArray, List.set_cons_zero, List.set_cons_succ]
                  refine wpAnyH_ready (rs := [4]) (by kernel_rfl) (by simp) ?_
                  refine AllReadyH.cons rfl (fun K hK => ?_) AllReadyH.nil
                  have CC := HQ.out.doWake hk
                  go_simp
                  go_wp2_with (go_at_call 14; refine CC.mono ?_; rintro e y1 ⟨rfl, v1, t1⟩)
                  have hR1 := HQ.out.rAt hk t1
                  have HV1 : Hid (VS y1 (bk k).V (q k).g (bk k).F (q k).ix (setS 1 (q k).s) (q k).c (q k).N ∧ Trn (fun j => j = (bk k).V) d.drew y1) := ⟨v1, t1⟩
                  refine hK.out _ _ (HQ.out.rowsV hk t1) (fun hS1 => ?_)
                  clear hK K CC v1 t1 hS0
                  try simp only [Act.put, List.getElem_toArray, List.getElem_cons_succ, List.getElem_cons_zero, List.setIfInBounds_toArray, List.set_cons_zero, List.set_cons_succ]
                  refine wpAnyH_ready (rs := [9]) (by kernel_rfl) (by simp) ?_
                  refine AllReadyH.cons rfl (fun K hK => ?_) AllReadyH.nil
                  have CC := rset hR1 1 (by decide) (HQ.out.st k hk)
                  go_simp
                  go_wp2_with (go_at_call 13; refine CC.mono ?_; rintro e y2 ⟨rfl, r2, t2⟩)
                  have HF : Hid (∃ x q u, PW w y2 ⟨M, mb, cr, o⟩ x bk q (vr + 1 + 1) vr (vr + 1) u) := ⟨_, _, _, HQ.out.acted hk 1 (by decide) HV1.out.1 HV1.out.2 r2 t2⟩
                  refine hK.out _ _ (HQ.out.rowsVQ hk HV1.out.2 t2) (fun hS2 => ?_)
                  clear hK K CC r2 t2 hR1 HV1 hS1
                  try simp only [Act.put, List.getElem_toArray, List.getElem_cons_succ, List.getElem_cons_zero, List.setIfInBounds_toArray, List.set_cons_zero, List.set_cons_succ]
                  refine wpAnyH_take (i := 10) (v := .bool false) rfl (by kernel_rfl) (by kernel_rfl) (by kernel_rfl) (fun _ _ _ h => h) (Or.inl ⟨by rfl, ?_⟩) hS2 ?_
                  · intro w hw
                    go_simp
                  try simp only [Act.put, List.getElem_toArray, List.getElem_cons_succ, List.getElem_cons_zero, List.setIfInBounds_toArray, List.set_cons_zero, List.set_cons_succ]
                  refine wpAnyH_done (by kernel_rfl) ?_ _
                  clear hS2 HQ
                  go_wp2_with fail
                  go_meet
                  case rel => exact ⟨trivial, HF⟩
              by_cases h2 : act.kd = 2
              · rw [h2] at a0
                as_aux_lemma =>
                  go_upto_region 27 with fail
                  have HQ : Hid (PW w d.drew ⟨M, mb, cr, o⟩ x bk q (vr + 1 + 1) vr (vr + 1) u) := HP.out.1.below (below_drew' _)
                  clear HP
                  have hS0 : (fun W : World => W.cell? ⟨vr, k, none⟩ = some (.pointer (some ⟨(bk k).V, 0, none⟩)) ∧ W.cell? ⟨vr + 1, k, none⟩ = some (.pointer (some ⟨(bk k).Q, 0, none⟩))) d.drew := HQ.out.rows hk
                  refine wp_region_held_drew (S := fun W : World => W.cell? ⟨vr, k, none⟩ = some (.pointer (some ⟨(bk k).V, 0, none⟩)) ∧ W.cell? ⟨vr + 1, k, none⟩ = some (.pointer (some ⟨(bk k).Q, 0, none⟩))) (by kernel_rfl) hS0 (fun _ => ?_)
                  refine wpAnyH_take (i := 0) (v := .slice (some ⟨vr, 0, none⟩) 2 2) rfl (by kernel_rfl) (by kernel_rfl) (by kernel_rfl) (fun _ _ _ h => h) (Or.inl ⟨by rfl, ?_⟩) hS0 ?_
                  · intro w hw
                    go_simp
                  try simp only [Act.put, List.getElem_toArray, List.getElem_cons_zero, List.setIfInBounds_toArray, List.set_cons_zero, List.set_cons_succ]
                  refine wpAnyH_take (i := 1) (v := .int .i64 k) rfl (by kernel_rfl) (by kernel_rfl) (by kernel_rfl) (fun _ _ _ h => h) (Or.inl ⟨by rfl, ?_⟩) hS0 ?_
                  · intro w hw
                    go_simp
                  try simp only [Act.put, List.getElem_toArray, List.getElem_cons_succ, List.getElem_cons_zero, List.setIfInBounds_toArray, List.set_cons_zero, List.set_cons_succ]
                  refine wpAnyH_take (i := 2) (v := .pointer (some ⟨vr, k, none⟩)) rfl (by kernel_rfl) (by kernel_rfl) (by kernel_rfl) (fun _ _ _ h => h) (Or.inl ⟨by rfl, ?_⟩) hS0 ?_
                  · intro w hw
                    go_simp
                  try simp only [Act.put, List.getElem_toArray, List.getElem_cons_succ, List.getElem_cons_zero, List.setIfInBounds_toArray, List.set_cons_zero, List.set_cons_succ]
                  refine wpAnyH_take (i := 3) (v := .pointer (some ⟨(bk k).V, 0, none⟩)) rfl (by kernel_rfl) (by kernel_rfl) (by kernel_rfl) (fun _ _ _ h => h) (Or.inl ⟨by rfl, ?_⟩) hS0 ?_
                  · intro w hw
                    have hc := hw.1
                    have hl := lt_cell hw.1
                    go_simp
                  try simp only [Act.put, List.getElem_toArray, List.getElem_cons_succ, List.getElem_cons_zero, List.setIfInBounds_toArray, List.set_cons_zero, List.set_cons_succ]
                  refine wpAnyH_take (i := 5) (v := .slice (some ⟨vr + 1, 0, none⟩) 2 2) rfl (by kernel_rfl) (by kernel_rfl) (by kernel_rfl) (fun _ _ _ h => h) (Or.inl ⟨by rfl, ?_⟩) hS0 ?_
                  · intro w hw
                    go_simp
                  try simp only [Act.put, List.getElem_toArray, List.getElem_cons_succ, List.getElem_cons_zero, List.setIfInBounds_toArray, List.set_cons_zero, List.set_cons_succ]
                  refine wpAnyH_take (i := 6) (v := .int .i64 k) rfl (by kernel_rfl) (by kernel_rfl) (by kernel_rfl) (fun _ _ _ h => h) (Or.inl ⟨by rfl, ?_⟩) hS0 ?_
                  · intro w hw
                    go_simp
                  try simp only [Act.put, List.getElem_toArray, List.getElem_cons_succ, List.getElem_cons_zero, List.setIfInBounds_toArray, List.set_cons_zero, List.set_cons_succ]
                  refine wpAnyH_take (i := 7) (v := .pointer (some ⟨vr + 1, k, none⟩)) rfl (by kernel_rfl) (by kernel_rfl) (by kernel_rfl) (fun _ _ _ h => h) (Or.inl ⟨by rfl, ?_⟩) hS0 ?_
                  · intro w hw
                    go_simp
                  try simp only [Act.put, List.getElem_toArray, List.getElem_cons_succ, List.getElem_cons_zero, List.setIfInBounds_toArray, List.set_cons_zero, List.set_cons_succ]
                  refine wpAnyH_take (i := 8) (v := .pointer (some ⟨(bk k).Q, 0, none⟩)) rfl (by kernel_rfl) (by kernel_rfl) (by kernel_rfl) (fun _ _ _ h => h) (Or.inl ⟨by rfl, ?_⟩) hS0 ?_
                  · intro w hw
                    have hc := hw.2
                    have hl := lt_cell hw.2
                    go_simp
                  try simp only [Act.put, List.getElem_toArray, List.getElem_cons_succ, List.getElem_cons_zero, List.setIfInBounds_toArray, List.set_cons_zero, List.set_cons_succ]
                  refine wpAnyH_ready (rs := [4]) (by kernel_rfl) (by simp) ?_
                  refine AllReadyH.cons rfl (fun K hK => ?_) AllReadyH.nil
                  have CC := HQ.out.doStop hk
                  go_simp
                  go_wp2_with (go_at_call 15; refine CC.mono ?_; rintro e y1 ⟨rfl, v1, t1⟩)
                  have hR1 := HQ.out.rAt hk t1
                  have HV1 : Hid (VS y1 (bk k).V (q k).g (bk k).F (q k).ix (setS 2 (q k).s) (q k).c (q k).N ∧ Trn (fun j => j = (bk k).V) d.drew y1) := ⟨v1, t1⟩
                  refine hK.out _ _ (HQ.out.rowsV hk t1) (fun hS1 => ?_)
                  clear hK K CC v1 t1 hS0
                  try simp only [Act.put, List.getElem_toArray, List.getElem_cons_succ, List.getElem_cons_zero, List.setIfInBounds_toArray, List.set_cons_zero, List.set_cons_succ]
                  refine wpAnyH_ready (rs := [9]) (by kernel_rfl) (by simp) ?_
                  refine AllReadyH.cons rfl (fun K hK => ?_) AllReadyH.nil
                  have CC := rset hR1 2 (by decide) (HQ.out.st k hk)
                  go_simp
                  go_wp2_with (go_at_call 13; refine CC.mono ?_; rintro e y2 ⟨rfl, r2, t2⟩)
                  have HF : Hid (∃ x q u, PW w y2 ⟨M, mb, cr, o⟩ x bk q (vr + 1 + 1) vr (vr + 1) u) := ⟨_, _, _, HQ.out.acted hk 2 (by decide) HV1.out.1 HV1.out.2 r2 t2⟩
                  refine hK.out _ _ (HQ.out.rowsVQ hk HV1.out.2 t2) (fun hS2 => ?_)
                  clear hK K CC r2 t2 hR1 HV1 hS1
                  try simp only [Act.put, List.getElem_toArray, List.getElem_cons_succ, List.getElem_cons_zero, List.setIfInBounds_toArray, List.set_cons_zero, List.set_cons_succ]
                  refine wpAnyH_take (i := 10) (v := .bool false) rfl (by kernel_rfl) (by kernel_rfl) (by kernel_rfl) (fun _ _ _ h => h) (Or.inl ⟨by rfl, ?_⟩) hS2 ?_
                  · intro w hw
                    go_simp
                  try simp only [Act.put, List.getElem_toArray, List.getElem_cons_succ, List.getElem_cons_zero, List.setIfInBounds_toArray, List.set_cons_zero, List.set_cons_succ]
                  refine wpAnyH_done (by kernel_rfl) ?_ _
                  clear hS2 HQ
                  go_wp2_with fail
                  go_meet
                  case rel => exact ⟨trivial, HF⟩
              by_cases h3 : act.kd = 3
              · rw [h3] at a0
                as_aux_lemma =>
                  go_upto_region 30 with fail
                  by_cases hyes : (q k).s = 1 ∧ ∃ i : Nat, i < 2 ∧ act.core = i ∧ u i = 0
                  · obtain ⟨hs, i, hi, ec, hu0⟩ := hyes
                    as_aux_lemma =>
                      have HQ : Hid (PW w d.drew ⟨M, mb, cr, o⟩ x bk q (vr + 1 + 1) vr (vr + 1) u) := HP.out.1.below (below_drew' _)
                      have hc2 : d.drew.cell? ⟨A, 2, none⟩ = some (.int .i64 i) := by rw [← ec]; exact (cell_at HP.out.2 2).trans rfl
                      have HA : Hid (d.drew.heap[A]? = some (.cells (acA act) 42 (0, 0))) := HP.out.2
                      obtain ⟨cs, hu9, hz, hcs⟩ := HQ.out.us
                      have HU : Hid (_) := hu9
                      have hi37 : (Try.prog.info? 37).map (·.size) = some cs.toList.length := by rw [inf37]; simp [hz]
                      have hS0 : (fun W : World => (W.cell? ⟨vr, k, none⟩ = some (.pointer (some ⟨(bk k).V, 0, none⟩)) ∧ W.cell? ⟨vr + 1, k, none⟩ = some (.pointer (some ⟨(bk k).Q, 0, none⟩))) ∧ W.cell? ⟨A, 2, none⟩ = some (.int .i64 i) ∧ W.rangeAt (vr + 1 + 1) 0 cs.toList) d.drew := ⟨HQ.out.rows hk, hc2, range_of hu9⟩
                      clear HP hc2 hu9
                      refine wp_region_held_drew (S := fun W : World => (W.cell? ⟨vr, k, none⟩ = some (.pointer (some ⟨(bk k).V, 0, none⟩)) ∧ W.cell? ⟨vr + 1, k, none⟩ = some (.pointer (some ⟨(bk k).Q, 0, none⟩))) ∧ W.cell? ⟨A, 2, none⟩ = some (.int .i64 i) ∧ W.rangeAt (vr + 1 + 1) 0 cs.toList) (by kernel_rfl) hS0 (fun _ => ?_)
                      refine wpAnyH_take (i := 0) (v := .pointer (some ⟨M, 0, none⟩)) rfl (by kernel_rfl) (by kernel_rfl) (by kernel_rfl) (fun _ _ _ h => h) (Or.inl ⟨by rfl, ?_⟩) hS0 ?_
                      · intro w hw
                        go_simp
                      try simp only [Act.put, List.getElem_toArray, List.getElem_cons_zero, List.setIfInBounds_toArray, List.set_cons_zero, List.set_cons_succ]
                      refine wpAnyH_take (i := 1) (v := .slice (some ⟨vr, 0, none⟩) 2 2) rfl (by kernel_rfl) (by kernel_rfl) (by kernel_rfl) (fun _ _ _ h => h) (Or.inl ⟨by rfl, ?_⟩) hS0 ?_
                      · intro w hw
                        go_simp
                      try simp only [Act.put, List.getElem_toArray, List.getElem_cons_succ, List.getElem_cons_zero, List.setIfInBounds_toArray, List.set_cons_zero, List.set_cons_succ]
                      refine wpAnyH_take (i := 2) (v := .int .i64 k) rfl (by kernel_rfl) (by kernel_rfl) (by kernel_rfl) (fun _ _ _ h => h) (Or.inl ⟨by rfl, ?_⟩) hS0 ?_
                      · intro w hw
                        go_simp
                      try simp only [Act.put, List.getElem_toArray, List.getElem_cons_succ, List.getElem_cons_zero, List.setIfInBounds_toArray, List.set_cons_zero, List.set_cons_succ]
                      refine wpAnyH_take (i := 3) (v := .pointer (some ⟨vr, k, none⟩)) rfl (by kernel_rfl) (by kernel_rfl) (by kernel_rfl) (fun _ _ _ h => h) (Or.inl ⟨by rfl, ?_⟩) hS0 ?_
                      · intro w hw
                        go_simp
                      try simp only [Act.put, List.getElem_toArray, List.getElem_cons_succ, List.getElem_cons_zero, List.setIfInBounds_toArray, List.set_cons_zero, List.set_cons_succ]
                      refine wpAnyH_take (i := 4) (v := .pointer (some ⟨(bk k).V, 0, none⟩)) rfl (by kernel_rfl) (by kernel_rfl) (by kernel_rfl) (fun _ _ _ h => h) (Or.inl ⟨by rfl, ?_⟩) hS0 ?_
                      · intro w hw
                        have hc := hw.1.1
                        have hl := lt_cell hw.1.1
                        go_simp
                      try simp only [Act.put, List.getElem_toArray, List.getElem_cons_succ, List.getElem_cons_zero, List.setIfInBounds_toArray, List.set_cons_zero, List.set_cons_succ]
                      refine wpAnyH_take (i := 5) (v := .slice (some ⟨vr + 1, 0, none⟩) 2 2) rfl (by kernel_rfl) (by kernel_rfl) (by kernel_rfl) (fun _ _ _ h => h) (Or.inl ⟨by rfl, ?_⟩) hS0 ?_
                      · intro w hw
                        go_simp
                      try simp only [Act.put, List.getElem_toArray, List.getElem_cons_succ, List.getElem_cons_zero, List.setIfInBounds_toArray, List.set_cons_zero, List.set_cons_succ]
                      refine wpAnyH_take (i := 6) (v := .int .i64 k) rfl (by kernel_rfl) (by kernel_rfl) (by kernel_rfl) (fun _ _ _ h => h) (Or.inl ⟨by rfl, ?_⟩) hS0 ?_
                      · intro w hw
                        go_simp
                      try simp only [Act.put, List.getElem_toArray, List.getElem_cons_succ, List.getElem_cons_zero, List.setIfInBounds_toArray, List.set_cons_zero, List.set_cons_succ]
                      refine wpAnyH_take (i := 7) (v := .pointer (some ⟨vr + 1, k, none⟩)) rfl (by kernel_rfl) (by kernel_rfl) (by kernel_rfl) (fun _ _ _ h => h) (Or.inl ⟨by rfl, ?_⟩) hS0 ?_
                      · intro w hw
                        go_simp
                      try simp only [Act.put, List.getElem_toArray, List.getElem_cons_succ, List.getElem_cons_zero, List.setIfInBounds_toArray, List.set_cons_zero, List.set_cons_succ]
                      refine wpAnyH_take (i := 8) (v := .pointer (some ⟨(bk k).Q, 0, none⟩)) rfl (by kernel_rfl) (by kernel_rfl) (by kernel_rfl) (fun _ _ _ h => h) (Or.inl ⟨by rfl, ?_⟩) hS0 ?_
                      · intro w hw
                        have hc := hw.1.2
                        have hl := lt_cell hw.1.2
                        go_simp
                      try simp only [Act.put, List.getElem_toArray, List.getElem_cons_succ, List.getElem_cons_zero, List.setIfInBounds_toArray, List.set_cons_zero, List.set_cons_succ]
                      refine wpAnyH_take (i := 9) (v := .pointer (some ⟨A, 2, none⟩)) rfl (by kernel_rfl) (by kernel_rfl) (by kernel_rfl) (fun _ _ _ h => h) (Or.inl ⟨by rfl, ?_⟩) hS0 ?_
                      · intro w hw
                        go_simp
                      try simp only [Act.put, List.getElem_toArray, List.getElem_cons_succ, List.getElem_cons_zero, List.setIfInBounds_toArray, List.set_cons_zero, List.set_cons_succ]
                      refine wpAnyH_take (i := 10) (v := .int .i64 i) rfl (by kernel_rfl) (by kernel_rfl) (by kernel_rfl) (fun _ _ _ h => h) (Or.inl ⟨by rfl, ?_⟩) hS0 ?_
                      · intro w hw
                        have hc := hw.2.1
                        have hl := lt_cell hw.2.1
                        go_simp
                      try simp only [Act.put, List.getElem_toArray, List.getElem_cons_succ, List.getElem_cons_zero, List.setIfInBounds_toArray, List.set_cons_zero, List.set_cons_succ]
                      refine wpAnyH_take (i := 11) (v := .agg (cs)) rfl (by kernel_rfl) (by kernel_rfl) (by kernel_rfl) (fun _ _ _ h => h) (yieldsIf_load_mid (by rfl) 37 _ rfl (vr + 1 + 1) 0 rfl (cs).toList _ (fun w h => h.2.2) Try.underlying37 rfl hi37) hS0 ?_
                      try simp only [Act.put, List.getElem_toArray, List.getElem_cons_succ, List.getElem_cons_zero, List.setIfInBounds_toArray, List.set_cons_zero, List.set_cons_succ]
                      refine wpAnyH_ready (rs := [12]) (by kernel_rfl) (by simp) ?_
                      refine AllReadyH.cons rfl (fun K hK => ?_) AllReadyH.nil
                      have CC := enters_yes HQ.out hk cs ⟨hz, hcs⟩ hs i hi hu0
                      go_simp
                      go_wp2_with (go_at_call 16; refine CC.mono ?_; rintro e y1 ⟨rfl, ⟨cb, c1, m1⟩, v1, r1, t1⟩)
                      have t4 : Trn (tn ⟨M, mb, cr, o⟩ bk (vr + 1 + 1) k i) d.drew y1 := t1.mono fun j _ e => e.elim .inl fun e => e.elim (fun e => .inr (.inl e)) fun e => .inr (.inr (.inl e))
                      have HY : Hid (CX y1 cb (q k).g (q k).N (bk k).F ∧ MS y1 M mb cr 2 2 o (tx x i (.pointer (some ⟨cb, 0, none⟩))) ∧ VS y1 (bk k).V (q k).g (bk k).F (q k).ix 2 i (q k).N ∧ RV y1 (bk k).Q (q k).g (q k).ix 2 i (q k).N ∧ Trn (tn ⟨M, mb, cr, o⟩ bk (vr + 1 + 1) k i) d.drew y1) := ⟨c1, m1, v1, r1, t4⟩
                      have n1 := HQ.out.dkeep hk hi t1 HU.out
                      refine hK.out _ _ ⟨HQ.out.rowsT hk hi t4, by rw [← ec]; exact (cell_at (HQ.out.akeep hk hi t4 HA.out) 2).trans rfl, range_of (HQ.out.dkeep hk hi t1 HU.out)⟩ (fun hS1 => ?_)
                      clear hK K CC c1 m1 v1 r1 t1 hS0
                      try simp only [Act.put, List.getElem_toArray, List.getElem_cons_succ, List.getElem_cons_zero, List.setIfInBounds_toArray, List.set_cons_zero, List.set_cons_succ]
                      refine wpAnyH_take (i := 13) (v := .bool false) rfl (by kernel_rfl) (by kernel_rfl) (by kernel_rfl) (fun _ _ _ h => h) (Or.inl ⟨by rfl, ?_⟩) hS1 ?_
                      · intro w hw
                        go_simp
                      try simp only [Act.put, List.getElem_toArray, List.getElem_cons_succ, List.getElem_cons_zero, List.setIfInBounds_toArray, List.set_cons_zero, List.set_cons_succ]
                      refine wpAnyH_done (by kernel_rfl) ?_ _
                      have rw1 := (HQ.out.rowsT hk hi HY.out.2.2.2.2).2
                      have rl1 := lt_cell rw1
                      have q2 := HY.out.2.2.2.1.c2
                      have q3 := HY.out.2.2.2.1.c3
                      have ql := HY.out.2.2.2.1.lt
                      have u0 := (cell_at n1 i).trans (hcs i hi)
                      have ul := lt_of_heap n1
                      have uf := fz_at n1 i
                      have i0 : (0 : Int) ≤ i := by omega
                      have i1 : (i : Int) < 2 := by omega
                      have HF : Hid (∃ x q u, PW w (y1.setCell ⟨vr + 1 + 1, i, none⟩ (.int .i64 (1 + (k : Int)))) ⟨M, mb, cr, o⟩ x bk q (vr + 1 + 1) vr (vr + 1) u) := ⟨_, _, _, HQ.out.entered hk hi HY.out.2.2.2.2 (z := 1 + (k : Int)) (by omega) HY.out.2.1 HY.out.1 HY.out.2.2.1 HY.out.2.2.2.1 ⟨cs, n1, hz, hcs⟩ ((HQ.out.nu i hi).1 hu0)⟩
                      clear hS1 HQ HY t4 HA HU n1
                      go_wp2_with fail
                      go_meet
                      case rel => exact ⟨trivial, HF⟩
                  · have hno : (q k).s ≠ 1 ∨ act.core < 0 ∨ 2 ≤ act.core ∨ ∃ i : Nat, i < 2 ∧ act.core = i ∧ u i ≠ 0 := by
                      by_cases e1 : (q k).s = 1
                      · by_cases e2 : act.core < 0 ∨ 2 ≤ act.core
                        · rcases e2 with e | e
                          · exact .inr (.inl e)
                          · exact .inr (.inr (.inl e))
                        · refine .inr (.inr (.inr ⟨act.core.toNat, by omega, by omega, fun e => hyes ⟨e1, act.core.toNat, by omega, by omega, e⟩⟩))
                      · exact .inl e1
                    clear hyes
                    by_cases hs : (q k).s = 2
                    · have HQ : Hid (PW w d.drew ⟨M, mb, cr, o⟩ x bk q (vr + 1 + 1) vr (vr + 1) u) := HP.out.1.below (below_drew' _)
                      have hc2 : d.drew.cell? ⟨A, 2, none⟩ = some (.int .i64 act.core) := (cell_at HP.out.2 2).trans rfl
                      have HA : Hid (d.drew.heap[A]? = some (.cells (acA act) 42 (0, 0))) := HP.out.2
                      obtain ⟨cs, hu9, hz, hcs⟩ := HQ.out.us
                      have HU : Hid (_) := hu9
                      have hi37 : (Try.prog.info? 37).map (·.size) = some cs.toList.length := by rw [inf37]; simp [hz]
                      have hS0 : (fun W : World => (W.cell? ⟨vr, k, none⟩ = some (.pointer (some ⟨(bk k).V, 0, none⟩)) ∧ W.cell? ⟨vr + 1, k, none⟩ = some (.pointer (some ⟨(bk k).Q, 0, none⟩))) ∧ W.cell? ⟨A, 2, none⟩ = some (.int .i64 act.core) ∧ W.rangeAt (vr + 1 + 1) 0 cs.toList) d.drew := ⟨HQ.out.rows hk, hc2, range_of hu9⟩
                      clear HP hc2 hu9
                      refine wp_region_held_drew (S := fun W : World => (W.cell? ⟨vr, k, none⟩ = some (.pointer (some ⟨(bk k).V, 0, none⟩)) ∧ W.cell? ⟨vr + 1, k, none⟩ = some (.pointer (some ⟨(bk k).Q, 0, none⟩))) ∧ W.cell? ⟨A, 2, none⟩ = some (.int .i64 act.core) ∧ W.rangeAt (vr + 1 + 1) 0 cs.toList) (by kernel_rfl) hS0 (fun _ => ?_)
                      refine wpAnyH_take (i := 0) (v := .pointer (some ⟨M, 0, none⟩)) rfl (by kernel_rfl) (by kernel_rfl) (by kernel_rfl) (fun _ _ _ h => h) (Or.inl ⟨by rfl, ?_⟩) hS0 ?_
                      · intro w hw
                        go_simp
                      try simp only [Act.put, List.getElem_toArray, List.getElem_cons_zero, List.setIfInBounds_toArray, List.set_cons_zero, List.set_cons_succ]
                      refine wpAnyH_take (i := 1) (v := .slice (some ⟨vr, 0, none⟩) 2 2) rfl (by kernel_rfl) (by kernel_rfl) (by kernel_rfl) (fun _ _ _ h => h) (Or.inl ⟨by rfl, ?_⟩) hS0 ?_
                      · intro w hw
                        go_simp
                      try simp only [Act.put, List.getElem_toArray, List.getElem_cons_succ, List.getElem_cons_zero, List.setIfInBounds_toArray, List.set_cons_zero, List.set_cons_succ]
                      refine wpAnyH_take (i := 2) (v := .int .i64 k) rfl (by kernel_rfl) (by kernel_rfl) (by kernel_rfl) (fun _ _ _ h => h) (Or.inl ⟨by rfl, ?_⟩) hS0 ?_
                      · intro w hw
                        go_simp
                      try simp only [Act.put, List.getElem_toArray, List.getElem_cons_succ, List.getElem_cons_zero, List.setIfInBounds_toArray, List.set_cons_zero, List.set_cons_succ]
                      refine wpAnyH_take (i := 3) (v := .pointer (some ⟨vr, k, none⟩)) rfl (by kernel_rfl) (by kernel_rfl) (by kernel_rfl) (fun _ _ _ h => h) (Or.inl ⟨by rfl, ?_⟩) hS0 ?_
                      · intro w hw
                        go_simp
                      try simp only [Act.put, List.getElem_toArray, List.getElem_cons_succ, List.getElem_cons_zero, List.setIfInBounds_toArray, List.set_cons_zero, List.set_cons_succ]
                      refine wpAnyH_take (i := 4) (v := .pointer (some ⟨(bk k).V, 0, none⟩)) rfl (by kernel_rfl) (by kernel_rfl) (by kernel_rfl) (fun _ _ _ h => h) (Or.inl ⟨by rfl, ?_⟩) hS0 ?_
                      · intro w hw
                        have hc := hw.1.1
                        have hl := lt_cell hw.1.1
                        go_simp
                      try simp only [Act.put, List.getElem_toArray, List.getElem_cons_succ, List.getElem_cons_zero, List.setIfInBounds_toArray, List.set_cons_zero, List.set_cons_succ]
                      refine wpAnyH_take (i := 5) (v := .slice (some ⟨vr + 1, 0, none⟩) 2 2) rfl (by kernel_rfl) (by kernel_rfl) (by kernel_rfl) (fun _ _ _ h => h) (Or.inl ⟨by rfl, ?_⟩) hS0 ?_
                      · intro w hw
                        go_simp
                      try simp only [Act.put, List.getElem_toArray, List.getElem_cons_succ, List.getElem_cons_zero, List.setIfInBounds_toArray, List.set_cons_zero, List.set_cons_succ]
                      refine wpAnyH_take (i := 6) (v := .int .i64 k) rfl (by kernel_rfl) (by kernel_rfl) (by kernel_rfl) (fun _ _ _ h => h) (Or.inl ⟨by rfl, ?_⟩) hS0 ?_
                      · intro w hw
                        go_simp
                      try simp only [Act.put, List.getElem_toArray, List.getElem_cons_succ, List.getElem_cons_zero, List.setIfInBounds_toArray, List.set_cons_zero, List.set_cons_succ]
                      refine wpAnyH_take (i := 7) (v := .pointer (some ⟨vr + 1, k, none⟩)) rfl (by kernel_rfl) (by kernel_rfl) (by kernel_rfl) (fun _ _ _ h => h) (Or.inl ⟨by rfl, ?_⟩) hS0 ?_
                      · intro w hw
                        go_simp
                      try simp only [Act.put, List.getElem_toArray, List.getElem_cons_succ, List.getElem_cons_zero, List.setIfInBounds_toArray, List.set_cons_zero, List.set_cons_succ]
                      refine wpAnyH_take (i := 8) (v := .pointer (some ⟨(bk k).Q, 0, none⟩)) rfl (by kernel_rfl) (by kernel_rfl) (by kernel_rfl) (fun _ _ _ h => h) (Or.inl ⟨by rfl, ?_⟩) hS0 ?_
                      · intro w hw
                        have hc := hw.1.2
                        have hl := lt_cell hw.1.2
                        go_simp
                      try simp only [Act.put, List.getElem_toArray, List.getElem_cons_succ, List.getElem_cons_zero, List.setIfInBounds_toArray, List.set_cons_zero, List.set_cons_succ]
                      refine wpAnyH_take (i := 9) (v := .pointer (some ⟨A, 2, none⟩)) rfl (by kernel_rfl) (by kernel_rfl) (by kernel_rfl) (fun _ _ _ h => h) (Or.inl ⟨by rfl, ?_⟩) hS0 ?_
                      · intro w hw
                        go_simp
                      try simp only [Act.put, List.getElem_toArray, List.getElem_cons_succ, List.getElem_cons_zero, List.setIfInBounds_toArray, List.set_cons_zero, List.set_cons_succ]
                      refine wpAnyH_take (i := 10) (v := .int .i64 act.core) rfl (by kernel_rfl) (by kernel_rfl) (by kernel_rfl) (fun _ _ _ h => h) (Or.inl ⟨by rfl, ?_⟩) hS0 ?_
                      · intro w hw
                        have hc := hw.2.1
                        have hl := lt_cell hw.2.1
                        go_simp
                      try simp only [Act.put, List.getElem_toArray, List.getElem_cons_succ, List.getElem_cons_zero, List.setIfInBounds_toArray, List.set_cons_zero, List.set_cons_succ]
                      refine wpAnyH_take (i := 11) (v := .agg (cs)) rfl (by kernel_rfl) (by kernel_rfl) (by kernel_rfl) (fun _ _ _ h => h) (yieldsIf_load_mid (by rfl) 37 _ rfl (vr + 1 + 1) 0 rfl (cs).toList _ (fun w h => h.2.2) Try.underlying37 rfl hi37) hS0 ?_
                      try simp only [Act.put, List.getElem_toArray, List.getElem_cons_succ, List.getElem_cons_zero, List.setIfInBounds_toArray, List.set_cons_zero, List.set_cons_succ]
                      refine wpAnyH_ready (rs := [12]) (by kernel_rfl) (by simp) ?_
                      refine AllReadyH.cons rfl (fun K hK => ?_) AllReadyH.nil
                      have CC := enters_no HQ.out hk act.core cs ⟨hz, hcs⟩ hno
                      go_simp
                      go_wp2_with (go_at_call 16; refine CC.mono ?_; rintro e y1 ⟨rfl, b1⟩)
                      have HY : Hid (PW w y1 ⟨M, mb, cr, o⟩ x bk q (vr + 1 + 1) vr (vr + 1) u) := HQ.out.below b1
                      refine hK.out _ _ ⟨HY.out.rows hk, (cell_at (keepB HA.out b1) 2).trans rfl, range_of (keepB HU.out b1)⟩ (fun hS1 => ?_)
                      clear hK K CC b1 hS0
                      try simp only [Act.put, List.getElem_toArray, List.getElem_cons_succ, List.getElem_cons_zero, List.setIfInBounds_toArray, List.set_cons_zero, List.set_cons_succ]
                      refine wpAnyH_take (i := 13) (v := .bool false) rfl (by kernel_rfl) (by kernel_rfl) (by kernel_rfl) (fun _ _ _ h => h) (Or.inl ⟨by rfl, ?_⟩) hS1 ?_
                      · intro w hw
                        go_simp
                      try simp only [Act.put, List.getElem_toArray, List.getElem_cons_succ, List.getElem_cons_zero, List.setIfInBounds_toArray, List.set_cons_zero, List.set_cons_succ]
                      refine wpAnyH_done (by kernel_rfl) ?_ _
                      obtain ⟨cu, n1, n2, n3⟩ := HY.out.us
                      have rw1 := (HY.out.rows hk).2
                      have rl1 := lt_cell rw1
                      have hr := HY.out.r k hk
                      rw [hs] at hr
                      have q2 := hr.c2
                      have q3 := hr.c3
                      have ql := hr.lt
                      obtain ⟨i, cb, hi, eci, _, _⟩ := HY.out.on k hk hs
                      rw [eci] at q3
                      have u0 := (cell_at n1 i).trans (n3 i hi)
                      have ul := lt_of_heap n1
                      have uf := fz_at n1 i
                      have i0 : (0 : Int) ≤ i := by omega
                      have i1 : (i : Int) < 2 := by omega
                      have HF : Hid (∃ x q u, PW w (y1.setCell ⟨vr + 1 + 1, i, none⟩ (.int .i64 (1 + (k : Int)))) ⟨M, mb, cr, o⟩ x bk q (vr + 1 + 1) vr (vr + 1) u) := ⟨_, _, _, HY.out.used hk hi hs eci (1 + (k : Int)) (by omega)⟩
                      clear hS1 HQ HY HA HU hr n1 n2 n3
                      go_wp2_with fail
                      go_meet
                      case rel => exact ⟨trivial, HF⟩
                    · have HQ : Hid (PW w d.drew ⟨M, mb, cr, o⟩ x bk q (vr + 1 + 1) vr (vr + 1) u) := HP.out.1.below (below_drew' _)
                      have hc2 : d.drew.cell? ⟨A, 2, none⟩ = some (.int .i64 act.core) := (cell_at HP.out.2 2).trans rfl
                      have HA : Hid (d.drew.heap[A]? = some (.cells (acA act) 42 (0, 0))) := HP.out.2
                      obtain ⟨cs, hu9, hz, hcs⟩ := HQ.out.us
                      have HU : Hid (_) := hu9
                      have hi37 : (Try.prog.info? 37).map (·.size) = some cs.toList.length := by rw [inf37]; simp [hz]
                      have hS0 : (fun W : World => (W.cell? ⟨vr, k, none⟩ = some (.pointer (some ⟨(bk k).V, 0, none⟩)) ∧ W.cell? ⟨vr + 1, k, none⟩ = some (.pointer (some ⟨(bk k).Q, 0, none⟩))) ∧ W.cell? ⟨A, 2, none⟩ = some (.int .i64 act.core) ∧ W.rangeAt (vr + 1 + 1) 0 cs.toList) d.drew := ⟨HQ.out.rows hk, hc2, range_of hu9⟩
                      clear HP hc2 hu9
                      refine wp_region_held_drew (S := fun W : World => (W.cell? ⟨vr, k, none⟩ = some (.pointer (some ⟨(bk k).V, 0, none⟩)) ∧ W.cell? ⟨vr + 1, k, none⟩ = some (.pointer (some ⟨(bk k).Q, 0, none⟩))) ∧ W.cell? ⟨A, 2, none⟩ = some (.int .i64 act.core) ∧ W.rangeAt (vr + 1 + 1) 0 cs.toList) (by kernel_rfl) hS0 (fun _ => ?_)
                      refine wpAnyH_take (i := 0) (v := .pointer (some ⟨M, 0, none⟩)) rfl (by kernel_rfl) (by kernel_rfl) (by kernel_rfl) (fun _ _ _ h => h) (Or.inl ⟨by rfl, ?_⟩) hS0 ?_
                      · intro w hw
                        go_simp
                      try simp only [Act.put, List.getElem_toArray, List.getElem_cons_zero, List.setIfInBounds_toArray, List.set_cons_zero, List.set_cons_succ]
                      refine wpAnyH_take (i := 1) (v := .slice (some ⟨vr, 0, none⟩) 2 2) rfl (by kernel_rfl) (by kernel_rfl) (by kernel_rfl) (fun _ _ _ h => h) (Or.inl ⟨by rfl, ?_⟩) hS0 ?_
                      · intro w hw
                        go_simp
                      try simp only [Act.put, List.getElem_toArray, List.getElem_cons_succ, List.getElem_cons_zero, List.setIfInBounds_toArray, List.set_cons_zero, List.set_cons_succ]
                      refine wpAnyH_take (i := 2) (v := .int .i64 k) rfl (by kernel_rfl) (by kernel_rfl) (by kernel_rfl) (fun _ _ _ h => h) (Or.inl ⟨by rfl, ?_⟩) hS0 ?_
                      · intro w hw
                        go_simp
                      try simp only [Act.put, List.getElem_toArray, List.getElem_cons_succ, List.getElem_cons_zero, List.setIfInBounds_toArray, List.set_cons_zero, List.set_cons_succ]
                      refine wpAnyH_take (i := 3) (v := .pointer (some ⟨vr, k, none⟩)) rfl (by kernel_rfl) (by kernel_rfl) (by kernel_rfl) (fun _ _ _ h => h) (Or.inl ⟨by rfl, ?_⟩) hS0 ?_
                      · intro w hw
                        go_simp
                      try simp only [Act.put, List.getElem_toArray, List.getElem_cons_succ, List.getElem_cons_zero, List.setIfInBounds_toArray, List.set_cons_zero, List.set_cons_succ]
                      refine wpAnyH_take (i := 4) (v := .pointer (some ⟨(bk k).V, 0, none⟩)) rfl (by kernel_rfl) (by kernel_rfl) (by kernel_rfl) (fun _ _ _ h => h) (Or.inl ⟨by rfl, ?_⟩) hS0 ?_
                      · intro w hw
                        have hc := hw.1.1
                        have hl := lt_cell hw.1.1
                        go_simp
                      try simp only [Act.put, List.getElem_toArray, List.getElem_cons_succ, List.getElem_cons_zero, List.setIfInBounds_toArray, List.set_cons_zero, List.set_cons_succ]
                      refine wpAnyH_take (i := 5) (v := .slice (some ⟨vr + 1, 0, none⟩) 2 2) rfl (by kernel_rfl) (by kernel_rfl) (by kernel_rfl) (fun _ _ _ h => h) (Or.inl ⟨by rfl, ?_⟩) hS0 ?_
                      · intro w hw
                        go_simp
                      try simp only [Act.put, List.getElem_toArray, List.getElem_cons_succ, List.getElem_cons_zero, List.setIfInBounds_toArray, List.set_cons_zero, List.set_cons_succ]
                      refine wpAnyH_take (i := 6) (v := .int .i64 k) rfl (by kernel_rfl) (by kernel_rfl) (by kernel_rfl) (fun _ _ _ h => h) (Or.inl ⟨by rfl, ?_⟩) hS0 ?_
                      · intro w hw
                        go_simp
                      try simp only [Act.put, List.getElem_toArray, List.getElem_cons_succ, List.getElem_cons_zero, List.setIfInBounds_toArray, List.set_cons_zero, List.set_cons_succ]
                      refine wpAnyH_take (i := 7) (v := .pointer (some ⟨vr + 1, k, none⟩)) rfl (by kernel_rfl) (by kernel_rfl) (by kernel_rfl) (fun _ _ _ h => h) (Or.inl ⟨by rfl, ?_⟩) hS0 ?_
                      · intro w hw
                        go_simp
                      try simp only [Act.put, List.getElem_toArray, List.getElem_cons_succ, List.getElem_cons_zero, List.setIfInBounds_toArray, List.set_cons_zero, List.set_cons_succ]
                      refine wpAnyH_take (i := 8) (v := .pointer (some ⟨(bk k).Q, 0, none⟩)) rfl (by kernel_rfl) (by kernel_rfl) (by kernel_rfl) (fun _ _ _ h => h) (Or.inl ⟨by rfl, ?_⟩) hS0 ?_
                      · intro w hw
                        have hc := hw.1.2
                        have hl := lt_cell hw.1.2
                        go_simp
                      try simp only [Act.put, List.getElem_toArray, List.getElem_cons_succ, List.getElem_cons_zero, List.setIfInBounds_toArray, List.set_cons_zero, List.set_cons_succ]
                      refine wpAnyH_take (i := 9) (v := .pointer (some ⟨A, 2, none⟩)) rfl (by kernel_rfl) (by kernel_rfl) (by kernel_rfl) (fun _ _ _ h => h) (Or.inl ⟨by rfl, ?_⟩) hS0 ?_
                      · intro w hw
                        go_simp
                      try simp only [Act.put, List.getElem_toArray, List.getElem_cons_succ, List.getElem_cons_zero, List.setIfInBounds_toArray, List.set_cons_zero, List.set_cons_succ]
                      refine wpAnyH_take (i := 10) (v := .int .i64 act.core) rfl (by kernel_rfl) (by kernel_rfl) (by kernel_rfl) (fun _ _ _ h => h) (Or.inl ⟨by rfl, ?_⟩) hS0 ?_
                      · intro w hw
                        have hc := hw.2.1
                        have hl := lt_cell hw.2.1
                        go_simp
                      try simp only [Act.put, List.getElem_toArray, List.getElem_cons_succ, List.getElem_cons_zero, List.setIfInBounds_toArray, List.set_cons_zero, List.set_cons_succ]
                      refine wpAnyH_take (i := 11) (v := .agg (cs)) rfl (by kernel_rfl) (by kernel_rfl) (by kernel_rfl) (fun _ _ _ h => h) (yieldsIf_load_mid (by rfl) 37 _ rfl (vr + 1 + 1) 0 rfl (cs).toList _ (fun w h => h.2.2) Try.underlying37 rfl hi37) hS0 ?_
                      try simp only [Act.put, List.getElem_toArray, List.getElem_cons_succ, List.getElem_cons_zero, List.setIfInBounds_toArray, List.set_cons_zero, List.set_cons_succ]
                      refine wpAnyH_ready (rs := [12]) (by kernel_rfl) (by simp) ?_
                      refine AllReadyH.cons rfl (fun K hK => ?_) AllReadyH.nil
                      have CC := enters_no HQ.out hk act.core cs ⟨hz, hcs⟩ hno
                      go_simp
                      go_wp2_with (go_at_call 16; refine CC.mono ?_; rintro e y1 ⟨rfl, b1⟩)
                      have HY : Hid (PW w y1 ⟨M, mb, cr, o⟩ x bk q (vr + 1 + 1) vr (vr + 1) u) := HQ.out.below b1
                      refine hK.out _ _ ⟨HY.out.rows hk, (cell_at (keepB HA.out b1) 2).trans rfl, range_of (keepB HU.out b1)⟩ (fun hS1 => ?_)
                      clear hK K CC b1 hS0
                      try simp only [Act.put, List.getElem_toArray, List.getElem_cons_succ, List.getElem_cons_zero, List.setIfInBounds_toArray, List.set_cons_zero, List.set_cons_succ]
                      refine wpAnyH_take (i := 13) (v := .bool false) rfl (by kernel_rfl) (by kernel_rfl) (by kernel_rfl) (fun _ _ _ h => h) (Or.inl ⟨by rfl, ?_⟩) hS1 ?_
                      · intro w hw
                        go_simp
                      try simp only [Act.put, List.getElem_toArray, List.getElem_cons_succ, List.getElem_cons_zero, List.setIfInBounds_toArray, List.set_cons_zero, List.set_cons_succ]
                      refine wpAnyH_done (by kernel_rfl) ?_ _
                      have rw1 := (HY.out.rows hk).2
                      have rl1 := lt_cell rw1
                      have q2 := (HY.out.r k hk).c2
                      have ql := (HY.out.r k hk).lt
                      have HF : Hid (∃ x q u, PW w y1 ⟨M, mb, cr, o⟩ x bk q (vr + 1 + 1) vr (vr + 1) u) := ⟨_, _, _, HY.out⟩
                      have bs : ((q k).s == 2) = false := beq_false_of_ne hs
                      generalize (q k).s = s9 at q2 bs hs
                      clear hS1 HQ HY HA HU
                      go_wp2_with fail
                      go_meet
                      case rel => exact ⟨trivial, HF⟩
              by_cases h4 : act.kd = 4
              · rw [h4] at a0
                as_aux_lemma =>
                  by_cases hs : (q k).s = 2
                  · obtain ⟨i, cb, hi, eci, hx, hcx⟩ := HP.out.1.on k hk hs
                    have hv := HP.out.1.v k hk
                    rw [hs, eci] at hv
                    have C1 := leave_own HP.out.1.m i hi cb hx (HP.out.1.wN k hk) hcx hv
                    have rv0 := (HP.out.1.rows hk).1
                    have rl0 := lt_cell rv0
                    clear hv hcx
                    go_wp2_with fail
                    refine C1.mono ?_
                    rintro e y1 ⟨rfl, m1, v1, t1⟩
                    clear C1
                    have t4 : Trn (tn ⟨M, mb, cr, o⟩ bk (vr + 1 + 1) k i) d y1 := t1.mono fun j _ e => e.elim .inl fun e => .inr (.inr (.inl e))
                    have hr := HP.out.1.rCore hk hi t1
                    rw [hs, eci] at hr
                    obtain ⟨cu, n1, n2, n3⟩ := HP.out.1.ukeep hk hi (t1.mono fun j _ e => e.elim .inl fun e => .inr (.inr e))
                    have rw1 := (HP.out.1.rowsT hk hi t4).2
                    have rl1 := lt_cell rw1
                    have q2 := hr.c2
                    have q3 := hr.c3
                    have g2 := fz_at hr 2
                    have g3 := fz_at hr 3
                    have ql := hr.lt
                    have u0 := (cell_at n1 i).trans (n3 i hi)
                    have ul := lt_of_heap n1
                    have uf := fz_at n1 i
                    have i0 : (0 : Int) ≤ i := by omega
                    have i1 : (i : Int) < 2 := by omega
                    have nv1 : vr + 1 ≠ vr + 1 + 1 := by omega
                    have nq1 : (bk k).Q ≠ vr + 1 + 1 := ne_typ hr n1 (by decide)
                    have nq2 : vr + 1 ≠ (bk k).Q := rrQ HP.out.1 hk
                    have HF : Hid (∃ x q u, PW w (((y1.setCell ⟨vr + 1 + 1, i, none⟩ (.int .i64 0)).setCell ⟨(bk k).Q, 2, none⟩ (.int .i64 1)).setCell ⟨(bk k).Q, 3, none⟩ (.int .i64 (-1))) ⟨M, mb, cr, o⟩ x bk q (vr + 1 + 1) vr (vr + 1) u) := ⟨_, _, _, HP.out.1.left hk hi hs eci t4 m1 v1 hr ⟨cu, n1, n2, n3⟩⟩
                    clear HP t4 t1 m1 v1 hr n1 n2 n3 rv0 rl0
                    go_wp2_with fail
                    go_meet
                    case rel => exact ⟨trivial, HF⟩
                  · have C1 := leave_state HP.out.1.m (HP.out.1.v k hk) hs
                    have rv0 := (HP.out.1.rows hk).1
                    have rl0 := lt_cell rv0
                    go_wp2_with fail
                    refine C1.mono ?_
                    rintro e y1 ⟨rfl, b1⟩
                    clear C1
                    have HY : Hid (PW w y1 ⟨M, mb, cr, o⟩ x bk q (vr + 1 + 1) vr (vr + 1) u) := HP.out.1.below b1
                    have rw1 := (HY.out.rows hk).2
                    have rl1 := lt_cell rw1
                    have q2 := (HY.out.r k hk).c2
                    have ql := (HY.out.r k hk).lt
                    have HF : Hid (∃ x q u, PW w y1 ⟨M, mb, cr, o⟩ x bk q (vr + 1 + 1) vr (vr + 1) u) := ⟨_, _, _, HY.out⟩
                    have bs : ((q k).s == 2) = false := beq_false_of_ne hs
                    generalize (q k).s = s9 at q2 bs hs
                    clear HY HP b1 rv0 rl0
                    go_wp2_with fail
                    go_meet
                    case rel => exact ⟨trivial, HF⟩
              by_cases h5 : act.kd = 5
              · rw [h5] at a0
                as_aux_lemma =>
                  go_upto_region 43 with fail
                  by_cases hs : (q k).s = 2
                  · have HQ : Hid (PW w d.drew ⟨M, mb, cr, o⟩ x bk q (vr + 1 + 1) vr (vr + 1) u) := HP.out.1.below (below_drew' _)
                    have hv2 := HQ.out.v k hk
                    rw [hs] at hv2
                    have hS0 : (fun W : World => (W.cell? ⟨vr, k, none⟩ = some (.pointer (some ⟨(bk k).V, 0, none⟩)) ∧ W.cell? ⟨vr + 1, k, none⟩ = some (.pointer (some ⟨(bk k).Q, 0, none⟩))) ∧ W.heap[A]? = some (.cells (acA act) 42 (0, 0))) d.drew := ⟨HQ.out.rows hk, HP.out.2⟩
                    clear HP
                    refine wp_region_held_drew (S := fun W : World => (W.cell? ⟨vr, k, none⟩ = some (.pointer (some ⟨(bk k).V, 0, none⟩)) ∧ W.cell? ⟨vr + 1, k, none⟩ = some (.pointer (some ⟨(bk k).Q, 0, none⟩))) ∧ W.heap[A]? = some (.cells (acA act) 42 (0, 0))) (by kernel_rfl) hS0 (fun _ => ?_)
                    refine wpAnyH_take (i := 0) (v := .slice (some ⟨vr, 0, none⟩) 2 2) rfl (by kernel_rfl) (by kernel_rfl) (by kernel_rfl) (fun _ _ _ h => h) (Or.inl ⟨by rfl, ?_⟩) hS0 ?_
                    · intro w hw
                      go_simp
                    try simp only [Act.put, List.getElem_toArray, List.getElem_cons_zero, List.setIfInBounds_toArray, List.set_cons_zero, List.set_cons_succ]
                    refine wpAnyH_take (i := 1) (v := .int .i64 k) rfl (by kernel_rfl) (by kernel_rfl) (by kernel_rfl) (fun _ _ _ h => h) (Or.inl ⟨by rfl, ?_⟩) hS0 ?_
                    · intro w hw
                      go_simp
                    try simp only [Act.put, List.getElem_toArray, List.getElem_cons_succ, List.getElem_cons_zero, List.setIfInBounds_toArray, List.set_cons_zero, List.set_cons_succ]
                    refine wpAnyH_take (i := 2) (v := .pointer (some ⟨vr, k, none⟩)) rfl (by kernel_rfl) (by kernel_rfl) (by kernel_rfl) (fun _ _ _ h => h) (Or.inl ⟨by rfl, ?_⟩) hS0 ?_
                    · intro w hw
                      go_simp
                    try simp only [Act.put, List.getElem_toArray, List.getElem_cons_succ, List.getElem_cons_zero, List.setIfInBounds_toArray, List.set_cons_zero, List.set_cons_succ]
                    refine wpAnyH_take (i := 3) (v := .pointer (some ⟨(bk k).V, 0, none⟩)) rfl (by kernel_rfl) (by kernel_rfl) (by kernel_rfl) (fun _ _ _ h => h) (Or.inl ⟨by rfl, ?_⟩) hS0 ?_
                    · intro w hw
                      have hc := hw.1.1
                      have hl := lt_cell hw.1.1
                      go_simp
                    try simp only [Act.put, List.getElem_toArray, List.getElem_cons_succ, List.getElem_cons_zero, List.setIfInBounds_toArray, List.set_cons_zero, List.set_cons_succ]
                    refine wpAnyH_take (i := 4) (v := .pointer (some ⟨M, 0, none⟩)) rfl (by kernel_rfl) (by kernel_rfl) (by kernel_rfl) (fun _ _ _ h => h) (Or.inl ⟨by rfl, ?_⟩) hS0 ?_
                    · intro w hw
                      go_simp
                    try simp only [Act.put, List.getElem_toArray, List.getElem_cons_succ, List.getElem_cons_zero, List.setIfInBounds_toArray, List.set_cons_zero, List.set_cons_succ]
                    refine wpAnyH_take (i := 5) (v := .pointer (some ⟨A, 3, none⟩)) rfl (by kernel_rfl) (by kernel_rfl) (by kernel_rfl) (fun _ _ _ h => h) (Or.inl ⟨by rfl, ?_⟩) hS0 ?_
                    · intro w hw
                      go_simp
                    try simp only [Act.put, List.getElem_toArray, List.getElem_cons_succ, List.getElem_cons_zero, List.setIfInBounds_toArray, List.set_cons_zero, List.set_cons_succ]
                    refine wpAnyH_take (i := 6) (v := .agg (upA act.N)) rfl (by kernel_rfl) (by kernel_rfl) (by kernel_rfl) (fun _ _ _ h => h) (yieldsIf_load_mid (by rfl) 40 _ rfl A 3 rfl (upA act.N).toList _ (fun w h => ac_rg h.2) Try.underlying40 rfl inf25) hS0 ?_
                    try simp only [Act.put, List.getElem_toArray, List.getElem_cons_succ, List.getElem_cons_zero, List.setIfInBounds_toArray, List.set_cons_zero, List.set_cons_succ]
                    refine wpAnyH_ready (rs := [7]) (by kernel_rfl) (by simp) ?_
                    refine AllReadyH.cons rfl (fun K hK => ?_) AllReadyH.nil
                    have CC := setregs_state HQ.out.m hv2 (upA act.N)
                    go_simp
                    go_wp2_with (go_at_call 18; refine CC.mono ?_; rintro e y1 ⟨rfl, b1⟩)
                    have HY : Hid (PW w y1 ⟨M, mb, cr, o⟩ x bk q (vr + 1 + 1) vr (vr + 1) u) := HQ.out.below b1
                    refine hK.out _ _ ⟨HY.out.rows hk, keepB hS0.2 b1⟩ (fun hS1 => ?_)
                    clear hK K CC b1 hS0
                    try simp only [Act.put, List.getElem_toArray, List.getElem_cons_succ, List.getElem_cons_zero, List.setIfInBounds_toArray, List.set_cons_zero, List.set_cons_succ]
                    refine wpAnyH_take (i := 8) (v := .int .i64 21) rfl (by kernel_rfl) (by kernel_rfl) (by kernel_rfl) (fun _ _ _ h => h) (Or.inl ⟨by rfl, ?_⟩) hS1 ?_
                    · intro w hw
                      go_simp
                    try simp only [Act.put, List.getElem_toArray, List.getElem_cons_succ, List.getElem_cons_zero, List.setIfInBounds_toArray, List.set_cons_zero, List.set_cons_succ]
                    refine wpAnyH_done (by kernel_rfl) ?_ _
                    have rw1 := (HY.out.rows hk).2
                    have rl1 := lt_cell rw1
                    have hr := HY.out.r k hk
                    rw [hs] at hr
                    have q2 := hr.c2
                    have ql := hr.lt
                    have HF : Hid (∃ x q u, PW w y1 ⟨M, mb, cr, o⟩ x bk q (vr + 1 + 1) vr (vr + 1) u) := ⟨_, _, _, HY.out⟩
                    clear hS1 HQ HY hr hv2
                    go_wp2_with fail
                    go_meet
                    case rel => exact ⟨trivial, HF⟩
                  · have HQ : Hid (PW w d.drew ⟨M, mb, cr, o⟩ x bk q (vr + 1 + 1) vr (vr + 1) u) := HP.out.1.below (below_drew' _)
                    have his : isS 3 1 3 4 (q k).s = true := by
                      rcases HQ.out.st k hk with e | e | e | e
                      · rw [e]; decide
                      · exact absurd e hs
                      · rw [e]; decide
                      · rw [e]; decide
                    have hs' := hs
                    have hS0 : (fun W : World => (W.cell? ⟨vr, k, none⟩ = some (.pointer (some ⟨(bk k).V, 0, none⟩)) ∧ W.cell? ⟨vr + 1, k, none⟩ = some (.pointer (some ⟨(bk k).Q, 0, none⟩))) ∧ W.heap[A]? = some (.cells (acA act) 42 (0, 0))) d.drew := ⟨HQ.out.rows hk, HP.out.2⟩
                    clear HP
                    refine wp_region_held_drew (S := fun W : World => (W.cell? ⟨vr, k, none⟩ = some (.pointer (some ⟨(bk k).V, 0, none⟩)) ∧ W.cell? ⟨vr + 1, k, none⟩ = some (.pointer (some ⟨(bk k).Q, 0, none⟩))) ∧ W.heap[A]? = some (.cells (acA act) 42 (0, 0))) (by kernel_rfl) hS0 (fun _ => ?_)
                    refine wpAnyH_take (i := 0) (v := .slice (some ⟨vr, 0, none⟩) 2 2) rfl (by kernel_rfl) (by kernel_rfl) (by kernel_rfl) (fun _ _ _ h => h) (Or.inl ⟨by rfl, ?_⟩) hS0 ?_
                    · intro w hw
                      go_simp
                    try simp only [Act.put, List.getElem_toArray, List.getElem_cons_zero, List.setIfInBounds_toArray, List.set_cons_zero, List.set_cons_succ]
                    refine wpAnyH_take (i := 1) (v := .int .i64 k) rfl (by kernel_rfl) (by kernel_rfl) (by kernel_rfl) (fun _ _ _ h => h) (Or.inl ⟨by rfl, ?_⟩) hS0 ?_
                    · intro w hw
                      go_simp
                    try simp only [Act.put, List.getElem_toArray, List.getElem_cons_succ, List.getElem_cons_zero, List.setIfInBounds_toArray, List.set_cons_zero, List.set_cons_succ]
                    refine wpAnyH_take (i := 2) (v := .pointer (some ⟨vr, k, none⟩)) rfl (by kernel_rfl) (by kernel_rfl) (by kernel_rfl) (fun _ _ _ h => h) (Or.inl ⟨by rfl, ?_⟩) hS0 ?_
                    · intro w hw
                      go_simp
                    try simp only [Act.put, List.getElem_toArray, List.getElem_cons_succ, List.getElem_cons_zero, List.setIfInBounds_toArray, List.set_cons_zero, List.set_cons_succ]
                    refine wpAnyH_take (i := 3) (v := .pointer (some ⟨(bk k).V, 0, none⟩)) rfl (by kernel_rfl) (by kernel_rfl) (by kernel_rfl) (fun _ _ _ h => h) (Or.inl ⟨by rfl, ?_⟩) hS0 ?_
                    · intro w hw
                      have hc := hw.1.1
                      have hl := lt_cell hw.1.1
                      go_simp
                    try simp only [Act.put, List.getElem_toArray, List.getElem_cons_succ, List.getElem_cons_zero, List.setIfInBounds_toArray, List.set_cons_zero, List.set_cons_succ]
                    refine wpAnyH_take (i := 4) (v := .pointer (some ⟨M, 0, none⟩)) rfl (by kernel_rfl) (by kernel_rfl) (by kernel_rfl) (fun _ _ _ h => h) (Or.inl ⟨by rfl, ?_⟩) hS0 ?_
                    · intro w hw
                      go_simp
                    try simp only [Act.put, List.getElem_toArray, List.getElem_cons_succ, List.getElem_cons_zero, List.setIfInBounds_toArray, List.set_cons_zero, List.set_cons_succ]
                    refine wpAnyH_take (i := 5) (v := .pointer (some ⟨A, 3, none⟩)) rfl (by kernel_rfl) (by kernel_rfl) (by kernel_rfl) (fun _ _ _ h => h) (Or.inl ⟨by rfl, ?_⟩) hS0 ?_
                    · intro w hw
                      go_simp
                    try simp only [Act.put, List.getElem_toArray, List.getElem_cons_succ, List.getElem_cons_zero, List.setIfInBounds_toArray, List.set_cons_zero, List.set_cons_succ]
                    refine wpAnyH_take (i := 6) (v := .agg (upA act.N)) rfl (by kernel_rfl) (by kernel_rfl) (by kernel_rfl) (fun _ _ _ h => h) (yieldsIf_load_mid (by rfl) 40 _ rfl A 3 rfl (upA act.N).toList _ (fun w h => ac_rg h.2) Try.underlying40 rfl inf25) hS0 ?_
                    try simp only [Act.put, List.getElem_toArray, List.getElem_cons_succ, List.getElem_cons_zero, List.setIfInBounds_toArray, List.set_cons_zero, List.set_cons_succ]
                    refine wpAnyH_ready (rs := [7]) (by kernel_rfl) (by simp) ?_
                    refine AllReadyH.cons rfl (fun K hK => ?_) AllReadyH.nil
                    have CC := setregs_yes HQ.out.m (HQ.out.v k hk) his act.N HNA.out
                    go_simp
                    go_wp2_with (go_at_call 18; refine CC.mono ?_; rintro e y1 ⟨rfl, v1, t1⟩)
                    have HY : Hid (VS y1 (bk k).V (q k).g (bk k).F (q k).ix (q k).s (q k).c (al act.N) ∧ Trn (fun j => j = (bk k).V) d.drew y1) := ⟨v1, t1⟩
                    have hR1 := HQ.out.rAt hk t1
                    have hA1 := HQ.out.akeepV hk t1 hS0.2
                    refine hK.out _ _ ⟨HQ.out.rowsV hk t1, hA1⟩ (fun hS1 => ?_)
                    clear hK K CC v1 t1 hS0
                    try simp only [Act.put, List.getElem_toArray, List.getElem_cons_succ, List.getElem_cons_zero, List.setIfInBounds_toArray, List.set_cons_zero, List.set_cons_succ]
                    refine wpAnyH_take (i := 8) (v := .int .i64 0) rfl (by kernel_rfl) (by kernel_rfl) (by kernel_rfl) (fun _ _ _ h => h) (Or.inl ⟨by rfl, ?_⟩) hS1 ?_
                    · intro w hw
                      go_simp
                    try simp only [Act.put, List.getElem_toArray, List.getElem_cons_succ, List.getElem_cons_zero, List.setIfInBounds_toArray, List.set_cons_zero, List.set_cons_succ]
                    refine wpAnyH_done (by kernel_rfl) ?_ _
                    have rw1 := hS1.1.2
                    have rl1 := lt_cell rw1
                    have q2 := hR1.c2
                    have ql := hR1.lt
                    have bs : ((q k).s == 2) = false := beq_false_of_ne hs
                    have HR1 : Hid (RV y1 (bk k).Q (q k).g (q k).ix (q k).s (q k).c (q k).N) := hR1
                    have HS1 : Hid (_) := hS1
                    clear hR1 hS1 hA1
                    generalize hs9 : (q k).s = s9 at q2 bs hs
                    go_upto_region 47 with fail
                    clear rw1 rl1 q2 ql bs hs
                    subst hs9
                    have hS2 : (fun W : World => (W.cell? ⟨vr, k, none⟩ = some (.pointer (some ⟨(bk k).V, 0, none⟩)) ∧ W.cell? ⟨vr + 1, k, none⟩ = some (.pointer (some ⟨(bk k).Q, 0, none⟩))) ∧ W.heap[A]? = some (.cells (acA act) 42 (0, 0))) y1.drew := HS1.out
                    refine wp_region_held_drew (S := fun W : World => (W.cell? ⟨vr, k, none⟩ = some (.pointer (some ⟨(bk k).V, 0, none⟩)) ∧ W.cell? ⟨vr + 1, k, none⟩ = some (.pointer (some ⟨(bk k).Q, 0, none⟩))) ∧ W.heap[A]? = some (.cells (acA act) 42 (0, 0))) (by kernel_rfl) hS2 (fun _ => ?_)
                    refine wpAnyH_take (i := 0) (v := .slice (some ⟨vr + 1, 0, none⟩) 2 2) rfl (by kernel_rfl) (by kernel_rfl) (by kernel_rfl) (fun _ _ _ h => h) (Or.inl ⟨by rfl, ?_⟩) hS2 ?_
                    · intro w hw
                      go_simp
                    try simp only [Act.put, List.getElem_toArray, List.getElem_cons_zero, List.setIfInBounds_toArray, List.set_cons_zero, List.set_cons_succ]
                    refine wpAnyH_take (i := 1) (v := .int .i64 k) rfl (by kernel_rfl) (by kernel_rfl) (by kernel_rfl) (fun _ _ _ h => h) (Or.inl ⟨by rfl, ?_⟩) hS2 ?_
                    · intro w hw
                      go_simp
                    try simp only [Act.put, List.getElem_toArray, List.getElem_cons_succ, List.getElem_cons_zero, List.setIfInBounds_toArray, List.set_cons_zero, List.set_cons_succ]
                    refine wpAnyH_take (i := 2) (v := .pointer (some ⟨vr + 1, k, none⟩)) rfl (by kernel_rfl) (by kernel_rfl) (by kernel_rfl) (fun _ _ _ h => h) (Or.inl ⟨by rfl, ?_⟩) hS2 ?_
                    · intro w hw
                      go_simp
                    try simp only [Act.put, List.getElem_toArray, List.getElem_cons_succ, List.getElem_cons_zero, List.setIfInBounds_toArray, List.set_cons_zero, List.set_cons_succ]
                    refine wpAnyH_take (i := 3) (v := .pointer (some ⟨(bk k).Q, 0, none⟩)) rfl (by kernel_rfl) (by kernel_rfl) (by kernel_rfl) (fun _ _ _ h => h) (Or.inl ⟨by rfl, ?_⟩) hS2 ?_
                    · intro w hw
                      have hc := hw.1.2
                      have hl := lt_cell hw.1.2
                      go_simp
                    try simp only [Act.put, List.getElem_toArray, List.getElem_cons_succ, List.getElem_cons_zero, List.setIfInBounds_toArray, List.set_cons_zero, List.set_cons_succ]
                    refine wpAnyH_take (i := 4) (v := .pointer (some ⟨A, 3, none⟩)) rfl (by kernel_rfl) (by kernel_rfl) (by kernel_rfl) (fun _ _ _ h => h) (Or.inl ⟨by rfl, ?_⟩) hS2 ?_
                    · intro w hw
                      go_simp
                    try simp only [Act.put, List.getElem_toArray, List.getElem_cons_succ, List.getElem_cons_zero, List.setIfInBounds_toArray, List.set_cons_zero, List.set_cons_succ]
                    refine wpAnyH_take (i := 5) (v := .agg (upA act.N)) rfl (by kernel_rfl) (by kernel_rfl) (by kernel_rfl) (fun _ _ _ h => h) (yieldsIf_load_mid (by rfl) 40 _ rfl A 3 rfl (upA act.N).toList _ (fun w h => ac_rg h.2) Try.underlying40 rfl inf25) hS2 ?_
                    try simp only [Act.put, List.getElem_toArray, List.getElem_cons_succ, List.getElem_cons_zero, List.setIfInBounds_toArray, List.set_cons_zero, List.set_cons_succ]
                    refine wpAnyH_take (i := 6) (v := .pointer (some ⟨(bk k).Q, 0, none⟩)) rfl (by kernel_rfl) (by kernel_rfl) (by kernel_rfl) (fun _ _ _ h => h) (Or.inl ⟨by rfl, ?_⟩) hS2 ?_
                    · intro w hw
                      go_simp
                    try simp only [Act.put, List.getElem_toArray, List.getElem_cons_succ, List.getElem_cons_zero, List.setIfInBounds_toArray, List.set_cons_zero, List.set_cons_succ]
                    refine wpAnyH_take (i := 7) (v := .pointer (some ⟨(bk k).Q, 4, none⟩)) rfl (by kernel_rfl) (by kernel_rfl) (by kernel_rfl) (fun _ _ _ h => h) (Or.inl ⟨by rfl, ?_⟩) hS2 ?_
                    · intro w hw
                      go_simp
                    try simp only [Act.put, List.getElem_toArray, List.getElem_cons_succ, List.getElem_cons_zero, List.setIfInBounds_toArray, List.set_cons_zero, List.set_cons_succ]
                    refine wpAnyH_ready (rs := [8]) (by kernel_rfl) (by simp) ?_
                    refine AllReadyH.cons rfl (fun K hK => ?_) AllReadyH.nil
                    rw [if_pos (by rfl)]
                    have HR2 : Hid (RV y1.drew (bk k).Q (q k).g (q k).ix (q k).s (q k).c (q k).N) := HR1.out
                    obtain ⟨y2, hy2⟩ : ∃ y2, y1.drew.setCells (bk k).Q 4 (upA act.N).toList = y2 := ⟨_, rfl⟩
                    have HW : Hid (RV y2 (bk k).Q (q k).g (q k).ix (q k).s (q k).c act.N ∧ Trn (fun j => j = (bk k).Q) y1.drew y2) := by rw [← hy2]; exact HR2.out.wr act.N
                    refine wp_store_mid 40 _ _ rfl (bk k).Q 4 (upA act.N) rfl rfl HR2.out.th inf25 (upA_one _) ?_
                    rw [hy2]
                    clear hy2
                    have hS3 : (fun W : World => (W.cell? ⟨vr, k, none⟩ = some (.pointer (some ⟨(bk k).V, 0, none⟩)) ∧ W.cell? ⟨vr + 1, k, none⟩ = some (.pointer (some ⟨(bk k).Q, 0, none⟩))) ∧ W.heap[A]? = some (.cells (acA act) 42 (0, 0))) y2 := ⟨HQ.out.rowsQ hk hS2.1 HW.out.2, (HW.out.2.block A (lt_of_heap hS2.2) (ne_typ hS2.2 HR2.out (by decide))).trans hS2.2⟩
                    refine hK.out _ _ hS3 (fun hS4 => ?_)
                    clear hK K hS2 hS4
                    try simp only [Act.put, List.getElem_toArray, List.getElem_cons_succ, List.getElem_cons_zero]
                    refine wpAnyH_done (by kernel_rfl) ?_ _
                    have rw2 := hS3.1.2
                    have rl2 := lt_cell rw2
                    have x4 : y2.cell? ⟨(bk k).Q, 4, none⟩ = some (.int .u64 (act.N 0)) := (cell_at HW.out.1 4).trans rfl
                    have x21 : y2.cell? ⟨(bk k).Q, 21, none⟩ = some (.int .i64 (s64 (act.N 17))) := (cell_at HW.out.1 21).trans rfl
                    have g4 := fz_at HW.out.1 4
                    have g21 := fz_at HW.out.1 21
                    have ql2 := HW.out.1.lt
                    have b20 : y2.cell? ⟨A, 20, none⟩ = some (.int .i64 (s64 (act.N 17))) := (cell_at hS3.2 20).trans rfl
                    have al2 := lt_of_heap hS3.2
                    have nAQ : A ≠ (bk k).Q := ne_typ hS3.2 HW.out.1 (by decide)
                    have nrQ : vr + 1 ≠ (bk k).Q := rrQ HQ.out hk
                    have HF : Hid (∃ x q u, PW w ((y2.setCell ⟨(bk k).Q, 4, none⟩ (.int .u64 0)).setCell ⟨(bk k).Q, 21, none⟩ (.int .i64 (bits .and .i64 (s64 (act.N 17)) 1))).drew ⟨M, mb, cr, o⟩ x bk q (vr + 1 + 1) vr (vr + 1) u) := ⟨_, _, _, (HQ.out.regsSet hk hs' HNA.out HY.out.1 HY.out.2 HW.out.1 HW.out.2).below (below_drew' _)⟩
                    clear hS3 HQ HY HR1 HR2 HW HS1
                    go_wp2_with fail
                    go_region
                    go_wp2_with fail
                    go_meet
                    case rel => exact ⟨trivial, HF.out⟩
              have c0 : (act.kd == 0) = false := beq_false_of_ne h0
              have c1 : (act.kd == 1) = false := beq_false_of_ne h1
              have c2 : (act.kd == 2) = false := beq_false_of_ne h2
              have c3 : (act.kd == 3) = false := beq_false_of_ne h3
              have c4 : (act.kd == 4) = false := beq_false_of_ne h4
              have c5 : (act.kd == 5) = false := beq_false_of_ne h5
              have HF : Hid (∃ x q u, PW w d ⟨M, mb, cr, o⟩ x bk q (vr + 1 + 1) vr (vr + 1) u) := ⟨_, _, _, HP.out.1⟩
              clear HP
              go_wp2_with fail
              go_meet
              case rel => exact ⟨trivial, HF⟩
          case rest =>
            as_aux_lemma =>
              obtain ⟨_, HT⟩ := hcut
              go_wp2_with fail
              go_loopw [24] (fun p wr => ∃ l : Nat, l ≤ 2 ∧ p = .int .i64 l ∧ Hid (∃ x q u, PW w wr ⟨M, mb, cr, o⟩ x bk q (vr + 1 + 1) vr (vr + 1) u)) (fun p _ => 2 - (intOf p).toNat)
              case atStart => exact ⟨0, by omega, rfl, HT⟩
              case round =>
                obtain ⟨l, hl, rfl, HL⟩ := hrel
                clear HT
                by_cases hl2 : l < 2
                · obtain ⟨x, q, u, hP⟩ := HL.out
                  have hl0 : (0 : Int) ≤ l := by omega
                  have hl3 : (l : Int) < 2 := by omega
                  have rv0 := (hP.rows hl2).1
                  have rl0 := lt_cell rv0
                  have CS := state_v (hP.v l hl2)
                  have HP2 : Hid (PW w wr ⟨M, mb, cr, o⟩ x bk q (vr + 1 + 1) vr (vr + 1) u) := hP
                  clear hP HL
                  go_wp2_with fail
                  refine CS.mono ?_
                  rintro e z1 ⟨rfl, b1⟩
                  have H1 : Hid (PW w z1 ⟨M, mb, cr, o⟩ x bk q (vr + 1 + 1) vr (vr + 1) u) := HP2.out.below b1
                  clear CS HP2 b1 rv0 rl0
                  have rv0 := (H1.out.rows hl2).1
                  have rl0 := lt_cell rv0
                  have CN := name_v (H1.out.v l hl2)
                  go_wp2_with fail
                  refine CN.mono ?_
                  rintro e z2 ⟨rfl, b2⟩
                  have H2 : Hid (PW w z2 ⟨M, mb, cr, o⟩ x bk q (vr + 1 + 1) vr (vr + 1) u) := H1.out.below b2
                  clear CN H1 b2 rv0 rl0
                  go_upto_region 55 with fail
                  have hne := above_here z2
                  have hab : ∀ (s : Above z2) b o, b < z2.heap.size → s.wld.cell? ⟨b, o, none⟩ = z2.cell? ⟨b, o, none⟩ := fun s b o h => s.bel.cell (p := ⟨b, o, none⟩) h
                  have hsz : ∀ (s : Above z2) b, b < z2.heap.size → b < s.wld.heap.size := fun s b h => Nat.lt_of_lt_of_le h s.bel.size
                  have rv0 := (H2.out.rows hl2).1
                  have rl0 := lt_cell rv0
                  have rr0 := (H2.out.rows hl2).2
                  have rl1 := lt_cell rr0
                  have r0 := (H2.out.r l hl2).c0
                  have r1 := (H2.out.r l hl2).c1
                  have r2 := (H2.out.r l hl2).c2
                  have r3 := (H2.out.r l hl2).c3
                  have ql := (H2.out.r l hl2).lt
                  have E1 : ∀ s : Above z2, Calls Try.prog 21 #[.pointer (some ⟨(bk l).V, 0, none⟩), .pointer (some ⟨M, 0, none⟩)] s.wld fun e w' => e = .returned (.agg (upA (q l).N)) ∧ Below s.wld.heap.size s.wld w' := fun s => by
                    have hp := H2.out.below s.bel
                    by_cases hs : (q l).s = 2
                    · obtain ⟨i, cb, hi, eci, hx, hcx⟩ := hp.on l hl2 hs
                      have hv := hp.v l hl2
                      rw [hs, eci] at hv
                      exact regs_on hp.m i hi cb hx hcx hv
                    · exact regs_off (hp.v l hl2) hs _
                  have HQR : Hid (∀ s : Above z2, s.wld.rangeAt (bk l).Q 4 (upA (q l).N).toList) := fun s => ((H2.out.below s.bel).r l hl2).rg
                  have ER : ∀ W : World, (Op.equalIn 10000 40 (.agg (upA (q l).N)) (.agg (upA (q l).N))).run Try.prog W = .ok true W := eq_regs (upA (q l).N) (q l).N ((q l).N 16) (s64 ((q l).N 17)) (fun n hn => upA_at _ n (by omega)) rfl rfl
                  refine wp_region_above (by kernel_rfl) (by kernel_rfl) ?_
                  repeat (first
                    | go_big_quiet_skip
                    | (go_big_quiet_want; refine quiet_load 40 _ rfl (bk l).Q 4 rfl (upA (q l).N).toList _ (fun w' ⟨s, hs⟩ => by rw [hs]; exact HQR.out s) Try.underlying40 rfl inf25 ?_; simp only [Act.put, Array.toArray_toList, List.setIfInBounds_toArray, List.set_cons_zero, List.set_cons_succ]; go_big_quiet_on)
                    | (go_big_quiet_want; refine quiet_neq 40 _ _ rfl (upA (q l).N) (upA (q l).N) rfl rfl eqg40' true ER ?_; simp only [Act.put, Bool.not_true, List.setIfInBounds_toArray, List.set_cons_zero, List.set_cons_succ]; go_big_quiet_on)
                    | (go_big_quiet_want; go_big_quiet_op; go_big_quiet_on)
                    | (go_big_quiet_want; go_big_quiet_op; apply Exists.intro; refine ⟨fun s => ?_, ?_⟩; exact above_call s (E1 s); go_big_quiet_on))
                  refine wpQuiet_nil ?_
                  rintro _ ⟨s, rfl⟩
                  have HF : Hid (∃ x q u, PW w s.wld ⟨M, mb, cr, o⟩ x bk q (vr + 1 + 1) vr (vr + 1) u) := ⟨_, _, _, H2.out.below s.bel⟩
                  clear H2 HQR ER E1 hab hsz hne rv0 rl0 rr0 rl1 r0 r1 r2 r3 ql
                  go_wp2_with fail
                  go_roundw
                  case rel => exact ⟨l + 1, by omega, by go_num, HF⟩
                  case measure => simp [intOf]; omega
                · obtain rfl : l = 2 := by omega
                  go_wp2_with fail
                  go_roundw
                  case rel => exact ⟨j + 1, by omega, by go_num, HL⟩
                  case measure => simp [intOf]; omega
    ·
      have HB : Hid (Below w.heap.size w wr) := by
        obtain ⟨x, q, u, hP⟩ := HJ.out
        exact hP.bl
      have hj9 : (len : Int) ≤ (j : Int) := by omega
      clear HJ
      go_wp2_with fail
      go_ret
      exact ⟨rfl, HB.out⟩
end Go.Proofs.Ytjkaeclemflifaa
