/-
  The walk of VcpuStops.
-/
import Derived.Test.YtjkaeclemflifaaQt
namespace Go.Proofs.Ytjkaeclemflifaa
open Go.RowKit
set_option linter.unusedVariables false
set_option maxRecDepth 100000
theorem eqg63 : Try.prog.eqGuardType Try.prog.depth 63 = false := by kernel_rfl
/-- one machine, one virtual processor -/
structure S1 (w0 w : World) (M mb cr n : Nat) (o : Nat → Nat) (x : Nat → Value) (V : Nat) (g : Int) (F : Nat) (ix s c : Int) (N R : Nat → Int) : Prop where
  m : MS w M mb cr n 1 o x
  v : VS w V g F ix s c N
  f : FF w F R
  bl : Below w0.heap.size w0 w
  wv : w0.heap.size ≤ V
  wf : w0.heap.size ≤ F
section
variable {w0 w w' : World} {M mb cr n : Nat} {o : Nat → Nat} {x : Nat → Value} {V : Nat} {g : Int} {F : Nat} {ix s c : Int} {N R : Nat → Int}
theorem S1.below (h : S1 w0 w M mb cr n o x V g F ix s c N R) (hb : Below w.heap.size w w') : S1 w0 w' M mb cr n o x V g F ix s c N R :=
  ⟨h.m.below hb, h.v.below hb, h.f.below hb, h.bl.trans (hb.mono h.bl.size), h.wv, h.wf⟩
/-- it turned alone -/
theorem S1.turn (h : S1 w0 w M mb cr n o x V g F ix s c N R) {s' c' : Int} {N' : Nat → Int} (hv : VS w' V g F ix s' c' N') (ht : Trn (fun k => k = V) w w') : S1 w0 w' M mb cr n o x V g F ix s' c' N' R := by
  obtain ⟨fs, hf, _⟩ := h.f.blk
  exact ⟨h.m.trnV h.v ht, hv, h.f.keep (ht.block _ h.f.lt (ne_typ hf h.v (by decide))), h.bl.trans (ht.below h.bl.size fun k e => e ▸ h.wv), h.wv, h.wf⟩
/-- it and its control registers turned -/
theorem S1.loaded (h : S1 w0 w M mb cr n o x V g F ix s c N R) {N' R' : Nat → Int} (hv : VS w' V g F ix s c N') (hf : FF w' F R') (ht : Trn (fun k => k = V ∨ k = F) w w') : S1 w0 w' M mb cr n o x V g F ix s c N' R' := by
  obtain ⟨fs, hfs, _⟩ := h.f.blk
  refine ⟨h.m.keep fun k hk ho => ht.block k hk ?_, hv, hf, h.bl.trans (ht.below h.bl.size ?_), h.wv, h.wf⟩
  · rintro (rfl | rfl)
    · exact h.m.vs h.v ho
    · exact h.m.apart hfs (by decide) (by decide) (by decide) (by decide) ho
  · rintro k (rfl | rfl)
    · exact h.wv
    · exact h.wf
end
set_option maxHeartbeats 6400000 in
theorem stopsWalk (N R : Nat → Int) (hN : W18 N) (hR : ∀ k, k < 12 → U (R k)) (bl : Bool) (w : World) : Calls Try.prog 7 #[.agg (imA N R), .bool bl] w fun e w' => e = .returned (.bool true) ∧ Below w.heap.size w w' := by
  have b0 := below_box w (.cells (imA N R) 63)
  have a0 := heap_alloc_at w (.cells (imA N R) 63)
  have C1 := new_m 1 1 (by decide) (by decide) (by decide) (by decide) (w.alloc (.cells (imA N R) 63))
  have HB0 : Hid (_) := And.intro a0 b0
  clear a0 b0
  go_enter Try.func7, Try.ntmps7
  go_wp2_with fail
  generalize w.alloc (.cells (imA N R) 63) = y at *
  refine C1.mono ?_
  rintro e w1 ⟨M, mb, cr, o, rfl, m1, a1, b1⟩
  have H1 : Hid (w1.heap[w.heap.size]? = some (.cells (imA N R) 63 (0, 0)) ∧ MS w1 M mb cr 1 1 o (fun _ => .pointer none) ∧ Below w.heap.size w w1) := ⟨keepB HB0.out.1 b1, m1, HB0.out.2.trans (b1.mono HB0.out.2.size)⟩
  clear C1 m1 a1 b1 HB0
  have C2 := vnew_yes 2 1 0 (by decide) (by decide) (by decide) (by decide) ⟨by decide, by decide⟩ w1
  go_wp2_with fail
  refine C2.mono ?_
  rintro e w2 ⟨V, F, rfl, v2, f2, l2, k2, b2⟩
  have H2 : Hid (w2.heap[w.heap.size]? = some (.cells (imA N R) 63 (0, 0)) ∧ S1 w w2 M mb cr 1 o (fun _ => .pointer none) V 2 F 1 1 (-1) (newN 0) (newP 1)) := ⟨keepB H1.out.1 b2, H1.out.2.1.below b2, v2, f2, H1.out.2.2.trans (b2.mono H1.out.2.2.size), Nat.le_trans H1.out.2.2.size l2, Nat.le_trans H1.out.2.2.size k2⟩
  clear C2 v2 f2 l2 k2 b2 H1
  have C3 := load_yes H2.out.2.v H2.out.2.f rfl N R hR
  have HR1 : Hid (w2.rangeAt w.heap.size 0 (imA N R).toList) := range_of H2.out.1
  have yl := lt_of_heap H2.out.1
  go_wp2_with (first
    | refine wpList_load_at rfl 63 _ rfl w.heap.size 0 rfl (imA N R).toList _ HR1.out Try.underlying63 rfl inf63 ?_
    | fail)
  refine C3.mono ?_
  rintro e w3 ⟨rfl, v3, f3, t3⟩
  have H3 : Hid (S1 w w3 M mb cr 1 o (fun _ => .pointer none) V 2 F 1 1 (-1) (al N) (ld (newP 1) R 12)) := H2.out.2.loaded v3 f3 t3
  clear C3 v3 f3 t3 H2 HR1 yl
  generalize ld (newP 1) R 12 = R2 at *
  have hA := al_w hN
  generalize al N = N2 at *
  clear hN hR
  have C4 := image_any H3.out.v H3.out.f (.pointer (some ⟨M, 0, none⟩)) N2 hA (fun y hy => regs_off (H3.out.v.below hy) (by decide) _)
  go_wp2_with fail
  refine C4.mono ?_
  rintro e w4 ⟨rfl, b4⟩
  obtain ⟨a, ha⟩ : ∃ a, w4.alloc (.cells zeros30 63) = a := ⟨_, rfl⟩
  have ba : Below w4.heap.size w4 a := by rw [← ha]; exact below_box _ _
  have m0 : a.heap[w4.heap.size]? = some (.cells zeros30 63 (0, 0)) := by rw [← ha]; exact heap_alloc_at _ _
  have HM0 : Hid (_) := m0
  obtain ⟨b, hb⟩ : ∃ b, a.setRow w4.heap.size (imA N2 R2) = b := ⟨_, rfl⟩
  have bb : Below w4.heap.size a b := by rw [← hb]; exact below_setRow' _ _ (Nat.le_refl _) _
  have m1 : b.heap[w4.heap.size]? = some (.cells (imA N2 R2) 63 (0, 0)) := by rw [← hb]; exact setRow_heap _ _ _ _ _ _ m0
  have H5 : Hid (b.heap[w4.heap.size]? = some (.cells (imA N2 R2) 63 (0, 0)) ∧ S1 w b M mb cr 1 o (fun _ => .pointer none) V 2 F 1 1 (-1) N2 R2) := ⟨m1, (H3.out.below b4).below (ba.trans bb)⟩
  clear C4 H3 b4 ba m0 bb m1
  unfold zeros30 at ha
  go_upto_region 6 with (first
    | refine wpList_store_row rfl 63 _ _ rfl w4.heap.size (imA N2 R2) rfl rfl 63 zeros30 HM0.out inf63 rfl (imA_one _ _) ?_
    | fail)
  simp only [Act.put, hb]
  clear ha hb HM0
  cases bl
  · have H6 : Hid (b.heap[w4.heap.size]? = some (.cells (imA N2 R2) 63 (0, 0)) ∧ S1 w b M mb cr 1 o (fun _ => .pointer none) V 2 F 1 1 (-1) N2 R2) := H5.out
    clear H5
    have CS := stop_v H6.out.2.v
    rw [show inE (isS 2 1 3 0 1) = 0 by decide, show (if isS 2 1 3 0 1 = true then (4 : Int) else 1) = 4 by decide] at CS
    go_wp2_with fail
    refine CS.mono ?_
    rintro e d ⟨rfl, v7, t7⟩
    have H7 : Hid (d.heap[w4.heap.size]? = some (.cells (imA N2 R2) 63 (0, 0)) ∧ S1 w d M mb cr 1 o (fun _ => .pointer none) V 2 F 1 4 (-1) N2 R2) := ⟨(t7.block _ (lt_of_heap H6.out.1) (ne_typ H6.out.1 H6.out.2.v (by decide))).trans H6.out.1, H6.out.2.turn v7 t7⟩
    clear CS v7 t7 H6
    have CT := state_v H7.out.2.v
    go_wp2_with fail
    refine CT.mono ?_
    rintro e d2 ⟨rfl, b8⟩
    have H8 : Hid (d2.heap[w4.heap.size]? = some (.cells (imA N2 R2) 63 (0, 0)) ∧ S1 w d2 M mb cr 1 o (fun _ => .pointer none) V 2 F 1 4 (-1) N2 R2) := ⟨keepB H7.out.1 b8, H7.out.2.below b8⟩
    clear CT b8 H7
    go_wp2_with fail
    have hne := above_here d2
    have E1 : ∀ s : Above d2, _ := fun s => enter_state (H8.out.2.m.below s.bel) (H8.out.2.v.below s.bel) (by decide) (.int .i64 0) (.int .i64 0)
    have E2 : ∀ s : Above d2, _ := fun s => wake_no (H8.out.2.v.below s.bel) (by decide)
    have E3 : ∀ s : Above d2, _ := fun s => block_no (H8.out.2.v.below s.bel) (by decide)
    have E4 : ∀ s : Above d2, _ := fun s => stop_no (H8.out.2.v.below s.bel) (by decide)
    have E5 : ∀ s : Above d2, _ := fun s => leave_state (H8.out.2.m.below s.bel) (H8.out.2.v.below s.bel) (by decide)
    have E6 : ∀ s : Above d2, Calls Try.prog 24 #[.pointer (some ⟨V, 0, none⟩), .pointer (some ⟨M, 0, none⟩)] s.wld fun e w' => e = .returned (.agg (imA N2 R2)) ∧ Below s.wld.heap.size s.wld w' := fun s => image_any (H8.out.2.v.below s.bel) (H8.out.2.f.below s.bel) (.pointer (some ⟨M, 0, none⟩)) N2 hA (fun y hy => regs_off ((H8.out.2.v.below s.bel).below hy) (by decide) _)
    refine wp_region_above (by kernel_rfl) (by kernel_rfl) ?_
    repeat (first
      | go_big_quiet_skip
      | (go_big_quiet_want; refine quiet_load 63 _ rfl w4.heap.size 0 rfl (imA N2 R2).toList _ (fun w' ⟨s, hs⟩ => by rw [hs]; exact range_of (keepB H8.out.1 s.bel)) Try.underlying63 rfl inf63 ?_; simp only [Act.put, Array.toArray_toList, List.setIfInBounds_toArray, List.set_cons_zero, List.set_cons_succ]; go_big_quiet_on)
      | (go_big_quiet_want; refine quiet_eql 63 _ _ rfl (imA N2 R2) (imA N2 R2) rfl rfl eqg63 true (eq_im _ (imA_words _ _)) ?_; simp only [Act.put, List.setIfInBounds_toArray, List.set_cons_zero, List.set_cons_succ]; go_big_quiet_on)
      | (go_big_quiet_want; go_big_quiet_op; go_big_quiet_on)
      | (go_big_quiet_want; go_big_quiet_op; apply Exists.intro; refine ⟨fun s => ?_, ?_⟩; (first | exact above_call s (E1 s) | exact above_call s (E2 s) | exact above_call s (E3 s) | exact above_call s (E4 s) | exact above_call s (E5 s) | exact above_call s (E6 s)); go_big_quiet_on))
    refine wpQuiet_nil ?_
    rintro _ ⟨s, rfl⟩
    have HE : Hid (Below w.heap.size w s.wld) := H8.out.2.bl.trans (s.bel.mono H8.out.2.bl.size)
    clear E1 E2 E3 E4 E5 E6 H8
    go_wp2_with fail
    go_ret
    exact ⟨rfl, HE.out⟩
  · have CB := block_v H5.out.2.v
    rw [show inE (isS 1 1 0 0 1) = 0 by decide, show (if isS 1 1 0 0 1 = true then (3 : Int) else 1) = 3 by decide] at CB
    go_wp2_with fail
    refine CB.mono ?_
    rintro e d ⟨rfl, v6, t6⟩
    have H6 : Hid (d.heap[w4.heap.size]? = some (.cells (imA N2 R2) 63 (0, 0)) ∧ S1 w d M mb cr 1 o (fun _ => .pointer none) V 2 F 1 3 (-1) N2 R2) := ⟨(t6.block _ (lt_of_heap H5.out.1) (ne_typ H5.out.1 H5.out.2.v (by decide))).trans H5.out.1, H5.out.2.turn v6 t6⟩
    clear CB v6 t6 H5
    have CS := stop_v H6.out.2.v
    rw [show inE (isS 2 1 3 0 3) = 0 by decide, show (if isS 2 1 3 0 3 = true then (4 : Int) else 3) = 4 by decide] at CS
    go_wp2_with fail
    refine CS.mono ?_
    rintro e d ⟨rfl, v7, t7⟩
    have H7 : Hid (d.heap[w4.heap.size]? = some (.cells (imA N2 R2) 63 (0, 0)) ∧ S1 w d M mb cr 1 o (fun _ => .pointer none) V 2 F 1 4 (-1) N2 R2) := ⟨(t7.block _ (lt_of_heap H6.out.1) (ne_typ H6.out.1 H6.out.2.v (by decide))).trans H6.out.1, H6.out.2.turn v7 t7⟩
    clear CS v7 t7 H6
    have CT := state_v H7.out.2.v
    go_wp2_with fail
    refine CT.mono ?_
    rintro e d2 ⟨rfl, b8⟩
    have H8 : Hid (d2.heap[w4.heap.size]? = some (.cells (imA N2 R2) 63 (0, 0)) ∧ S1 w d2 M mb cr 1 o (fun _ => .pointer none) V 2 F 1 4 (-1) N2 R2) := ⟨keepB H7.out.1 b8, H7.out.2.below b8⟩
    clear CT b8 H7
    go_wp2_with fail
    have hne := above_here d2
    have E1 : ∀ s : Above d2, _ := fun s => enter_state (H8.out.2.m.below s.bel) (H8.out.2.v.below s.bel) (by decide) (.int .i64 0) (.int .i64 0)
    have E2 : ∀ s : Above d2, _ := fun s => wake_no (H8.out.2.v.below s.bel) (by decide)
    have E3 : ∀ s : Above d2, _ := fun s => block_no (H8.out.2.v.below s.bel) (by decide)
    have E4 : ∀ s : Above d2, _ := fun s => stop_no (H8.out.2.v.below s.bel) (by decide)
    have E5 : ∀ s : Above d2, _ := fun s => leave_state (H8.out.2.m.below s.bel) (H8.out.2.v.below s.bel) (by decide)
    have E6 : ∀ s : Above d2, Calls Try.prog 24 #[.pointer (some ⟨V, 0, none⟩), .pointer (some ⟨M, 0, none⟩)] s.wld fun e w' => e = .returned (.agg (imA N2 R2)) ∧ Below s.wld.heap.size s.wld w' := fun s => image_any (H8.out.2.v.below s.bel) (H8.out.2.f.below s.bel) (.pointer (some ⟨M, 0, none⟩)) N2 hA (fun y hy => regs_off ((H8.out.2.v.below s.bel).below hy) (by decide) _)
    refine wp_region_above (by kernel_rfl) (by kernel_rfl) ?_
    repeat (first
      | go_big_quiet_skip
      | (go_big_quiet_want; refine quiet_load 63 _ rfl w4.heap.size 0 rfl (imA N2 R2).toList _ (fun w' ⟨s, hs⟩ => by rw [hs]; exact range_of (keepB H8.out.1 s.bel)) Try.underlying63 rfl inf63 ?_; simp only [Act.put, Array.toArray_toList, List.setIfInBounds_toArray, List.set_cons_zero, List.set_cons_succ]; go_big_quiet_on)
      | (go_big_quiet_want; refine quiet_eql 63 _ _ rfl (imA N2 R2) (imA N2 R2) rfl rfl eqg63 true (eq_im _ (imA_words _ _)) ?_; simp only [Act.put, List.setIfInBounds_toArray, List.set_cons_zero, List.set_cons_succ]; go_big_quiet_on)
      | (go_big_quiet_want; go_big_quiet_op; go_big_quiet_on)
      | (go_big_quiet_want; go_big_quiet_op; apply Exists.intro; refine ⟨fun s => ?_, ?_⟩; (first | exact above_call s (E1 s) | exact above_call s (E2 s) | exact above_call s (E3 s) | exact above_call s (E4 s) | exact above_call s (E5 s) | exact above_call s (E6 s)); go_big_quiet_on))
    refine wpQuiet_nil ?_
    rintro _ ⟨s, rfl⟩
    have HE : Hid (Below w.heap.size w s.wld) := H8.out.2.bl.trans (s.bel.mono H8.out.2.bl.size)
    clear E1 E2 E3 E4 E5 E6 H8
    go_wp2_with fail
    go_ret
    exact ⟨rfl, HE.out⟩
end Go.Proofs.Ytjkaeclemflifaa
