/-
  What storesIfHeld does: its contract.
-/
import Derived.Test.YtkckobbedpccfaaGreatDoorQLo
namespace Go.Proofs.YtkckobbedpccfaaGreatDoor
open Go.RowKit
set_option linter.unusedVariables false
set_option maxRecDepth 100000


set_option maxHeartbeats 3200000 in
theorem sc_no (p : Pl) (T : TT) (hT : TransOK p T) (s : Hs) (hz : (s.rch T 2).none = false) : Acts p 121 s (s.refP (s.rch T 2).c (s.rch T 2).v (s.rch T 2).g) := by
  intro w h
  have hb0 := below_box w zeroRes
  have h1 := h.below hb0
  have hO := h.off (Nat.le_refl w.heap.size)
  have CT := reach_refuse p T hT s 2 hz _ h1
  have hv := (rch_U hT s 2).2
  generalize s.rch T 2 = z at *
  have EQ := eq_trap z.c z.v z.g 0 0 0
  have hz' : (z.c == 0 && z.v == 0 && z.g == 0) = false := hz
  rw [hz'] at EQ
  have CF := fun w' h' => refused_any p s z.c z.v z.g hv w' h'
  generalize s.refP z.c z.v z.g = o at *
  obtain ⟨z4, zc, zv, zg⟩ := z
  obtain ⟨⟨rk, rc, rv, rg, rf, rt⟩, s'⟩ := o
  have T0 : Hid (Tn p w _) := Tn.below hb0
  have N0 : Hid ((w.alloc zeroRes).heap[w.heap.size]? = some zeroRes) := C.heap_alloc_at w zeroRes
  have H0 : Hid (HW (w.alloc zeroRes) p s) := h1
  clear h h1 hb0 hz hz'
  dsimp only [Rs.val, resV, plV, trV] at *
  go_enter Tryz.func121, Tryz.ntmps121
  go_wp2_with fail
  refine CT.mono ?_
  rintro e w1 ⟨rfl, b1⟩
  obtain ⟨b2, n2, n3⟩ := new_pt w1 (.int .u64 0) (.int .u64 0) (.int .i64 0) (.int .i64 0) (.int .i64 zc) (.int .u64 zv) (.int .u64 zg)
  have CF' := CF _ ((H0.out.below b1).below b2)
  have T1 : Hid (Tn p w _) := (T0.out.trans (Tn.below b1)).trans (Tn.below b2)
  have N1 : Hid (_) := keepB (keepB N0.out b1) b2
  clear CT CF b1 b2 n2 n3 T0 N0 H0
  go_wp2_with (first
    | refine wpList_neq_agg rfl 55 _ _ rfl _ _ rfl rfl Tryz.eqGuardType55 false (EQ _) ?_
    | fail)
  refine CF'.mono ?_
  rintro e w9 ⟨rfl, h9, t9⟩
  have H9 : Hid (HW w9 p s') := h9
  have T9 : Hid (Tn p w w9) := T1.out.trans t9
  obtain ⟨z0, z1, z2, z3, z4, z5, f0, f1, f2, f3, f4, f5, hl⟩ := res_cells (w := w9) (t9.keepN hO N1.out)
  clear CF' h9 t9 T1 N1
  skip
  go_wp2_with fail
  refine bodyPost_ret (v := _) ?h1 rfl ⟨rfl, H9.out.toN hO (grown_set6 _ _ _ _ _ _ _ _), T9.out.toN (Nat.le_refl _) (grown_set6 _ _ _ _ _ _ _ _)⟩
  case h1 => simp [results, Tryz.results121, go_sem, z0, z1, z2, z3, z4, z5]

set_option maxHeartbeats 6400000 in
theorem sc_not (p : Pl) (T : TT) (hT : TransOK p T) (s : Hs) (hz : (s.rch T 2).none = true) (hh : (s.is && s.at_ == (s.rch T 2).pa) = false) : Acts p 121 s (s.let_.told 1) := by
  intro w h
  have hb0 := below_box w zeroRes
  have h1 := h.below hb0
  have hO := h.off (Nat.le_refl w.heap.size)
  have CT := reach_found p T hT s 2 hz _ h1
  have EQ := eq_trap0
  have hpa := (rch_U hT s 2).1
  have hwc : widthP s.op < 9223372036854775808 := by have := width_cases s.op; omega
  have hr2 := h.ok.r2
  have hv2 := h.ok.reg s.r2 hr2
  have hgU := got_U h T 2
  have CH := fun w' h' => held_hw p s (s.rch T 2).pa w' h'
  rw [hh] at CH
  have CF := fun w' h' => tell_hw p s.let_ 1 ⟨by decide, by decide⟩ w' h'
  have mh := mHeld p.B
  clear hh
  have T0 : Hid (Tn p w _) := Tn.below hb0
  have N0 : Hid ((w.alloc zeroRes).heap[w.heap.size]? = some zeroRes) := C.heap_alloc_at w zeroRes
  have H0 : Hid (HW (w.alloc zeroRes) p s) := h1
  clear h h1 hb0 hz
  generalize (s.rch T 2).pa = pa at *
  generalize hwd : widthP s.op = wd at *
  generalize s.asked = qq at *
  generalize s.got T 2 = lv at *
  dsimp only [Rs.val, resV, plV, trV, Rs.ok, okV, Hs.told] at *
  go_enter Tryz.func121, Tryz.ntmps121
  go_wp2_with fail
  refine CT.mono ?_
  rintro e w1 ⟨rfl, b1⟩
  obtain ⟨b2, n2, n3⟩ := new_pt w1 (.int .u64 qq) (.int .u64 pa) (.int .i64 wd) (.int .i64 2) (.int .i64 0) (.int .u64 0) (.int .u64 0)
  have HX : Hid (HW _ p s) := (H0.out.below b1).below b2
  have T1 : Hid (Tn p w _) := (T0.out.trans (Tn.below b1)).trans (Tn.below b2)
  have N1 : Hid (_) := keepB (keepB N0.out b1) b2
  have NP : Hid (_) := n2
  have hOM : p.Off w1.heap.size := (H0.out.below b1).off (Nat.le_refl _)
  have hNM : w.heap.size < w1.heap.size := by have := b1.size; simp at this; omega
  clear CT b1 b2 n2 n3 T0 N0 H0
  go_wp2_with (first
    | refine wpList_neq_agg rfl 55 _ _ rfl _ _ rfl rfl Tryz.eqGuardType55 true (EQ _) ?_
    | fail)
  generalize (w1.alloc (.cells #[.int .u64 qq, .int .u64 pa, .int .i64 wd, .int .i64 2] 193)).alloc (.cells #[.int .i64 0, .int .u64 0, .int .u64 0] 55) = x at *
  generalize w1.heap.size = M at *
  obtain ⟨p0, p1, p2, p3, _, _, _, _, pM⟩ := pl_cells NP.out
  have c19 := HX.out.cB
  have l0 := HX.out.lt.1
  have CH' := CH x.drew HX.out.drew
  clear CH
  simp [Act.put]
  go_cut [24] (fun v wx => v = .bool true ∧ Hid (HW wx p s.let_ ∧ Tn p x wx))
  case first =>
    go_region_held2 (fun w'' => w''.cell? ⟨p.S, 19, none⟩ = some (.iface 39 (.pointer (some ⟨p.B, 0, none⟩))) ∧ w''.cell? ⟨M, 1, none⟩ = some (.int .u64 pa)) (go_keep)
      ((go_at_call 166; refine CH'.mono ?_; rintro e x1 ⟨rfl, hx, tx⟩; have HX1 : Hid (HW x1 p s.let_ ∧ Tn p x x1) := ⟨hx, (Tn.refl p x).drew.trans tx⟩; have k19 := hx.cB; obtain ⟨j0, j1, j2, j3, _, _, _, _, jM⟩ := pl_cells (tx.keepN (w := x.drew) hOM NP.out); clear hx tx))
    all_goals
      go_wp2_with fail
      go_meet
      exact ⟨rfl, HX1.out⟩
  case rest =>
  obtain ⟨rfl, hH⟩ := hcut
  have T2 : Hid (Tn p w wc) := T1.out.trans hH.out.2
  have N2 : Hid (wc.heap[w.heap.size]? = some zeroRes) := hH.out.2.keepN hO N1.out
  have CF' := CF wc hH.out.1
  clear hH CH' CF HX NP T1 N1 p0 p1 p2 p3 pM c19 l0
  go_wp2_with fail
  refine CF'.mono ?_
  rintro e w9 ⟨rfl, h9, t9⟩
  have H9 : Hid (HW w9 p ((s.let_.puts 1).went s.next)) := h9
  have T9 : Hid (Tn p w w9) := T2.out.trans t9
  obtain ⟨z0, z1, z2, z3, z4, z5, f0, f1, f2, f3, f4, f5, hl⟩ := res_cells (w := w9) (t9.keepN hO N2.out)
  clear CF' h9 t9 T2 N2
  skip
  go_wp2_with fail
  refine bodyPost_ret (v := _) ?h1 rfl ⟨rfl, H9.out.toN hO (grown_set6 _ _ _ _ _ _ _ _), T9.out.toN (Nat.le_refl _) (grown_set6 _ _ _ _ _ _ _ _)⟩
  case h1 => simp [results, Tryz.results121, go_sem, z0, z1, z2, z3, z4, z5]

set_option maxHeartbeats 6400000 in
theorem sc_yes (p : Pl) (T : TT) (hT : TransOK p T) (s : Hs) (hz : (s.rch T 2).none = true) (hh : (s.is && s.at_ == (s.rch T 2).pa) = true) (hn : s.ld T 2 = 0) : Acts p 121 s (({ s.let_ with zs := storeV s.zs (s.rch T 2).pa (widthP s.op) (s.reg s.r2) } : Hs).told 0) := by
  intro w h
  have hb0 := below_box w zeroRes
  have h1 := h.below hb0
  have hO := h.off (Nat.le_refl w.heap.size)
  have CT := reach_found p T hT s 2 hz _ h1
  have EQ := eq_trap0
  have hpa := (rch_U hT s 2).1
  have hwc : widthP s.op < 9223372036854775808 := by have := width_cases s.op; omega
  have hr2 := h.ok.r2
  have hv2 := h.ok.reg s.r2 hr2
  have hgU := got_U h T 2
  have CH := fun w' h' => held_hw p s (s.rch T 2).pa w' h'
  rw [hh] at CH
  have mh := mHeld p.B
  clear hh
  unfold Hs.ld at hn
  have CS := fun w' h' => store_ok p s.let_ s.asked (s.rch T 2).pa (widthP s.op) 2 (s.reg s.r2) hpa hwc hv2 hn w' h'
  have CF := fun w' h' => tell_hw p { s.let_ with zs := storeV s.zs (s.rch T 2).pa (widthP s.op) (s.reg s.r2) } 0 ⟨by decide, by decide⟩ w' h'
  have T0 : Hid (Tn p w _) := Tn.below hb0
  have N0 : Hid ((w.alloc zeroRes).heap[w.heap.size]? = some zeroRes) := C.heap_alloc_at w zeroRes
  have H0 : Hid (HW (w.alloc zeroRes) p s) := h1
  clear h h1 hb0 hz
  generalize (s.rch T 2).pa = pa at *
  generalize hwd : widthP s.op = wd at *
  generalize s.asked = qq at *
  generalize s.got T 2 = lv at *
  dsimp only [Rs.val, resV, plV, trV, Rs.ok, okV, Hs.told] at *
  go_enter Tryz.func121, Tryz.ntmps121
  go_wp2_with fail
  refine CT.mono ?_
  rintro e w1 ⟨rfl, b1⟩
  obtain ⟨b2, n2, n3⟩ := new_pt w1 (.int .u64 qq) (.int .u64 pa) (.int .i64 wd) (.int .i64 2) (.int .i64 0) (.int .u64 0) (.int .u64 0)
  have HX : Hid (HW _ p s) := (H0.out.below b1).below b2
  have T1 : Hid (Tn p w _) := (T0.out.trans (Tn.below b1)).trans (Tn.below b2)
  have N1 : Hid (_) := keepB (keepB N0.out b1) b2
  have NP : Hid (_) := n2
  have hOM : p.Off w1.heap.size := (H0.out.below b1).off (Nat.le_refl _)
  have hNM : w.heap.size < w1.heap.size := by have := b1.size; simp at this; omega
  clear CT b1 b2 n2 n3 T0 N0 H0
  go_wp2_with (first
    | refine wpList_neq_agg rfl 55 _ _ rfl _ _ rfl rfl Tryz.eqGuardType55 true (EQ _) ?_
    | fail)
  generalize (w1.alloc (.cells #[.int .u64 qq, .int .u64 pa, .int .i64 wd, .int .i64 2] 193)).alloc (.cells #[.int .i64 0, .int .u64 0, .int .u64 0] 55) = x at *
  generalize w1.heap.size = M at *
  obtain ⟨p0, p1, p2, p3, _, _, _, _, pM⟩ := pl_cells NP.out
  have c19 := HX.out.cB
  have l0 := HX.out.lt.1
  have CH' := CH x.drew HX.out.drew
  clear CH
  simp [Act.put]
  go_cut [24] (fun v wx => v = .bool false ∧ Hid (HW wx p s.let_ ∧ Tn p x wx))
  case first =>
    go_region_held2 (fun w'' => w''.cell? ⟨p.S, 19, none⟩ = some (.iface 39 (.pointer (some ⟨p.B, 0, none⟩))) ∧ w''.cell? ⟨M, 1, none⟩ = some (.int .u64 pa)) (go_keep)
      ((go_at_call 166; refine CH'.mono ?_; rintro e x1 ⟨rfl, hx, tx⟩; have HX1 : Hid (HW x1 p s.let_ ∧ Tn p x x1) := ⟨hx, (Tn.refl p x).drew.trans tx⟩; have k19 := hx.cB; obtain ⟨j0, j1, j2, j3, _, _, _, _, jM⟩ := pl_cells (tx.keepN (w := x.drew) hOM NP.out); clear hx tx))
    all_goals
      go_wp2_with fail
      go_meet
      exact ⟨rfl, HX1.out⟩
  case rest =>
  obtain ⟨rfl, hH⟩ := hcut
  have T2 : Hid (Tn p w wc) := T1.out.trans hH.out.2
  have N2 : Hid (wc.heap[w.heap.size]? = some zeroRes) := hH.out.2.keepN hO N1.out
  have HX3 : Hid (HW wc p s.let_) := hH.out.1
  have NP3 : Hid (wc.heap[M]? = some (.cells #[.int .u64 qq, .int .u64 pa, .int .i64 wd, .int .i64 2] 193 (0, 0))) := hH.out.2.keepN hOM NP.out
  clear hH CH' HX NP T1 N1 p0 p1 p2 p3 pM c19 l0
  have NP : Hid (_) := NP3.out
  clear NP3
  go_wp2_with fail
  have CS' : ∀ w', HW w' p (s.let_ : Hs) → Calls Tryz.prog 136 #[.pointer (some ⟨p.S, 0, none⟩), .agg #[.int .u64 qq, .int .u64 pa, .int .i64 wd, .int .i64 2], .int .u64 (s.reg s.r2)] w' fun e w'' => e = .returned (.agg #[.int .i64 0, .int .u64 0, .int .u64 0]) ∧ HW w'' p ({ s.let_ with zs := storeV s.zs pa wd (s.reg s.r2) } : Hs) ∧ Tn p w' w'' := CS
  clear CS
  obtain ⟨q0, q1, q2, q3, _, _, _, _, qM⟩ := pl_cells NP.out
  have c24 : wc.cell? ⟨p.S, 24, none⟩ = some (.int .i64 s.r2) := HX3.out.cR2
  have l1 := HX3.out.lt.1
  have hOL : p.Off wc.heap.size := HX3.out.off (Nat.le_refl _)
  have nS : ¬ wc.heap.size = p.S := hOL.S
  have nS' : ¬ p.S = wc.heap.size := Ne.symm hOL.S
  have nM : ¬ M = wc.heap.size := by omega
  have nM' : ¬ wc.heap.size = M := by omega
  try simp [Act.put]
  go_cut [5] (fun v wz => ∃ L, v = .pointer (some ⟨L, 0, none⟩) ∧ Hid (wz.heap[L]? = some (.cells #[.int .i64 0, .int .u64 0, .int .u64 0] 55 (0, 0)) ∧ HW wz p ({ s.let_ with zs := storeV s.zs pa wd (s.reg s.r2) } : Hs) ∧ Tn p wc wz))
  case first =>
    go_region_held2 (fun w'' => w''.cell? ⟨p.S, 24, none⟩ = some (.int .i64 s.r2) ∧ w''.cell? ⟨M, 0, none⟩ = some (.int .u64 qq) ∧ w''.cell? ⟨M, 1, none⟩ = some (.int .u64 pa) ∧ w''.cell? ⟨M, 2, none⟩ = some (.int .i64 wd) ∧ w''.cell? ⟨M, 3, none⟩ = some (.int .i64 2)) (go_keep)
      ((first
        | (go_at_call 100; refine (register_hw p (s.let_ : Hs) s.r2 hr2 wc.drew HX3.out.drew).mono ?_; rintro e x1 ⟨rfl, hx⟩; subst hx)
        | (go_at_call 100; refine (register_hw p (s.let_ : Hs) s.r2 hr2 (wc.alloc (.cells #[.int .i64 0, .int .u64 0, .int .u64 0] 55)).drew (HX3.out.below (below_box _ _)).drew).mono ?_; rintro e x1 ⟨rfl, hx⟩; subst hx)
        | (go_at_call 136; refine (CS' wc.drew HX3.out.drew).mono ?_; rintro e x1 ⟨rfl, hx, tx⟩; have HX1 : Hid (HW x1 p ({ s.let_ with zs := storeV s.zs pa wd (s.reg s.r2) } : Hs) ∧ Tn p wc x1) := ⟨hx, (Tn.refl p wc).drew.trans tx⟩; have k24 : x1.cell? ⟨p.S, 24, none⟩ = some (.int .i64 s.r2) := hx.cR2; obtain ⟨j0, j1, j2, j3, _, _, _, _, jM⟩ := pl_cells (tx.keepN (w := wc.drew) hOM NP.out); clear hx tx)
        | (go_at_call 136; refine (CS' (wc.alloc (.cells #[.int .i64 0, .int .u64 0, .int .u64 0] 55)).drew (HX3.out.below (below_box _ _)).drew).mono ?_; rintro e x1 ⟨rfl, hx, tx⟩; have HX2 : Hid (HW x1 p ({ s.let_ with zs := storeV s.zs pa wd (s.reg s.r2) } : Hs) ∧ Tn p wc x1 ∧ x1.heap[wc.heap.size]? = some zeroTrap) := ⟨hx, ((Tn.refl p wc).trans (Tn.below (below_box _ _))).drew.trans tx, tx.keepN (w := (wc.alloc (.cells #[.int .i64 0, .int .u64 0, .int .u64 0] 55)).drew) hOL (C.heap_alloc_at wc _)⟩; have k24 : x1.cell? ⟨p.S, 24, none⟩ = some (.int .i64 s.r2) := hx.cR2; obtain ⟨j0, j1, j2, j3, _, _, _, _, jM⟩ := pl_cells (tx.keepN (w := (wc.alloc (.cells #[.int .i64 0, .int .u64 0, .int .u64 0] 55)).drew) hOM (keepB NP.out (below_box wc _).drew)); obtain ⟨v0, v1, v2, u0, u1, u2, vl⟩ := tr_cells HX2.out.2.2; clear hx tx)))
    all_goals
      go_wp2_with fail
      go_meet
    all_goals first
      | exact ⟨_, rfl, C.heap_alloc_at _ _, HX1.out.1.below (below_box _ _), HX1.out.2.trans (Tn.below (below_box _ _))⟩
      | exact ⟨_, rfl, trap_set HX2.out.2.2 _ _ _, HX2.out.1.toN hOL (grown_set3 _ _ _ _ _), HX2.out.2.1.toN (Nat.le_refl _) (grown_set3 _ _ _ _ _)⟩
  case rest =>
    obtain ⟨L, rfl, hL⟩ := hcut
    obtain ⟨v0, v1, v2, u0, u1, u2, vl⟩ := tr_cells hL.out.1
    have CF' := CF _ hL.out.2.1
    have T4 := T2.out.trans hL.out.2.2
    have N4 := hL.out.2.2.keepN hO N2.out
    have T5 : Hid (_) := T4
    have N5 : Hid (_) := N4
    clear hL CS' CF HX3 NP T2 N2 T4 N4 q0 q1 q2 q3 qM c24 l1
    go_wp2_with (first
      | refine wpList_neq_agg rfl 55 _ _ rfl _ _ rfl rfl Tryz.eqGuardType55 true (EQ _) ?_
      | fail)
    refine CF'.mono ?_
    rintro e w9 ⟨rfl, h9, t9⟩
    have H9 : Hid (HW w9 p ((({ s.let_ with zs := storeV s.zs pa wd (s.reg s.r2) } : Hs).puts 0).went s.next)) := h9
    have T9 : Hid (Tn p w w9) := T5.out.trans t9
    obtain ⟨z0, z1, z2, z3, z4, z5, f0, f1, f2, f3, f4, f5, hl⟩ := res_cells (w := w9) (t9.keepN hO N5.out)
    clear CF' h9 t9 T5 N5
    skip
    go_wp2_with fail
    refine bodyPost_ret (v := _) ?h1 rfl ⟨rfl, H9.out.toN hO (grown_set6 _ _ _ _ _ _ _ _), T9.out.toN (Nat.le_refl _) (grown_set6 _ _ _ _ _ _ _ _)⟩
    case h1 => simp [results, Tryz.results121, go_sem, z0, z1, z2, z3, z4, z5]
  

set_option maxHeartbeats 6400000 in
theorem sc_fail (p : Pl) (T : TT) (hT : TransOK p T) (s : Hs) (hz : (s.rch T 2).none = true) (hh : (s.is && s.at_ == (s.rch T 2).pa) = true) (hn : ¬ s.ld T 2 = 0) : Acts p 121 s (s.let_.refP 15 s.asked 0) := by
  intro w h
  have hb0 := below_box w zeroRes
  have h1 := h.below hb0
  have hO := h.off (Nat.le_refl w.heap.size)
  have CT := reach_found p T hT s 2 hz _ h1
  have EQ := eq_trap0
  have hpa := (rch_U hT s 2).1
  have hwc : widthP s.op < 9223372036854775808 := by have := width_cases s.op; omega
  have hr2 := h.ok.r2
  have hv2 := h.ok.reg s.r2 hr2
  have hgU := got_U h T 2
  have CH := fun w' h' => held_hw p s (s.rch T 2).pa w' h'
  rw [hh] at CH
  have mh := mHeld p.B
  clear hh
  unfold Hs.ld at hn
  have CS := fun w' h' => store_fail p s.let_ s.asked (s.rch T 2).pa (widthP s.op) 2 (s.reg s.r2) hpa hwc hv2 hn w' h'
  rw [show kindC 2 13 15 = 15 from rfl] at CS
  have CF := fun w' h' => refused_any p s.let_ 15 s.asked 0 (wrapU _) w' h'
  generalize s.let_.refP 15 s.asked 0 = o at *
  obtain ⟨⟨rk, rc, rv, rg, rf, rt⟩, s'⟩ := o
  have T0 : Hid (Tn p w _) := Tn.below hb0
  have N0 : Hid ((w.alloc zeroRes).heap[w.heap.size]? = some zeroRes) := C.heap_alloc_at w zeroRes
  have H0 : Hid (HW (w.alloc zeroRes) p s) := h1
  clear h h1 hb0 hz
  generalize (s.rch T 2).pa = pa at *
  generalize hwd : widthP s.op = wd at *
  generalize s.asked = qq at *
  generalize s.got T 2 = lv at *
  dsimp only [Rs.val, resV, plV, trV, Rs.ok, okV, Hs.told] at *
  go_enter Tryz.func121, Tryz.ntmps121
  go_wp2_with fail
  refine CT.mono ?_
  rintro e w1 ⟨rfl, b1⟩
  obtain ⟨b2, n2, n3⟩ := new_pt w1 (.int .u64 qq) (.int .u64 pa) (.int .i64 wd) (.int .i64 2) (.int .i64 0) (.int .u64 0) (.int .u64 0)
  have HX : Hid (HW _ p s) := (H0.out.below b1).below b2
  have T1 : Hid (Tn p w _) := (T0.out.trans (Tn.below b1)).trans (Tn.below b2)
  have N1 : Hid (_) := keepB (keepB N0.out b1) b2
  have NP : Hid (_) := n2
  have hOM : p.Off w1.heap.size := (H0.out.below b1).off (Nat.le_refl _)
  have hNM : w.heap.size < w1.heap.size := by have := b1.size; simp at this; omega
  clear CT b1 b2 n2 n3 T0 N0 H0
  go_wp2_with (first
    | refine wpList_neq_agg rfl 55 _ _ rfl _ _ rfl rfl Tryz.eqGuardType55 true (EQ _) ?_
    | fail)
  generalize (w1.alloc (.cells #[.int .u64 qq, .int .u64 pa, .int .i64 wd, .int .i64 2] 193)).alloc (.cells #[.int .i64 0, .int .u64 0, .int .u64 0] 55) = x at *
  generalize w1.heap.size = M at *
  obtain ⟨p0, p1, p2, p3, _, _, _, _, pM⟩ := pl_cells NP.out
  have c19 := HX.out.cB
  have l0 := HX.out.lt.1
  have CH' := CH x.drew HX.out.drew
  clear CH
  simp [Act.put]
  go_cut [24] (fun v wx => v = .bool false ∧ Hid (HW wx p s.let_ ∧ Tn p x wx))
  case first =>
    go_region_held2 (fun w'' => w''.cell? ⟨p.S, 19, none⟩ = some (.iface 39 (.pointer (some ⟨p.B, 0, none⟩))) ∧ w''.cell? ⟨M, 1, none⟩ = some (.int .u64 pa)) (go_keep)
      ((go_at_call 166; refine CH'.mono ?_; rintro e x1 ⟨rfl, hx, tx⟩; have HX1 : Hid (HW x1 p s.let_ ∧ Tn p x x1) := ⟨hx, (Tn.refl p x).drew.trans tx⟩; have k19 := hx.cB; obtain ⟨j0, j1, j2, j3, _, _, _, _, jM⟩ := pl_cells (tx.keepN (w := x.drew) hOM NP.out); clear hx tx))
    all_goals
      go_wp2_with fail
      go_meet
      exact ⟨rfl, HX1.out⟩
  case rest =>
  obtain ⟨rfl, hH⟩ := hcut
  have T2 : Hid (Tn p w wc) := T1.out.trans hH.out.2
  have N2 : Hid (wc.heap[w.heap.size]? = some zeroRes) := hH.out.2.keepN hO N1.out
  have HX3 : Hid (HW wc p s.let_) := hH.out.1
  have NP3 : Hid (wc.heap[M]? = some (.cells #[.int .u64 qq, .int .u64 pa, .int .i64 wd, .int .i64 2] 193 (0, 0))) := hH.out.2.keepN hOM NP.out
  clear hH CH' HX NP T1 N1 p0 p1 p2 p3 pM c19 l0
  have NP : Hid (_) := NP3.out
  clear NP3
  go_wp2_with fail
  have CS' : ∀ w', HW w' p (s.let_ : Hs) → Calls Tryz.prog 136 #[.pointer (some ⟨p.S, 0, none⟩), .agg #[.int .u64 qq, .int .u64 pa, .int .i64 wd, .int .i64 2], .int .u64 (s.reg s.r2)] w' fun e w'' => e = .returned (.agg #[.int .i64 15, .int .u64 qq, .int .u64 0]) ∧ HW w'' p (s.let_ : Hs) ∧ Tn p w' w'' := CS
  clear CS
  obtain ⟨q0, q1, q2, q3, _, _, _, _, qM⟩ := pl_cells NP.out
  have c24 : wc.cell? ⟨p.S, 24, none⟩ = some (.int .i64 s.r2) := HX3.out.cR2
  have l1 := HX3.out.lt.1
  have hOL : p.Off wc.heap.size := HX3.out.off (Nat.le_refl _)
  have nS : ¬ wc.heap.size = p.S := hOL.S
  have nS' : ¬ p.S = wc.heap.size := Ne.symm hOL.S
  have nM : ¬ M = wc.heap.size := by omega
  have nM' : ¬ wc.heap.size = M := by omega
  try simp [Act.put]
  go_cut [5] (fun v wz => ∃ L, v = .pointer (some ⟨L, 0, none⟩) ∧ Hid (wz.heap[L]? = some (.cells #[.int .i64 15, .int .u64 qq, .int .u64 0] 55 (0, 0)) ∧ HW wz p (s.let_ : Hs) ∧ Tn p wc wz))
  case first =>
    go_region_held2 (fun w'' => w''.cell? ⟨p.S, 24, none⟩ = some (.int .i64 s.r2) ∧ w''.cell? ⟨M, 0, none⟩ = some (.int .u64 qq) ∧ w''.cell? ⟨M, 1, none⟩ = some (.int .u64 pa) ∧ w''.cell? ⟨M, 2, none⟩ = some (.int .i64 wd) ∧ w''.cell? ⟨M, 3, none⟩ = some (.int .i64 2)) (go_keep)
      ((first
        | (go_at_call 100; refine (register_hw p (s.let_ : Hs) s.r2 hr2 wc.drew HX3.out.drew).mono ?_; rintro e x1 ⟨rfl, hx⟩; subst hx)
        | (go_at_call 100; refine (register_hw p (s.let_ : Hs) s.r2 hr2 (wc.alloc (.cells #[.int .i64 0, .int .u64 0, .int .u64 0] 55)).drew (HX3.out.below (below_box _ _)).drew).mono ?_; rintro e x1 ⟨rfl, hx⟩; subst hx)
        | (go_at_call 136; refine (CS' wc.drew HX3.out.drew).mono ?_; rintro e x1 ⟨rfl, hx, tx⟩; have HX1 : Hid (HW x1 p (s.let_ : Hs) ∧ Tn p wc x1) := ⟨hx, (Tn.refl p wc).drew.trans tx⟩; have k24 : x1.cell? ⟨p.S, 24, none⟩ = some (.int .i64 s.r2) := hx.cR2; obtain ⟨j0, j1, j2, j3, _, _, _, _, jM⟩ := pl_cells (tx.keepN (w := wc.drew) hOM NP.out); clear hx tx)
        | (go_at_call 136; refine (CS' (wc.alloc (.cells #[.int .i64 0, .int .u64 0, .int .u64 0] 55)).drew (HX3.out.below (below_box _ _)).drew).mono ?_; rintro e x1 ⟨rfl, hx, tx⟩; have HX2 : Hid (HW x1 p (s.let_ : Hs) ∧ Tn p wc x1 ∧ x1.heap[wc.heap.size]? = some zeroTrap) := ⟨hx, ((Tn.refl p wc).trans (Tn.below (below_box _ _))).drew.trans tx, tx.keepN (w := (wc.alloc (.cells #[.int .i64 0, .int .u64 0, .int .u64 0] 55)).drew) hOL (C.heap_alloc_at wc _)⟩; have k24 : x1.cell? ⟨p.S, 24, none⟩ = some (.int .i64 s.r2) := hx.cR2; obtain ⟨j0, j1, j2, j3, _, _, _, _, jM⟩ := pl_cells (tx.keepN (w := (wc.alloc (.cells #[.int .i64 0, .int .u64 0, .int .u64 0] 55)).drew) hOM (keepB NP.out (below_box wc _).drew)); obtain ⟨v0, v1, v2, u0, u1, u2, vl⟩ := tr_cells HX2.out.2.2; clear hx tx)))
    all_goals
      go_wp2_with fail
      go_meet
    all_goals first
      | exact ⟨_, rfl, C.heap_alloc_at _ _, HX1.out.1.below (below_box _ _), HX1.out.2.trans (Tn.below (below_box _ _))⟩
      | exact ⟨_, rfl, trap_set HX2.out.2.2 _ _ _, HX2.out.1.toN hOL (grown_set3 _ _ _ _ _), HX2.out.2.1.toN (Nat.le_refl _) (grown_set3 _ _ _ _ _)⟩
  case rest =>
    obtain ⟨L, rfl, hL⟩ := hcut
    obtain ⟨v0, v1, v2, u0, u1, u2, vl⟩ := tr_cells hL.out.1
    have CF' := CF _ hL.out.2.1
    have T4 := T2.out.trans hL.out.2.2
    have N4 := hL.out.2.2.keepN hO N2.out
    have T5 : Hid (_) := T4
    have N5 : Hid (_) := N4
    clear hL CS' CF HX3 NP T2 N2 T4 N4 q0 q1 q2 q3 qM c24 l1
    have EQ2 : ∀ w, (Op.equalIn 10000 55 (.agg #[.int .i64 15, .int .u64 qq, .int .u64 0]) (.agg #[.int .i64 0, .int .u64 0, .int .u64 0])).run Tryz.prog w = .ok false w := fun w => eq_trap 15 qq 0 0 0 0 w
    go_wp2_with (first
      | refine wpList_neq_agg rfl 55 _ _ rfl _ _ rfl rfl Tryz.eqGuardType55 false (EQ2 _) ?_
      | fail)
    refine CF'.mono ?_
    rintro e w9 ⟨rfl, h9, t9⟩
    have H9 : Hid (HW w9 p s') := h9
    have T9 : Hid (Tn p w w9) := T5.out.trans t9
    obtain ⟨z0, z1, z2, z3, z4, z5, f0, f1, f2, f3, f4, f5, hl⟩ := res_cells (w := w9) (t9.keepN hO N5.out)
    clear CF' h9 t9 T5 N5
    skip
    go_wp2_with fail
    refine bodyPost_ret (v := _) ?h1 rfl ⟨rfl, H9.out.toN hO (grown_set6 _ _ _ _ _ _ _ _), T9.out.toN (Nat.le_refl _) (grown_set6 _ _ _ _ _ _ _ _)⟩
    case h1 => simp [results, Tryz.results121, go_sem, z0, z1, z2, z3, z4, z5]
  
theorem sc_hw (p : Pl) (T : TT) (hT : TransOK p T) (s : Hs) : Acts p 121 s (s.scP T) := by
  unfold Hs.scP
  cases hz : (s.rch T 2).none
  · exact sc_no p T hT s hz
  · simp only [if_true]
    cases hh : (s.is && s.at_ == (s.rch T 2).pa)
    · exact sc_not p T hT s hz hh
    · simp only [if_true]
      by_cases hn : s.ld T 2 = 0
      · rw [if_pos hn]
        exact sc_yes p T hT s hz hh hn
      · rw [if_neg hn]
        exact sc_fail p T hT s hz hh hn
end Go.Proofs.YtkckobbedpccfaaGreatDoor
