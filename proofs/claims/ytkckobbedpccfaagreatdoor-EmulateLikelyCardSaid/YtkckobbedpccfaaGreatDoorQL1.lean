/-
  What loads does: its contract.
  What loadsAndHolds does: its contract.
-/
import Derived.Test.YtkckobbedpccfaaGreatDoorQLo
namespace Go.Proofs.YtkckobbedpccfaaGreatDoor
open Go.RowKit
set_option linter.unusedVariables false
set_option maxRecDepth 100000


set_option maxHeartbeats 3200000 in
theorem loads_no (p : Pl) (T : TT) (hT : TransOK p T) (s : Hs) (hz : (s.tk T 1).none = false) : Acts p 116 s (s.refP (s.tk T 1).c (s.tk T 1).v (s.tk T 1).g) := by
  intro w h
  have hb0 := below_box w zeroRes
  have h1 := h.below hb0
  have hO := h.off (Nat.le_refl w.heap.size)
  have CT := take_no p T hT s 1 hz _ h1
  have hv := tk_U hT s 1
  generalize s.tk T 1 = z at *
  have EQ := eq_trap z.c z.v z.g 0 0 0
  have hz' : (z.c == 0 && z.v == 0 && z.g == 0) = false := hz
  rw [hz'] at EQ
  have CF := fun w' h' => refused_any p s z.c z.v z.g hv w' h'
  generalize s.refP z.c z.v z.g = o at *
  obtain ⟨z4, zc, zv, zg⟩ := z
  obtain ⟨⟨rk, rc, rv, rg, rf, rt⟩, s'⟩ := o
  have T0 : Hid (Tn p w _) := Tn.below hb0
  have N0 : Hid ((w.alloc zeroRes).heap[w.heap.size]? = some zeroRes) := C.heap_alloc_at w zeroRes
  have H0 : Hid (HW (w.alloc zeroRes) p s) := h1
  clear h h1 hb0 hz hz'
  dsimp only [Rs.val, resV, plV, trV] at *
  go_enter Tryz.func116, Tryz.ntmps116
  go_wp2_with fail
  refine CT.mono ?_
  rintro e w1 ⟨rfl, b1⟩
  obtain ⟨b2, n2, n3⟩ := new_pt w1 (.int .u64 0) (.int .u64 0) (.int .i64 0) (.int .i64 0) (.int .i64 zc) (.int .u64 zv) (.int .u64 zg)
  have CF' := CF _ ((H0.out.below b1).below b2)
  have T1 : Hid (Tn p w _) := (T0.out.trans (Tn.below b1)).trans (Tn.below b2)
  have N1 : Hid (_) := keepB (keepB N0.out b1) b2
  clear CT CF b1 b2 n2 n3 T0 N0 H0
  go_wp2_with (first
    | refine wpList_neq_agg rfl 55 _ _ rfl _ _ rfl rfl Tryz.eqGuardType55 false (EQ _) ?_
    | fail)
  refine CF'.mono ?_
  rintro e w9 ⟨rfl, h9, t9⟩
  have H9 : Hid (HW w9 p s') := h9
  have T9 : Hid (Tn p w w9) := T1.out.trans t9
  obtain ⟨z0, z1, z2, z3, z4, z5, f0, f1, f2, f3, f4, f5, hl⟩ := res_cells (w := w9) (t9.keepN hO N1.out)
  clear CF' h9 t9 T1 N1
  skip
  go_wp2_with fail
  refine bodyPost_ret (v := _) ?h1 rfl ⟨rfl, H9.out.toN hO (grown_set6 _ _ _ _ _ _ _ _), T9.out.toN (Nat.le_refl _) (grown_set6 _ _ _ _ _ _ _ _)⟩
  case h1 => simp [results, Tryz.results116, go_sem, z0, z1, z2, z3, z4, z5]

set_option maxHeartbeats 6400000 in
theorem loads_yes (p : Pl) (T : TT) (hT : TransOK p T) (s : Hs) (hz : (s.tk T 1).none = true)  : Acts p 116 s (s.told (s.got T 1)) := by
  intro w h
  have hb0 := below_box w zeroRes
  have h1 := h.below hb0
  have hO := h.off (Nat.le_refl w.heap.size)
  have CT := take_yes p T hT s 1 hz _ h1
  have EQ := eq_trap0
  have hpa := (rch_U hT s 1).1
  have hwc : widthP s.op < 9223372036854775808 := by have := width_cases s.op; omega
  have hr2 := h.ok.r2
  have hv2 := h.ok.reg s.r2 hr2
  have hgU := got_U h T 1
  have CF := fun w' h' => tell_hw p s (s.got T 1) hgU w' h'
  have T0 : Hid (Tn p w _) := Tn.below hb0
  have N0 : Hid ((w.alloc zeroRes).heap[w.heap.size]? = some zeroRes) := C.heap_alloc_at w zeroRes
  have H0 : Hid (HW (w.alloc zeroRes) p s) := h1
  clear h h1 hb0 hz
  generalize (s.rch T 1).pa = pa at *
  generalize hwd : widthP s.op = wd at *
  generalize s.asked = qq at *
  generalize s.got T 1 = lv at *
  dsimp only [Rs.val, resV, plV, trV, Rs.ok, okV, Hs.told] at *
  go_enter Tryz.func116, Tryz.ntmps116
  go_wp2_with fail
  refine CT.mono ?_
  rintro e w1 ⟨rfl, b1⟩
  obtain ⟨b2, n2, n3⟩ := new_pt w1 (.int .u64 qq) (.int .u64 pa) (.int .i64 wd) (.int .i64 1) (.int .i64 0) (.int .u64 0) (.int .u64 0)
  have HX : Hid (HW _ p s) := (H0.out.below b1).below b2
  have T1 : Hid (Tn p w _) := (T0.out.trans (Tn.below b1)).trans (Tn.below b2)
  have N1 : Hid (_) := keepB (keepB N0.out b1) b2
  have NP : Hid (_) := n2
  have hOM : p.Off w1.heap.size := (H0.out.below b1).off (Nat.le_refl _)
  have hNM : w.heap.size < w1.heap.size := by have := b1.size; simp at this; omega
  clear CT b1 b2 n2 n3 T0 N0 H0
  go_wp2_with (first
    | refine wpList_neq_agg rfl 55 _ _ rfl _ _ rfl rfl Tryz.eqGuardType55 true (EQ _) ?_
    | fail)
  have CF' := CF _ HX.out
  clear CF HX NP
  refine CF'.mono ?_
  rintro e w9 ⟨rfl, h9, t9⟩
  have H9 : Hid (HW w9 p ((s.puts lv).went s.next)) := h9
  have T9 : Hid (Tn p w w9) := T1.out.trans t9
  obtain ⟨z0, z1, z2, z3, z4, z5, f0, f1, f2, f3, f4, f5, hl⟩ := res_cells (w := w9) (t9.keepN hO N1.out)
  clear CF' h9 t9 T1 N1
  skip
  go_wp2_with fail
  refine bodyPost_ret (v := _) ?h1 rfl ⟨rfl, H9.out.toN hO (grown_set6 _ _ _ _ _ _ _ _), T9.out.toN (Nat.le_refl _) (grown_set6 _ _ _ _ _ _ _ _)⟩
  case h1 => simp [results, Tryz.results116, go_sem, z0, z1, z2, z3, z4, z5]
theorem loads_hw (p : Pl) (T : TT) (hT : TransOK p T) (s : Hs) : Acts p 116 s (s.loadsP T) := by
  unfold Hs.loadsP
  cases hz : (s.tk T 1).none
  · exact loads_no p T hT s hz
  · exact loads_yes p T hT s hz
end Go.Proofs.YtkckobbedpccfaaGreatDoor
namespace Go.Proofs.YtkckobbedpccfaaGreatDoor
open Go.RowKit
set_option linter.unusedVariables false
set_option maxRecDepth 100000


set_option maxHeartbeats 3200000 in
theorem lr_no (p : Pl) (T : TT) (hT : TransOK p T) (s : Hs) (hz : (s.tk T 1).none = false) : Acts p 120 s (s.refP (s.tk T 1).c (s.tk T 1).v (s.tk T 1).g) := by
  intro w h
  have hb0 := below_box w zeroRes
  have h1 := h.below hb0
  have hO := h.off (Nat.le_refl w.heap.size)
  have CT := take_no p T hT s 1 hz _ h1
  have hv := tk_U hT s 1
  generalize s.tk T 1 = z at *
  have EQ := eq_trap z.c z.v z.g 0 0 0
  have hz' : (z.c == 0 && z.v == 0 && z.g == 0) = false := hz
  rw [hz'] at EQ
  have CF := fun w' h' => refused_any p s z.c z.v z.g hv w' h'
  generalize s.refP z.c z.v z.g = o at *
  obtain ⟨z4, zc, zv, zg⟩ := z
  obtain ⟨⟨rk, rc, rv, rg, rf, rt⟩, s'⟩ := o
  have T0 : Hid (Tn p w _) := Tn.below hb0
  have N0 : Hid ((w.alloc zeroRes).heap[w.heap.size]? = some zeroRes) := C.heap_alloc_at w zeroRes
  have H0 : Hid (HW (w.alloc zeroRes) p s) := h1
  clear h h1 hb0 hz hz'
  dsimp only [Rs.val, resV, plV, trV] at *
  go_enter Tryz.func120, Tryz.ntmps120
  go_wp2_with fail
  refine CT.mono ?_
  rintro e w1 ⟨rfl, b1⟩
  obtain ⟨b2, n2, n3⟩ := new_pt w1 (.int .u64 0) (.int .u64 0) (.int .i64 0) (.int .i64 0) (.int .i64 zc) (.int .u64 zv) (.int .u64 zg)
  have CF' := CF _ ((H0.out.below b1).below b2)
  have T1 : Hid (Tn p w _) := (T0.out.trans (Tn.below b1)).trans (Tn.below b2)
  have N1 : Hid (_) := keepB (keepB N0.out b1) b2
  clear CT CF b1 b2 n2 n3 T0 N0 H0
  go_wp2_with (first
    | refine wpList_neq_agg rfl 55 _ _ rfl _ _ rfl rfl Tryz.eqGuardType55 false (EQ _) ?_
    | fail)
  refine CF'.mono ?_
  rintro e w9 ⟨rfl, h9, t9⟩
  have H9 : Hid (HW w9 p s') := h9
  have T9 : Hid (Tn p w w9) := T1.out.trans t9
  obtain ⟨z0, z1, z2, z3, z4, z5, f0, f1, f2, f3, f4, f5, hl⟩ := res_cells (w := w9) (t9.keepN hO N1.out)
  clear CF' h9 t9 T1 N1
  skip
  go_wp2_with fail
  refine bodyPost_ret (v := _) ?h1 rfl ⟨rfl, H9.out.toN hO (grown_set6 _ _ _ _ _ _ _ _), T9.out.toN (Nat.le_refl _) (grown_set6 _ _ _ _ _ _ _ _)⟩
  case h1 => simp [results, Tryz.results120, go_sem, z0, z1, z2, z3, z4, z5]

set_option maxHeartbeats 6400000 in
theorem lr_yes (p : Pl) (T : TT) (hT : TransOK p T) (s : Hs) (hz : (s.tk T 1).none = true)  : Acts p 120 s (({ s with is := true, at_ := (s.rch T 1).pa } : Hs).told (s.got T 1)) := by
  intro w h
  have hb0 := below_box w zeroRes
  have h1 := h.below hb0
  have hO := h.off (Nat.le_refl w.heap.size)
  have CT := take_yes p T hT s 1 hz _ h1
  have EQ := eq_trap0
  have hpa := (rch_U hT s 1).1
  have hwc : widthP s.op < 9223372036854775808 := by have := width_cases s.op; omega
  have hr2 := h.ok.r2
  have hv2 := h.ok.reg s.r2 hr2
  have hgU := got_U h T 1
  have CH := fun w' h' => hold_hw p s (s.rch T 1).pa hpa w' h'
  have CF := fun w' h' => tell_hw p { s with is := true, at_ := (s.rch T 1).pa } (s.got T 1) hgU w' h'
  have mh := mHold p.B
  have T0 : Hid (Tn p w _) := Tn.below hb0
  have N0 : Hid ((w.alloc zeroRes).heap[w.heap.size]? = some zeroRes) := C.heap_alloc_at w zeroRes
  have H0 : Hid (HW (w.alloc zeroRes) p s) := h1
  clear h h1 hb0 hz
  generalize (s.rch T 1).pa = pa at *
  generalize hwd : widthP s.op = wd at *
  generalize s.asked = qq at *
  generalize s.got T 1 = lv at *
  dsimp only [Rs.val, resV, plV, trV, Rs.ok, okV, Hs.told] at *
  go_enter Tryz.func120, Tryz.ntmps120
  go_wp2_with fail
  refine CT.mono ?_
  rintro e w1 ⟨rfl, b1⟩
  obtain ⟨b2, n2, n3⟩ := new_pt w1 (.int .u64 qq) (.int .u64 pa) (.int .i64 wd) (.int .i64 1) (.int .i64 0) (.int .u64 0) (.int .u64 0)
  have HX : Hid (HW _ p s) := (H0.out.below b1).below b2
  have T1 : Hid (Tn p w _) := (T0.out.trans (Tn.below b1)).trans (Tn.below b2)
  have N1 : Hid (_) := keepB (keepB N0.out b1) b2
  have NP : Hid (_) := n2
  have hOM : p.Off w1.heap.size := (H0.out.below b1).off (Nat.le_refl _)
  have hNM : w.heap.size < w1.heap.size := by have := b1.size; simp at this; omega
  clear CT b1 b2 n2 n3 T0 N0 H0
  go_wp2_with (first
    | refine wpList_neq_agg rfl 55 _ _ rfl _ _ rfl rfl Tryz.eqGuardType55 true (EQ _) ?_
    | fail)
  generalize (w1.alloc (.cells #[.int .u64 qq, .int .u64 pa, .int .i64 wd, .int .i64 1] 193)).alloc (.cells #[.int .i64 0, .int .u64 0, .int .u64 0] 55) = x at *
  generalize w1.heap.size = M at *
  obtain ⟨q0, q1, q2, q3, _, _, _, _, qM⟩ := pl_cells NP.out
  have c19 := HX.out.cB
  have l1 := HX.out.lt.1
  have CH' := CH x.drew HX.out.drew
  clear CH
  simp [Act.put]
  go_cut [] (fun wx => Hid (HW wx p { s with is := true, at_ := pa } ∧ Tn p x wx))
  case first =>
    go_region_held2 (fun w'' => w''.cell? ⟨p.S, 19, none⟩ = some (.iface 39 (.pointer (some ⟨p.B, 0, none⟩))) ∧ w''.cell? ⟨M, 1, none⟩ = some (.int .u64 pa)) (go_keep)
      ((go_at_call 167; refine CH'.mono ?_; rintro e x1 ⟨rfl, hx, tx⟩; have HX1 : Hid (HW x1 p { s with is := true, at_ := pa } ∧ Tn p x x1) := ⟨hx, (Tn.refl p x).drew.trans tx⟩; have k19 := hx.cB; obtain ⟨j0, j1, j2, j3, _, _, _, _, jM⟩ := pl_cells (tx.keepN (w := x.drew) hOM NP.out); clear hx tx))
    all_goals
      go_wp2_with fail
      go_meet
      exact HX1.out
  case rest =>
    have CF' := CF wc hcut.out.1
    have T2 : Hid (Tn p w wc) := T1.out.trans hcut.out.2
    have N2 : Hid (wc.heap[w.heap.size]? = some zeroRes) := hcut.out.2.keepN hO N1.out
    clear hcut CH' CF HX NP T1 N1 q0 q1 q2 q3 qM c19 l1
    go_wp2_with fail
    refine CF'.mono ?_
    rintro e w9 ⟨rfl, h9, t9⟩
    have H9 : Hid (HW w9 p ((({ s with is := true, at_ := pa } : Hs).puts lv).went s.next)) := h9
    have T9 : Hid (Tn p w w9) := T2.out.trans t9
    obtain ⟨z0, z1, z2, z3, z4, z5, f0, f1, f2, f3, f4, f5, hl⟩ := res_cells (w := w9) (t9.keepN hO N2.out)
    clear CF' h9 t9 T2 N2
    skip
    go_wp2_with fail
    refine bodyPost_ret (v := _) ?h1 rfl ⟨rfl, H9.out.toN hO (grown_set6 _ _ _ _ _ _ _ _), T9.out.toN (Nat.le_refl _) (grown_set6 _ _ _ _ _ _ _ _)⟩
    case h1 => simp [results, Tryz.results120, go_sem, z0, z1, z2, z3, z4, z5]
  
theorem lr_hw (p : Pl) (T : TT) (hT : TransOK p T) (s : Hs) : Acts p 120 s (s.lrP T) := by
  unfold Hs.lrP
  cases hz : (s.tk T 1).none
  · exact lr_no p T hT s hz
  · exact lr_yes p T hT s hz
end Go.Proofs.YtkckobbedpccfaaGreatDoor
