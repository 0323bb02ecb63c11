/-
  What change, addsThere and swapsThere do: their contracts.
-/
import Derived.Test.YtkckobbedpccfaaGreatDoorQLo
import Derived.Test.YtkckobbedpccfaaGreatDoorQPr
namespace Go.Proofs.YtkckobbedpccfaaGreatDoor
open Go.RowKit
set_option linter.unusedVariables false
set_option maxRecDepth 100000

/-- change does this, with a method of pairs -/
def ActsF (p : Pl) (F : Nat) (s : Hs) (o : Rs × Hs) : Prop := ∀ w, HW w p s → Calls Tryz.prog 137 #[.pointer (some ⟨p.S, 0, none⟩), .func (.func F) #[] #[]] w fun e w' => e = .returned o.1.val ∧ HW w' p o.2 ∧ Tn p w w'

set_option maxHeartbeats 3200000 in
theorem change_no (F : Nat) (p : Pl) (T : TT) (hT : TransOK p T) (s : Hs) (hz : (s.tk T 2).none = false) : ActsF p F s (s.refP (s.tk T 2).c (s.tk T 2).v (s.tk T 2).g) := by
  intro w h
  have hb0 := below_box w zeroRes
  have h1 := h.below hb0
  have hO := h.off (Nat.le_refl w.heap.size)
  have CT := take_no p T hT s 2 hz _ h1
  have hv := tk_U hT s 2
  generalize s.tk T 2 = z at *
  have EQ := eq_trap z.c z.v z.g 0 0 0
  have hz' : (z.c == 0 && z.v == 0 && z.g == 0) = false := hz
  rw [hz'] at EQ
  have CF := fun w' h' => refused_any p s z.c z.v z.g hv w' h'
  generalize s.refP z.c z.v z.g = o at *
  obtain ⟨z4, zc, zv, zg⟩ := z
  obtain ⟨⟨rk, rc, rv, rg, rf, rt⟩, s'⟩ := o
  have T0 : Hid (Tn p w _) := Tn.below hb0
  have N0 : Hid ((w.alloc zeroRes).heap[w.heap.size]? = some zeroRes) := C.heap_alloc_at w zeroRes
  have H0 : Hid (HW (w.alloc zeroRes) p s) := h1
  clear h h1 hb0 hz hz'
  dsimp only [Rs.val, resV, plV, trV] at *
  go_enter Tryz.func137, Tryz.ntmps137
  go_wp2_with fail
  refine CT.mono ?_
  rintro e w1 ⟨rfl, b1⟩
  obtain ⟨b2, n2, n3⟩ := new_pt w1 (.int .u64 0) (.int .u64 0) (.int .i64 0) (.int .i64 0) (.int .i64 zc) (.int .u64 zv) (.int .u64 zg)
  have CF' := CF _ ((H0.out.below b1).below b2)
  have T1 : Hid (Tn p w _) := (T0.out.trans (Tn.below b1)).trans (Tn.below b2)
  have N1 : Hid (_) := keepB (keepB N0.out b1) b2
  clear CT CF b1 b2 n2 n3 T0 N0 H0
  go_wp2_with (first
    | refine wpList_neq_agg rfl 55 _ _ rfl _ _ rfl rfl Tryz.eqGuardType55 false (EQ _) ?_
    | fail)
  refine CF'.mono ?_
  rintro e w9 ⟨rfl, h9, t9⟩
  have H9 : Hid (HW w9 p s') := h9
  have T9 : Hid (Tn p w w9) := T1.out.trans t9
  obtain ⟨z0, z1, z2, z3, z4, z5, f0, f1, f2, f3, f4, f5, hl⟩ := res_cells (w := w9) (t9.keepN hO N1.out)
  clear CF' h9 t9 T1 N1
  skip
  go_wp2_with fail
  refine bodyPost_ret (v := _) ?h1 rfl ⟨rfl, H9.out.toN hO (grown_set6 _ _ _ _ _ _ _ _), T9.out.toN (Nat.le_refl _) (grown_set6 _ _ _ _ _ _ _ _)⟩
  case h1 => simp [results, Tryz.results137, go_sem, z0, z1, z2, z3, z4, z5]

set_option maxHeartbeats 6400000 in
theorem change_yes (p : Pl) (T : TT) (hT : TransOK p T) (s : Hs) (hz : (s.tk T 2).none = true) (F : Nat) (v : Int) (hcf : ∀ args w, (callFunc F args).run Tryz.prog w = .ok (.enter F args) w) (CK : ∀ w, Calls Tryz.prog F #[prV (s.got T 2) (s.reg s.r2)] w fun e w' => e = .returned (.int .u64 v) ∧ Below w.heap.size w w') (hv : C.U v) : ActsF p F s ((s.stored (s.rch T 2).pa v).told (s.got T 2)) := by
  intro w h
  have hb0 := below_box w zeroRes
  have h1 := h.below hb0
  have hO := h.off (Nat.le_refl w.heap.size)
  have CT := take_yes p T hT s 2 hz _ h1
  have EQ := eq_trap0
  have hpa := (rch_U hT s 2).1
  have hwc : widthP s.op < 9223372036854775808 := by have := width_cases s.op; omega
  have hr2 := h.ok.r2
  have hv2 := h.ok.reg s.r2 hr2
  have hgU := got_U h T 2
  obtain ⟨_, hn, _⟩ := tk_parts hz
  unfold Hs.ld at hn
  have CS := fun w' h' => store_ok p s s.asked (s.rch T 2).pa (widthP s.op) 2 v hpa hwc hv hn w' h'
  have CF := fun w' h' => tell_hw p (s.stored (s.rch T 2).pa v) (s.got T 2) hgU w' h'
  unfold Hs.stored prV at *
  have T0 : Hid (Tn p w _) := Tn.below hb0
  have N0 : Hid ((w.alloc zeroRes).heap[w.heap.size]? = some zeroRes) := C.heap_alloc_at w zeroRes
  have H0 : Hid (HW (w.alloc zeroRes) p s) := h1
  clear h h1 hb0 hz
  generalize (s.rch T 2).pa = pa at *
  generalize hwd : widthP s.op = wd at *
  generalize s.asked = qq at *
  generalize s.got T 2 = lv at *
  dsimp only [Rs.val, resV, plV, trV, Rs.ok, okV, Hs.told] at *
  go_enter Tryz.func137, Tryz.ntmps137
  go_wp2_with fail
  refine CT.mono ?_
  rintro e w1 ⟨rfl, b1⟩
  obtain ⟨b2, n2, n3⟩ := new_pt w1 (.int .u64 qq) (.int .u64 pa) (.int .i64 wd) (.int .i64 2) (.int .i64 0) (.int .u64 0) (.int .u64 0)
  have HX : Hid (HW _ p s) := (H0.out.below b1).below b2
  have T1 : Hid (Tn p w _) := (T0.out.trans (Tn.below b1)).trans (Tn.below b2)
  have N1 : Hid (_) := keepB (keepB N0.out b1) b2
  have NP : Hid (_) := n2
  have c24 := HX.out.cR2
  have l1 := HX.out.lt.1
  have CR := register_hw p s s.r2 hr2 _ HX.out
  have hOM : p.Off w1.heap.size := (H0.out.below b1).off (Nat.le_refl _)
  have hNM : w.heap.size < w1.heap.size := by have := b1.size; simp at this; omega
  clear CT b1 b2 n2 n3 T0 N0 H0
  go_wp2_with (first
    | refine wpList_neq_agg rfl 55 _ _ rfl _ _ rfl rfl Tryz.eqGuardType55 true (EQ _) ?_
    | fail)
  refine CR.mono ?_
  rintro e x2 ⟨rfl, hx⟩
  subst hx
  clear CR c24 l1
  go_wp2_with fail
  refine (CK _).mono ?_
  rintro e w2 ⟨rfl, b3⟩
  have CS' := CS w2 (HX.out.below b3)
  have T2 : Hid (Tn p w w2) := T1.out.trans (Tn.below b3)
  have N2 : Hid (w2.heap[w.heap.size]? = some zeroRes) := keepB N1.out b3
  have NP2 : Hid (w2.heap[w1.heap.size]? = some (.cells #[.int .u64 qq, .int .u64 pa, .int .i64 wd, .int .i64 2] 193 (0, 0))) := keepB NP.out b3
  obtain ⟨q0, q1, q2, q3, _, _, _, _, qM⟩ := pl_cells NP2.out
  clear CK CS b3 HX T1 N1 NP
  go_wp2_with fail
  refine CS'.mono ?_
  rintro e w3 ⟨rfl, h3, t3⟩
  have b4 := below_box w3 (.cells #[.int .i64 0, .int .u64 0, .int .u64 0] 55)
  have CF' := CF _ (h3.below b4)
  have T3 : Hid (Tn p w _) := (T2.out.trans t3).trans (Tn.below b4)
  have N3 : Hid (_) := keepB (t3.keepN hO N2.out) b4
  clear CS' CF h3 t3 b4 T2 N2 NP2 q0 q1 q2 q3 qM
  go_wp2_with (first
    | refine wpList_neq_agg rfl 55 _ _ rfl _ _ rfl rfl Tryz.eqGuardType55 true (EQ _) ?_
    | fail)
  refine CF'.mono ?_
  rintro e w9 ⟨rfl, h9, t9⟩
  have H9 : Hid (HW w9 p ((({ s with zs := storeV s.zs pa wd v } : Hs).puts lv).went s.next)) := h9
  have T9 : Hid (Tn p w w9) := T3.out.trans t9
  obtain ⟨z0, z1, z2, z3, z4, z5, f0, f1, f2, f3, f4, f5, hl⟩ := res_cells (w := w9) (t9.keepN hO N3.out)
  clear CF' h9 t9 T3 N3
  skip
  go_wp2_with fail
  refine bodyPost_ret (v := _) ?h1 rfl ⟨rfl, H9.out.toN hO (grown_set6 _ _ _ _ _ _ _ _), T9.out.toN (Nat.le_refl _) (grown_set6 _ _ _ _ _ _ _ _)⟩
  case h1 => simp [results, Tryz.results137, go_sem, z0, z1, z2, z3, z4, z5]
theorem change_hw (p : Pl) (T : TT) (hT : TransOK p T) (s : Hs) (F : Nat) (v : Int) (hcf : ∀ args w, (callFunc F args).run Tryz.prog w = .ok (.enter F args) w) (CK : ∀ w, Calls Tryz.prog F #[prV (s.got T 2) (s.reg s.r2)] w fun e w' => e = .returned (.int .u64 v) ∧ Below w.heap.size w w') (hv : C.U v) : ActsF p F s (s.amoP T v) := by
  unfold Hs.amoP
  cases hz : (s.tk T 2).none
  · exact change_no F p T hT s hz
  · exact change_yes p T hT s hz F v hcf CK hv
theorem cf101 (args : Array Value) (w : World) : (callFunc 101 args).run Tryz.prog w = .ok (.enter 101 args) w := by kernel_rfl
theorem cf138 (args : Array Value) (w : World) : (callFunc 138 args).run Tryz.prog w = .ok (.enter 138 args) w := by kernel_rfl

set_option maxHeartbeats 1600000 in
theorem adds_hw (p : Pl) (T : TT) (hT : TransOK p T) (s : Hs) (hr : C.U (s.reg s.r2)) : Acts p 122 s (s.amoP T (IntKind.u64.wrap (s.got T 2 + s.reg s.r2))) := by
  intro w h
  have hb0 := below_box w zeroRes
  have hO := h.off (Nat.le_refl w.heap.size)
  have CF := change_hw p T hT s 101 (IntKind.u64.wrap (s.got T 2 + s.reg s.r2)) cf101 (fun w => plus_pr (s.got T 2) (s.reg s.r2) w) (wrapU _) _ (h.below hb0)
  generalize s.amoP T (IntKind.u64.wrap (s.got T 2 + s.reg s.r2)) = o at *
  obtain ⟨⟨rk, rc, rv, rg, rf, rt⟩, s'⟩ := o
  have T1 : Hid (Tn p w _) := Tn.below hb0
  have N1 : Hid ((w.alloc zeroRes).heap[w.heap.size]? = some zeroRes) := C.heap_alloc_at w zeroRes
  clear h hb0
  dsimp only [Rs.val, resV] at *
  go_enter Tryz.func122, Tryz.ntmps122
  go_wp2_with fail
  refine CF.mono ?_
  rintro e w9 ⟨rfl, h9, t9⟩
  have H9 : Hid (HW w9 p s') := h9
  have T9 : Hid (Tn p w w9) := T1.out.trans t9
  obtain ⟨z0, z1, z2, z3, z4, z5, f0, f1, f2, f3, f4, f5, hl⟩ := res_cells (w := w9) (t9.keepN hO N1.out)
  clear CF h9 t9 T1 N1
  skip
  go_wp2_with fail
  refine bodyPost_ret (v := _) ?h1 rfl ⟨rfl, H9.out.toN hO (grown_set6 _ _ _ _ _ _ _ _), T9.out.toN (Nat.le_refl _) (grown_set6 _ _ _ _ _ _ _ _)⟩
  case h1 => simp [results, Tryz.results122, go_sem, z0, z1, z2, z3, z4, z5]

set_option maxHeartbeats 1600000 in
theorem swaps_hw (p : Pl) (T : TT) (hT : TransOK p T) (s : Hs) (hr : C.U (s.reg s.r2)) : Acts p 123 s (s.amoP T (s.reg s.r2)) := by
  intro w h
  have hb0 := below_box w zeroRes
  have hO := h.off (Nat.le_refl w.heap.size)
  have CF := change_hw p T hT s 138 (s.reg s.r2) cf138 (fun w => second_pr (s.got T 2) (s.reg s.r2) w) hr _ (h.below hb0)
  generalize s.amoP T (s.reg s.r2) = o at *
  obtain ⟨⟨rk, rc, rv, rg, rf, rt⟩, s'⟩ := o
  have T1 : Hid (Tn p w _) := Tn.below hb0
  have N1 : Hid ((w.alloc zeroRes).heap[w.heap.size]? = some zeroRes) := C.heap_alloc_at w zeroRes
  clear h hb0
  dsimp only [Rs.val, resV] at *
  go_enter Tryz.func123, Tryz.ntmps123
  go_wp2_with fail
  refine CF.mono ?_
  rintro e w9 ⟨rfl, h9, t9⟩
  have H9 : Hid (HW w9 p s') := h9
  have T9 : Hid (Tn p w w9) := T1.out.trans t9
  obtain ⟨z0, z1, z2, z3, z4, z5, f0, f1, f2, f3, f4, f5, hl⟩ := res_cells (w := w9) (t9.keepN hO N1.out)
  clear CF h9 t9 T1 N1
  skip
  go_wp2_with fail
  refine bodyPost_ret (v := _) ?h1 rfl ⟨rfl, H9.out.toN hO (grown_set6 _ _ _ _ _ _ _ _), T9.out.toN (Nat.le_refl _) (grown_set6 _ _ _ _ _ _ _ _)⟩
  case h1 => simp [results, Tryz.results123, go_sem, z0, z1, z2, z3, z4, z5]
end Go.Proofs.YtkckobbedpccfaaGreatDoor
