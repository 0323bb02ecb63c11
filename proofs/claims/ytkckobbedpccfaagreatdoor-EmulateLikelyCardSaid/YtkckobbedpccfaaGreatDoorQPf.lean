/-
  What the maps of a step's operations hold: their contracts.
  What perform does with an operation: branches, numbers, and the rest by its own method.
-/
import Derived.Test.YtkckobbedpccfaaGreatDoorQHc
import Derived.Test.YtkckobbedpccfaaGreatDoorQI4
import Derived.Test.YtkckobbedpccfaaGreatDoorQOp
namespace Go.Proofs.YtkckobbedpccfaaGreatDoor
open Go.RowKit Go.Maps
set_option linter.unusedVariables false
set_option maxRecDepth 100000

theorem C.grow_map {w w1 w2 : World} (h : Below w.heap.size w w1) (hg : w1.grownBy w2 (some w.heap.size)) : Below w.heap.size w w2 := h.grown hg h.size (fun k hk => by cases hk; exact Nat.le_refl _)
theorem ucond : Tryz.prog.underlying 158 = some (.map 3 156) := by kernel_rfl
def condD : DataW Value := (((((((DataW.map [] : DataW Value).put (.int .i64 29) (.held (.func (.func 91) #[] #[]))).put (.int .i64 30) (.held (.func (.func 92) #[] #[]))).put (.int .i64 31) (.held (.func (.func 93) #[] #[]))).put (.int .i64 32) (.held (.func (.func 94) #[] #[]))).put (.int .i64 33) (.held (.func (.func 95) #[] #[]))).put (.int .i64 34) (.held (.func (.func 96) #[] #[])))
set_option maxHeartbeats 1600000 in
theorem cond_any (w : World) : Calls Tryz.prog 74 #[] w fun e w' => ∃ b, e = .returned (.map (some b)) ∧ w'.ownsMap Tryz.prog 3 I.RV b 6 condD ∧ Below w.heap.size w w' := by
  have hmm := @run_makeMap Tryz.prog
  have hb0 : Below w.heap.size w (w.alloc (.map #[] 0)) := (Below.refl _ _).alloc (Nat.le_refl _) _
  go_enter Tryz.func74, Tryz.ntmps74
  go_wp2_with (first
    | (refine I.wpList_insert_own _ rfl _ _ _ 158 rfl 3 156 I.law3 ucond _ _ _ rfl (by assumption) (by decide) _ _ _ rfl rfl (keyOf_int_mk I.u3 (by decide)) ?_; intro w1 hown1 hg1; have hb1 := C.grow_map (by assumption) hg1; clear hg1)
    | (refine I.wpList_insert_own _ rfl _ _ _ 158 rfl 3 156 I.law3 ucond _ _ _ rfl (I.ownsMap_new (by simp) _ _) (by decide) _ _ _ rfl rfl (keyOf_int_mk I.u3 (by decide)) ?_; intro w1 hown1 hg1; have hb1 := C.grow_map hb0 hg1; clear hg1 hb0)
    | fail)
  go_ret
  exact ⟨_, rfl, by assumption, by assumption⟩
theorem ureck : Tryz.prog.underlying 166 = some (.map 3 164) := by kernel_rfl
def reckD : DataW Value := (((((((((((((((((((((((DataW.map [] : DataW Value).put (.int .i64 1) (.held (.func (.func 101) #[] #[]))).put (.int .i64 2) (.held (.func (.func 102) #[] #[]))).put (.int .i64 3) (.held (.func (.func 103) #[] #[]))).put (.int .i64 4) (.held (.func (.func 104) #[] #[]))).put (.int .i64 5) (.held (.func (.func 105) #[] #[]))).put (.int .i64 6) (.held (.func (.func 106) #[] #[]))).put (.int .i64 7) (.held (.func (.func 107) #[] #[]))).put (.int .i64 8) (.held (.func (.func 108) #[] #[]))).put (.int .i64 9) (.held (.func (.func 109) #[] #[]))).put (.int .i64 10) (.held (.func (.func 110) #[] #[]))).put (.int .i64 11) (.held (.func (.func 111) #[] #[]))).put (.int .i64 12) (.held (.func (.func 112) #[] #[]))).put (.int .i64 13) (.held (.func (.func 113) #[] #[]))).put (.int .i64 14) (.held (.func (.func 101) #[] #[]))).put (.int .i64 15) (.held (.func (.func 103) #[] #[]))).put (.int .i64 16) (.held (.func (.func 104) #[] #[]))).put (.int .i64 17) (.held (.func (.func 105) #[] #[]))).put (.int .i64 18) (.held (.func (.func 106) #[] #[]))).put (.int .i64 19) (.held (.func (.func 107) #[] #[]))).put (.int .i64 20) (.held (.func (.func 108) #[] #[]))).put (.int .i64 21) (.held (.func (.func 109) #[] #[]))).put (.int .i64 22) (.held (.func (.func 114) #[] #[])))
set_option maxHeartbeats 1600000 in
theorem reck_any (w : World) : Calls Tryz.prog 77 #[] w fun e w' => ∃ b, e = .returned (.map (some b)) ∧ w'.ownsMap Tryz.prog 3 I.RV b 22 reckD ∧ Below w.heap.size w w' := by
  have hmm := @run_makeMap Tryz.prog
  have hb0 : Below w.heap.size w (w.alloc (.map #[] 0)) := (Below.refl _ _).alloc (Nat.le_refl _) _
  go_enter Tryz.func77, Tryz.ntmps77
  go_wp2_with (first
    | (refine I.wpList_insert_own _ rfl _ _ _ 166 rfl 3 164 I.law3 ureck _ _ _ rfl (by assumption) (by decide) _ _ _ rfl rfl (keyOf_int_mk I.u3 (by decide)) ?_; intro w1 hown1 hg1; have hb1 := C.grow_map (by assumption) hg1; clear hg1)
    | (refine I.wpList_insert_own _ rfl _ _ _ 166 rfl 3 164 I.law3 ureck _ _ _ rfl (I.ownsMap_new (by simp) _ _) (by decide) _ _ _ rfl rfl (keyOf_int_mk I.u3 (by decide)) ?_; intro w1 hown1 hg1; have hb1 := C.grow_map hb0 hg1; clear hg1 hb0)
    | fail)
  go_ret
  exact ⟨_, rfl, by assumption, by assumption⟩
theorem uact : Tryz.prog.underlying 170 = some (.map 3 169) := by kernel_rfl
def actD : DataW Value := (((((((((((((((((((((DataW.map [] : DataW Value).put (.int .i64 23) (.held (.func (.func 116) #[] #[]))).put (.int .i64 24) (.held (.func (.func 116) #[] #[]))).put (.int .i64 25) (.held (.func (.func 116) #[] #[]))).put (.int .i64 26) (.held (.func (.func 117) #[] #[]))).put (.int .i64 27) (.held (.func (.func 117) #[] #[]))).put (.int .i64 28) (.held (.func (.func 117) #[] #[]))).put (.int .i64 35) (.held (.func (.func 118) #[] #[]))).put (.int .i64 36) (.held (.func (.func 119) #[] #[]))).put (.int .i64 37) (.held (.func (.func 120) #[] #[]))).put (.int .i64 38) (.held (.func (.func 121) #[] #[]))).put (.int .i64 39) (.held (.func (.func 122) #[] #[]))).put (.int .i64 40) (.held (.func (.func 123) #[] #[]))).put (.int .i64 41) (.held (.func (.func 97) #[] #[]))).put (.int .i64 42) (.held (.func (.func 124) #[] #[]))).put (.int .i64 43) (.held (.func (.func 125) #[] #[]))).put (.int .i64 44) (.held (.func (.func 126) #[] #[]))).put (.int .i64 45) (.held (.func (.func 127) #[] #[]))).put (.int .i64 46) (.held (.func (.func 128) #[] #[]))).put (.int .i64 47) (.held (.func (.func 128) #[] #[]))).put (.int .i64 48) (.held (.func (.func 128) #[] #[])))
set_option maxHeartbeats 1600000 in
theorem act_any (w : World) : Calls Tryz.prog 79 #[] w fun e w' => ∃ b, e = .returned (.map (some b)) ∧ w'.ownsMap Tryz.prog 3 I.RV b 20 actD ∧ Below w.heap.size w w' := by
  have hmm := @run_makeMap Tryz.prog
  have hb0 : Below w.heap.size w (w.alloc (.map #[] 0)) := (Below.refl _ _).alloc (Nat.le_refl _) _
  go_enter Tryz.func79, Tryz.ntmps79
  go_wp2_with (first
    | (refine I.wpList_insert_own _ rfl _ _ _ 170 rfl 3 169 I.law3 uact _ _ _ rfl (by assumption) (by decide) _ _ _ rfl rfl (keyOf_int_mk I.u3 (by decide)) ?_; intro w1 hown1 hg1; have hb1 := C.grow_map (by assumption) hg1; clear hg1)
    | (refine I.wpList_insert_own _ rfl _ _ _ 170 rfl 3 169 I.law3 uact _ _ _ rfl (I.ownsMap_new (by simp) _ _) (by decide) _ _ _ rfl rfl (keyOf_int_mk I.u3 (by decide)) ?_; intro w1 hown1 hg1; have hb1 := C.grow_map hb0 hg1; clear hg1 hb0)
    | fail)
  go_ret
  exact ⟨_, rfl, by assumption, by assumption⟩
end Go.Proofs.YtkckobbedpccfaaGreatDoor
namespace Go.Proofs.YtkckobbedpccfaaGreatDoor
open Go.RowKit Go.Maps
set_option linter.unusedVariables false
set_option maxRecDepth 100000

set_option maxHeartbeats 1600000 in
theorem jumpIf_hw (p : Pl) (s : Hs) (z : Bool) (w : World) (h : HW w p s) : Calls Tryz.prog 75 #[.pointer (some ⟨p.S, 0, none⟩), .bool z] w fun e w' => e = .returned okV ∧ HW w' p (s.went (if z then s.jump else s.next)) ∧ Tn p w w' := by
  have hb0 : Below w.heap.size w (w.alloc zeroRes) := (Below.refl _ _).alloc (Nat.le_refl _) _
  have h1 := h.below hb0
  have hO := h.off (Nat.le_refl w.heap.size)
  have HT : Hid (Tn p w (w.alloc zeroRes)) := Tn.below hb0
  cases z
  · have CG := goOn_hw p s _ h1
    clear h h1 hb0
    unfold okV resV zeroRes at *
    go_enter Tryz.func75, Tryz.ntmps75
    go_wp2_with fail
    refine CG.mono ?_
    rintro e w1 ⟨rfl, h2, t2⟩
    obtain ⟨n0, o0⟩ := t2.cells hO (by simp)
    have hs : w.heap.size < w1.heap.size := by have := t2.size; simp at this; omega
    have H2 : Hid (HW w1 p (s.went s.next)) := h2
    have T2 : Hid (Tn p w w1) := HT.out.trans t2
    clear CG h2 t2 HT
    go_wp2_with fail
    refine bodyPost_ret (v := _) ?h1 rfl ⟨rfl, H2.out.toN hO (grown_set6 _ _ _ _ _ _ _ _), T2.out.toN (Nat.le_refl _) (grown_set6 _ _ _ _ _ _ _ _)⟩
    case h1 => simp [results, Tryz.results75, go_sem, n0]
  · have CJ := jump_hw p s _ h1
    have H1 : Hid (HW (w.alloc zeroRes) p s) := h1
    clear h h1 hb0
    unfold okV resV zeroRes at *
    go_enter Tryz.func75, Tryz.ntmps75
    go_wp2_with fail
    refine CJ.mono ?_
    rintro e w0 ⟨rfl, b0⟩
    have CG := goTo_hw p s s.jump (wrapU _) w0 (H1.out.below b0)
    have t0 : Tn p w w0 := HT.out.trans (Tn.below b0)
    have hs0 : w.heap.size < w0.heap.size := by have := b0.size; simp at this; omega
    obtain ⟨m0, q0⟩ := (Tn.below (p := p) b0).cells hO (by simp)
    have T0 : Hid (Tn p w w0) := t0
    clear CJ b0 t0 H1 HT
    go_wp2_with fail
    refine CG.mono ?_
    rintro e w1 ⟨rfl, h2, t2⟩
    obtain ⟨n0, o0⟩ := t2.cells hO hs0
    have hs : w.heap.size < w1.heap.size := by have := t2.size; omega
    have H2 : Hid (HW w1 p (s.went s.jump)) := h2
    have T2 : Hid (Tn p w w1) := T0.out.trans t2
    clear CG h2 t2 T0
    unfold okV resV
    go_wp2_with fail
    refine bodyPost_ret (v := _) ?h1 rfl ⟨rfl, H2.out.toN hO (grown_set6 _ _ _ _ _ _ _ _), T2.out.toN (Nat.le_refl _) (grown_set6 _ _ _ _ _ _ _ _)⟩
    case h1 => simp [results, Tryz.results75, go_sem, n0, m0]

theorem zero136 (w : World) : (zeroValue 156).run Tryz.prog w = .ok .nilFunc w := by kernel_rfl
theorem zero144 (w : World) : (zeroValue 164).run Tryz.prog w = .ok .nilFunc w := by kernel_rfl
theorem zero149 (w : World) : (zeroValue 169).run Tryz.prog w = .ok .nilFunc w := by kernel_rfl

set_option maxHeartbeats 3200000 in
theorem perform_cond (p : Pl) (s : Hs) (K : Nat) (z : Bool) (hw : (Lit.int .i64 s.op).wf = true) (h1 : Maps.has condD (.int .i64 s.op) = true) (h2 : condD.atKey (.int .i64 s.op) (.held .nilFunc) = .held (.func (.func K) #[] #[]))
    (hcf : ∀ args w, (callFunc K args).run Tryz.prog w = .ok (.enter K args) w) (CK : ∀ w, Calls Tryz.prog K #[prV (s.reg s.r1) s.b] w fun e w' => e = .returned (.bool z) ∧ Below w.heap.size w w') (w : World) (h : HW w p s) :
    Calls Tryz.prog 54 #[.pointer (some ⟨p.S, 0, none⟩)] w fun e w' => e = .returned okV ∧ HW w' p (s.went (if z then s.jump else s.next)) ∧ Tn p w w' := by
  have hb0 : Below w.heap.size w (w.alloc zeroRes) := (Below.refl _ _).alloc (Nat.le_refl _) _
  have g1 := h.below hb0
  have hO := h.off (Nat.le_refl w.heap.size)
  have n0 := C.heap_alloc_at w zeroRes
  have H1 : Hid (HW (w.alloc zeroRes) p s) := g1
  have N0 : Hid ((w.alloc zeroRes).heap[w.heap.size]? = some zeroRes) := n0
  have HT : Hid (Tn p w (w.alloc zeroRes)) := Tn.below hb0
  have c0 := g1.cOp
  have l0 := g1.lt.1
  clear h g1 hb0 n0
  obtain ⟨s', hs'⟩ : ∃ s', s.went (if z = true then s.jump else s.next) = s' := ⟨_, rfl⟩
  rw [hs']
  unfold okV resV zeroRes prV at *
  go_enter Tryz.func54, Tryz.ntmps54
  go_wp2_with fail
  refine (cond_any _).mono ?_
  rintro e w1 ⟨b, rfl, hown, b1⟩
  have H2 : Hid (HW w1 p s) := H1.out.below b1
  have N2 : Hid (w1.heap[w.heap.size]? = some (.cells #[.int .i64 0, .int .i64 0, .int .u64 0, .int .u64 0, .bool false, .bool false] 57 (0, 0))) := keepB N0.out b1
  have T2 : Hid (Tn p w w1) := HT.out.trans (Tn.below b1)
  clear b1 H1 N0 HT c0 l0
  go_wp2_with (first
    | (refine I.wpList_lookup_ok_RV _ rfl _ _ 158 rfl 3 156 I.law3 ucond (zero136 _) _ _ _ rfl hown _ _ rfl (keyOf_int_mk I.u3 hw) _ _ h2 h1 ?_; clear h2 h1 hown)
    | fail)
  refine (operands_hw p s w1 H2.out).mono ?_
  rintro e w2 ⟨rfl, b2⟩
  have H3 : Hid (HW w2 p s) := H2.out.below b2
  have N3 : Hid (w2.heap[w.heap.size]? = some (.cells #[.int .i64 0, .int .i64 0, .int .u64 0, .int .u64 0, .bool false, .bool false] 57 (0, 0))) := keepB N2.out b2
  have T3 : Hid (Tn p w w2) := T2.out.trans (Tn.below b2)
  clear b2 H2 N2 T2
  unfold prV
  go_wp2_with fail
  refine (CK w2).mono ?_
  rintro e w3 ⟨rfl, b3⟩
  have CJ := jumpIf_hw p s z w3 (H3.out.below b3)
  rw [hs'] at CJ
  have N4 : Hid (w3.heap[w.heap.size]? = some (.cells #[.int .i64 0, .int .i64 0, .int .u64 0, .int .u64 0, .bool false, .bool false] 57 (0, 0))) := keepB N3.out b3
  have T4 : Hid (Tn p w w3) := T3.out.trans (Tn.below b3)
  clear b3 H3 N3 T3 CK
  go_wp2_with fail
  refine CJ.mono ?_
  rintro e w4 ⟨rfl, h5, t5⟩
  obtain ⟨a0, a1, a2⟩ := cells6' (t5.keepN hO N4.out)
  have H5 : Hid (HW w4 p s') := h5
  have T5 : Hid (Tn p w w4) := T4.out.trans t5
  have z0 := a0 0
  have z1 := a0 1
  have z2 := a0 2
  have z3 := a0 3
  have z4 := a0 4
  have z5 := a0 5
  simp at z0 z1 z2 z3 z4 z5
  have f0 := a1 0
  have f1 := a1 1
  have f2 := a1 2
  have f3 := a1 3
  have f4 := a1 4
  have f5 := a1 5
  clear CJ h5 t5 N4 T4 a0 a1
  unfold okV resV
  go_wp2_with fail
  refine bodyPost_ret (v := _) ?h1 rfl ⟨rfl, H5.out.toN hO (grown_set6 _ _ _ _ _ _ _ _), T5.out.toN (Nat.le_refl _) (grown_set6 _ _ _ _ _ _ _ _)⟩
  case h1 => simp [results, Tryz.results54, go_sem, z0, z1, z2, z3, z4, z5]

set_option maxHeartbeats 3200000 in
theorem perform_reck (p : Pl) (s : Hs) (K : Nat) (z : Int) (hz : C.U z) (hw : (Lit.int .i64 s.op).wf = true) (h1 : Maps.has condD (.int .i64 s.op) = false) (k1 : Maps.has reckD (.int .i64 s.op) = true) (k2 : reckD.atKey (.int .i64 s.op) (.held .nilFunc) = .held (.func (.func K) #[] #[]))
    (hcf : ∀ args w, (callFunc K args).run Tryz.prog w = .ok (.enter K args) w) (CK : ∀ w, Calls Tryz.prog K #[prV (s.reg s.r1) s.b] w fun e w' => e = .returned (.int .u64 z) ∧ Below w.heap.size w w') (w : World) (h : HW w p s) :
    Calls Tryz.prog 54 #[.pointer (some ⟨p.S, 0, none⟩)] w fun e w' => e = .returned okV ∧ HW w' p ((s.puts z).went s.next) ∧ Tn p w w' := by
  have h2 : condD.atKey (.int .i64 s.op) (.held .nilFunc) = .held .nilFunc := atKey_of_not_has h1 _
  have hb0 : Below w.heap.size w (w.alloc zeroRes) := (Below.refl _ _).alloc (Nat.le_refl _) _
  have g1 := h.below hb0
  have hO := h.off (Nat.le_refl w.heap.size)
  have n0 := C.heap_alloc_at w zeroRes
  have H1 : Hid (HW (w.alloc zeroRes) p s) := g1
  have N0 : Hid ((w.alloc zeroRes).heap[w.heap.size]? = some zeroRes) := n0
  have HT : Hid (Tn p w (w.alloc zeroRes)) := Tn.below hb0
  have c0 := g1.cOp
  have l0 := g1.lt.1
  clear h g1 hb0 n0
  obtain ⟨s', hs'⟩ : ∃ s', (s.puts z).went s.next = s' := ⟨_, rfl⟩
  rw [hs']
  unfold okV resV zeroRes prV at *
  go_enter Tryz.func54, Tryz.ntmps54
  go_wp2_with fail
  refine (cond_any _).mono ?_
  rintro e w1 ⟨b, rfl, hown, b1⟩
  have H2 : Hid (HW w1 p s) := H1.out.below b1
  have N2 : Hid (w1.heap[w.heap.size]? = some (.cells #[.int .i64 0, .int .i64 0, .int .u64 0, .int .u64 0, .bool false, .bool false] 57 (0, 0))) := keepB N0.out b1
  have T2 : Hid (Tn p w w1) := HT.out.trans (Tn.below b1)
  clear b1 H1 N0 HT c0 l0
  go_wp2_with (first
    | (refine I.wpList_lookup_ok_RV _ rfl _ _ 158 rfl 3 156 I.law3 ucond (zero136 _) _ _ _ rfl hown _ _ rfl (keyOf_int_mk I.u3 hw) _ _ h2 h1 ?_; clear h2 h1 hown)
    | fail)
  refine (reck_any w1).mono ?_
  rintro e w5 ⟨b5, rfl, hown5, b6⟩
  have H6 : Hid (HW w5 p s) := H2.out.below b6
  have N6 : Hid (w5.heap[w.heap.size]? = some (.cells #[.int .i64 0, .int .i64 0, .int .u64 0, .int .u64 0, .bool false, .bool false] 57 (0, 0))) := keepB N2.out b6
  have T6 : Hid (Tn p w w5) := T2.out.trans (Tn.below b6)
  clear b6 H2 N2 T2
  go_wp2_with (first
    | (refine I.wpList_lookup_ok_RV _ rfl _ _ 166 rfl 3 164 I.law3 ureck (zero144 _) _ _ _ rfl hown5 _ _ rfl (keyOf_int_mk I.u3 hw) _ _ k2 k1 ?_; clear k2 k1 hown5)
    | fail)
  refine (operands_hw p s w5 H6.out).mono ?_
  rintro e w2 ⟨rfl, b2⟩
  have H3 : Hid (HW w2 p s) := H6.out.below b2
  have N3 : Hid (w2.heap[w.heap.size]? = some (.cells #[.int .i64 0, .int .i64 0, .int .u64 0, .int .u64 0, .bool false, .bool false] 57 (0, 0))) := keepB N6.out b2
  have T3 : Hid (Tn p w w2) := T6.out.trans (Tn.below b2)
  clear b2 H6 N6 T6
  unfold prV
  go_wp2_with fail
  refine (CK w2).mono ?_
  rintro e w3 ⟨rfl, b3⟩
  have CJ := tell_hw p s z hz w3 (H3.out.below b3)
  rw [hs'] at CJ
  have N4 : Hid (w3.heap[w.heap.size]? = some (.cells #[.int .i64 0, .int .i64 0, .int .u64 0, .int .u64 0, .bool false, .bool false] 57 (0, 0))) := keepB N3.out b3
  have T4 : Hid (Tn p w w3) := T3.out.trans (Tn.below b3)
  clear b3 H3 N3 T3 CK
  go_wp2_with fail
  refine CJ.mono ?_
  rintro e w4 ⟨rfl, h5, t5⟩
  obtain ⟨a0, a1, a2⟩ := cells6' (t5.keepN hO N4.out)
  have H5 : Hid (HW w4 p s') := h5
  have T5 : Hid (Tn p w w4) := T4.out.trans t5
  have z0 := a0 0
  have z1 := a0 1
  have z2 := a0 2
  have z3 := a0 3
  have z4 := a0 4
  have z5 := a0 5
  simp at z0 z1 z2 z3 z4 z5
  have f0 := a1 0
  have f1 := a1 1
  have f2 := a1 2
  have f3 := a1 3
  have f4 := a1 4
  have f5 := a1 5
  clear CJ h5 t5 N4 T4 a0 a1
  unfold okV resV
  go_wp2_with fail
  refine bodyPost_ret (v := _) ?h1 rfl ⟨rfl, H5.out.toN hO (grown_set6 _ _ _ _ _ _ _ _), T5.out.toN (Nat.le_refl _) (grown_set6 _ _ _ _ _ _ _ _)⟩
  case h1 => simp [results, Tryz.results54, go_sem, z0, z1, z2, z3, z4, z5]

set_option maxHeartbeats 3200000 in
theorem perform_act (p : Pl) (s : Hs) (K : Nat) (s' : Hs) (k c v g : Int) (fe ti : Bool) (hw : (Lit.int .i64 s.op).wf = true) (h1 : Maps.has condD (.int .i64 s.op) = false) (k1 : Maps.has reckD (.int .i64 s.op) = false) (j2 : actD.atKey (.int .i64 s.op) (.held .nilFunc) = .held (.func (.func K) #[] #[]))
    (hcf : ∀ args w, (callFunc K args).run Tryz.prog w = .ok (.enter K args) w) (CK : ∀ w, HW w p s → Calls Tryz.prog K #[.pointer (some ⟨p.S, 0, none⟩)] w fun e w' => e = .returned (resV k c v g fe ti) ∧ HW w' p s' ∧ Tn p w w') (w : World) (h : HW w p s) :
    Calls Tryz.prog 54 #[.pointer (some ⟨p.S, 0, none⟩)] w fun e w' => e = .returned (resV k c v g fe ti) ∧ HW w' p s' ∧ Tn p w w' := by
  have h2 : condD.atKey (.int .i64 s.op) (.held .nilFunc) = .held .nilFunc := atKey_of_not_has h1 _
  have k2 : reckD.atKey (.int .i64 s.op) (.held .nilFunc) = .held .nilFunc := atKey_of_not_has k1 _
  have hb0 : Below w.heap.size w (w.alloc zeroRes) := (Below.refl _ _).alloc (Nat.le_refl _) _
  have g1 := h.below hb0
  have hO := h.off (Nat.le_refl w.heap.size)
  have n0 := C.heap_alloc_at w zeroRes
  have H1 : Hid (HW (w.alloc zeroRes) p s) := g1
  have N0 : Hid ((w.alloc zeroRes).heap[w.heap.size]? = some zeroRes) := n0
  have HT : Hid (Tn p w (w.alloc zeroRes)) := Tn.below hb0
  have c0 := g1.cOp
  have l0 := g1.lt.1
  clear h g1 hb0 n0
  unfold resV zeroRes at *
  go_enter Tryz.func54, Tryz.ntmps54
  go_wp2_with fail
  refine (cond_any _).mono ?_
  rintro e w1 ⟨b, rfl, hown, b1⟩
  have H2 : Hid (HW w1 p s) := H1.out.below b1
  have N2 : Hid (w1.heap[w.heap.size]? = some (.cells #[.int .i64 0, .int .i64 0, .int .u64 0, .int .u64 0, .bool false, .bool false] 57 (0, 0))) := keepB N0.out b1
  have T2 : Hid (Tn p w w1) := HT.out.trans (Tn.below b1)
  clear b1 H1 N0 HT c0 l0
  go_wp2_with (first
    | (refine I.wpList_lookup_ok_RV _ rfl _ _ 158 rfl 3 156 I.law3 ucond (zero136 _) _ _ _ rfl hown _ _ rfl (keyOf_int_mk I.u3 hw) _ _ h2 h1 ?_; clear h2 h1 hown)
    | fail)
  refine (reck_any w1).mono ?_
  rintro e w5 ⟨b5, rfl, hown5, b6⟩
  have H6 : Hid (HW w5 p s) := H2.out.below b6
  have N6 : Hid (w5.heap[w.heap.size]? = some (.cells #[.int .i64 0, .int .i64 0, .int .u64 0, .int .u64 0, .bool false, .bool false] 57 (0, 0))) := keepB N2.out b6
  have T6 : Hid (Tn p w w5) := T2.out.trans (Tn.below b6)
  clear b6 H2 N2 T2
  go_wp2_with (first
    | (refine I.wpList_lookup_ok_RV _ rfl _ _ 166 rfl 3 164 I.law3 ureck (zero144 _) _ _ _ rfl hown5 _ _ rfl (keyOf_int_mk I.u3 hw) _ _ k2 k1 ?_; clear k2 k1 hown5)
    | fail)
  refine (act_any w5).mono ?_
  rintro e w6 ⟨b7, rfl, hown7, b8⟩
  have CJ := CK w6 (H6.out.below b8)
  have N7 : Hid (w6.heap[w.heap.size]? = some (.cells #[.int .i64 0, .int .i64 0, .int .u64 0, .int .u64 0, .bool false, .bool false] 57 (0, 0))) := keepB N6.out b8
  have T7 : Hid (Tn p w w6) := T6.out.trans (Tn.below b8)
  clear b8 H6 N6 T6 CK
  go_wp2_with (first
    | (refine I.wpList_lookup_RV _ rfl _ _ 170 rfl 3 169 I.law3 uact (zero149 _) _ _ _ rfl hown7 _ _ rfl (keyOf_int_mk I.u3 hw) _ j2 ?_; clear j2 hown7)
    | fail)
  refine CJ.mono ?_
  rintro e w4 ⟨rfl, h5, t5⟩
  obtain ⟨a0, a1, a2⟩ := cells6' (t5.keepN hO N7.out)
  have H5 : Hid (HW w4 p s') := h5
  have T5 : Hid (Tn p w w4) := T7.out.trans t5
  have z0 := a0 0
  have z1 := a0 1
  have z2 := a0 2
  have z3 := a0 3
  have z4 := a0 4
  have z5 := a0 5
  simp at z0 z1 z2 z3 z4 z5
  have f0 := a1 0
  have f1 := a1 1
  have f2 := a1 2
  have f3 := a1 3
  have f4 := a1 4
  have f5 := a1 5
  clear CJ h5 t5 N7 T7 a0 a1
  go_wp2_with fail
  refine bodyPost_ret (v := _) ?h1 rfl ⟨rfl, H5.out.toN hO (grown_set6 _ _ _ _ _ _ _ _), T5.out.toN (Nat.le_refl _) (grown_set6 _ _ _ _ _ _ _ _)⟩
  case h1 => simp [results, Tryz.results54, go_sem, z0, z1, z2, z3, z4, z5]
end Go.Proofs.YtkckobbedpccfaaGreatDoor
