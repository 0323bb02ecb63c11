/-
  The numbers that an operation is given: the contract of operands.
  What the plainer actions do: jumps, returns, waits, fences.
-/
import Derived.Test.YtkckobbedpccfaaGreatDoorQPr
import Derived.Test.YtkckobbedpccfaaGreatDoorQHc
import Derived.Test.YtkckobbedpccfaaGreatDoorQI3
import Derived.Deep.RegionHeld2
namespace Go.Proofs.YtkckobbedpccfaaGreatDoor
open Go.RowKit
set_option linter.unusedVariables false
set_option maxRecDepth 100000

/-- the second number: a register, or what stands in its place -/
def Hs.b (s : Hs) : Int := if I.shapeN s.op = 1 ∨ I.shapeN s.op = 4 then s.reg s.r2 else IntKind.u64.wrap s.im
def pairZero : Obj := .cells #[.int .u64 0, .int .u64 0] 162

set_option maxHeartbeats 8000000 in
theorem operands_hw (p : Pl) (s : Hs) (w : World) (h : HW w p s) : Calls Tryz.prog 76 #[.pointer (some ⟨p.S, 0, none⟩)] w fun e w' => e = .returned (prV (s.reg s.r1) s.b) ∧ Below w.heap.size w w' := by
  have hb0 : Below w.heap.size w (w.alloc pairZero) := (Below.refl _ _).alloc (Nat.le_refl _) _
  have n0 := C.heap_alloc_at w pairZero
  have h1 := h.below hb0
  have hl := h.lt.1
  clear h
  have CS := I.shape_any s.op
  have r1 := h1.ok.r1
  have r2 := h1.ok.r2
  obtain ⟨bb, hbb⟩ : ∃ bb, s.b = bb := ⟨_, rfl⟩
  rw [hbb]
  unfold prV pairZero at *
  go_enter Tryz.func76, Tryz.ntmps76
  have cOp := h1.cOp
  have fl := h1.lt.1
  go_wp2_with fail
  refine (CS _).mono ?_
  rintro e w' ⟨rfl, hw⟩
  have H1 : Hid (HW w' p s) := by rw [hw]; exact h1
  have N0 : Hid (w'.heap[w.heap.size]? = some (.cells #[.int .u64 0, .int .u64 0] 162 (0, 0))) := by rw [hw]; exact n0
  have B0 : Hid (Below w.heap.size w w') := by rw [hw]; exact hb0
  have hs : w.heap.size < w'.heap.size := lt_of_heap N0.out
  clear hw h1 n0 hb0 CS cOp fl
  generalize hN : w.heap.size = N at *
  have c1 := H1.out.cR1
  have c2 := H1.out.cIm
  have fl := H1.out.lt.1
  go_wp2_with fail
  go_cut [5] (fun v wx => ∃ M, v = .pointer (some ⟨M, 0, none⟩) ∧ Hid (wx.heap[M]? = some (.cells #[.int .u64 (s.reg s.r1), .int .u64 (IntKind.u64.wrap s.im)] 162 (0, 0)) ∧ Below w'.heap.size w' wx ∧ w'.heap.size ≤ M))
  case first =>
    go_region_held2 (fun w'' => w''.cell? ⟨p.S, 23, none⟩ = some (.int .i64 s.r1) ∧ w''.cell? ⟨p.S, 25, none⟩ = some (.int .i64 s.im)) (go_keep)
      (((first | refine (register_hw p s s.r1 r1 w'.drew H1.out.drew).mono ?_ | refine (register_hw p s s.r1 r1 (w'.alloc (.cells #[.int .u64 0, .int .u64 0] 162)).drew (H1.out.below ((Below.refl _ _).alloc (Nat.le_refl _) _)).drew).mono ?_); rintro e x1 ⟨rfl, hx⟩; subst hx))
    all_goals
      go_wp2_with fail
      go_meet
      exact ⟨w'.heap.size, rfl, C.heap_alloc_at w' _, ((Below.refl _ _).alloc (Nat.le_refl _) _).drew, Nat.le_refl _⟩
  case rest =>
    obtain ⟨M, rfl, hM⟩ := hcut
    obtain ⟨m1, m2, m3⟩ := hM.out
    obtain ⟨a0, a1, a2⟩ := cells6' m1
    have q0 := a0 0
    have q1 := a0 1
    simp at q0 q1
    have f1 := a1 1
    have H2 : Hid (HW wc p s) := H1.out.below m2
    have n2 := keepB N0.out m2
    obtain ⟨b0, b1, b2⟩ := cells6' n2
    have z0 := b0 0
    have z1 := b0 1
    simp at z0 z1
    have g0 := b1 0
    have g1 := b1 1
    have B2 : Hid (Below N w wc) := B0.out.trans (m2.mono (by omega))
    have nMN : M ≠ N := by omega
    clear hM m1 m2 a0 a1 b0 b1 n2 H1 B0 N0 c1 c2 fl
    have CR := register_hw p s s.r2 r2 wc H2.out
    have c3 := H2.out.cR2
    have fl := H2.out.lt.1
    by_cases h1 : I.shapeN s.op = 1
    · have eb : bb = s.reg s.r2 := by rw [← hbb]; unfold Hs.b; rw [if_pos (.inl h1)]
      clear hbb
      subst eb
      generalize I.shapeN s.op = z at *
      subst h1
      go_wp2_with fail
      refine CR.mono ?_
      rintro e x ⟨rfl, hx⟩
      subst hx
      clear CR c3
      go_wp2_with fail
      refine bodyPost_ret (v := _) ?h1 rfl ⟨rfl, by rw [hN]; exact ((B2.out.setCell (show N ≤ (⟨M, 1, none⟩ : Addr).block from by show N ≤ M; omega) _).setCell (show N ≤ (⟨N, 0, none⟩ : Addr).block from Nat.le_refl _) _).setCell (show N ≤ (⟨N, 1, none⟩ : Addr).block from Nat.le_refl _) _⟩
      case h1 => simp [results, Tryz.results76, go_sem, z0, z1]
    · by_cases h4 : I.shapeN s.op = 4
      · have eb : bb = s.reg s.r2 := by rw [← hbb]; unfold Hs.b; rw [if_pos (.inr h4)]
        clear hbb
        subst eb
        generalize I.shapeN s.op = z at *
        subst h4
        go_wp2_with fail
        refine CR.mono ?_
        rintro e x ⟨rfl, hx⟩
        subst hx
        clear CR c3
        go_wp2_with fail
        refine bodyPost_ret (v := _) ?h2 rfl ⟨rfl, by rw [hN]; exact ((B2.out.setCell (show N ≤ (⟨M, 1, none⟩ : Addr).block from by show N ≤ M; omega) _).setCell (show N ≤ (⟨N, 0, none⟩ : Addr).block from Nat.le_refl _) _).setCell (show N ≤ (⟨N, 1, none⟩ : Addr).block from Nat.le_refl _) _⟩
        case h2 => simp [results, Tryz.results76, go_sem, z0, z1]
      · have eb : bb = IntKind.u64.wrap s.im := by rw [← hbb]; unfold Hs.b; rw [if_neg (by omega)]
        clear hbb
        subst eb
        have d1 : (I.shapeN s.op == 1) = false := beq_eq_false_iff_ne.2 h1
        have d4 : (I.shapeN s.op == 4) = false := beq_eq_false_iff_ne.2 h4
        generalize I.shapeN s.op = z at *
        clear CR c3
        go_wp2_with fail
        refine bodyPost_ret (v := _) ?h3 rfl ⟨rfl, by rw [hN]; exact (B2.out.setCell (show N ≤ (⟨N, 0, none⟩ : Addr).block from Nat.le_refl _) _).setCell (show N ≤ (⟨N, 1, none⟩ : Addr).block from Nat.le_refl _) _⟩
        case h3 => simp [results, Tryz.results76, go_sem, z0, z1]
end Go.Proofs.YtkckobbedpccfaaGreatDoor
namespace Go.Proofs.YtkckobbedpccfaaGreatDoor
open Go.RowKit
set_option linter.unusedVariables false
set_option maxRecDepth 100000

/-- what a call behind the first alloc leaves of the result's block -/
theorem res_cells {w w' : World} {N : Nat} (h : w'.heap[N]? = some zeroRes) : w'.cell? ⟨N, 0, none⟩ = some (.int .i64 0) ∧ w'.cell? ⟨N, 1, none⟩ = some (.int .i64 0) ∧ w'.cell? ⟨N, 2, none⟩ = some (.int .u64 0) ∧ w'.cell? ⟨N, 3, none⟩ = some (.int .u64 0) ∧ w'.cell? ⟨N, 4, none⟩ = some (.bool false) ∧ w'.cell? ⟨N, 5, none⟩ = some (.bool false) ∧
    w'.frozen? ⟨N, 0, none⟩ = false ∧ w'.frozen? ⟨N, 1, none⟩ = false ∧ w'.frozen? ⟨N, 2, none⟩ = false ∧ w'.frozen? ⟨N, 3, none⟩ = false ∧ w'.frozen? ⟨N, 4, none⟩ = false ∧ w'.frozen? ⟨N, 5, none⟩ = false ∧ N < w'.heap.size := by
  unfold zeroRes at h
  obtain ⟨a0, a1, a2⟩ := cells6' h
  refine ⟨?_, ?_, ?_, ?_, ?_, ?_, a1 _, a1 _, a1 _, a1 _, a1 _, a1 _, a2⟩ <;> rw [a0] <;> rfl

set_option maxHeartbeats 1600000 in
theorem jumps_hw (p : Pl) (s : Hs) (w : World) (h : HW w p s) : Calls Tryz.prog 118 #[.pointer (some ⟨p.S, 0, none⟩)] w fun e w' => e = .returned okV ∧ HW w' p ((s.puts s.next).went s.jump) ∧ Tn p w w' := by
  have hb0 : Below w.heap.size w (w.alloc zeroRes) := (Below.refl _ _).alloc (Nat.le_refl _) _
  have h1 := h.below hb0
  have hO := h.off (Nat.le_refl w.heap.size)
  have CF := following_hw p s _ h1
  have CP := put_hw p s s.next (wrapU _) _ h1
  have HT : Hid (Tn p w (w.alloc zeroRes)) := Tn.below hb0
  have N0 : Hid ((w.alloc zeroRes).heap[w.heap.size]? = some zeroRes) := C.heap_alloc_at w zeroRes
  clear h h1 hb0
  unfold okV resV
  go_enter Tryz.func118, Tryz.ntmps118
  go_wp2_with fail
  refine CF.mono ?_
  rintro e w' ⟨rfl, hw⟩
  subst hw
  go_wp2_with fail
  refine CP.mono ?_
  rintro e w1 ⟨rfl, h2, t2⟩
  have CJ := jump_hw p _ w1 h2
  have H2 : Hid (HW w1 p (s.puts s.next)) := h2
  have T2 : Hid (Tn p w w1) := HT.out.trans t2
  have N2 : Hid (w1.heap[w.heap.size]? = some zeroRes) := t2.keepN hO N0.out
  clear CF CP h2 t2 HT N0
  go_wp2_with fail
  refine CJ.mono ?_
  rintro e w2 ⟨rfl, b3⟩
  have CG := goTo_hw p (s.puts s.next) (s.puts s.next).jump (wrapU _) w2 (H2.out.below b3)
  have T3 : Hid (Tn p w w2) := T2.out.trans (Tn.below b3)
  have N3 : Hid (w2.heap[w.heap.size]? = some zeroRes) := keepB N2.out b3
  clear CJ b3 H2 T2 N2
  go_wp2_with fail
  refine CG.mono ?_
  rintro e w3 ⟨rfl, h4, t4⟩
  have H4 : Hid (HW w3 p ((s.puts s.next).went s.jump)) := h4
  have T4 : Hid (Tn p w w3) := T3.out.trans t4
  obtain ⟨z0, z1, z2, z3, z4, z5, f0, f1, f2, f3, f4, f5, hl⟩ := res_cells (w := w3) (t4.keepN hO N3.out)
  clear CG h4 t4 T3 N3
  unfold okV resV
  go_wp2_with fail
  refine bodyPost_ret (v := _) ?h1 rfl ⟨rfl, H4.out.toN hO (grown_set6 _ _ _ _ _ _ _ _), T4.out.toN (Nat.le_refl _) (grown_set6 _ _ _ _ _ _ _ _)⟩
  case h1 => simp [results, Tryz.results118, go_sem, z0, z1, z2, z3, z4, z5]

/-- where a jump to a register goes -/
def Hs.target (s : Hs) : Int := bits .andNot .u64 (IntKind.u64.wrap (s.reg s.r1 + s.b)) 3
set_option maxHeartbeats 1600000 in
theorem jumpsTo_hw (p : Pl) (s : Hs) (w : World) (h : HW w p s) : Calls Tryz.prog 119 #[.pointer (some ⟨p.S, 0, none⟩)] w fun e w' => e = .returned okV ∧ HW w' p ((s.puts s.next).went s.target) ∧ Tn p w w' := by
  have hb0 : Below w.heap.size w (w.alloc zeroRes) := (Below.refl _ _).alloc (Nat.le_refl _) _
  have h1 := h.below hb0
  have hO := h.off (Nat.le_refl w.heap.size)
  have CO := operands_hw p s _ h1
  have CP := plus_pr (s.reg s.r1) s.b
  have H1 : Hid (HW (w.alloc zeroRes) p s) := h1
  have HT : Hid (Tn p w (w.alloc zeroRes)) := Tn.below hb0
  have N0 : Hid ((w.alloc zeroRes).heap[w.heap.size]? = some zeroRes) := C.heap_alloc_at w zeroRes
  have htU : C.U s.target := C.bits_U _ _ _
  obtain ⟨tg, htg⟩ : ∃ tg, s.target = tg := ⟨_, rfl⟩
  rw [htg] at htU ⊢
  have ht : bits .andNot .u64 (IntKind.u64.wrap (s.reg s.r1 + s.b)) 3 = tg := htg
  clear h h1 hb0 htg
  unfold okV resV
  go_enter Tryz.func119, Tryz.ntmps119
  go_wp2_with fail
  refine CO.mono ?_
  rintro e w1 ⟨rfl, b1⟩
  go_wp2_with fail
  refine (CP w1).mono ?_
  rintro e w2 ⟨rfl, b2⟩
  have H2 := (H1.out.below b1).below b2
  have T2 : Hid (Tn p w w2) := (HT.out.trans (Tn.below b1)).trans (Tn.below b2)
  have N2 : Hid (w2.heap[w.heap.size]? = some zeroRes) := keepB (keepB N0.out b1) b2
  have CF := following_hw p s w2 H2
  have CU := put_hw p s s.next (wrapU _) w2 H2
  clear CO CP b1 b2 H1 HT N0 H2
  go_wp2_with fail
  refine CF.mono ?_
  rintro e w' ⟨rfl, hw⟩
  subst hw
  go_wp2_with fail
  refine CU.mono ?_
  rintro e w5 ⟨rfl, h5, t5⟩
  have CG := goTo_hw p (s.puts s.next) tg htU w5 h5
  have T3 : Hid (Tn p w w5) := T2.out.trans t5
  have N3 : Hid (w5.heap[w.heap.size]? = some zeroRes) := t5.keepN hO N2.out
  clear CF CU h5 t5 T2 N2
  go_wp2_with fail
  refine CG.mono ?_
  rintro e w3 ⟨rfl, h4, t4⟩
  have H4 : Hid (HW w3 p ((s.puts s.next).went tg)) := h4
  have T4 : Hid (Tn p w w3) := T3.out.trans t4
  obtain ⟨z0, z1, z2, z3, z4, z5, f0, f1, f2, f3, f4, f5, hl⟩ := res_cells (w := w3) (t4.keepN hO N3.out)
  clear CG h4 t4 T3 N3
  unfold okV resV
  go_wp2_with fail
  refine bodyPost_ret (v := _) ?h1 rfl ⟨rfl, H4.out.toN hO (grown_set6 _ _ _ _ _ _ _ _), T4.out.toN (Nat.le_refl _) (grown_set6 _ _ _ _ _ _ _ _)⟩
  case h1 => simp [results, Tryz.results119, go_sem, z0, z1, z2, z3, z4, z5]

/-- a hart that has come back from a trap -/
def Hs.returned (s : Hs) : Hs := ({ s with R := C.upd s.R 0 (C.leS (s.R 0)), md := if C.hasP (s.R 0) 256 then 1 else 0 } : Hs).went (s.R 4)
set_option maxHeartbeats 1600000 in
theorem returns_hw (p : Pl) (s : Hs) (w : World) (h : HW w p s) : Calls Tryz.prog 125 #[.pointer (some ⟨p.S, 0, none⟩)] w fun e w' => e = .returned okV ∧ HW w' p s.returned ∧ Tn p w w' := by
  have hb0 : Below w.heap.size w (w.alloc zeroRes) := (Below.refl _ _).alloc (Nat.le_refl _) _
  have h1 := h.below hb0
  have hO := h.off (Nat.le_refl w.heap.size)
  have CL := C.leave_ff p.F s.R _ h1.ff
  have c18 := h.cF
  have l := h.lt.1
  have hR4 : C.U (s.R 4) := h.ff.rg 4 (by decide)
  have H1 : Hid (HW (w.alloc zeroRes) p s) := h1
  have HT : Hid (Tn p w (w.alloc zeroRes)) := Tn.below hb0
  have N0 : Hid ((w.alloc zeroRes).heap[w.heap.size]? = some zeroRes) := C.heap_alloc_at w zeroRes
  have hm : (if C.hasP (s.R 0) 256 then (1 : Int) else 0) = 0 ∨ (if C.hasP (s.R 0) 256 then (1 : Int) else 0) = 1 := by split <;> simp
  unfold Hs.returned
  generalize (if C.hasP (s.R 0) 256 = true then (1 : Int) else 0) = md at *
  clear h h1 hb0
  unfold okV resV
  go_enter Tryz.func125, Tryz.ntmps125
  go_wp2_with fail
  refine CL.mono ?_
  rintro e w1 ⟨rfl, f1, g1⟩
  have h2 := H1.out.toF f1 g1
  have c17 := h2.cMd
  have f17 := h2.f 17
  have l2 := h2.lt.1
  have T2 := HT.out.trans (Tn.F g1)
  have N2 := (Tn.F (p := p) g1).keepN hO N0.out
  obtain ⟨h3, g3⟩ := h2.setMd md hm
  have CG := goTo_hw p _ (s.R 4) hR4 _ h3
  have T3 : Hid (Tn p w (w1.setCell ⟨p.S, 17, none⟩ (.int .i64 md))) := T2.trans (Tn.S g3)
  have N3 : Hid ((w1.setCell ⟨p.S, 17, none⟩ (.int .i64 md)).heap[w.heap.size]? = some zeroRes) := (Tn.S (p := p) g3).keepN hO N2
  clear CL f1 g1 h2 h3 g3 H1 HT N0 T2 N2 c18 l
  go_wp2_with fail
  refine CG.mono ?_
  rintro e w3 ⟨rfl, h4, t4⟩
  have H4 : Hid (HW w3 p (({ s with R := C.upd s.R 0 (C.leS (s.R 0)), md := md } : Hs).went (s.R 4))) := h4
  have T4 : Hid (Tn p w w3) := T3.out.trans t4
  obtain ⟨z0, z1, z2, z3, z4, z5, f0, f1, f2, f3, f4, f5, hl⟩ := res_cells (w := w3) (t4.keepN hO N3.out)
  clear CG h4 t4 T3 N3
  unfold okV resV
  go_wp2_with fail
  refine bodyPost_ret (v := _) ?h1 rfl ⟨rfl, H4.out.toN hO (grown_set6 _ _ _ _ _ _ _ _), T4.out.toN (Nat.le_refl _) (grown_set6 _ _ _ _ _ _ _ _)⟩
  case h1 => simp [results, Tryz.results125, go_sem, z0, z1, z2, z3, z4, z5]

set_option maxHeartbeats 1600000 in
theorem waits_yes (p : Pl) (s : Hs) (hk : C.waitP s.R ≠ 0) (w : World) (h : HW w p s) : Calls Tryz.prog 126 #[.pointer (some ⟨p.S, 0, none⟩)] w fun e w' => e = .returned okV ∧ HW w' p (s.went s.next) ∧ Tn p w w' := by
  have hb0 : Below w.heap.size w (w.alloc zeroRes) := (Below.refl _ _).alloc (Nat.le_refl _) _
  have h1 := h.below hb0
  have hO := h.off (Nat.le_refl w.heap.size)
  have CL := C.wakes_ff p.F s.R _ h1.ff
  have hk' : (C.waitP s.R != 0) = true := bne_iff_ne.2 hk
  rw [hk'] at CL
  have c18 := h.cF
  have l := h.lt.1
  have H1 : Hid (HW (w.alloc zeroRes) p s) := h1
  have HT : Hid (Tn p w (w.alloc zeroRes)) := Tn.below hb0
  have N0 : Hid ((w.alloc zeroRes).heap[w.heap.size]? = some zeroRes) := C.heap_alloc_at w zeroRes
  clear h h1 hb0
  unfold okV resV
  go_enter Tryz.func126, Tryz.ntmps126
  go_wp2_with fail
  refine CL.mono ?_
  rintro e w1 ⟨rfl, b1⟩
  have CG := goOn_hw p s w1 (H1.out.below b1)
  have T3 : Hid (Tn p w w1) := HT.out.trans (Tn.below b1)
  have N3 : Hid (w1.heap[w.heap.size]? = some zeroRes) := keepB N0.out b1
  clear CL b1 H1 HT N0 c18 l
  go_wp2_with fail
  refine CG.mono ?_
  rintro e w3 ⟨rfl, h4, t4⟩
  have H4 : Hid (HW w3 p (s.went s.next)) := h4
  have T4 : Hid (Tn p w w3) := T3.out.trans t4
  obtain ⟨z0, z1, z2, z3, z4, z5, f0, f1, f2, f3, f4, f5, hl⟩ := res_cells (w := w3) (t4.keepN hO N3.out)
  clear CG h4 t4 T3 N3
  unfold okV resV
  go_wp2_with fail
  refine bodyPost_ret (v := _) ?h1 rfl ⟨rfl, H4.out.toN hO (grown_set6 _ _ _ _ _ _ _ _), T4.out.toN (Nat.le_refl _) (grown_set6 _ _ _ _ _ _ _ _)⟩
  case h1 => simp [results, Tryz.results126, go_sem, z0, z1, z2, z3, z4, z5]

set_option maxHeartbeats 1600000 in
theorem waits_no (p : Pl) (s : Hs) (hk : C.waitP s.R = 0) (w : World) (h : HW w p s) : Calls Tryz.prog 126 #[.pointer (some ⟨p.S, 0, none⟩)] w fun e w' => e = .returned (resV 4 0 0 0 false false) ∧ HW w' p s ∧ Tn p w w' := by
  have hb0 : Below w.heap.size w (w.alloc zeroRes) := (Below.refl _ _).alloc (Nat.le_refl _) _
  have h1 := h.below hb0
  have hO := h.off (Nat.le_refl w.heap.size)
  have CL := C.wakes_ff p.F s.R _ h1.ff
  have hk' : (C.waitP s.R != 0) = false := by rw [hk]; rfl
  rw [hk'] at CL
  have c18 := h.cF
  have l := h.lt.1
  have H1 : Hid (HW (w.alloc zeroRes) p s) := h1
  have HT : Hid (Tn p w (w.alloc zeroRes)) := Tn.below hb0
  have N0 : Hid ((w.alloc zeroRes).heap[w.heap.size]? = some zeroRes) := C.heap_alloc_at w zeroRes
  clear h h1 hb0
  unfold resV
  go_enter Tryz.func126, Tryz.ntmps126
  go_wp2_with fail
  refine CL.mono ?_
  rintro e w3 ⟨rfl, b1⟩
  have H4 : Hid (HW w3 p s) := H1.out.below b1
  have T4 : Hid (Tn p w w3) := HT.out.trans (Tn.below b1)
  obtain ⟨z0, z1, z2, z3, z4, z5, f0, f1, f2, f3, f4, f5, hl⟩ := res_cells (w := w3) (keepB N0.out b1)
  clear CL b1 H1 HT N0 c18 l
  go_wp2_with fail
  refine bodyPost_ret (v := _) ?h1 rfl ⟨rfl, H4.out.toN hO (grown_set6 _ _ _ _ _ _ _ _), T4.out.toN (Nat.le_refl _) (grown_set6 _ _ _ _ _ _ _ _)⟩
  case h1 => simp [results, Tryz.results126, go_sem, z0, z1, z2, z3, z4, z5]
end Go.Proofs.YtkckobbedpccfaaGreatDoor
