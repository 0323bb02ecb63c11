/-
  What fences, written and write do: their contracts.
  What controls does: its contract.
-/
import Derived.Test.YtkckobbedpccfaaGreatDoorQLo
import Derived.Test.YtkckobbedpccfaaGreatDoorQCE
import Derived.Test.YtkckobbedpccfaaGreatDoorQHe
namespace Go.Proofs.YtkckobbedpccfaaGreatDoor
open Go.RowKit
set_option linter.unusedVariables false
set_option maxRecDepth 100000


set_option maxHeartbeats 3200000 in
theorem fences_hw (p : Pl) (s : Hs) : Acts p 127 s (⟨0, 0, 0, 0, true, false⟩, s.went s.next) := by
  intro w h
  have hb0 := below_box w zeroRes
  have hO := h.off (Nat.le_refl w.heap.size)
  have CG := goOn_hw p s _ (h.below hb0)
  have T1 : Hid (Tn p w _) := Tn.below hb0
  have N1 : Hid ((w.alloc zeroRes).heap[w.heap.size]? = some zeroRes) := C.heap_alloc_at w zeroRes
  clear h hb0
  dsimp only [Rs.val, resV, okV] at *
  go_enter Tryz.func127, Tryz.ntmps127
  go_wp2_with fail
  refine CG.mono ?_
  rintro e w3 ⟨rfl, h4, t4⟩
  have H4 : Hid (HW w3 p (s.went s.next)) := h4
  have T4 : Hid (Tn p w w3) := T1.out.trans t4
  obtain ⟨z0, z1, z2, z3, z4, z5, f0, f1, f2, f3, f4, f5, hl⟩ := res_cells (w := w3) (t4.keepN hO N1.out)
  have hne : ¬ w.heap.size = w3.heap.size := by omega
  have hne' : ¬ w3.heap.size = w.heap.size := by omega
  clear CG h4 t4 T1 N1
  dsimp only [okV, resV]
  go_wp2_with fail
  refine bodyPost_ret (v := _) ?h1 rfl ⟨rfl, (H4.out.toN hO (grown_set6 _ _ _ _ _ _ _ _)).below (below_box _ _), (T4.out.toN (Nat.le_refl _) (grown_set6 _ _ _ _ _ _ _ _)).trans (Tn.below (below_box _ _))⟩
  case h1 => simp [results, Tryz.results127, go_sem, z0, z1, z2, z3, z4, z5, hl]

set_option maxHeartbeats 3200000 in
theorem written_hw (p : Pl) (s : Hs) (was : Int) (w : World) (h : HW w p s) : Calls Tryz.prog 141 #[.pointer (some ⟨p.S, 0, none⟩), .int .u64 was] w fun e w' => e = .returned (.tuple #[.int .u64 (s.wrV was), .bool s.wrB]) ∧ Below w.heap.size w w' := by
  have c21 := h.cOp
  have c23 := h.cR1
  have l := h.lt.1
  have CR := register_hw p s s.r1 h.ok.r1 w h
  have e1 : ((s.r1 : Int) != 0) = (s.r1 != 0) := by rw [Bool.eq_iff_iff]; simp
  clear h
  unfold Hs.wrV Hs.wrB
  by_cases h47 : s.op = 47
  · rw [if_pos h47, if_pos (.inl h47)]
    rw [h47] at c21
    go_enter Tryz.func141, Tryz.ntmps141
    go_wp2_with fail
    refine CR.mono ?_
    rintro e w ⟨rfl, rfl⟩
    go_wp2_with fail
    go_quiet (fail)
    go_wp2_with fail
    go_ret2
    exact ⟨rfl, C.below_drewN (Below.refl _ _) _⟩
  · by_cases h48 : s.op = 48
    · rw [if_neg h47, if_pos h48, if_pos (.inr h48)]
      rw [h48] at c21
      go_enter Tryz.func141, Tryz.ntmps141
      go_wp2_with fail
      refine CR.mono ?_
      rintro e w ⟨rfl, rfl⟩
      go_wp2_with fail
      go_quiet (fail)
      go_wp2_with fail
      go_ret2
      exact ⟨rfl, C.below_drewN (Below.refl _ _) _⟩
    · rw [if_neg h47, if_neg h48, if_neg (by omega)]
      go_enter Tryz.func141, Tryz.ntmps141
      go_wp2_with fail
      refine CR.mono ?_
      rintro e w ⟨rfl, rfl⟩
      go_wp2_with fail
      go_ret2
      exact ⟨rfl, Below.refl _ _⟩

theorem md_one {m : Int} (h : m = 1) : some (Value.int .i64 m) = some (Value.int .i64 1) := by rw [h]
/-- what write does: whether translations are to be forgotten, whether Compare was written, an error; the registers -/
def wrF (n : Nat) : Bool := if C.leftE n = 17 then false else decide ((n : Int) = 8)
def wrT (n : Nat) : Bool := C.leftE n == 17
def wrE (n : Nat) : Int := if C.leftE n = 17 then 0 else C.leftE n
def wrR (R : Nat → Int) (n : Nat) (v : Int) : Nat → Int := if C.leftE n = 0 then C.upd R n (C.leftP R n v) else if C.leftE n = 17 then C.upd R n v else R
set_option maxHeartbeats 6400000 in
theorem write_hw (p : Pl) (s : Hs) (n : Nat) (hn : n < 12) (him : s.im = n) (hmd : s.md = 1) (v : Int) (hv : C.U v) (w : World) (h : HW w p s) : Calls Tryz.prog 142 #[.pointer (some ⟨p.S, 0, none⟩), .int .u64 v] w fun e w' => e = .returned (.tuple #[.bool (wrF n), .bool (wrT n), .int .i64 (wrE n)]) ∧ HW w' p { s with R := wrR s.R n v } ∧ Tn p w w' := by
  have c25 := h.cIm
  have c18 := h.cF
  have c17 := h.cMd
  rw [him] at c25
  rw [hmd] at c17
  have l := h.lt.1
  have CW := C.write_ff p.F s.R n hn v hv w.drew h.drew.ff
  have H : Hid (HW w p s) := h
  have hc : C.leftE n = 0 ∨ C.leftE n = 17 ∨ C.leftE n = 14 := by
    unfold C.leftE
    split
    · exact .inl rfl
    · split
      · exact .inr (.inl rfl)
      · exact .inr (.inr rfl)
  clear h
  unfold wrF wrT wrE wrR
  rcases hc with hc | hc | hc
  · rw [hc] at CW ⊢
    simp only [Int.reduceEq, if_true, if_false, Int.reduceBEq] at CW ⊢
    obtain ⟨b8, hb8⟩ : ∃ b8, decide ((n : Int) = 8) = b8 := ⟨_, rfl⟩
    have hb9 : ((n : Int) == 8) = b8 := by rw [← hb8]; rfl
    rw [hb8]
    go_enter Tryz.func142, Tryz.ntmps142
    go_wp2_with fail
    go_cut [6] (fun v9 wx => v9 = .int .i64 0 ∧ Hid (HW wx p { s with R := C.upd s.R n (C.leftP s.R n v) } ∧ Tn p w wx))
    case first =>
      go_region_held2 (fun w'' => w''.cell? ⟨p.S, 18, none⟩ = some (.pointer (some ⟨p.F, 0, none⟩)) ∧ w''.cell? ⟨p.S, 17, none⟩ = some (.int .i64 1)) (go_keep)
        ((go_at_call 147; refine CW.mono ?_; rintro e x1 ⟨rfl, fx, gx⟩; have HX1 : Hid (HW x1 p { s with R := C.upd s.R n (C.leftP s.R n v) } ∧ Tn p w x1) := ⟨H.out.drew.toF fx gx, (Tn.refl p w).drew.trans (Tn.F gx)⟩; have k18 := HX1.out.1.cF; have k17 : x1.cell? ⟨p.S, 17, none⟩ = some (.int .i64 1) := HX1.out.1.cMd.trans (md_one hmd); clear fx gx))
      all_goals
        go_wp2_with fail
        go_meet
        exact ⟨rfl, HX1.out⟩
    case rest =>
      obtain ⟨rfl, hH⟩ := hcut
      clear CW H c25 c18 c17 l
      go_wp2_with fail
      refine bodyPost_ret (v := .tuple #[.bool b8, .bool false, .int .i64 0]) (by simp [results, Tryz.results142, go_sem]) rfl ⟨rfl, hH.out⟩
  · rw [hc] at CW ⊢
    simp only [Int.reduceEq, if_true, if_false, Int.reduceBEq] at CW ⊢
    go_enter Tryz.func142, Tryz.ntmps142
    go_wp2_with fail
    go_cut [6] (fun v9 wx => v9 = .int .i64 17 ∧ Hid (HW wx p s ∧ Tn p w wx))
    case first =>
      go_region_held2 (fun w'' => w''.cell? ⟨p.S, 18, none⟩ = some (.pointer (some ⟨p.F, 0, none⟩)) ∧ w''.cell? ⟨p.S, 17, none⟩ = some (.int .i64 1)) (go_keep)
        ((go_at_call 147; refine CW.mono ?_; rintro e x1 ⟨rfl, fx, gx⟩; have HX1 : Hid (HW x1 p s ∧ Tn p w x1) := ⟨H.out.drew.toF fx gx, (Tn.refl p w).drew.trans (Tn.F gx)⟩; have k18 := HX1.out.1.cF; have k17 : x1.cell? ⟨p.S, 17, none⟩ = some (.int .i64 1) := HX1.out.1.cMd.trans (md_one hmd); clear fx gx))
      all_goals
        go_wp2_with fail
        go_meet
        exact ⟨rfl, HX1.out⟩
    case rest =>
      obtain ⟨rfl, hH⟩ := hcut
      have c18' := hH.out.1.cF
      have l' := hH.out.1.lt.1
      have CS := C.set_ff p.F s.R n hn v hv wc hH.out.1.ff
      clear CW H c25 c18 c17 l
      go_wp2_with fail
      refine CS.mono ?_
      rintro e w2 ⟨rfl, f2, g2⟩
      have H2 : Hid (HW w2 p { s with R := C.upd s.R n v } ∧ Tn p w w2) := ⟨hH.out.1.toF f2 g2, hH.out.2.trans (Tn.F g2)⟩
      clear CS f2 g2 hH c18' l'
      go_wp2_with fail
      refine bodyPost_ret (v := .tuple #[.bool false, .bool true, .int .i64 0]) (by simp [results, Tryz.results142, go_sem]) rfl ⟨rfl, H2.out⟩
  · have h8 : decide ((n : Int) = 8) = false := by
      have : n ≠ 8 := by rintro rfl; revert hc; decide
      simp; omega
    have h8' : ((n : Int) == 8) = false := h8
    rw [hc] at CW ⊢
    rw [h8]
    simp only [Int.reduceEq, if_false, Int.reduceBEq] at CW ⊢
    go_enter Tryz.func142, Tryz.ntmps142
    go_wp2_with fail
    go_cut [6] (fun v9 wx => v9 = .int .i64 14 ∧ Hid (HW wx p s ∧ Tn p w wx))
    case first =>
      go_region_held2 (fun w'' => w''.cell? ⟨p.S, 18, none⟩ = some (.pointer (some ⟨p.F, 0, none⟩)) ∧ w''.cell? ⟨p.S, 17, none⟩ = some (.int .i64 1)) (go_keep)
        ((go_at_call 147; refine CW.mono ?_; rintro e x1 ⟨rfl, fx, gx⟩; have HX1 : Hid (HW x1 p s ∧ Tn p w x1) := ⟨H.out.drew.toF fx gx, (Tn.refl p w).drew.trans (Tn.F gx)⟩; have k18 := HX1.out.1.cF; have k17 : x1.cell? ⟨p.S, 17, none⟩ = some (.int .i64 1) := HX1.out.1.cMd.trans (md_one hmd); clear fx gx))
      all_goals
        go_wp2_with fail
        go_meet
        exact ⟨rfl, HX1.out⟩
    case rest =>
      obtain ⟨rfl, hH⟩ := hcut
      clear CW H c25 c18 c17 l
      go_wp2_with fail
      refine bodyPost_ret (v := .tuple #[.bool false, .bool false, .int .i64 14]) (by simp [results, Tryz.results142, go_sem]) rfl ⟨rfl, hH.out⟩
end Go.Proofs.YtkckobbedpccfaaGreatDoor
namespace Go.Proofs.YtkckobbedpccfaaGreatDoor
open Go.RowKit
set_option linter.unusedVariables false
set_option maxRecDepth 100000


set_option maxHeartbeats 6400000 in
theorem ctl_none (p : Pl) (s : Hs) (hr : ¬ C.reachP s.im s.md = 0) : Acts p 128 s s.illP := by
  intro w h
  have hb0 := below_box w zeroRes
  have h1 := h.below hb0
  have hO := h.off (Nat.le_refl w.heap.size)
  have CR := fun w' (h' : HW w' p s) => read_ff p.F s.R s.im s.md w' h'.ff
  have hq : (C.reachP s.im s.md != 0) = true := bne_iff_ne.2 hr
  have CF := fun w' h' => illegal_hw p s w' h'
  generalize C.reachP s.im s.md = er at *
  generalize readN s.R s.im s.md = was at *
  clear hr
  have T0 : Hid (Tn p w _) := Tn.below hb0
  have N0 : Hid ((w.alloc zeroRes).heap[w.heap.size]? = some zeroRes) := C.heap_alloc_at w zeroRes
  clear h hb0
  dsimp only [Rs.val, resV, Rs.ok, okV, Hs.told, Hs.illP] at *
  go_enter Tryz.func128, Tryz.ntmps128
  go_wp2_with fail
  generalize hx0 : w.alloc (.cells #[.int .i64 0, .int .i64 0, .int .u64 0, .int .u64 0, .bool false, .bool false] 57) = x at *
  have hx1 : w.alloc zeroRes = x := hx0
  rw [hx1] at T0 N0 h1
  have HX : Hid (HW x p s) := h1
  have c18 := h1.cF
  have c25 := h1.cIm
  have c17 := h1.cMd
  have l1 := h1.lt.1
  have CR' := CR x.drew h1.drew
  clear CR h1 hx0 hx1
  go_cut [3, 4] (fun v3 v4 wx => v3 = .int .u64 was ∧ v4 = .int .i64 er ∧ Hid (Below x.heap.size x wx))
  case first =>
    go_region_held2 (fun w'' => w''.cell? ⟨p.S, 18, none⟩ = some (.pointer (some ⟨p.F, 0, none⟩)) ∧ w''.cell? ⟨p.S, 25, none⟩ = some (.int .i64 s.im) ∧ w''.cell? ⟨p.S, 17, none⟩ = some (.int .i64 s.md)) (go_keep)
      ((go_at_call 46; refine CR'.mono ?_; rintro e x1 ⟨rfl, hx⟩; subst hx))
    all_goals
      go_wp2_with fail
      go_meet
      exact ⟨rfl, rfl, (Below.refl _ x).drew⟩
  case rest =>
  obtain ⟨rfl, rfl, hH⟩ := hcut
  have HC : Hid (HW wc p s) := HX.out.below hH.out
  have T1 : Hid (Tn p w wc) := T0.out.trans (Tn.below hH.out)
  have N1 : Hid (wc.heap[w.heap.size]? = some zeroRes) := keepB N0.out hH.out
  clear hH HX T0 N0 CR' c18 c25 c17 l1
  have CF' := CF wc HC.out
  clear CF HC
  go_wp2_with fail
  refine CF'.mono ?_
  rintro e w9 ⟨rfl, h9, t9⟩
  have H9 : Hid (HW w9 p (s.trapped 2 s.wd)) := h9
  have T9 : Hid (Tn p w w9) := T1.out.trans t9
  obtain ⟨z0, z1, z2, z3, z4, z5, f0, f1, f2, f3, f4, f5, hl⟩ := res_cells (w := w9) (t9.keepN hO N1.out)
  clear CF' h9 t9 T1 N1
  dsimp only [resV]
  go_wp2_with fail
  refine bodyPost_ret (v := _) ?h1 rfl ⟨rfl, H9.out.toN hO (grown_set6 _ _ _ _ _ _ _ _), T9.out.toN (Nat.le_refl _) (grown_set6 _ _ _ _ _ _ _ _)⟩
  case h1 => simp [results, Tryz.results128, go_sem, z0, z1, z2, z3, z4, z5]

theorem wrV_U {s : Hs} (h : s.Ok) (was : Int) : C.U (s.wrV was) := by
  unfold Hs.wrV
  split
  · exact C.bits_U _ _ _
  · split
    · exact C.bits_U _ _ _
    · exact h.reg s.r1 h.r1

set_option maxHeartbeats 6400000 in
theorem ctl_read (p : Pl) (s : Hs) (hr : C.reachP s.im s.md = 0) (hb : s.wrB = false) : Acts p 128 s (s.told (s.R s.im.toNat)) := by
  intro w h
  have hb0 := below_box w zeroRes
  have h1 := h.below hb0
  have hO := h.off (Nat.le_refl w.heap.size)
  have CR := fun w' (h' : HW w' p s) => read_ff p.F s.R s.im s.md w' h'.ff
  obtain ⟨n, hn, him⟩ : ∃ n : Nat, n < 12 ∧ s.im = n := by
    unfold C.reachP C.regP at hr
    split at hr
    · split at hr
      · rename_i hx; simp at hx; exact ⟨s.im.toNat, by omega, by omega⟩
      · omega
    · omega
  have hmd : s.md = 1 := by
    unfold C.reachP at hr
    split at hr
    · assumption
    · omega
  have hrn : readN s.R s.im s.md = s.R n := by unfold readN; rw [if_pos hr, him]; simp
  rw [hr, hrn] at CR
  have hRn : C.U (s.R n) := h.ff.rg n hn
  have him' : s.im.toNat = n := by omega
  rw [him']
  have CW := fun w' h' => written_hw p s (s.R n) w' h'
  rw [hb] at CW
  have CF := fun w' h' => tell_hw p s (s.R n) hRn w' h'
  generalize s.wrV (s.R n) = wv at *
  generalize hwas : s.R n = was at *
  clear hr hb hrn him him' hmd
  have T0 : Hid (Tn p w _) := Tn.below hb0
  have N0 : Hid ((w.alloc zeroRes).heap[w.heap.size]? = some zeroRes) := C.heap_alloc_at w zeroRes
  clear h hb0
  dsimp only [Rs.val, resV, Rs.ok, okV, Hs.told, Hs.illP] at *
  go_enter Tryz.func128, Tryz.ntmps128
  go_wp2_with fail
  generalize hx0 : w.alloc (.cells #[.int .i64 0, .int .i64 0, .int .u64 0, .int .u64 0, .bool false, .bool false] 57) = x at *
  have hx1 : w.alloc zeroRes = x := hx0
  rw [hx1] at T0 N0 h1
  have HX : Hid (HW x p s) := h1
  have c18 := h1.cF
  have c25 := h1.cIm
  have c17 := h1.cMd
  have l1 := h1.lt.1
  have CR' := CR x.drew h1.drew
  clear CR h1 hx0 hx1
  go_cut [3, 4] (fun v3 v4 wx => v3 = .int .u64 was ∧ v4 = .int .i64 0 ∧ Hid (Below x.heap.size x wx))
  case first =>
    go_region_held2 (fun w'' => w''.cell? ⟨p.S, 18, none⟩ = some (.pointer (some ⟨p.F, 0, none⟩)) ∧ w''.cell? ⟨p.S, 25, none⟩ = some (.int .i64 s.im) ∧ w''.cell? ⟨p.S, 17, none⟩ = some (.int .i64 s.md)) (go_keep)
      ((go_at_call 46; refine CR'.mono ?_; rintro e x1 ⟨rfl, hx⟩; subst hx))
    all_goals
      go_wp2_with fail
      go_meet
      exact ⟨rfl, rfl, (Below.refl _ x).drew⟩
  case rest =>
  obtain ⟨rfl, rfl, hH⟩ := hcut
  have HC : Hid (HW wc p s) := HX.out.below hH.out
  have T1 : Hid (Tn p w wc) := T0.out.trans (Tn.below hH.out)
  have N1 : Hid (wc.heap[w.heap.size]? = some zeroRes) := keepB N0.out hH.out
  clear hH HX T0 N0 CR' c18 c25 c17 l1
  go_wp2_with fail
  refine (CW wc HC.out).mono ?_
  rintro e w2 ⟨rfl, b2⟩
  have CF' := CF w2 (HC.out.below b2)
  have T2 : Hid (Tn p w w2) := T1.out.trans (Tn.below b2)
  have N2 : Hid (w2.heap[w.heap.size]? = some zeroRes) := keepB N1.out b2
  clear CW CF HC b2 T1 N1
  go_wp2_with fail
  refine CF'.mono ?_
  rintro e w9 ⟨rfl, h9, t9⟩
  have H9 : Hid (HW w9 p ((s.puts was).went s.next)) := h9
  have T9 : Hid (Tn p w w9) := T2.out.trans t9
  obtain ⟨z0, z1, z2, z3, z4, z5, f0, f1, f2, f3, f4, f5, hl⟩ := res_cells (w := w9) (t9.keepN hO N2.out)
  have hne : ¬ w.heap.size = w9.heap.size := by omega
  have hne' : ¬ w9.heap.size = w.heap.size := by omega
  clear CF' h9 t9 T2 N2
  go_wp2_with fail
  refine bodyPost_ret (v := _) ?h1 rfl ⟨rfl, (H9.out.toN hO (grown_set6 _ _ _ _ _ _ _ _)).below (below_box _ _), (T9.out.toN (Nat.le_refl _) (grown_set6 _ _ _ _ _ _ _ _)).trans (Tn.below (below_box _ _))⟩
  case h1 => simp [results, Tryz.results128, go_sem, z0, z1, z2, z3, z4, z5, hl]

set_option maxHeartbeats 6400000 in
theorem ctl_write (p : Pl) (s : Hs) (hr : C.reachP s.im s.md = 0) (hb : s.wrB = true) (hl : C.leftE s.im.toNat = 0) : Acts p 128 s (⟨0, 0, 0, 0, s.im == 8, false⟩, (({ s with R := C.upd s.R s.im.toNat (C.leftP s.R s.im.toNat (s.wrV (s.R s.im.toNat))) } : Hs).puts (s.R s.im.toNat)).went s.next) := by
  intro w h
  have hb0 := below_box w zeroRes
  have h1 := h.below hb0
  have hO := h.off (Nat.le_refl w.heap.size)
  have CR := fun w' (h' : HW w' p s) => read_ff p.F s.R s.im s.md w' h'.ff
  obtain ⟨n, hn, him⟩ : ∃ n : Nat, n < 12 ∧ s.im = n := by
    unfold C.reachP C.regP at hr
    split at hr
    · split at hr
      · rename_i hx; simp at hx; exact ⟨s.im.toNat, by omega, by omega⟩
      · omega
    · omega
  have hmd : s.md = 1 := by
    unfold C.reachP at hr
    split at hr
    · assumption
    · omega
  have hrn : readN s.R s.im s.md = s.R n := by unfold readN; rw [if_pos hr, him]; simp
  rw [hr, hrn] at CR
  have hRn : C.U (s.R n) := h.ff.rg n hn
  have him' : s.im.toNat = n := by omega
  rw [him'] at hl ⊢
  have CW := fun w' h' => written_hw p s (s.R n) w' h'
  rw [hb] at CW
  have CX := fun w' h' => write_hw p s n hn him hmd (s.wrV (s.R n)) (wrV_U h.ok _) w' h'
  unfold wrF wrT wrE wrR at CX
  rw [hl] at CX
  simp only [Int.reduceEq, if_true, if_false, Int.reduceBEq] at CX
  have hs8 : (s.im == 8) = decide ((n : Int) = 8) := by rw [him]; rfl
  rw [hs8]
  have CF := fun w' h' => tell_hw p { s with R := C.upd s.R n (C.leftP s.R n (s.wrV (s.R n))) } (s.R n) hRn w' h'
  generalize decide ((n : Int) = 8) = b8 at *
  generalize s.wrV (s.R n) = wv at *
  obtain ⟨was, hwas⟩ : ∃ was, s.R n = was := ⟨_, rfl⟩
  rw [hwas] at CR CW CF hRn ⊢
  clear hr hb hrn hl hwas him him' hmd
  have T0 : Hid (Tn p w _) := Tn.below hb0
  have N0 : Hid ((w.alloc zeroRes).heap[w.heap.size]? = some zeroRes) := C.heap_alloc_at w zeroRes
  clear h hb0
  dsimp only [Rs.val, resV, Rs.ok, okV, Hs.told, Hs.illP] at *
  go_enter Tryz.func128, Tryz.ntmps128
  go_wp2_with fail
  generalize hx0 : w.alloc (.cells #[.int .i64 0, .int .i64 0, .int .u64 0, .int .u64 0, .bool false, .bool false] 57) = x at *
  have hx1 : w.alloc zeroRes = x := hx0
  rw [hx1] at T0 N0 h1
  have HX : Hid (HW x p s) := h1
  have c18 := h1.cF
  have c25 := h1.cIm
  have c17 := h1.cMd
  have l1 := h1.lt.1
  have CR' := CR x.drew h1.drew
  clear CR h1 hx0 hx1
  go_cut [3, 4] (fun v3 v4 wx => v3 = .int .u64 was ∧ v4 = .int .i64 0 ∧ Hid (Below x.heap.size x wx))
  case first =>
    go_region_held2 (fun w'' => w''.cell? ⟨p.S, 18, none⟩ = some (.pointer (some ⟨p.F, 0, none⟩)) ∧ w''.cell? ⟨p.S, 25, none⟩ = some (.int .i64 s.im) ∧ w''.cell? ⟨p.S, 17, none⟩ = some (.int .i64 s.md)) (go_keep)
      ((go_at_call 46; refine CR'.mono ?_; rintro e x1 ⟨rfl, hx⟩; subst hx))
    all_goals
      go_wp2_with fail
      go_meet
      exact ⟨rfl, rfl, (Below.refl _ x).drew⟩
  case rest =>
  obtain ⟨rfl, rfl, hH⟩ := hcut
  have HC : Hid (HW wc p s) := HX.out.below hH.out
  have T1 : Hid (Tn p w wc) := T0.out.trans (Tn.below hH.out)
  have N1 : Hid (wc.heap[w.heap.size]? = some zeroRes) := keepB N0.out hH.out
  clear hH HX T0 N0 CR' c18 c25 c17 l1
  go_wp2_with fail
  refine (CW wc HC.out).mono ?_
  rintro e w2 ⟨rfl, b2⟩
  have CX' := CX w2 (HC.out.below b2)
  have T2 : Hid (Tn p w w2) := T1.out.trans (Tn.below b2)
  have N2 : Hid (w2.heap[w.heap.size]? = some zeroRes) := keepB N1.out b2
  clear CW CX HC b2 T1 N1
  go_wp2_with fail
  refine CX'.mono ?_
  rintro e w3 ⟨rfl, h3, t3⟩
  have CF' := CF w3 h3
  have T3 : Hid (Tn p w w3) := T2.out.trans t3
  have N3 : Hid (w3.heap[w.heap.size]? = some zeroRes) := t3.keepN hO N2.out
  clear CX' CF h3 t3 T2 N2
  go_wp2_with fail
  refine CF'.mono ?_
  rintro e w9 ⟨rfl, h9, t9⟩
  have H9 : Hid (HW w9 p ((({ s with R := C.upd s.R n (C.leftP s.R n wv) } : Hs).puts was).went s.next)) := h9
  have T9 : Hid (Tn p w w9) := T3.out.trans t9
  obtain ⟨z0, z1, z2, z3, z4, z5, f0, f1, f2, f3, f4, f5, hl⟩ := res_cells (w := w9) (t9.keepN hO N3.out)
  have hne : ¬ w.heap.size = w9.heap.size := by omega
  have hne' : ¬ w9.heap.size = w.heap.size := by omega
  clear CF' h9 t9 T3 N3
  go_wp2_with fail
  refine bodyPost_ret (v := _) ?h1 rfl ⟨rfl, (H9.out.toN hO (grown_set6 _ _ _ _ _ _ _ _)).below (below_box _ _), (T9.out.toN (Nat.le_refl _) (grown_set6 _ _ _ _ _ _ _ _)).trans (Tn.below (below_box _ _))⟩
  case h1 => simp [results, Tryz.results128, go_sem, z0, z1, z2, z3, z4, z5, hl]

set_option maxHeartbeats 6400000 in
theorem ctl_timer (p : Pl) (s : Hs) (hr : C.reachP s.im s.md = 0) (hb : s.wrB = true) (hl : C.leftE s.im.toNat = 17) : Acts p 128 s (⟨0, 0, 0, 0, false, true⟩, (({ s with R := C.upd s.R s.im.toNat (s.wrV (s.R s.im.toNat)) } : Hs).puts (s.R s.im.toNat)).went s.next) := by
  intro w h
  have hb0 := below_box w zeroRes
  have h1 := h.below hb0
  have hO := h.off (Nat.le_refl w.heap.size)
  have CR := fun w' (h' : HW w' p s) => read_ff p.F s.R s.im s.md w' h'.ff
  obtain ⟨n, hn, him⟩ : ∃ n : Nat, n < 12 ∧ s.im = n := by
    unfold C.reachP C.regP at hr
    split at hr
    · split at hr
      · rename_i hx; simp at hx; exact ⟨s.im.toNat, by omega, by omega⟩
      · omega
    · omega
  have hmd : s.md = 1 := by
    unfold C.reachP at hr
    split at hr
    · assumption
    · omega
  have hrn : readN s.R s.im s.md = s.R n := by unfold readN; rw [if_pos hr, him]; simp
  rw [hr, hrn] at CR
  have hRn : C.U (s.R n) := h.ff.rg n hn
  have him' : s.im.toNat = n := by omega
  rw [him'] at hl ⊢
  have CW := fun w' h' => written_hw p s (s.R n) w' h'
  rw [hb] at CW
  have CX := fun w' h' => write_hw p s n hn him hmd (s.wrV (s.R n)) (wrV_U h.ok _) w' h'
  unfold wrF wrT wrE wrR at CX
  rw [hl] at CX
  simp only [Int.reduceEq, if_true, if_false, Int.reduceBEq] at CX
  have CF := fun w' h' => tell_hw p { s with R := C.upd s.R n (s.wrV (s.R n)) } (s.R n) hRn w' h'
  generalize s.wrV (s.R n) = wv at *
  obtain ⟨was, hwas⟩ : ∃ was, s.R n = was := ⟨_, rfl⟩
  rw [hwas] at CR CW CF hRn ⊢
  clear hr hb hrn hl hwas him him' hmd
  have T0 : Hid (Tn p w _) := Tn.below hb0
  have N0 : Hid ((w.alloc zeroRes).heap[w.heap.size]? = some zeroRes) := C.heap_alloc_at w zeroRes
  clear h hb0
  dsimp only [Rs.val, resV, Rs.ok, okV, Hs.told, Hs.illP] at *
  go_enter Tryz.func128, Tryz.ntmps128
  go_wp2_with fail
  generalize hx0 : w.alloc (.cells #[.int .i64 0, .int .i64 0, .int .u64 0, .int .u64 0, .bool false, .bool false] 57) = x at *
  have hx1 : w.alloc zeroRes = x := hx0
  rw [hx1] at T0 N0 h1
  have HX : Hid (HW x p s) := h1
  have c18 := h1.cF
  have c25 := h1.cIm
  have c17 := h1.cMd
  have l1 := h1.lt.1
  have CR' := CR x.drew h1.drew
  clear CR h1 hx0 hx1
  go_cut [3, 4] (fun v3 v4 wx => v3 = .int .u64 was ∧ v4 = .int .i64 0 ∧ Hid (Below x.heap.size x wx))
  case first =>
    go_region_held2 (fun w'' => w''.cell? ⟨p.S, 18, none⟩ = some (.pointer (some ⟨p.F, 0, none⟩)) ∧ w''.cell? ⟨p.S, 25, none⟩ = some (.int .i64 s.im) ∧ w''.cell? ⟨p.S, 17, none⟩ = some (.int .i64 s.md)) (go_keep)
      ((go_at_call 46; refine CR'.mono ?_; rintro e x1 ⟨rfl, hx⟩; subst hx))
    all_goals
      go_wp2_with fail
      go_meet
      exact ⟨rfl, rfl, (Below.refl _ x).drew⟩
  case rest =>
  obtain ⟨rfl, rfl, hH⟩ := hcut
  have HC : Hid (HW wc p s) := HX.out.below hH.out
  have T1 : Hid (Tn p w wc) := T0.out.trans (Tn.below hH.out)
  have N1 : Hid (wc.heap[w.heap.size]? = some zeroRes) := keepB N0.out hH.out
  clear hH HX T0 N0 CR' c18 c25 c17 l1
  go_wp2_with fail
  refine (CW wc HC.out).mono ?_
  rintro e w2 ⟨rfl, b2⟩
  have CX' := CX w2 (HC.out.below b2)
  have T2 : Hid (Tn p w w2) := T1.out.trans (Tn.below b2)
  have N2 : Hid (w2.heap[w.heap.size]? = some zeroRes) := keepB N1.out b2
  clear CW CX HC b2 T1 N1
  go_wp2_with fail
  refine CX'.mono ?_
  rintro e w3 ⟨rfl, h3, t3⟩
  have CF' := CF w3 h3
  have T3 : Hid (Tn p w w3) := T2.out.trans t3
  have N3 : Hid (w3.heap[w.heap.size]? = some zeroRes) := t3.keepN hO N2.out
  clear CX' CF h3 t3 T2 N2
  go_wp2_with fail
  refine CF'.mono ?_
  rintro e w9 ⟨rfl, h9, t9⟩
  have H9 : Hid (HW w9 p ((({ s with R := C.upd s.R n wv } : Hs).puts was).went s.next)) := h9
  have T9 : Hid (Tn p w w9) := T3.out.trans t9
  obtain ⟨z0, z1, z2, z3, z4, z5, f0, f1, f2, f3, f4, f5, hl⟩ := res_cells (w := w9) (t9.keepN hO N3.out)
  have hne : ¬ w.heap.size = w9.heap.size := by omega
  have hne' : ¬ w9.heap.size = w.heap.size := by omega
  clear CF' h9 t9 T3 N3
  go_wp2_with fail
  refine bodyPost_ret (v := _) ?h1 rfl ⟨rfl, (H9.out.toN hO (grown_set6 _ _ _ _ _ _ _ _)).below (below_box _ _), (T9.out.toN (Nat.le_refl _) (grown_set6 _ _ _ _ _ _ _ _)).trans (Tn.below (below_box _ _))⟩
  case h1 => simp [results, Tryz.results128, go_sem, z0, z1, z2, z3, z4, z5, hl]

set_option maxHeartbeats 6400000 in
theorem ctl_not (p : Pl) (s : Hs) (hr : C.reachP s.im s.md = 0) (hb : s.wrB = true) (hl : ¬ C.leftE s.im.toNat = 0) (hl2 : ¬ C.leftE s.im.toNat = 17) : Acts p 128 s s.illP := by
  intro w h
  have hb0 := below_box w zeroRes
  have h1 := h.below hb0
  have hO := h.off (Nat.le_refl w.heap.size)
  have CR := fun w' (h' : HW w' p s) => read_ff p.F s.R s.im s.md w' h'.ff
  obtain ⟨n, hn, him⟩ : ∃ n : Nat, n < 12 ∧ s.im = n := by
    unfold C.reachP C.regP at hr
    split at hr
    · split at hr
      · rename_i hx; simp at hx; exact ⟨s.im.toNat, by omega, by omega⟩
      · omega
    · omega
  have hmd : s.md = 1 := by
    unfold C.reachP at hr
    split at hr
    · assumption
    · omega
  have hrn : readN s.R s.im s.md = s.R n := by unfold readN; rw [if_pos hr, him]; simp
  rw [hr, hrn] at CR
  have hRn : C.U (s.R n) := h.ff.rg n hn
  have him' : s.im.toNat = n := by omega
  rw [him'] at hl hl2
  have CW := fun w' h' => written_hw p s (s.R n) w' h'
  rw [hb] at CW
  have CX := fun w' h' => write_hw p s n hn him hmd (s.wrV (s.R n)) (wrV_U h.ok _) w' h'
  unfold wrF wrT wrE wrR at CX
  rw [if_neg hl2, if_neg hl2, if_neg hl, if_neg hl2] at CX
  have h17 : (C.leftE n == 17) = false := beq_eq_false_iff_ne.2 hl2
  rw [h17] at CX
  have hq : (C.leftE n != 0) = true := bne_iff_ne.2 hl
  have CF := fun w' h' => illegal_hw p s w' h'
  generalize C.leftE n = er at *
  generalize decide ((n : Int) = 8) = b8 at *
  generalize s.wrV (s.R n) = wv at *
  obtain ⟨was, hwas⟩ : ∃ was, s.R n = was := ⟨_, rfl⟩
  rw [hwas] at CR CW hRn
  clear hr hb hrn hl hl2 hwas h17 him him' hmd
  have T0 : Hid (Tn p w _) := Tn.below hb0
  have N0 : Hid ((w.alloc zeroRes).heap[w.heap.size]? = some zeroRes) := C.heap_alloc_at w zeroRes
  clear h hb0
  dsimp only [Rs.val, resV, Rs.ok, okV, Hs.told, Hs.illP] at *
  go_enter Tryz.func128, Tryz.ntmps128
  go_wp2_with fail
  generalize hx0 : w.alloc (.cells #[.int .i64 0, .int .i64 0, .int .u64 0, .int .u64 0, .bool false, .bool false] 57) = x at *
  have hx1 : w.alloc zeroRes = x := hx0
  rw [hx1] at T0 N0 h1
  have HX : Hid (HW x p s) := h1
  have c18 := h1.cF
  have c25 := h1.cIm
  have c17 := h1.cMd
  have l1 := h1.lt.1
  have CR' := CR x.drew h1.drew
  clear CR h1 hx0 hx1
  go_cut [3, 4] (fun v3 v4 wx => v3 = .int .u64 was ∧ v4 = .int .i64 0 ∧ Hid (Below x.heap.size x wx))
  case first =>
    go_region_held2 (fun w'' => w''.cell? ⟨p.S, 18, none⟩ = some (.pointer (some ⟨p.F, 0, none⟩)) ∧ w''.cell? ⟨p.S, 25, none⟩ = some (.int .i64 s.im) ∧ w''.cell? ⟨p.S, 17, none⟩ = some (.int .i64 s.md)) (go_keep)
      ((go_at_call 46; refine CR'.mono ?_; rintro e x1 ⟨rfl, hx⟩; subst hx))
    all_goals
      go_wp2_with fail
      go_meet
      exact ⟨rfl, rfl, (Below.refl _ x).drew⟩
  case rest =>
  obtain ⟨rfl, rfl, hH⟩ := hcut
  have HC : Hid (HW wc p s) := HX.out.below hH.out
  have T1 : Hid (Tn p w wc) := T0.out.trans (Tn.below hH.out)
  have N1 : Hid (wc.heap[w.heap.size]? = some zeroRes) := keepB N0.out hH.out
  clear hH HX T0 N0 CR' c18 c25 c17 l1
  go_wp2_with fail
  refine (CW wc HC.out).mono ?_
  rintro e w2 ⟨rfl, b2⟩
  have CX' := CX w2 (HC.out.below b2)
  have T2 : Hid (Tn p w w2) := T1.out.trans (Tn.below b2)
  have N2 : Hid (w2.heap[w.heap.size]? = some zeroRes) := keepB N1.out b2
  clear CW CX HC b2 T1 N1
  go_wp2_with fail
  refine CX'.mono ?_
  rintro e w3 ⟨rfl, h3, t3⟩
  have CF' := CF w3 h3
  have T3 : Hid (Tn p w w3) := T2.out.trans t3
  have N3 : Hid (w3.heap[w.heap.size]? = some zeroRes) := t3.keepN hO N2.out
  clear CX' CF h3 t3 T2 N2
  go_wp2_with fail
  refine CF'.mono ?_
  rintro e w9 ⟨rfl, h9, t9⟩
  have H9 : Hid (HW w9 p (s.trapped 2 s.wd)) := h9
  have T9 : Hid (Tn p w w9) := T3.out.trans t9
  obtain ⟨z0, z1, z2, z3, z4, z5, f0, f1, f2, f3, f4, f5, hl⟩ := res_cells (w := w9) (t9.keepN hO N3.out)
  clear CF' h9 t9 T3 N3
  dsimp only [resV]
  go_wp2_with fail
  refine bodyPost_ret (v := _) ?h1 rfl ⟨rfl, H9.out.toN hO (grown_set6 _ _ _ _ _ _ _ _), T9.out.toN (Nat.le_refl _) (grown_set6 _ _ _ _ _ _ _ _)⟩
  case h1 => simp [results, Tryz.results128, go_sem, z0, z1, z2, z3, z4, z5]
theorem ctl_hw (p : Pl) (s : Hs) : Acts p 128 s s.ctlP := by
  unfold Hs.ctlP
  by_cases hr : C.reachP s.im s.md = 0
  · rw [if_pos hr]
    cases hb : s.wrB
    · exact ctl_read p s hr hb
    · simp only [if_true]
      by_cases hl : C.leftE s.im.toNat = 0
      · rw [if_pos hl]
        exact ctl_write p s hr hb hl
      · rw [if_neg hl]
        by_cases hl2 : C.leftE s.im.toNat = 17
        · rw [if_pos hl2]
          exact ctl_timer p s hr hb hl2
        · rw [if_neg hl2]
          exact ctl_not p s hr hb hl hl2
  · rw [if_neg hr]
    exact ctl_none p s hr
end Go.Proofs.YtkckobbedpccfaaGreatDoor
