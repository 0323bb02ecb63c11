/-
  Where an instruction loads or stores: the contract of reach.
  What an access loads, and how it stores: the contracts of take and store.
  How an access stores: the contract of store; what take tells, by what it comes to.
  What the actions do: what all of them share.
-/
import Derived.Test.YtkckobbedpccfaaGreatDoorQRh1
import Derived.Test.YtkckobbedpccfaaGreatDoorQRh2
import Derived.Test.YtkckobbedpccfaaGreatDoorQRh3
import Derived.Test.YtkckobbedpccfaaGreatDoorQHe
namespace Go.Proofs.YtkckobbedpccfaaGreatDoor
open Go.RowKit
set_option linter.unusedVariables false
set_option maxRecDepth 100000

theorem kindC_ne (k : Int) {a b : Int} (ha : a ≠ 0) (hb : b ≠ 0) : kindC k a b ≠ 0 := by unfold kindC; split <;> assumption
theorem reach_refuse (p : Pl) (T : TT) (hT : TransOK p T) (s : Hs) (k : Int) (hz : (s.rch T k).none = false) (w : World) (h : HW w p s) : Calls Tryz.prog 135 #[.pointer (some ⟨p.S, 0, none⟩), .int .i64 k] w fun e w' => e = .returned (.tuple #[plV 0 0 0 0, trV (s.rch T k).c (s.rch T k).v (s.rch T k).g]) ∧ Below w.heap.size w w' := by
  unfold Hs.rch at *
  by_cases ha : s.asked % widthP s.op = 0
  · rw [if_pos ha] at hz ⊢
    exact reach_ref p T hT s k ha hz w h
  · rw [if_neg ha]
    exact reach_unal p T hT s k ha w h
theorem rch_al {T : TT} {s : Hs} {k : Int} (hz : (s.rch T k).none = true) : s.asked % widthP s.op = 0 ∧ s.rch T k = s.tr T s.asked k := by
  unfold Hs.rch at *
  by_cases ha : s.asked % widthP s.op = 0
  · exact ⟨ha, if_pos ha⟩
  · rw [if_neg ha] at hz
    unfold Tr.none at hz
    simp [kindC_ne k (show (4 : Int) ≠ 0 by decide) (show (6 : Int) ≠ 0 by decide)] at hz
theorem reach_found (p : Pl) (T : TT) (hT : TransOK p T) (s : Hs) (k : Int) (hz : (s.rch T k).none = true) (w : World) (h : HW w p s) : Calls Tryz.prog 135 #[.pointer (some ⟨p.S, 0, none⟩), .int .i64 k] w fun e w' => e = .returned (.tuple #[plV s.asked (s.rch T k).pa (widthP s.op) k, trV 0 0 0]) ∧ Below w.heap.size w w' := by
  obtain ⟨ha, e⟩ := rch_al hz
  rw [e] at hz ⊢
  exact reach_yes p T hT s k ha hz w h
theorem rch_U {p : Pl} {T : TT} (hT : TransOK p T) (s : Hs) (k : Int) : C.U (s.rch T k).pa ∧ C.U (s.rch T k).v := by
  have hU : C.U s.asked := wrapU _
  unfold Hs.rch
  split
  · exact ⟨hT.pa _ _ _ _ _ hU, hT.v _ _ _ _ _ hU⟩
  · exact ⟨⟨Int.le_refl 0, by show (0 : Int) < 18446744073709551616; decide⟩, hU⟩
end Go.Proofs.YtkckobbedpccfaaGreatDoor
namespace Go.Proofs.YtkckobbedpccfaaGreatDoor
open Go.RowKit
set_option linter.unusedVariables false
set_option maxRecDepth 100000

theorem mStore (b : Nat) (w : World) : (method 387 39 (.pointer (some ⟨b, 0, none⟩)) "Store").run Tryz.prog w = .ok (169, .pointer (some ⟨b, 0, none⟩)) w := by kernel_rfl
theorem mHold (b : Nat) (w : World) : (method 387 39 (.pointer (some ⟨b, 0, none⟩)) "Hold").run Tryz.prog w = .ok (167, .pointer (some ⟨b, 0, none⟩)) w := by kernel_rfl
theorem mHeld (b : Nat) (w : World) : (method 387 39 (.pointer (some ⟨b, 0, none⟩)) "Held").run Tryz.prog w = .ok (166, .pointer (some ⟨b, 0, none⟩)) w := by kernel_rfl
def zeroPl : Obj := .cells #[.int .u64 0, .int .u64 0, .int .i64 0, .int .i64 0] 193
theorem below_set43 {B : Nat} {W w : World} (h : Below B W w) {b c : Nat} (hb : B ≤ b) (hc : B ≤ c) (v0 v1 v2 v3 u0 u1 u2 : Value) :
    Below B W (((((((w.setCell ⟨b, 0, none⟩ v0).setCell ⟨b, 1, none⟩ v1).setCell ⟨b, 2, none⟩ v2).setCell ⟨b, 3, none⟩ v3).setCell ⟨c, 0, none⟩ u0).setCell ⟨c, 1, none⟩ u1).setCell ⟨c, 2, none⟩ u2) := below_set3 (below_set4 h hb _ _ _ _) hc _ _ _
theorem two_new (w : World) : Below w.heap.size w ((w.alloc zeroPl).alloc zeroTrap) ∧ ((w.alloc zeroPl).alloc zeroTrap).heap[w.heap.size]? = some zeroPl ∧ ((w.alloc zeroPl).alloc zeroTrap).heap[w.heap.size + 1]? = some zeroTrap := by
  have e1 : (w.alloc zeroPl).heap.size = w.heap.size + 1 := by simp
  refine ⟨((Below.refl _ _).alloc (Nat.le_refl _) _).alloc (by simp) _, ?_, ?_⟩
  · rw [C.heap_alloc_past _ _ (by omega)]; exact C.heap_alloc_at w _
  · have := C.heap_alloc_at (w.alloc zeroPl) zeroTrap
    rwa [e1] at this
theorem pl_cells {w : World} {N : Nat} {a b c d : Value} (h : w.heap[N]? = some (.cells #[a, b, c, d] 193 (0, 0))) : w.cell? ⟨N, 0, none⟩ = some a ∧ w.cell? ⟨N, 1, none⟩ = some b ∧ w.cell? ⟨N, 2, none⟩ = some c ∧ w.cell? ⟨N, 3, none⟩ = some d ∧ w.frozen? ⟨N, 0, none⟩ = false ∧ w.frozen? ⟨N, 1, none⟩ = false ∧ w.frozen? ⟨N, 2, none⟩ = false ∧ w.frozen? ⟨N, 3, none⟩ = false ∧ N < w.heap.size := by
  obtain ⟨a0, a1, a2⟩ := cells6' h
  refine ⟨?_, ?_, ?_, ?_, a1 _, a1 _, a1 _, a1 _, a2⟩ <;> rw [a0] <;> rfl
theorem tr_cells {w : World} {N : Nat} {a b c : Value} (h : w.heap[N]? = some (.cells #[a, b, c] 55 (0, 0))) : w.cell? ⟨N, 0, none⟩ = some a ∧ w.cell? ⟨N, 1, none⟩ = some b ∧ w.cell? ⟨N, 2, none⟩ = some c ∧ w.frozen? ⟨N, 0, none⟩ = false ∧ w.frozen? ⟨N, 1, none⟩ = false ∧ w.frozen? ⟨N, 2, none⟩ = false ∧ N < w.heap.size := by
  obtain ⟨a0, a1, a2⟩ := cells6' h
  refine ⟨?_, ?_, ?_, a1 _, a1 _, a1 _, a2⟩ <;> rw [a0] <;> rfl

set_option maxHeartbeats 6400000 in
theorem take_ref (p : Pl) (T : TT) (hT : TransOK p T) (s : Hs) (k : Int) (hz : (s.rch T k).none = false) (w : World) (h : HW w p s) : Calls Tryz.prog 134 #[.pointer (some ⟨p.S, 0, none⟩), .int .i64 k] w fun e w' => e = .returned (.tuple #[plV 0 0 0 0, .int .u64 0, trV (s.rch T k).c (s.rch T k).v (s.rch T k).g]) ∧ Below w.heap.size w w' := by
  obtain ⟨hb0, n0, n1⟩ := two_new w
  have CR := reach_refuse p T hT s k hz _ (h.below hb0)
  generalize s.rch T k = z at *
  have EQ := eq_trap z.c z.v z.g 0 0 0
  have hz' : (z.c == 0 && z.v == 0 && z.g == 0) = false := hz
  rw [hz'] at EQ
  obtain ⟨z4, zc, zv, zg⟩ := z
  clear h hz hz'
  have B0 : Hid (_) := hb0
  have N0 : Hid (_) := n0
  have N1 : Hid (_) := n1
  clear hb0 n0 n1
  unfold plV trV at *
  go_enter Tryz.func134, Tryz.ntmps134
  go_wp2_with fail
  refine CR.mono ?_
  rintro e w1 ⟨rfl, b1⟩
  have B1 : Hid (Below w.heap.size w w1) := B0.out.trans (b1.mono B0.out.size)
  obtain ⟨z0, z1, z2, z3, f0, f1, f2, f3, hw0⟩ := pl_cells (keepB N0.out b1)
  obtain ⟨y0, y1, y2, g0, g1, g2, hw1⟩ := tr_cells (keepB N1.out b1)
  generalize hN : w.heap.size = N at *
  clear CR b1 N0 N1 B0
  go_wp2_with (first
    | refine wpList_neq_agg rfl 55 _ _ rfl _ _ rfl rfl Tryz.eqGuardType55 false (EQ _) ?_
    | fail)
  go_region
  all_goals go_wp2_with fail
  all_goals refine bodyPost_ret (v := .tuple #[.agg #[.int .u64 0, .int .u64 0, .int .i64 0, .int .i64 0], .int .u64 0, .agg #[.int .i64 zc, .int .u64 zv, .int .u64 zg]]) (by simp [results, Tryz.results134, go_sem, z0, z1, z2, z3, y0, y1, y2, hw0, hw1]) rfl ⟨rfl, ?_⟩
  all_goals
    try rw [hN]
    exact (((below_set43 B1.out (Nat.le_refl _) (Nat.le_succ _) _ _ _ _ _ _ _).alloc (by simp; omega) _).alloc (by simp; omega) _).drew

set_option maxHeartbeats 6400000 in
theorem take_fault (p : Pl) (T : TT) (hT : TransOK p T) (s : Hs) (k : Int) (hz : (s.rch T k).none = true) (hn : ¬ s.ld T k = 0) (w : World) (h : HW w p s) : Calls Tryz.prog 134 #[.pointer (some ⟨p.S, 0, none⟩), .int .i64 k] w fun e w' => e = .returned (.tuple #[plV 0 0 0 0, .int .u64 0, trV (kindC k 13 15) s.asked 0]) ∧ Below w.heap.size w w' := by
  obtain ⟨hb0, n0, n1⟩ := two_new w
  have CR := reach_found p T hT s k hz _ (h.below hb0)
  have hpa := (rch_U hT s k).1
  have hwc : widthP s.op < 9223372036854775808 := by have := width_cases s.op; omega
  have CL := fun w' h' => flatLoad_hw p s (s.rch T k).pa (widthP s.op) hpa hwc w' h'
  have hq : (s.ld T k != 0) = true := bne_iff_ne.2 hn
  unfold Hs.ld at hq
  have CP := placeTrap_any s.asked (s.rch T k).pa (widthP s.op) k 13 15
  generalize (s.rch T k).pa = pa at *
  generalize numE s.zs.length pa (widthP s.op) = ne at *
  generalize loadV s.zs pa (widthP s.op) = lv at *
  generalize widthP s.op = wd at *
  generalize s.asked = qq at *
  generalize kindC k 13 15 = kc at *
  have EQ : ∀ w, (Op.equalIn 10000 55 (.agg #[.int .i64 0, .int .u64 0, .int .u64 0]) (.agg #[.int .i64 0, .int .u64 0, .int .u64 0])).run Tryz.prog w = .ok true w := fun w => eq_trap 0 0 0 0 0 0 w
  have H0 : Hid (HW _ p s) := h.below hb0
  clear h hz hn
  have B0 : Hid (_) := hb0
  have N0 : Hid (_) := n0
  have N1 : Hid (_) := n1
  have ml := mLoad p.B
  clear hb0 n0 n1
  unfold plV trV at *
  go_enter Tryz.func134, Tryz.ntmps134
  go_wp2_with fail
  refine CR.mono ?_
  rintro e w1 ⟨rfl, b1⟩
  have B1 : Hid (Below w.heap.size w w1) := B0.out.trans (b1.mono B0.out.size)
  have NA : Hid (_) := keepB N0.out b1
  have NB : Hid (_) := keepB N1.out b1
  have H1 : Hid (HW w1 p s) := H0.out.below b1
  generalize hN : w.heap.size = N at *
  have hw1 := lt_of_heap NB.out
  clear CR b1 N0 N1 B0 H0
  go_wp2_with (first
    | refine wpList_neq_agg rfl 55 _ _ rfl _ _ rfl rfl Tryz.eqGuardType55 true (EQ _) ?_
    | fail)
  have b2 : Below w1.heap.size w1 ((w1.alloc (.cells #[.int .u64 qq, .int .u64 pa, .int .i64 wd, .int .i64 k] 193)).alloc (.cells #[.int .i64 0, .int .u64 0, .int .u64 0] 55)) := ((Below.refl _ _).alloc (Nat.le_refl _) _).alloc (by simp) _
  have NP : ((w1.alloc (.cells #[.int .u64 qq, .int .u64 pa, .int .i64 wd, .int .i64 k] 193)).alloc (.cells #[.int .i64 0, .int .u64 0, .int .u64 0] 55)).heap[w1.heap.size]? = some (.cells #[.int .u64 qq, .int .u64 pa, .int .i64 wd, .int .i64 k] 193 (0, 0)) := by
    rw [C.heap_alloc_past _ _ (by simp)]; exact C.heap_alloc_at w1 _
  have H2 := H1.out.below b2
  have NA2 : Hid (_) := keepB NA.out b2
  have NB2 : Hid (_) := keepB NB.out b2
  have B2 : Hid (Below N w _) := B1.out.trans (b2.mono (by have := B1.out.size; omega))
  have hM : N + 1 < w1.heap.size := hw1
  generalize (w1.alloc (.cells #[.int .u64 qq, .int .u64 pa, .int .i64 wd, .int .i64 k] 193)).alloc (.cells #[.int .i64 0, .int .u64 0, .int .u64 0] 55) = x at *
  generalize w1.heap.size = M at *
  obtain ⟨q0, q1, q2, q3, _, _, _, _, qM⟩ := pl_cells NP
  have c19 := H2.cB
  have l1 := H2.lt.1
  have CL' := CL x.drew H2.drew
  have HX : Hid (HW x p s) := H2
  have NPX : Hid (_) := NP
  clear CL b2 NA NB H1 H2 NP B1
  simp [Act.put]
  go_cut [9, 10] (fun v9 v10 wx => v9 = .int .u64 lv ∧ v10 = .int .i64 ne ∧ Hid (Below x.heap.size x wx))
  case first =>
    go_region_held2 (fun w'' => w''.cell? ⟨p.S, 19, none⟩ = some (.iface 39 (.pointer (some ⟨p.B, 0, none⟩))) ∧ w''.cell? ⟨M, 1, none⟩ = some (.int .u64 pa) ∧ w''.cell? ⟨M, 2, none⟩ = some (.int .i64 wd)) (go_keep)
      ((refine CL'.mono ?_; rintro e x1 ⟨rfl, bx⟩; have BX : Hid (Below x.heap.size x x1) := ((Below.refl _ x).drew).trans bx; have k19 := (HX.out.drew.below bx).cB; obtain ⟨j0, j1, j2, j3, _, _, _, _, jM⟩ := pl_cells (keepB (w := x.drew) NPX.out bx); clear bx))
    all_goals
      go_wp2_with fail
      go_meet
      exact ⟨rfl, rfl, BX.out⟩
  case rest =>
    obtain ⟨rfl, rfl, hb⟩ := hcut
    have NP3 := keepB NPX.out hb.out
    have B3 : Hid (Below N w wc) := B2.out.trans (hb.out.mono (by have := B2.out.size; omega))
    have NA3 : Hid (_) := keepB NA2.out hb.out
    have NB3 : Hid (_) := keepB NB2.out hb.out
    obtain ⟨j0, j1, j2, j3, _, _, _, _, jM⟩ := pl_cells NP3
    clear hb NP3 NA2 NB2 B2 HX NPX CL' q0 q1 q2 q3 qM c19 l1
    go_wp2_with fail
    refine (CP wc).mono ?_
    rintro e w2 ⟨rfl, b3⟩
    have B4 : Hid (Below N w w2) := B3.out.trans (b3.mono (by have := B3.out.size; omega))
    obtain ⟨z0, z1, z2, z3, f0, f1, f2, f3, hw0⟩ := pl_cells (keepB NA3.out b3)
    obtain ⟨y0, y1, y2, g0, g1, g2, hw1⟩ := tr_cells (keepB NB3.out b3)
    clear b3 NA3 NB3 B3 CP j0 j1 j2 j3 jM
    go_wp2_with fail
    refine bodyPost_ret (v := _) ?h1 rfl ⟨rfl, by rw [hN]; exact below_set43 B4.out (Nat.le_refl _) (Nat.le_succ _) _ _ _ _ _ _ _⟩
    case h1 => simp [results, Tryz.results134, go_sem, z0, z1, z2, z3, y0, y1, y2]

set_option maxHeartbeats 6400000 in
theorem take_found (p : Pl) (T : TT) (hT : TransOK p T) (s : Hs) (k : Int) (hz : (s.rch T k).none = true) (hn : s.ld T k = 0) (w : World) (h : HW w p s) : Calls Tryz.prog 134 #[.pointer (some ⟨p.S, 0, none⟩), .int .i64 k] w fun e w' => e = .returned (.tuple #[plV s.asked (s.rch T k).pa (widthP s.op) k, .int .u64 (s.got T k), trV 0 0 0]) ∧ Below w.heap.size w w' := by
  obtain ⟨hb0, n0, n1⟩ := two_new w
  have CR := reach_found p T hT s k hz _ (h.below hb0)
  have hpa := (rch_U hT s k).1
  have hwc : widthP s.op < 9223372036854775808 := by have := width_cases s.op; omega
  have CL := fun w' h' => flatLoad_hw p s (s.rch T k).pa (widthP s.op) hpa hwc w' h'
  unfold Hs.ld at hn
  rw [hn] at CL
  unfold Hs.got
  generalize (s.rch T k).pa = pa at *
  generalize loadV s.zs pa (widthP s.op) = lv at *
  generalize widthP s.op = wd at *
  generalize s.asked = qq at *
  have EQ : ∀ w, (Op.equalIn 10000 55 (.agg #[.int .i64 0, .int .u64 0, .int .u64 0]) (.agg #[.int .i64 0, .int .u64 0, .int .u64 0])).run Tryz.prog w = .ok true w := fun w => eq_trap 0 0 0 0 0 0 w
  have H0 : Hid (HW _ p s) := h.below hb0
  clear h hz hn
  have B0 : Hid (_) := hb0
  have N0 : Hid (_) := n0
  have N1 : Hid (_) := n1
  have ml := mLoad p.B
  clear hb0 n0 n1
  unfold plV trV at *
  go_enter Tryz.func134, Tryz.ntmps134
  go_wp2_with fail
  refine CR.mono ?_
  rintro e w1 ⟨rfl, b1⟩
  have B1 : Hid (Below w.heap.size w w1) := B0.out.trans (b1.mono B0.out.size)
  have NA : Hid (_) := keepB N0.out b1
  have NB : Hid (_) := keepB N1.out b1
  have H1 : Hid (HW w1 p s) := H0.out.below b1
  generalize hN : w.heap.size = N at *
  have hw1 := lt_of_heap NB.out
  clear CR b1 N0 N1 B0 H0
  go_wp2_with (first
    | refine wpList_neq_agg rfl 55 _ _ rfl _ _ rfl rfl Tryz.eqGuardType55 true (EQ _) ?_
    | fail)
  have b2 : Below w1.heap.size w1 ((w1.alloc (.cells #[.int .u64 qq, .int .u64 pa, .int .i64 wd, .int .i64 k] 193)).alloc (.cells #[.int .i64 0, .int .u64 0, .int .u64 0] 55)) := ((Below.refl _ _).alloc (Nat.le_refl _) _).alloc (by simp) _
  have NP : ((w1.alloc (.cells #[.int .u64 qq, .int .u64 pa, .int .i64 wd, .int .i64 k] 193)).alloc (.cells #[.int .i64 0, .int .u64 0, .int .u64 0] 55)).heap[w1.heap.size]? = some (.cells #[.int .u64 qq, .int .u64 pa, .int .i64 wd, .int .i64 k] 193 (0, 0)) := by
    rw [C.heap_alloc_past _ _ (by simp)]; exact C.heap_alloc_at w1 _
  have H2 := H1.out.below b2
  have NA2 : Hid (_) := keepB NA.out b2
  have NB2 : Hid (_) := keepB NB.out b2
  have B2 : Hid (Below N w _) := B1.out.trans (b2.mono (by have := B1.out.size; omega))
  have hM : N + 1 < w1.heap.size := hw1
  generalize (w1.alloc (.cells #[.int .u64 qq, .int .u64 pa, .int .i64 wd, .int .i64 k] 193)).alloc (.cells #[.int .i64 0, .int .u64 0, .int .u64 0] 55) = x at *
  generalize w1.heap.size = M at *
  obtain ⟨q0, q1, q2, q3, _, _, _, _, qM⟩ := pl_cells NP
  have c19 := H2.cB
  have l1 := H2.lt.1
  have CL' := CL x.drew H2.drew
  have HX : Hid (HW x p s) := H2
  have NPX : Hid (_) := NP
  clear CL b2 NA NB H1 H2 NP B1
  simp [Act.put]
  go_cut [9, 10] (fun v9 v10 wx => v9 = .int .u64 lv ∧ v10 = .int .i64 0 ∧ Hid (Below x.heap.size x wx))
  case first =>
    go_region_held2 (fun w'' => w''.cell? ⟨p.S, 19, none⟩ = some (.iface 39 (.pointer (some ⟨p.B, 0, none⟩))) ∧ w''.cell? ⟨M, 1, none⟩ = some (.int .u64 pa) ∧ w''.cell? ⟨M, 2, none⟩ = some (.int .i64 wd)) (go_keep)
      ((refine CL'.mono ?_; rintro e x1 ⟨rfl, bx⟩; have BX : Hid (Below x.heap.size x x1) := ((Below.refl _ x).drew).trans bx; have k19 := (HX.out.drew.below bx).cB; obtain ⟨j0, j1, j2, j3, _, _, _, _, jM⟩ := pl_cells (keepB (w := x.drew) NPX.out bx); clear bx))
    all_goals
      go_wp2_with fail
      go_meet
      exact ⟨rfl, rfl, BX.out⟩
  case rest =>
    obtain ⟨rfl, rfl, hb⟩ := hcut
    have NP3 := keepB NPX.out hb.out
    have B3 : Hid (Below N w wc) := B2.out.trans (hb.out.mono (by have := B2.out.size; omega))
    obtain ⟨z0, z1, z2, z3, f0, f1, f2, f3, hw0⟩ := pl_cells (keepB NA2.out hb.out)
    obtain ⟨y0, y1, y2, g0, g1, g2, hw1⟩ := tr_cells (keepB NB2.out hb.out)
    obtain ⟨j0, j1, j2, j3, _, _, _, _, jM⟩ := pl_cells NP3
    have m6 : ¬ N = M := by omega
    have m7 : ¬ N + 1 = M := by omega
    clear hb NP3 NA2 NB2 B2 HX NPX CL' q0 q1 q2 q3 qM c19 l1
    go_wp2_with fail
    refine bodyPost_ret (v := _) ?h1 rfl ⟨rfl, by rw [hN]; exact below_set43 B3.out (Nat.le_refl _) (Nat.le_succ _) _ _ _ _ _ _ _⟩
    case h1 => simp [results, Tryz.results134, go_sem, z0, z1, z2, z3, y0, y1, y2]
end Go.Proofs.YtkckobbedpccfaaGreatDoor
namespace Go.Proofs.YtkckobbedpccfaaGreatDoor
open Go.RowKit
set_option linter.unusedVariables false
set_option maxRecDepth 100000

theorem tk_parts {T : TT} {s : Hs} {k : Int} (h : (s.tk T k).none = true) : (s.rch T k).none = true ∧ s.ld T k = 0 ∧ s.tk T k = s.rch T k := by
  unfold Hs.tk at *
  by_cases hz : (s.rch T k).none = true
  · rw [if_pos hz] at h ⊢
    by_cases hn : s.ld T k = 0
    · rw [if_pos hn]; exact ⟨hz, hn, rfl⟩
    · rw [if_neg hn] at h
      unfold Tr.none at h
      simp [kindC_ne k (show (13 : Int) ≠ 0 by decide) (show (15 : Int) ≠ 0 by decide)] at h
  · rw [if_neg hz] at h
    exact absurd h hz
theorem tk_U {p : Pl} {T : TT} (hT : TransOK p T) (s : Hs) (k : Int) : C.U (s.tk T k).v := by
  have hU : C.U s.asked := wrapU _
  unfold Hs.tk
  split
  · split
    · exact (rch_U hT s k).2
    · exact hU
  · exact (rch_U hT s k).2
theorem take_no (p : Pl) (T : TT) (hT : TransOK p T) (s : Hs) (k : Int) (hz : (s.tk T k).none = false) (w : World) (h : HW w p s) : Calls Tryz.prog 134 #[.pointer (some ⟨p.S, 0, none⟩), .int .i64 k] w fun e w' => e = .returned (.tuple #[plV 0 0 0 0, .int .u64 0, trV (s.tk T k).c (s.tk T k).v (s.tk T k).g]) ∧ Below w.heap.size w w' := by
  unfold Hs.tk at *
  by_cases hr : (s.rch T k).none = true
  · rw [if_pos hr] at hz ⊢
    by_cases hn : s.ld T k = 0
    · rw [if_pos hn, hr] at hz
      cases hz
    · rw [if_neg hn]
      exact take_fault p T hT s k hr hn w h
  · rw [if_neg hr] at hz ⊢
    exact take_ref p T hT s k hz w h
theorem take_yes (p : Pl) (T : TT) (hT : TransOK p T) (s : Hs) (k : Int) (hz : (s.tk T k).none = true) (w : World) (h : HW w p s) : Calls Tryz.prog 134 #[.pointer (some ⟨p.S, 0, none⟩), .int .i64 k] w fun e w' => e = .returned (.tuple #[plV s.asked (s.rch T k).pa (widthP s.op) k, .int .u64 (s.got T k), trV 0 0 0]) ∧ Below w.heap.size w w' := by
  obtain ⟨h1, h2, h3⟩ := tk_parts hz
  exact take_found p T hT s k h1 h2 w h
theorem storeV_no {zs : List Int} {t n v : Int} (h : ¬ numE zs.length t n = 0) : storeV zs t n v = zs := by unfold storeV; rw [if_neg h]
theorem new_store (w : World) (q pa wd k : Int) : Below w.heap.size w ((w.alloc (.cells #[.int .u64 q, .int .u64 pa, .int .i64 wd, .int .i64 k] 193)).alloc zeroTrap) ∧ ((w.alloc (.cells #[.int .u64 q, .int .u64 pa, .int .i64 wd, .int .i64 k] 193)).alloc zeroTrap).heap[w.heap.size]? = some (.cells #[.int .u64 q, .int .u64 pa, .int .i64 wd, .int .i64 k] 193 (0, 0)) ∧ ((w.alloc (.cells #[.int .u64 q, .int .u64 pa, .int .i64 wd, .int .i64 k] 193)).alloc zeroTrap).heap[w.heap.size + 1]? = some zeroTrap := by
  have e1 : (w.alloc (.cells #[.int .u64 q, .int .u64 pa, .int .i64 wd, .int .i64 k] 193)).heap.size = w.heap.size + 1 := by simp
  refine ⟨((Below.refl _ _).alloc (Nat.le_refl _) _).alloc (by simp) _, ?_, ?_⟩
  · rw [C.heap_alloc_past _ _ (by omega)]; exact C.heap_alloc_at w _
  · have := C.heap_alloc_at (w.alloc (.cells #[.int .u64 q, .int .u64 pa, .int .i64 wd, .int .i64 k] 193)) zeroTrap
    rwa [e1] at this

set_option maxHeartbeats 6400000 in
theorem store_ok (p : Pl) (s : Hs) (q pa wd k v : Int) (hpa : C.U pa) (hwd : wd < 9223372036854775808) (hv : C.U v) (hn : numE s.zs.length pa wd = 0) (w : World) (h : HW w p s) : Calls Tryz.prog 136 #[.pointer (some ⟨p.S, 0, none⟩), plV q pa wd k, .int .u64 v] w fun e w' => e = .returned (trV 0 0 0) ∧ HW w' p ({ s with zs := storeV s.zs pa wd v } : Hs) ∧ Tn p w w' := by
  obtain ⟨hb0, n0, n1⟩ := new_store w q pa wd k
  have h1 := h.below hb0
  have hO0 := h.off (Nat.le_refl w.heap.size)
  have hO1 := h.off (Nat.le_succ w.heap.size)
  have CS := fun w' h' => flatStore_hw p s pa wd v hpa hwd hv w' h'
  rw [hn] at CS
  clear hn
  have T0 : Hid (Tn p w _) := Tn.below hb0
  have N0 : Hid (_) := n0
  have N1 : Hid (_) := n1
  have ms := mStore p.B
  have hs1 := lt_of_heap n1
  clear h n0 n1 hb0
  unfold plV trV zeroTrap at *
  go_enter Tryz.func136, Tryz.ntmps136
  go_wp2_with fail
  generalize (w.alloc (.cells #[.int .u64 q, .int .u64 pa, .int .i64 wd, .int .i64 k] 193)).alloc (.cells #[.int .i64 0, .int .u64 0, .int .u64 0] 55) = x at *
  generalize hN : w.heap.size = N at *
  obtain ⟨q0, q1, q2, q3, _, _, _, _, qM⟩ := pl_cells N0.out
  have c19 := h1.cB
  have l1 := h1.lt.1
  have CS' := CS x.drew h1.drew
  have HX : Hid (HW x p s) := h1
  clear CS h1
  go_cut [17] (fun v9 wx => v9 = .bool false ∧ Hid (HW wx p ({ s with zs := storeV s.zs pa wd v } : Hs) ∧ Tn p x wx))
  case first =>
    go_region_held2 (fun w'' => w''.cell? ⟨p.S, 19, none⟩ = some (.iface 39 (.pointer (some ⟨p.B, 0, none⟩))) ∧ w''.cell? ⟨N, 1, none⟩ = some (.int .u64 pa) ∧ w''.cell? ⟨N, 2, none⟩ = some (.int .i64 wd)) (go_keep)
      ((refine CS'.mono ?_; rintro e x1 ⟨rfl, hx, tx⟩; have HX1 : Hid (HW x1 p ({ s with zs := storeV s.zs pa wd v } : Hs) ∧ Tn p x x1) := ⟨hx, (Tn.refl p x).drew.trans tx⟩; have k19 := hx.cB; obtain ⟨j0, j1, j2, j3, _, _, _, _, jM⟩ := pl_cells (tx.keepN (w := x.drew) hO0 N0.out); clear hx tx))
    all_goals
      go_wp2_with fail
      go_meet
      exact ⟨rfl, HX1.out⟩
  case rest =>
    obtain ⟨rfl, hb⟩ := hcut
    have H3 : Hid (HW wc p ({ s with zs := storeV s.zs pa wd v } : Hs)) := hb.out.1
    have T3 : Hid (Tn p w wc) := T0.out.trans hb.out.2
    have n3 := hb.out.2.keepN hO0 N0.out
    have NB3 : Hid (_) := hb.out.2.keepN hO1 N1.out
    obtain ⟨j0, j1, j2, j3, _, _, _, _, jM⟩ := pl_cells n3
    clear hb n3 T0 N0 N1 HX CS' q0 q1 q2 q3 qM c19 l1
    obtain ⟨y0, y1, y2, g0, g1, g2, hw1⟩ := tr_cells NB3.out
    clear NB3
    go_wp2_with fail
    refine bodyPost_ret (v := _) ?h1 rfl ⟨rfl, H3.out.toN hO1 (grown_set3 _ _ _ _ _), T3.out.toN (by omega) (grown_set3 _ _ _ _ _)⟩
    case h1 => simp [results, Tryz.results136, go_sem, y0, y1, y2]

set_option maxHeartbeats 6400000 in
theorem store_fail (p : Pl) (s : Hs) (q pa wd k v : Int) (hpa : C.U pa) (hwd : wd < 9223372036854775808) (hv : C.U v) (hn : ¬ numE s.zs.length pa wd = 0) (w : World) (h : HW w p s) : Calls Tryz.prog 136 #[.pointer (some ⟨p.S, 0, none⟩), plV q pa wd k, .int .u64 v] w fun e w' => e = .returned (trV (kindC k 13 15) q 0) ∧ HW w' p (s : Hs) ∧ Tn p w w' := by
  obtain ⟨hb0, n0, n1⟩ := new_store w q pa wd k
  have h1 := h.below hb0
  have hO0 := h.off (Nat.le_refl w.heap.size)
  have hO1 := h.off (Nat.le_succ w.heap.size)
  have CS := fun w' h' => flatStore_hw p s pa wd v hpa hwd hv w' h'
  have hq : (numE s.zs.length pa wd != 0) = true := bne_iff_ne.2 hn
  rw [storeV_no hn] at CS
  have CP := placeTrap_any q pa wd k 13 15
  generalize numE s.zs.length pa wd = ne at *
  generalize kindC k 13 15 = kc at *
  clear hn
  have T0 : Hid (Tn p w _) := Tn.below hb0
  have N0 : Hid (_) := n0
  have N1 : Hid (_) := n1
  have ms := mStore p.B
  have hs1 := lt_of_heap n1
  clear h n0 n1 hb0
  unfold plV trV zeroTrap at *
  go_enter Tryz.func136, Tryz.ntmps136
  go_wp2_with fail
  generalize (w.alloc (.cells #[.int .u64 q, .int .u64 pa, .int .i64 wd, .int .i64 k] 193)).alloc (.cells #[.int .i64 0, .int .u64 0, .int .u64 0] 55) = x at *
  generalize hN : w.heap.size = N at *
  obtain ⟨q0, q1, q2, q3, _, _, _, _, qM⟩ := pl_cells N0.out
  have c19 := h1.cB
  have l1 := h1.lt.1
  have CS' := CS x.drew h1.drew
  have HX : Hid (HW x p s) := h1
  clear CS h1
  go_cut [17] (fun v9 wx => v9 = .bool true ∧ Hid (HW wx p (s : Hs) ∧ Tn p x wx))
  case first =>
    go_region_held2 (fun w'' => w''.cell? ⟨p.S, 19, none⟩ = some (.iface 39 (.pointer (some ⟨p.B, 0, none⟩))) ∧ w''.cell? ⟨N, 1, none⟩ = some (.int .u64 pa) ∧ w''.cell? ⟨N, 2, none⟩ = some (.int .i64 wd)) (go_keep)
      ((refine CS'.mono ?_; rintro e x1 ⟨rfl, hx, tx⟩; have HX1 : Hid (HW x1 p (s : Hs) ∧ Tn p x x1) := ⟨hx, (Tn.refl p x).drew.trans tx⟩; have k19 := hx.cB; obtain ⟨j0, j1, j2, j3, _, _, _, _, jM⟩ := pl_cells (tx.keepN (w := x.drew) hO0 N0.out); clear hx tx))
    all_goals
      go_wp2_with fail
      go_meet
      exact ⟨rfl, HX1.out⟩
  case rest =>
    obtain ⟨rfl, hb⟩ := hcut
    have H3 : Hid (HW wc p (s : Hs)) := hb.out.1
    have T3 : Hid (Tn p w wc) := T0.out.trans hb.out.2
    have n3 := hb.out.2.keepN hO0 N0.out
    have NB3 : Hid (_) := hb.out.2.keepN hO1 N1.out
    obtain ⟨j0, j1, j2, j3, _, _, _, _, jM⟩ := pl_cells n3
    clear hb n3 T0 N0 N1 HX CS' q0 q1 q2 q3 qM c19 l1
    go_wp2_with fail
    refine (CP wc).mono ?_
    rintro e w2 ⟨rfl, b3⟩
    have H4 : Hid (HW w2 p s) := H3.out.below b3
    have T4 : Hid (Tn p w w2) := T3.out.trans (Tn.below b3)
    obtain ⟨y0, y1, y2, g0, g1, g2, hw1⟩ := tr_cells (keepB NB3.out b3)
    clear b3 NB3 T3 H3 CP j0 j1 j2 j3 jM
    go_wp2_with fail
    refine bodyPost_ret (v := _) ?h1 rfl ⟨rfl, H4.out.toN hO1 (grown_set3 _ _ _ _ _), T4.out.toN (by omega) (grown_set3 _ _ _ _ _)⟩
    case h1 => simp [results, Tryz.results136, go_sem, y0, y1, y2]
end Go.Proofs.YtkckobbedpccfaaGreatDoor
namespace Go.Proofs.YtkckobbedpccfaaGreatDoor
open Go.RowKit
set_option linter.unusedVariables false
set_option maxRecDepth 100000

/-- a method of the step does this -/
def Acts (p : Pl) (K : Nat) (s : Hs) (o : Rs × Hs) : Prop := ∀ w, HW w p s → Calls Tryz.prog K #[.pointer (some ⟨p.S, 0, none⟩)] w fun e w' => e = .returned o.1.val ∧ HW w' p o.2 ∧ Tn p w w'
theorem refused_any (p : Pl) (s : Hs) (c v g : Int) (hv : C.U v) (w : World) (h : HW w p s) : Calls Tryz.prog 50 #[.pointer (some ⟨p.S, 0, none⟩), trV c v g] w fun e w' => e = .returned (s.refP c v g).1.val ∧ HW w' p (s.refP c v g).2 ∧ Tn p w w' := by
  unfold Hs.refP
  by_cases hc : 20 ≤ c
  · rw [if_pos hc]; exact refused_beyond p s c v g hc w h
  · rw [if_neg hc]; exact refused_enter p s c v g hv (by omega) w h
theorem eq_trap0 (w : World) : (Op.equalIn 10000 55 (.agg #[.int .i64 0, .int .u64 0, .int .u64 0]) (.agg #[.int .i64 0, .int .u64 0, .int .u64 0])).run Tryz.prog w = .ok true w := eq_trap 0 0 0 0 0 0 w
theorem new_pt (w : World) (a b c d e f g : Value) : Below w.heap.size w ((w.alloc (.cells #[a, b, c, d] 193)).alloc (.cells #[e, f, g] 55)) ∧ ((w.alloc (.cells #[a, b, c, d] 193)).alloc (.cells #[e, f, g] 55)).heap[w.heap.size]? = some (.cells #[a, b, c, d] 193 (0, 0)) ∧ ((w.alloc (.cells #[a, b, c, d] 193)).alloc (.cells #[e, f, g] 55)).heap[w.heap.size + 1]? = some (.cells #[e, f, g] 55 (0, 0)) := by
  have e1 : (w.alloc (.cells #[a, b, c, d] 193)).heap.size = w.heap.size + 1 := by simp
  refine ⟨((Below.refl _ _).alloc (Nat.le_refl _) _).alloc (by simp) _, ?_, ?_⟩
  · rw [C.heap_alloc_past _ _ (by omega)]; exact C.heap_alloc_at w _
  · have := C.heap_alloc_at (w.alloc (.cells #[a, b, c, d] 193)) (.cells #[e, f, g] 55)
    rwa [e1] at this
theorem load_U (zs : List Int) (hb : Bytes zs) (t n : Int) (hn : n = 1 ∨ n = 4 ∨ n = 8) : C.U (loadV zs t n) := by
  unfold loadV extW C.U
  have b1 := leFrom_bound zs hb 1 t.toNat
  have b4 := leFrom_bound zs hb 4 t.toNat
  have b8 := leFrom_bound zs hb 8 t.toNat
  simp only [Nat.reduceMul, Int.reducePow] at b1 b4 b8
  rcases hn with rfl | rfl | rfl
  all_goals
    simp only [show (1 : Int).toNat = 1 from rfl, show (4 : Int).toNat = 4 from rfl, show (8 : Int).toNat = 8 from rfl]
    split
    · split <;> omega
    · omega
theorem got_U {w : World} {p : Pl} {s : Hs} (h : HW w p s) (T : TT) (k : Int) : C.U (s.got T k) := load_U _ h.mm.bytes _ _ (width_cases s.op)
theorem trap_set {w : World} {L : Nat} (h : w.heap[L]? = some zeroTrap) (a b c : Value) : ((((w.setCell ⟨L, 0, none⟩ a).setCell ⟨L, 1, none⟩ b).setCell ⟨L, 2, none⟩ c)).heap[L]? = some (.cells #[a, b, c] 55 (0, 0)) := by
  obtain ⟨h1, _⟩ := set_bus (o := 0) (v := a) h
  obtain ⟨h2, _⟩ := set_bus (o := 1) (v := b) h1
  obtain ⟨h3, _⟩ := set_bus (o := 2) (v := c) h2
  exact h3
end Go.Proofs.YtkckobbedpccfaaGreatDoor
