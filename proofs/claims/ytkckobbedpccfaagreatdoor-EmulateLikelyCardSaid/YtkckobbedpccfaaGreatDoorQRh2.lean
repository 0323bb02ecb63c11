/-
  Where an instruction loads or stores: the contract of reach, where the address is refused.
-/
import Derived.Test.YtkckobbedpccfaaGreatDoorQRe
namespace Go.Proofs.YtkckobbedpccfaaGreatDoor
open Go.RowKit
set_option linter.unusedVariables false
set_option maxRecDepth 100000

set_option maxHeartbeats 16000000 in
theorem reach_ref (p : Pl) (T : Hs → Int → Int → Int → Bool → Tr) (hT : TransOK p T) (s : Hs) (k : Int) (ha : s.asked % widthP s.op = 0) (hz : (s.tr T s.asked k).none = false) (w : World) (h : HW w p s) : Calls Tryz.prog 135 #[.pointer (some ⟨p.S, 0, none⟩), .int .i64 k] w fun e w' => e = .returned (.tuple #[plV 0 0 0 0, trV (s.tr T s.asked k).c (s.tr T s.asked k).v (s.tr T s.asked k).g]) ∧ Below w.heap.size w w' := by
  have hb0 : Below w.heap.size w ((w.alloc (.cells #[.int .u64 0, .int .u64 0, .int .i64 0, .int .i64 0] 193)).alloc zeroTrap) := ((Below.refl _ _).alloc (Nat.le_refl _) _).alloc (by simp) _
  have h1 := h.below hb0
  have e1 : (w.alloc (.cells #[.int .u64 0, .int .u64 0, .int .i64 0, .int .i64 0] 193)).heap.size = w.heap.size + 1 := by simp
  have n0 : ((w.alloc (.cells #[.int .u64 0, .int .u64 0, .int .i64 0, .int .i64 0] 193)).alloc zeroTrap).heap[w.heap.size]? = some (.cells #[.int .u64 0, .int .u64 0, .int .i64 0, .int .i64 0] 193 (0, 0)) := by
    rw [C.heap_alloc_past _ _ (by omega)]; exact C.heap_alloc_at w _
  have n1 : ((w.alloc (.cells #[.int .u64 0, .int .u64 0, .int .i64 0, .int .i64 0] 193)).alloc zeroTrap).heap[w.heap.size + 1]? = some zeroTrap := by
    have := C.heap_alloc_at (w.alloc (.cells #[.int .u64 0, .int .u64 0, .int .i64 0, .int .i64 0] 193)) zeroTrap
    rwa [e1] at this
  have r1 := h.ok.r1
  have hU : C.U s.asked := wrapU _
  have wc3 := width_cases s.op
  obtain ⟨wd, hwd⟩ : ∃ wd, widthP s.op = wd := ⟨_, rfl⟩
  rw [hwd] at wc3
  have wwr : IntKind.u64.wrap wd = wd := wraps_u64 _ (by omega) (by omega)
  have wz : (wd == 0) = false := beq_eq_false_iff_ne.2 (by omega)
  have hdiv : s.asked.tmod wd = s.asked % wd := Int.tmod_eq_emod_of_nonneg hU.1
  have tq : (s.asked.tmod wd != 0) = false := by rw [hdiv, ← hwd, ha]; rfl
  have CT := fun w' h' => translate_hw p T hT s s.asked k hU w' h'
  have EQ := eq_trap (s.tr T s.asked k).c (s.tr T s.asked k).v (s.tr T s.asked k).g 0 0 0
  have hz' : ((s.tr T s.asked k).c == 0 && (s.tr T s.asked k).v == 0 && (s.tr T s.asked k).g == 0) = false := hz
  rw [hz'] at EQ
  generalize s.tr T s.asked k = z at *
  obtain ⟨qq, hqq0⟩ : ∃ qq, s.asked = qq := ⟨_, rfl⟩
  have hqq : Hid (s.asked = qq) := hqq0
  rw [hqq0] at hU hdiv tq CT
  clear hqq0 ha hz hz'
  clear h e1
  unfold zeroTrap plV trV at *
  have HCT : Hid (_) := CT
  have HEQ : Hid (_) := EQ
  clear CT EQ
  go_enter Tryz.func135, Tryz.ntmps135
  go_wp2_with fail
  generalize (w.alloc (.cells #[.int .u64 0, .int .u64 0, .int .i64 0, .int .i64 0] 193)).alloc (.cells #[.int .i64 0, .int .u64 0, .int .u64 0] 55) = y at *
  have hs : w.heap.size + 1 < y.heap.size := lt_of_heap n1
  generalize hN : w.heap.size = N at *
  have H1 : Hid (HW y p s) := h1
  have N0 : Hid (_) := n0
  have N1 : Hid (_) := n1
  have B0 : Hid (Below N w y) := hb0
  have c21 := h1.cOp
  have c23 := h1.cR1
  have c25 := h1.cIm
  have fl := h1.lt.1
  have CW := width_any s.op
  rw [hwd] at CW
  clear h1 n0 n1 hb0 hwd
  go_cut [6] (fun v wx => ∃ M, v = .pointer (some ⟨M, 0, none⟩) ∧ Hid (wx.heap[M]? = some (.cells #[.int .u64 qq, .int .u64 0, .int .i64 wd, .int .i64 k] 193 (0, 0)) ∧ Below y.heap.size y wx ∧ y.heap.size ≤ M))
  case first =>
    have hq : IntKind.u64.wrap (s.reg s.r1 + IntKind.u64.wrap s.im) = qq := hqq.out
    go_region_held2 (fun w'' => w''.cell? ⟨p.S, 21, none⟩ = some (.int .i64 s.op) ∧ w''.cell? ⟨p.S, 23, none⟩ = some (.int .i64 s.r1) ∧ w''.cell? ⟨p.S, 25, none⟩ = some (.int .i64 s.im)) (go_keep)
      (((first | (refine (register_hw p s s.r1 r1 y.drew H1.out.drew).mono ?_) | (refine (register_hw p s s.r1 r1 (y.alloc (.cells #[.int .u64 0, .int .u64 0, .int .i64 0, .int .i64 0] 193)).drew (H1.out.below ((Below.refl _ _).alloc (Nat.le_refl _) _)).drew).mono ?_) | (refine (CW _).mono ?_)); rintro e x1 ⟨rfl, hx⟩; subst hx))
    all_goals
      go_wp2_with fail
      go_meet
      exact ⟨y.heap.size, rfl, C.heap_alloc_at y _, ((Below.refl _ _).alloc (Nat.le_refl _) _).drew, Nat.le_refl _⟩
  case rest =>
    obtain ⟨M, rfl, hM⟩ := hcut
    obtain ⟨m1, m2, m3⟩ := hM.out
    have HWc : Hid (HW wc p s) := H1.out.below m2
    have NA : Hid (wc.heap[N]? = some (.cells #[.int .u64 0, .int .u64 0, .int .i64 0, .int .i64 0] 193 (0, 0))) := keepB N0.out m2
    have NB : Hid (wc.heap[N + 1]? = some (.cells #[.int .i64 0, .int .u64 0, .int .u64 0] 55 (0, 0))) := keepB N1.out m2
    have NM : Hid (wc.heap[M]? = some (.cells #[.int .u64 qq, .int .u64 0, .int .i64 wd, .int .i64 k] 193 (0, 0))) := m1
    have BW' : Hid (Below N w wc) := B0.out.trans (m2.mono (by omega))
    have hMN : N + 1 < M := by omega
    obtain ⟨a0, a1, a2⟩ := cells6' NM.out
    have q0 := a0 0
    have q1 := a0 1
    have q2 := a0 2
    have q3 := a0 3
    simp at q0 q1 q2 q3
    clear hM m1 m2 H1 N0 N1 B0 c21 c23 c25 fl a0 a1 CW
    obtain ⟨z4, zc, zv, zg⟩ := z
    go_wp2_with fail
    refine (HCT.out wc HWc.out).mono ?_
    rintro e w1 ⟨rfl, b1⟩
    have B1 : Hid (Below N w w1) := BW'.out.trans (b1.mono (by omega))
    have hw1 : N + 1 < w1.heap.size := by have := b1.size; omega
    have hw0 : N < w1.heap.size := by omega
    obtain ⟨a0, a1, a3⟩ := cells6' (keepB NA.out b1)
    obtain ⟨d0, d1, d3⟩ := cells6' (keepB NB.out b1)
    have z0 := a0 0
    have z1 := a0 1
    have z2 := a0 2
    have z3 := a0 3
    have y0 := d0 0
    have y1 := d0 1
    have y2 := d0 2
    simp at z0 z1 z2 z3 y0 y1 y2
    have f0 := a1 0
    have f1 := a1 1
    have f2 := a1 2
    have f3 := a1 3
    have g0 := d1 0
    have g1 := d1 1
    have g2 := d1 2
    clear HCT b1 a0 a1 d0 d1 NA NB NM BW' q0 q1 q2 q3
    go_wp2_with (first
      | refine wpList_neq_agg rfl 55 _ _ rfl _ _ rfl rfl Tryz.eqGuardType55 false (HEQ.out _) ?_
      | fail)
    go_region
    all_goals go_wp2_with fail
    all_goals refine bodyPost_ret (v := .tuple #[.agg #[.int .u64 0, .int .u64 0, .int .i64 0, .int .i64 0], .agg #[.int .i64 zc, .int .u64 zv, .int .u64 zg]]) (by simp [results, Tryz.results135, go_sem, z0, z1, z2, z3, y0, y1, y2, hw0, hw1]) rfl ⟨rfl, ?_⟩
    all_goals
      try rw [hN]
      exact ((below_set3 (below_set4 B1.out (Nat.le_refl _) _ _ _ _) (Nat.le_succ _) _ _ _).alloc (by simp; omega) _).drew
end Go.Proofs.YtkckobbedpccfaaGreatDoor
