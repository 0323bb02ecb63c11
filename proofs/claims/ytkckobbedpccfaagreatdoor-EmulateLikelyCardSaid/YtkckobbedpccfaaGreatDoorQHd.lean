/-
  How a trap is gone into: the contracts of enter, refused and illegal.
-/
import Derived.Test.YtkckobbedpccfaaGreatDoorQHc
namespace Go.Proofs.YtkckobbedpccfaaGreatDoor
open Go.RowKit
set_option linter.unusedVariables false
set_option maxRecDepth 100000

/-- a hart that has gone into a trap -/
def Hs.trapped (s : Hs) (c v : Int) : Hs := { s with R := C.enterP s.R (C.causeP c) v s.pc (s.md == 1), pc := s.R 3, md := 1 }

set_option maxHeartbeats 40000000 in
theorem enter_hw (p : Pl) (s : Hs) (c v g : Int) (hv : C.U v) (w : World) (h : HW w p s) : Calls Tryz.prog 48 #[.pointer (some ⟨p.S, 0, none⟩), trV c v g] w fun e w' => e = .returned (resV 1 c v g false false) ∧ HW w' p (s.trapped c v) ∧ Tn p w w' := by
  have hb0 : Below w.heap.size w ((w.alloc (.cells #[.int .i64 c, .int .u64 v, .int .u64 g] 55)).alloc zeroRes) := ((Below.refl _ _).alloc (Nat.le_refl _) _).alloc (by simp) _
  have h1 := h.below hb0
  have hO0 := h.off (Nat.le_refl w.heap.size)
  have hO1 := h.off (Nat.le_succ w.heap.size)
  have hR3 : C.U (s.R 3) := h.ff.rg 3 (by decide)
  have HT : Hid (Tn p w ((w.alloc (.cells #[.int .i64 c, .int .u64 v, .int .u64 g] 55)).alloc zeroRes)) := Tn.below hb0
  have e1 : (w.alloc (.cells #[.int .i64 c, .int .u64 v, .int .u64 g] 55)).heap.size = w.heap.size + 1 := by simp
  have n0 : ((w.alloc (.cells #[.int .i64 c, .int .u64 v, .int .u64 g] 55)).alloc zeroRes).heap[w.heap.size]? = some (.cells #[.int .i64 c, .int .u64 v, .int .u64 g] 55 (0, 0)) := by
    rw [C.heap_alloc_past _ _ (by omega)]; exact C.heap_alloc_at w _
  have n1 : ((w.alloc (.cells #[.int .i64 c, .int .u64 v, .int .u64 g] 55)).alloc zeroRes).heap[w.heap.size + 1]? = some zeroRes := by
    have := C.heap_alloc_at (w.alloc (.cells #[.int .i64 c, .int .u64 v, .int .u64 g] 55)) zeroRes
    rwa [e1] at this
  clear hb0 h
  unfold trV resV zeroRes at *
  go_enter Tryz.func48, Tryz.ntmps48
  go_wp2_with fail
  generalize (w.alloc (.cells #[.int .i64 c, .int .u64 v, .int .u64 g] 55)).alloc (.cells #[.int .i64 0, .int .i64 0, .int .u64 0, .int .u64 0, .bool false, .bool false] 57) = y at *
  have hs : w.heap.size + 1 < y.heap.size := lt_of_heap n1
  generalize hN : w.heap.size = N at *
  have CE := C.enter_ff p.F s.R c v g s.pc s.md hv
  unfold C.trapV at CE
  obtain ⟨a0, a1, a2⟩ := cells6' n0
  have q0 := a0 0
  have q1 := a0 1
  have q2 := a0 2
  simp at q0 q1 q2
  have cP := h1.cPc
  have cM := h1.cMd
  have cF := h1.cF
  have fl := h1.lt.1
  have H1 : Hid (HW y p s) := h1
  have N0 : Hid (_) := n0
  have N1 : Hid (_) := n1
  clear h1 n0 n1 a0 a1
  go_cut [] (fun wx => Hid (HW wx p (s.trapped c v) ∧ Tn p y wx))
  case first =>
    go_region_with ((refine (CE y.drew H1.out.drew.ff).mono ?_; rintro e x1 ⟨rfl, f1, g1⟩; have HX : Hid (HW x1 p { s with R := C.enterP s.R (C.causeP c) v s.pc (s.md == 1) } ∧ Tn p y x1) := ⟨H1.out.drew.toF f1 g1, (Tn.refl p y).drew.trans (Tn.F g1)⟩; have d16 := HX.out.1.cPc; have d17 := HX.out.1.cMd; have e16 := HX.out.1.f 16; have e17 := HX.out.1.f 17; have dl := HX.out.1.lt.1; clear f1 g1))
    all_goals
      go_wp2_with fail
      go_meet
      obtain ⟨h3, g3⟩ := HX.out.1.setPc (s.R 3) hR3
      obtain ⟨h4, g4⟩ := h3.setMd 1 (.inr rfl)
      exact ⟨h4, (HX.out.2.trans (Tn.S g3)).trans (Tn.S g4)⟩
  case rest =>
    have H2 : Hid (HW wc p (s.trapped c v)) := hcut.out.1
    have T2 : Hid (Tn p w wc) := HT.out.trans hcut.out.2
    obtain ⟨b0, b1, b2⟩ := cells6' (hcut.out.2.keepN hO0 N0.out)
    obtain ⟨d0, d1, d2⟩ := cells6' (hcut.out.2.keepN hO1 N1.out)
    have r0 := b0 0
    have r1 := b0 1
    have r2 := b0 2
    simp at r0 r1 r2
    have z0 := d0 0
    have z1 := d0 1
    have z2 := d0 2
    have z3 := d0 3
    have z4 := d0 4
    have z5 := d0 5
    simp at z0 z1 z2 z3 z4 z5
    have f0 := d1 0
    have f1 := d1 1
    have f2 := d1 2
    have f3 := d1 3
    have f4 := d1 4
    have f5 := d1 5
    clear hcut HT N0 N1 b0 d0 d1 CE
    go_wp2_with fail
    refine bodyPost_ret (v := _) ?h1 rfl ⟨rfl, H2.out.toN hO1 (grown_set6 _ _ _ _ _ _ _ _), T2.out.toN (by omega) (grown_set6 _ _ _ _ _ _ _ _)⟩
    case h1 => simp [results, Tryz.results48, go_sem, z0, z1, z2, z3, z4, z5]
end Go.Proofs.YtkckobbedpccfaaGreatDoor
