/-
  The walk of VtimerNobody.
-/
import Derived.Test.YtgiafngiledmbaaUn
import Derived.Test.YtgiafngiledmbaaOpens
namespace Go.Proofs.Ytgiafngiledmbaa
open Go.RowKit Go.Maps
set_option linter.unusedVariables false
set_option maxRecDepth 100000
namespace nobody
/-- between the rounds -/
structure NS (w0 w : World) (A B L : Nat) (x : Ac) : Prop where
  bel : Below w0.heap.size w0 w
  act : AcAt w A 0 x
  al : A < w.heap.size
  un : w.heap[B]? = some (.cells #[.map none, .map none] 41 (0, 0))
  row : w.heap[L]? = some (.cells #[.pointer none, .pointer (some ⟨B, 0, none⟩)] 23 (0, 0))
section
variable {w0 w w' : World} {A B L : Nat} {x : Ac}
theorem NS.none (h : NS w0 w A B L x) (j : Nat) (hj : j < 2) : ∃ p, UN w p ∧ w.cell? ⟨L, j, Option.none⟩ = some p := by
  obtain rfl | rfl : j = 0 ∨ j = 1 := by omega
  · exact ⟨_, .inl rfl, (cell_at h.row 0).trans rfl⟩
  · exact ⟨_, .inr ⟨B, rfl, h.un⟩, (cell_at h.row 1).trans rfl⟩
theorem NS.below (h : NS w0 w A B L x) (hb : Below w.heap.size w w') : NS w0 w' A B L x :=
  ⟨h.bel.trans (hb.mono h.bel.size), h.act.below hb h.al, Nat.lt_of_lt_of_le h.al hb.size, (hb.block B (lt_of_heap h.un)).trans h.un, (hb.block L (lt_of_heap h.row)).trans h.row⟩
end
set_option maxHeartbeats 6400000 in
theorem walk (x : Ac) (w : World) : Calls Try.prog 4 #[.agg #[.int .i64 x.kd, .int .i64 x.id, .int .u64 x.nn]] w fun e w' => e = .returned (.bool true) ∧ Below w.heap.size w w' := by
  have E0 : Hid (NS w (((w.alloc (.cells #[.int .i64 x.kd, .int .i64 x.id, .int .u64 x.nn] 32)).alloc (.cells #[.map none, .map none] 41)).alloc (.cells #[.pointer none, .pointer (some ⟨w.heap.size + 1, 0, none⟩)] 23)) w.heap.size (w.heap.size + 1) (w.heap.size + 1 + 1) x) := by
    have a0 := heap_alloc_at w (.cells #[.int .i64 x.kd, .int .i64 x.id, .int .u64 x.nn] 32)
    have b0 := below_box w (.cells #[.int .i64 x.kd, .int .i64 x.id, .int .u64 x.nn] 32)
    have z0 : (w.alloc (.cells #[.int .i64 x.kd, .int .i64 x.id, .int .u64 x.nn] 32)).heap.size = w.heap.size + 1 := by simp
    generalize w.alloc (.cells #[.int .i64 x.kd, .int .i64 x.id, .int .u64 x.nn] 32) = y0 at *
    have a1 := heap_alloc_at y0 (.cells #[.map none, .map none] 41)
    have b1 := below_box y0 (.cells #[.map none, .map none] 41)
    have z1 : (y0.alloc (.cells #[.map none, .map none] 41)).heap.size = w.heap.size + 1 + 1 := by simp [z0]
    generalize y0.alloc (.cells #[.map none, .map none] 41) = y1 at *
    have a2 := heap_alloc_at y1 (.cells #[.pointer none, .pointer (some ⟨w.heap.size + 1, 0, none⟩)] 23)
    have b2 := below_box y1 (.cells #[.pointer none, .pointer (some ⟨w.heap.size + 1, 0, none⟩)] 23)
    have z2 : (y1.alloc (.cells #[.pointer none, .pointer (some ⟨w.heap.size + 1, 0, none⟩)] 23)).heap.size = w.heap.size + 1 + 1 + 1 := by simp [z1]
    rw [z1] at a2
    rw [z0] at a1
    have a0' := (b2.block w.heap.size (by omega)).trans ((b1.block w.heap.size (by omega)).trans a0)
    exact ⟨(b0.trans (b1.mono (by omega))).trans (b2.mono (by omega)), ⟨cell_at a0' 0, cell_at a0' 1, cell_at a0' 2⟩, by omega, (b2.block (w.heap.size + 1) (by omega)).trans a1, a2⟩
  go_enter Try.func4, Try.ntmps4
  go_wp2_with fail
  generalize ((w.alloc (.cells #[.int .i64 x.kd, .int .i64 x.id, .int .u64 x.nn] 32)).alloc (.cells #[.map none, .map none] 41)).alloc (.cells #[.pointer none, .pointer (some ⟨w.heap.size + 1, 0, none⟩)] 23) = y2 at *
  go_loopw [13] (fun q wr => ∃ j : Nat, j ≤ 2 ∧ q = .int .i64 j ∧ Hid (NS w wr w.heap.size (w.heap.size + 1) (w.heap.size + 1 + 1) x)) (fun q _ => 2 - (intOf q).toNat)
  case atStart => exact ⟨0, by omega, rfl, E0.out⟩
  case round =>
    obtain ⟨j, hj, rfl, HJ⟩ := hrel
    clear E0
    by_cases h2 : j < 2
    · obtain ⟨p, hp, hl⟩ := HJ.out.none j h2
      have h2' : (j : Int) < 2 := by omega
      have ll := lt_cell hl
      have H0 : Hid (NS w wr w.heap.size (w.heap.size + 1) (w.heap.size + 1 + 1) x ∧ UN wr p) := ⟨HJ.out, hp⟩
      clear hp HJ
      obtain ⟨k0, k1, k2⟩ := H0.out.1.act
      have la := H0.out.1.al
      have K := now_un H0.out.2 x.id x.nn
      go_wp2_with fail
      refine K.mono ?_
      rintro e y1 ⟨rfl, hb⟩
      have H1 : Hid (NS w y1 w.heap.size (w.heap.size + 1) (w.heap.size + 1 + 1) x ∧ UN y1 p) := ⟨H0.out.1.below hb, H0.out.2.below hb⟩
      clear hb K k0 k1 k2 la H0
      obtain ⟨k0, k1, k2⟩ := H1.out.1.act
      have la := H1.out.1.al
      have K := next_un H1.out.2
      go_wp2_with fail
      refine K.mono ?_
      rintro e y2 ⟨rfl, hb⟩
      have H2 : Hid (NS w y2 w.heap.size (w.heap.size + 1) (w.heap.size + 1 + 1) x ∧ UN y2 p) := ⟨H1.out.1.below hb, H1.out.2.below hb⟩
      clear hb K k0 k1 k2 la H1
      obtain ⟨k0, k1, k2⟩ := H2.out.1.act
      have la := H2.out.1.al
      have K := begin_un H2.out.2 x.id x.nn
      go_wp2_with fail
      refine K.mono ?_
      rintro e y3 ⟨rfl, hb⟩
      have H3 : Hid (NS w y3 w.heap.size (w.heap.size + 1) (w.heap.size + 1 + 1) x ∧ UN y3 p) := ⟨H2.out.1.below hb, H2.out.2.below hb⟩
      clear hb K k0 k1 k2 la H2
      obtain ⟨k0, k1, k2⟩ := H3.out.1.act
      have la := H3.out.1.al
      have K := set_un H3.out.2 x.id x.nn
      go_wp2_with fail
      refine K.mono ?_
      rintro e y4 ⟨rfl, hb⟩
      have H4 : Hid (NS w y4 w.heap.size (w.heap.size + 1) (w.heap.size + 1 + 1) x ∧ UN y4 p) := ⟨H3.out.1.below hb, H3.out.2.below hb⟩
      clear hb K k0 k1 k2 la H3
      obtain ⟨k0, k1, k2⟩ := H4.out.1.act
      have la := H4.out.1.al
      have K := stop_un H4.out.2 x.id 0
      go_wp2_with fail
      refine K.mono ?_
      rintro e y5 ⟨rfl, hb⟩
      have H5 : Hid (NS w y5 w.heap.size (w.heap.size + 1) (w.heap.size + 1 + 1) x ∧ UN y5 p) := ⟨H4.out.1.below hb, H4.out.2.below hb⟩
      clear hb K k0 k1 k2 la H4
      obtain ⟨k0, k1, k2⟩ := H5.out.1.act
      have la := H5.out.1.al
      have K := halt_un H5.out.2 x.id x.nn
      go_wp2_with fail
      refine K.mono ?_
      rintro e y6 ⟨rfl, hb⟩
      have H6 : Hid (NS w y6 w.heap.size (w.heap.size + 1) (w.heap.size + 1 + 1) x ∧ UN y6 p) := ⟨H5.out.1.below hb, H5.out.2.below hb⟩
      clear hb K k0 k1 k2 la H5
      obtain ⟨k0, k1, k2⟩ := H6.out.1.act
      have la := H6.out.1.al
      have K := go_un H6.out.2 x.id x.nn
      go_wp2_with fail
      refine K.mono ?_
      rintro e y7 ⟨rfl, hb⟩
      have H7 : Hid (NS w y7 w.heap.size (w.heap.size + 1) (w.heap.size + 1 + 1) x ∧ UN y7 p) := ⟨H6.out.1.below hb, H6.out.2.below hb⟩
      clear hb K k0 k1 k2 la H6
      obtain ⟨k0, k1, k2⟩ := H7.out.1.act
      have la := H7.out.1.al
      have K := due_un H7.out.2 x.nn
      go_wp2_with fail
      refine K.mono ?_
      rintro e y8 ⟨rfl, hb⟩
      have H8 : Hid (NS w y8 w.heap.size (w.heap.size + 1) (w.heap.size + 1 + 1) x ∧ UN y8 p) := ⟨H7.out.1.below hb, H7.out.2.below hb⟩
      clear hb K k0 k1 k2 la H7
      obtain ⟨k0, k1, k2⟩ := H8.out.1.act
      have la := H8.out.1.al
      have K := end_un H8.out.2 x.id 0
      go_wp2_with fail
      refine K.mono ?_
      rintro e y9 ⟨rfl, hb⟩
      have H9 : Hid (NS w y9 w.heap.size (w.heap.size + 1) (w.heap.size + 1 + 1) x ∧ UN y9 p) := ⟨H8.out.1.below hb, H8.out.2.below hb⟩
      clear hb K k0 k1 k2 la H8
      go_wp2_with fail
      go_roundw
      case rel => exact ⟨j + 1, by omega, by go_num, H9.out.1⟩
      case measure => simp [intOf]; omega
    · obtain rfl : j = 2 := by omega
      go_wp2_with fail
      go_ret
      exact ⟨rfl, HJ.out.bel⟩
end nobody
end Go.Proofs.Ytgiafngiledmbaa
