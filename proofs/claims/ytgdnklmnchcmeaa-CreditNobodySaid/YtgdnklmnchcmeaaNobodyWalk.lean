/-
  The walk of CreditNobody.
-/
import Derived.Test.YtgdnklmnchcmeaaUn
import Derived.Test.YtgdnklmnchcmeaaOpens
namespace Go.Proofs.Ytgdnklmnchcmeaa
open Go.RowKit Go.Maps
set_option linter.unusedVariables false
set_option maxRecDepth 100000
namespace nobody
/-- between the rounds -/
structure NS (w0 w : World) (A B L : Nat) (x : Ac) : Prop where
  bel : Below w0.heap.size w0 w
  act : AcAt w A 0 x
  al : A < w.heap.size
  un : w.heap[B]? = some (.cells #[.map none, .slice none 0 0, .int .i64 0] 44 (0, 0))
  row : w.heap[L]? = some (.cells #[.pointer none, .pointer (some ⟨B, 0, none⟩)] 23 (0, 0))
section
variable {w0 w w' : World} {A B L : Nat} {x : Ac}
theorem NS.none (h : NS w0 w A B L x) (j : Nat) (hj : j < 2) : ∃ p, UN w p ∧ w.cell? ⟨L, j, Option.none⟩ = some p := by
  obtain rfl | rfl : j = 0 ∨ j = 1 := by omega
  · exact ⟨_, .inl rfl, (cell_at h.row 0).trans rfl⟩
  · exact ⟨_, .inr ⟨B, rfl, h.un⟩, (cell_at h.row 1).trans rfl⟩
theorem NS.below (h : NS w0 w A B L x) (hb : Below w.heap.size w w') : NS w0 w' A B L x :=
  ⟨h.bel.trans (hb.mono h.bel.size), h.act.below hb h.al, Nat.lt_of_lt_of_le h.al hb.size, (hb.block B (lt_of_heap h.un)).trans h.un, (hb.block L (lt_of_heap h.row)).trans h.row⟩
end
set_option maxHeartbeats 6400000 in
theorem walk (x : Ac) (w : World) : Calls Try.prog 4 #[.agg #[.int .i64 x.kd, .int .i64 x.id, .int .i64 x.wt, .int .i64 x.co, .int .i64 x.nn]] w fun e w' => e = .returned (.bool true) ∧ Below w.heap.size w w' := by
  have E0 : Hid (NS w (((w.alloc (.cells #[.int .i64 x.kd, .int .i64 x.id, .int .i64 x.wt, .int .i64 x.co, .int .i64 x.nn] 33)).alloc (.cells #[.map none, .slice none 0 0, .int .i64 0] 44)).alloc (.cells #[.pointer none, .pointer (some ⟨w.heap.size + 1, 0, none⟩)] 23)) w.heap.size (w.heap.size + 1) (w.heap.size + 1 + 1) x) := by
    have a0 := heap_alloc_at w (.cells #[.int .i64 x.kd, .int .i64 x.id, .int .i64 x.wt, .int .i64 x.co, .int .i64 x.nn] 33)
    have b0 := below_box w (.cells #[.int .i64 x.kd, .int .i64 x.id, .int .i64 x.wt, .int .i64 x.co, .int .i64 x.nn] 33)
    have z0 : (w.alloc (.cells #[.int .i64 x.kd, .int .i64 x.id, .int .i64 x.wt, .int .i64 x.co, .int .i64 x.nn] 33)).heap.size = w.heap.size + 1 := by simp
    generalize w.alloc (.cells #[.int .i64 x.kd, .int .i64 x.id, .int .i64 x.wt, .int .i64 x.co, .int .i64 x.nn] 33) = y0 at *
    have a1 := heap_alloc_at y0 (.cells #[.map none, .slice none 0 0, .int .i64 0] 44)
    have b1 := below_box y0 (.cells #[.map none, .slice none 0 0, .int .i64 0] 44)
    have z1 : (y0.alloc (.cells #[.map none, .slice none 0 0, .int .i64 0] 44)).heap.size = w.heap.size + 1 + 1 := by simp [z0]
    generalize y0.alloc (.cells #[.map none, .slice none 0 0, .int .i64 0] 44) = y1 at *
    have a2 := heap_alloc_at y1 (.cells #[.pointer none, .pointer (some ⟨w.heap.size + 1, 0, none⟩)] 23)
    have b2 := below_box y1 (.cells #[.pointer none, .pointer (some ⟨w.heap.size + 1, 0, none⟩)] 23)
    have z2 : (y1.alloc (.cells #[.pointer none, .pointer (some ⟨w.heap.size + 1, 0, none⟩)] 23)).heap.size = w.heap.size + 1 + 1 + 1 := by simp [z1]
    rw [z1] at a2
    rw [z0] at a1
    have a0' := (b2.block w.heap.size (by omega)).trans ((b1.block w.heap.size (by omega)).trans a0)
    exact ⟨(b0.trans (b1.mono (by omega))).trans (b2.mono (by omega)), ⟨cell_at a0' 0, cell_at a0' 1, cell_at a0' 2, cell_at a0' 3, cell_at a0' 4⟩, by omega, (b2.block (w.heap.size + 1) (by omega)).trans a1, a2⟩
  go_enter Try.func4, Try.ntmps4
  go_wp2_with fail
  generalize ((w.alloc (.cells #[.int .i64 x.kd, .int .i64 x.id, .int .i64 x.wt, .int .i64 x.co, .int .i64 x.nn] 33)).alloc (.cells #[.map none, .slice none 0 0, .int .i64 0] 44)).alloc (.cells #[.pointer none, .pointer (some ⟨w.heap.size + 1, 0, none⟩)] 23) = y2 at *
  go_loopw [18] (fun q wr => ∃ j : Nat, j ≤ 2 ∧ q = .int .i64 j ∧ Hid (NS w wr w.heap.size (w.heap.size + 1) (w.heap.size + 1 + 1) x)) (fun q _ => 2 - (intOf q).toNat)
  case atStart => exact ⟨0, by omega, rfl, E0.out⟩
  case round =>
    obtain ⟨j, hj, rfl, HJ⟩ := hrel
    clear E0
    by_cases h2 : j < 2
    · obtain ⟨p, hp, hl⟩ := HJ.out.none j h2
      have h2' : (j : Int) < 2 := by omega
      have ll := lt_cell hl
      have H0 : Hid (NS w wr w.heap.size (w.heap.size + 1) (w.heap.size + 1 + 1) x ∧ UN wr p) := ⟨HJ.out, hp⟩
      clear hp HJ
      obtain ⟨k0, k1, k2, k3, k4⟩ := H0.out.1.act
      have la := H0.out.1.al
      have K := pick_un H0.out.2 x.co
      go_wp2_with fail
      refine K.mono ?_
      rintro e y1 ⟨rfl, hb⟩
      have H1 : Hid (NS w y1 w.heap.size (w.heap.size + 1) (w.heap.size + 1 + 1) x ∧ UN y1 p) := ⟨H0.out.1.below hb, H0.out.2.below hb⟩
      clear hb K k0 k1 k2 k3 k4 la H0
      obtain ⟨k0, k1, k2, k3, k4⟩ := H1.out.1.act
      have la := H1.out.1.al
      have K := yield_un H1.out.2 x.co
      go_wp2_with fail
      refine K.mono ?_
      rintro e y2 ⟨rfl, hb⟩
      have H2 : Hid (NS w y2 w.heap.size (w.heap.size + 1) (w.heap.size + 1 + 1) x ∧ UN y2 p) := ⟨H1.out.1.below hb, H1.out.2.below hb⟩
      clear hb K k0 k1 k2 k3 k4 la H1
      obtain ⟨k0, k1, k2, k3, k4⟩ := H2.out.1.act
      have la := H2.out.1.al
      have K := look_un H2.out.2 x.id
      go_wp2_with fail
      refine K.mono ?_
      rintro e y3 ⟨rfl, hb⟩
      obtain ⟨bx, hbx⟩ : ∃ bx, y3.heap.size = bx := ⟨_, rfl⟩
      have hb' : Below y2.heap.size y2 (y3.alloc (.cells #[.int .i64 0, .int .i64 0, .int .i64 0, .int .i64 0] 36)) := hb.alloc hb.size _
      have H3 : Hid (NS w (y3.alloc (.cells #[.int .i64 0, .int .i64 0, .int .i64 0, .int .i64 0] 36)) w.heap.size (w.heap.size + 1) (w.heap.size + 1 + 1) x ∧ UN (y3.alloc (.cells #[.int .i64 0, .int .i64 0, .int .i64 0, .int .i64 0] 36)) p ∧ (y3.alloc (.cells #[.int .i64 0, .int .i64 0, .int .i64 0, .int .i64 0] 36)).heap[bx]? = some (.cells #[.int .i64 0, .int .i64 0, .int .i64 0, .int .i64 0] 36)) := ⟨H2.out.1.below hb', H2.out.2.below hb', by rw [← hbx]; exact heap_alloc_at _ _⟩
      clear hb'
      clear hb K k0 k1 k2 k3 k4 la H2
      -- BOX
      obtain ⟨k0, k1, k2, k3, k4⟩ := H3.out.1.act
      have la := H3.out.1.al
      have v0 := cell_at H3.out.2.2 0
      have v1 := cell_at H3.out.2.2 1
      have v2 := cell_at H3.out.2.2 2
      have v3 := cell_at H3.out.2.2 3
      have vl := lt_of_heap H3.out.2.2
      simp at v0 v1 v2 v3
      have K := runs_un H3.out.2.1 x.co
      go_wp2_with fail
      refine K.mono ?_
      rintro e y4 ⟨rfl, hb⟩
      have H4 : Hid (NS w y4 w.heap.size (w.heap.size + 1) (w.heap.size + 1 + 1) x ∧ UN y4 p ∧ y4.heap[bx]? = some (.cells #[.int .i64 0, .int .i64 0, .int .i64 0, .int .i64 0] 36)) := ⟨H3.out.1.below hb, H3.out.2.1.below hb, (hb.block bx (lt_of_heap H3.out.2.2)).trans H3.out.2.2⟩
      clear hb K k0 k1 k2 k3 k4 la H3 v0 v1 v2 v3 vl
      obtain ⟨k0, k1, k2, k3, k4⟩ := H4.out.1.act
      have la := H4.out.1.al
      have v0 := cell_at H4.out.2.2 0
      have v1 := cell_at H4.out.2.2 1
      have v2 := cell_at H4.out.2.2 2
      have v3 := cell_at H4.out.2.2 3
      have vl := lt_of_heap H4.out.2.2
      simp at v0 v1 v2 v3
      have K := add_un H4.out.2.1 x.id x.wt x.co
      go_wp2_with fail
      refine K.mono ?_
      rintro e y5 ⟨rfl, hb⟩
      have H5 : Hid (NS w y5 w.heap.size (w.heap.size + 1) (w.heap.size + 1 + 1) x ∧ UN y5 p ∧ y5.heap[bx]? = some (.cells #[.int .i64 0, .int .i64 0, .int .i64 0, .int .i64 0] 36)) := ⟨H4.out.1.below hb, H4.out.2.1.below hb, (hb.block bx (lt_of_heap H4.out.2.2)).trans H4.out.2.2⟩
      clear hb K k0 k1 k2 k3 k4 la H4 v0 v1 v2 v3 vl
      obtain ⟨k0, k1, k2, k3, k4⟩ := H5.out.1.act
      have la := H5.out.1.al
      have v0 := cell_at H5.out.2.2 0
      have v1 := cell_at H5.out.2.2 1
      have v2 := cell_at H5.out.2.2 2
      have v3 := cell_at H5.out.2.2 3
      have vl := lt_of_heap H5.out.2.2
      simp at v0 v1 v2 v3
      have K := remove_un H5.out.2.1 x.id
      go_wp2_with fail
      refine K.mono ?_
      rintro e y6 ⟨rfl, hb⟩
      have H6 : Hid (NS w y6 w.heap.size (w.heap.size + 1) (w.heap.size + 1 + 1) x ∧ UN y6 p ∧ y6.heap[bx]? = some (.cells #[.int .i64 0, .int .i64 0, .int .i64 0, .int .i64 0] 36)) := ⟨H5.out.1.below hb, H5.out.2.1.below hb, (hb.block bx (lt_of_heap H5.out.2.2)).trans H5.out.2.2⟩
      clear hb K k0 k1 k2 k3 k4 la H5 v0 v1 v2 v3 vl
      obtain ⟨k0, k1, k2, k3, k4⟩ := H6.out.1.act
      have la := H6.out.1.al
      have v0 := cell_at H6.out.2.2 0
      have v1 := cell_at H6.out.2.2 1
      have v2 := cell_at H6.out.2.2 2
      have v3 := cell_at H6.out.2.2 3
      have vl := lt_of_heap H6.out.2.2
      simp at v0 v1 v2 v3
      have K := wake_un H6.out.2.1 x.id
      go_wp2_with fail
      refine K.mono ?_
      rintro e y7 ⟨rfl, hb⟩
      have H7 : Hid (NS w y7 w.heap.size (w.heap.size + 1) (w.heap.size + 1 + 1) x ∧ UN y7 p ∧ y7.heap[bx]? = some (.cells #[.int .i64 0, .int .i64 0, .int .i64 0, .int .i64 0] 36)) := ⟨H6.out.1.below hb, H6.out.2.1.below hb, (hb.block bx (lt_of_heap H6.out.2.2)).trans H6.out.2.2⟩
      clear hb K k0 k1 k2 k3 k4 la H6 v0 v1 v2 v3 vl
      obtain ⟨k0, k1, k2, k3, k4⟩ := H7.out.1.act
      have la := H7.out.1.al
      have v0 := cell_at H7.out.2.2 0
      have v1 := cell_at H7.out.2.2 1
      have v2 := cell_at H7.out.2.2 2
      have v3 := cell_at H7.out.2.2 3
      have vl := lt_of_heap H7.out.2.2
      simp at v0 v1 v2 v3
      have K := block_un H7.out.2.1 x.id
      go_wp2_with fail
      refine K.mono ?_
      rintro e y8 ⟨rfl, hb⟩
      have H8 : Hid (NS w y8 w.heap.size (w.heap.size + 1) (w.heap.size + 1 + 1) x ∧ UN y8 p ∧ y8.heap[bx]? = some (.cells #[.int .i64 0, .int .i64 0, .int .i64 0, .int .i64 0] 36)) := ⟨H7.out.1.below hb, H7.out.2.1.below hb, (hb.block bx (lt_of_heap H7.out.2.2)).trans H7.out.2.2⟩
      clear hb K k0 k1 k2 k3 k4 la H7 v0 v1 v2 v3 vl
      obtain ⟨k0, k1, k2, k3, k4⟩ := H8.out.1.act
      have la := H8.out.1.al
      have v0 := cell_at H8.out.2.2 0
      have v1 := cell_at H8.out.2.2 1
      have v2 := cell_at H8.out.2.2 2
      have v3 := cell_at H8.out.2.2 3
      have vl := lt_of_heap H8.out.2.2
      simp at v0 v1 v2 v3
      have K := charge_un H8.out.2.1 x.co x.nn
      go_wp2_with fail
      refine K.mono ?_
      rintro e y9 ⟨rfl, hb⟩
      have H9 : Hid (NS w y9 w.heap.size (w.heap.size + 1) (w.heap.size + 1 + 1) x ∧ UN y9 p ∧ y9.heap[bx]? = some (.cells #[.int .i64 0, .int .i64 0, .int .i64 0, .int .i64 0] 36)) := ⟨H8.out.1.below hb, H8.out.2.1.below hb, (hb.block bx (lt_of_heap H8.out.2.2)).trans H8.out.2.2⟩
      clear hb K k0 k1 k2 k3 k4 la H8 v0 v1 v2 v3 vl
      obtain ⟨k0, k1, k2, k3, k4⟩ := H9.out.1.act
      have la := H9.out.1.al
      have v0 := cell_at H9.out.2.2 0
      have v1 := cell_at H9.out.2.2 1
      have v2 := cell_at H9.out.2.2 2
      have v3 := cell_at H9.out.2.2 3
      have vl := lt_of_heap H9.out.2.2
      simp at v0 v1 v2 v3
      have K := over_un H9.out.2.1 x.co
      go_wp2_with fail
      refine K.mono ?_
      rintro e y10 ⟨rfl, hb⟩
      have H10 : Hid (NS w y10 w.heap.size (w.heap.size + 1) (w.heap.size + 1 + 1) x ∧ UN y10 p ∧ y10.heap[bx]? = some (.cells #[.int .i64 0, .int .i64 0, .int .i64 0, .int .i64 0] 36)) := ⟨H9.out.1.below hb, H9.out.2.1.below hb, (hb.block bx (lt_of_heap H9.out.2.2)).trans H9.out.2.2⟩
      clear hb K k0 k1 k2 k3 k4 la H9 v0 v1 v2 v3 vl
      obtain ⟨k0, k1, k2, k3, k4⟩ := H10.out.1.act
      have la := H10.out.1.al
      have v0 := cell_at H10.out.2.2 0
      have v1 := cell_at H10.out.2.2 1
      have v2 := cell_at H10.out.2.2 2
      have v3 := cell_at H10.out.2.2 3
      have vl := lt_of_heap H10.out.2.2
      simp at v0 v1 v2 v3
      have K := refill_un H10.out.2.1 
      go_wp2_with fail
      refine K.mono ?_
      rintro e y11 ⟨rfl, hb⟩
      have H11 : Hid (NS w y11 w.heap.size (w.heap.size + 1) (w.heap.size + 1 + 1) x ∧ UN y11 p ∧ y11.heap[bx]? = some (.cells #[.int .i64 0, .int .i64 0, .int .i64 0, .int .i64 0] 36)) := ⟨H10.out.1.below hb, H10.out.2.1.below hb, (hb.block bx (lt_of_heap H10.out.2.2)).trans H10.out.2.2⟩
      clear hb K k0 k1 k2 k3 k4 la H10 v0 v1 v2 v3 vl
      obtain ⟨k0, k1, k2, k3, k4⟩ := H11.out.1.act
      have la := H11.out.1.al
      have v0 := cell_at H11.out.2.2 0
      have v1 := cell_at H11.out.2.2 1
      have v2 := cell_at H11.out.2.2 2
      have v3 := cell_at H11.out.2.2 3
      have vl := lt_of_heap H11.out.2.2
      simp at v0 v1 v2 v3
      have K := queue_un H11.out.2.1 x.co
      go_wp2_with fail
      refine K.mono ?_
      rintro e y12 ⟨rfl, hb⟩
      have H12 : Hid (NS w y12 w.heap.size (w.heap.size + 1) (w.heap.size + 1 + 1) x ∧ UN y12 p ∧ y12.heap[bx]? = some (.cells #[.int .i64 0, .int .i64 0, .int .i64 0, .int .i64 0] 36)) := ⟨H11.out.1.below hb, H11.out.2.1.below hb, (hb.block bx (lt_of_heap H11.out.2.2)).trans H11.out.2.2⟩
      clear hb K k0 k1 k2 k3 k4 la H11 v0 v1 v2 v3 vl
      go_wp2_with fail
      go_roundw
      case rel => exact ⟨j + 1, by omega, by go_num, H12.out.1⟩
      case measure => simp [intOf]; omega
    · obtain rfl : j = 2 := by omega
      go_wp2_with fail
      go_ret
      exact ⟨rfl, HJ.out.bel⟩
end nobody
end Go.Proofs.Ytgdnklmnchcmeaa
