/-
  The calls of a scheduler that no call made.
-/
import Derived.Test.YtgdnklmnchcmeaaNe
namespace Go.Proofs.Ytgdnklmnchcmeaa
open Go.RowKit Go.Maps
set_option linter.unusedVariables false
set_option maxRecDepth 100000
/-- none: nil, or one that no call made -/
def UN (w : World) (v : Value) : Prop := v = .pointer none ∨ ∃ b, v = .pointer (some ⟨b, 0, none⟩) ∧ w.heap[b]? = some (.cells #[.map none, .slice none 0 0, .int .i64 0] 44 (0, 0))
section
variable {w w' : World} {u : Value}
theorem UN.below (h : UN w u) (hb : Below w.heap.size w w') : UN w' u := by
  obtain rfl | ⟨b, rfl, h1⟩ := h
  · exact .inl rfl
  · exact .inr ⟨b, rfl, (hb.block b (lt_of_heap h1)).trans h1⟩
theorem place_un (h : UN w u) (i : Int) : Calls Try.prog 39 #[u, .int .i64 i] w fun e w' => e = .returned (.tuple #[.pointer none, .int .i64 1]) ∧ w' = w := by
  obtain rfl | ⟨b, rfl, h1⟩ := h
  · go_enter Try.func39, Try.ntmps39
    go_wp2_with fail
    go_ret2
    exact ⟨rfl, rfl⟩
  · have c0 : w.cell? ⟨b, 0, none⟩ = some (.map none) := by rw [cell_at h1]; rfl
    have hl := lt_of_heap h1
    have hn := map_none41
    clear h1
    go_enter Try.func39, Try.ntmps39
    go_wp2_with fail
    go_ret2
    exact ⟨rfl, rfl⟩
theorem of_un (h : UN w u) (k : Int) : Calls Try.prog 38 #[u, .int .i64 k] w fun e w' => e = .returned (.tuple #[.agg #[.int .i64 0, .int .i64 0, .int .i64 0, .int .i64 0], .int .i64 1]) ∧ Below w.heap.size w w' := by
  have B1 : Hid (Below w.heap.size w (w.alloc (.cells #[.int .i64 0, .int .i64 0, .int .i64 0, .int .i64 0] 36))) := below_box w _
  have g1 := heap_alloc_at w (.cells #[.int .i64 0, .int .i64 0, .int .i64 0, .int .i64 0] 36)
  have hone : (#[.int .i64 0, .int .i64 0, .int .i64 0, .int .i64 0] : Array Value).all (·.oneCell') = true := by simp [Value.oneCell']
  have hi36 := info36
  have H2 : Hid (Below w.heap.size w ((w.alloc (.cells #[.int .i64 0, .int .i64 0, .int .i64 0, .int .i64 0] 36)).setRow w.heap.size #[.int .i64 0, .int .i64 0, .int .i64 0, .int .i64 0]) ∧ ((w.alloc (.cells #[.int .i64 0, .int .i64 0, .int .i64 0, .int .i64 0] 36)).setRow w.heap.size #[.int .i64 0, .int .i64 0, .int .i64 0, .int .i64 0]).heap[w.heap.size]? = some (.cells #[.int .i64 0, .int .i64 0, .int .i64 0, .int .i64 0] 36)) :=
    ⟨B1.out.trans (below_setRow' _ _ (Nat.le_refl _) _), setRow_heap _ _ _ _ 36 _ g1⟩
  rcases h.below B1.out with rfl | ⟨b, rfl, h1⟩
  · clear B1
    go_enter Try.func38, Try.ntmps38
    go_wp2_with (refine wpList_store_row rfl 36 _ _ rfl w.heap.size #[.int .i64 0, .int .i64 0, .int .i64 0, .int .i64 0] rfl rfl 36 _ g1 hi36 rfl hone ?_)
    have q0 := cell_at H2.out.2 0
    have q1 := cell_at H2.out.2 1
    have q2 := cell_at H2.out.2 2
    have q4 := cell_at H2.out.2 3
    have q3 := lt_of_heap H2.out.2
    simp at q0 q1 q2 q4
    refine bodyPost_ret (v := .tuple #[.agg #[.int .i64 0, .int .i64 0, .int .i64 0, .int .i64 0], .int .i64 1]) ?h1 rfl ⟨rfl, H2.out.1⟩
    case h1 => simp [results, Try.results38, go_sem, q0, q1, q2, q4]
  · have c0 : (w.alloc (.cells #[.int .i64 0, .int .i64 0, .int .i64 0, .int .i64 0] 36)).cell? ⟨b, 0, none⟩ = some (.map none) := by rw [cell_at h1]; rfl
    have hl := lt_of_heap h1
    have hn := map_none41
    clear B1 h h1
    go_enter Try.func38, Try.ntmps38
    go_wp2_with (refine wpList_store_row rfl 36 _ _ rfl w.heap.size #[.int .i64 0, .int .i64 0, .int .i64 0, .int .i64 0] rfl rfl 36 _ g1 hi36 rfl hone ?_)
    have q0 := cell_at H2.out.2 0
    have q1 := cell_at H2.out.2 1
    have q2 := cell_at H2.out.2 2
    have q4 := cell_at H2.out.2 3
    have q3 := lt_of_heap H2.out.2
    simp at q0 q1 q2 q4
    refine bodyPost_ret (v := .tuple #[.agg #[.int .i64 0, .int .i64 0, .int .i64 0, .int .i64 0], .int .i64 1]) ?h1 rfl ⟨rfl, H2.out.1⟩
    case h1 => simp [results, Try.results38, go_sem, q0, q1, q2, q4]
theorem refill_un (h : UN w u) : Calls Try.prog 25 #[u] w fun e w' => e = .returned (.int .i64 1) ∧ Below w.heap.size w w' := by
  obtain rfl | ⟨b, rfl, h1⟩ := h
  · go_enter Try.func25, Try.ntmps25
    go_wp2_with fail
    go_ret
    exact ⟨rfl, Below.refl _ _⟩
  · have c0 : w.cell? ⟨b, 0, none⟩ = some (.map none) := by rw [cell_at h1]; rfl
    have hl := lt_of_heap h1
    have hn := map_none41
    clear h1
    go_enter Try.func25, Try.ntmps25
    go_wp2_with fail
    go_ret
    exact ⟨rfl, Below.refl _ _⟩
theorem look_un (h : UN w u) (k : Int) : Calls Try.prog 14 #[u, .int .i64 k] w fun e w' => e = .returned (.tuple #[.agg #[.int .i64 0, .int .i64 0, .int .i64 0, .int .i64 0], .bool false]) ∧ Below w.heap.size w w' := by
  have B1 : Hid (Below w.heap.size w (w.alloc (.cells #[.int .i64 0, .int .i64 0, .int .i64 0, .int .i64 0] 36))) := below_box w _
  have C := of_un (h.below B1.out) k
  have g0 := heap_alloc_at w (.cells #[.int .i64 0, .int .i64 0, .int .i64 0, .int .i64 0] 36)
  have hl0 : w.heap.size < (w.alloc (.cells #[.int .i64 0, .int .i64 0, .int .i64 0, .int .i64 0] 36)).heap.size := by simp
  have hi36 := info36
  have hone : (#[.int .i64 0, .int .i64 0, .int .i64 0, .int .i64 0] : Array Value).all (·.oneCell') = true := by simp [Value.oneCell']
  clear h
  go_enter Try.func14, Try.ntmps14
  go_wp2_with fail
  refine C.mono ?_
  rintro e w1 ⟨rfl, hb⟩
  have HB : Hid (Below w.heap.size w (w1.alloc (.cells #[.int .i64 0, .int .i64 0, .int .i64 0, .int .i64 0] 36))) := (B1.out.trans (hb.mono B1.out.size)).alloc (Nat.le_trans B1.out.size hb.size) _
  have g1 : (w1.alloc (.cells #[.int .i64 0, .int .i64 0, .int .i64 0, .int .i64 0] 36)).heap[w.heap.size]? = some (.cells #[.int .i64 0, .int .i64 0, .int .i64 0, .int .i64 0] 36) := (heap_alloc_past _ _ (Nat.lt_of_lt_of_le hl0 hb.size)).trans ((hb.block _ hl0).trans g0)
  have H2 : Hid (Below w.heap.size w ((w1.alloc (.cells #[.int .i64 0, .int .i64 0, .int .i64 0, .int .i64 0] 36)).setRow w.heap.size #[.int .i64 0, .int .i64 0, .int .i64 0, .int .i64 0]) ∧ ((w1.alloc (.cells #[.int .i64 0, .int .i64 0, .int .i64 0, .int .i64 0] 36)).setRow w.heap.size #[.int .i64 0, .int .i64 0, .int .i64 0, .int .i64 0]).heap[w.heap.size]? = some (.cells #[.int .i64 0, .int .i64 0, .int .i64 0, .int .i64 0] 36)) :=
    ⟨HB.out.trans (below_setRow' _ _ (Nat.le_refl _) _), setRow_heap _ _ _ _ 36 _ g1⟩
  clear C hb HB B1 g0
  go_wp2_with (refine wpList_store_row rfl 36 _ _ rfl w.heap.size #[.int .i64 0, .int .i64 0, .int .i64 0, .int .i64 0] rfl rfl 36 _ g1 hi36 rfl hone ?_)
  have q0 := cell_at H2.out.2 0
  have q1 := cell_at H2.out.2 1
  have q2 := cell_at H2.out.2 2
  have q4 := cell_at H2.out.2 3
  have q3 := lt_of_heap H2.out.2
  simp at q0 q1 q2 q4
  refine bodyPost_ret (v := .tuple #[.agg #[.int .i64 0, .int .i64 0, .int .i64 0, .int .i64 0], .bool false]) ?h1 rfl ⟨rfl, H2.out.1⟩
  case h1 => simp [results, Try.results14, go_sem, q0, q1, q2, q4]
theorem pick_un (h : UN w u) (k : Int) : Calls Try.prog 16 #[u, .int .i64 k] w fun e w' => e = .returned (.tuple #[.int .i64 0, .bool false, .int .i64 1]) ∧ Below w.heap.size w w' := by
  have C := place_un h k
  clear h
  go_enter Try.func16, Try.ntmps16
  go_wp2_with fail
  refine C.mono ?_
  rintro e w1 ⟨rfl, rfl⟩
  go_wp2_with fail
  go_ret3
  exact ⟨rfl, Below.refl _ _⟩
theorem yield_un (h : UN w u) (k : Int) : Calls Try.prog 17 #[u, .int .i64 k] w fun e w' => e = .returned (.tuple #[.int .i64 0, .int .i64 1]) ∧ Below w.heap.size w w' := by
  have C := place_un h k
  clear h
  go_enter Try.func17, Try.ntmps17
  go_wp2_with fail
  refine C.mono ?_
  rintro e w1 ⟨rfl, rfl⟩
  go_wp2_with fail
  go_ret2
  exact ⟨rfl, Below.refl _ _⟩
theorem runs_un (h : UN w u) (k : Int) : Calls Try.prog 18 #[u, .int .i64 k] w fun e w' => e = .returned (.tuple #[.int .i64 0, .bool false]) ∧ Below w.heap.size w w' := by
  have C := place_un h k
  clear h
  go_enter Try.func18, Try.ntmps18
  go_wp2_with fail
  refine C.mono ?_
  rintro e w1 ⟨rfl, rfl⟩
  go_wp2_with fail
  go_ret2
  exact ⟨rfl, Below.refl _ _⟩
theorem add_un (h : UN w u) (k wt i : Int) : Calls Try.prog 19 #[u, .int .i64 k, .int .i64 wt, .int .i64 i] w fun e w' => e = .returned (.int .i64 1) ∧ Below w.heap.size w w' := by
  have C := place_un h i
  clear h
  go_enter Try.func19, Try.ntmps19
  go_wp2_with fail
  refine C.mono ?_
  rintro e w1 ⟨rfl, rfl⟩
  go_wp2_with fail
  go_ret
  exact ⟨rfl, Below.refl _ _⟩
theorem remove_un (h : UN w u) (k : Int) : Calls Try.prog 20 #[u, .int .i64 k] w fun e w' => e = .returned (.int .i64 1) ∧ Below w.heap.size w w' := by
  have C := of_un h k
  clear h
  go_enter Try.func20, Try.ntmps20
  go_wp2_with fail
  refine C.mono ?_
  rintro e w1 ⟨rfl, hb⟩
  have HB : Hid (Below w.heap.size w (w1.alloc (.cells #[.int .i64 0, .int .i64 0, .int .i64 0, .int .i64 0] 36))) := hb.alloc hb.size _
  clear C hb
  go_wp2_with fail
  go_ret
  exact ⟨rfl, HB.out⟩
theorem wake_un (h : UN w u) (k : Int) : Calls Try.prog 21 #[u, .int .i64 k] w fun e w' => e = .returned (.int .i64 1) ∧ Below w.heap.size w w' := by
  have C := of_un h k
  clear h
  go_enter Try.func21, Try.ntmps21
  go_wp2_with fail
  refine C.mono ?_
  rintro e w1 ⟨rfl, hb⟩
  have HB : Hid (Below w.heap.size w (w1.alloc (.cells #[.int .i64 0, .int .i64 0, .int .i64 0, .int .i64 0] 36))) := hb.alloc hb.size _
  clear C hb
  go_wp2_with fail
  go_ret
  exact ⟨rfl, HB.out⟩
theorem block_un (h : UN w u) (k : Int) : Calls Try.prog 22 #[u, .int .i64 k] w fun e w' => e = .returned (.int .i64 1) ∧ Below w.heap.size w w' := by
  have C := of_un h k
  clear h
  go_enter Try.func22, Try.ntmps22
  go_wp2_with fail
  refine C.mono ?_
  rintro e w1 ⟨rfl, hb⟩
  have HB : Hid (Below w.heap.size w (w1.alloc (.cells #[.int .i64 0, .int .i64 0, .int .i64 0, .int .i64 0] 36))) := hb.alloc hb.size _
  clear C hb
  go_wp2_with fail
  go_ret
  exact ⟨rfl, HB.out⟩
theorem charge_un (h : UN w u) (k z : Int) : Calls Try.prog 23 #[u, .int .i64 k, .int .i64 z] w fun e w' => e = .returned (.int .i64 1) ∧ Below w.heap.size w w' := by
  have C := place_un h k
  clear h
  go_enter Try.func23, Try.ntmps23
  go_wp2_with fail
  refine C.mono ?_
  rintro e w1 ⟨rfl, rfl⟩
  go_wp2_with fail
  go_ret
  exact ⟨rfl, Below.refl _ _⟩
theorem over_un (h : UN w u) (k : Int) : Calls Try.prog 24 #[u, .int .i64 k] w fun e w' => e = .returned (.bool false) ∧ Below w.heap.size w w' := by
  have C := place_un h k
  clear h
  go_enter Try.func24, Try.ntmps24
  go_wp2_with fail
  refine C.mono ?_
  rintro e w1 ⟨rfl, rfl⟩
  go_wp2_with fail
  go_ret
  exact ⟨rfl, Below.refl _ _⟩
theorem queue_un (h : UN w u) (k : Int) : Calls Try.prog 26 #[u, .int .i64 k] w fun e w' => e = .returned (.slice none 0 0) ∧ Below w.heap.size w w' := by
  have C := place_un h k
  clear h
  go_enter Try.func26, Try.ntmps26
  go_wp2_with fail
  refine C.mono ?_
  rintro e w1 ⟨rfl, rfl⟩
  go_wp2_with fail
  go_ret
  exact ⟨rfl, Below.refl _ _⟩
end
end Go.Proofs.Ytgdnklmnchcmeaa
