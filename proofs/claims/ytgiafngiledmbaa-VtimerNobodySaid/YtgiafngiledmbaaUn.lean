/-
  The calls of timers that no call made.
-/
import Derived.Test.YtgiafngiledmbaaCm
import Derived.Test.YtgiafngiledmbaaShelf
namespace Go.Proofs.Ytgiafngiledmbaa
open Go.RowKit Go.Maps
set_option linter.unusedVariables false
set_option maxRecDepth 100000
section
variable {w : World} {u : Value}
theorem begin_un (h : UN w u) (k c : Int) : Calls Try.prog 14 #[u, .int .i64 k, .int .u64 c] w fun e w' => e = .returned (.int .i64 1) ∧ Below w.heap.size w w' := by
  have C := of_un h k
  unfold sp at C
  clear h
  go_enter Try.func14, Try.ntmps14
  go_wp2_with fail
  refine C.mono ?_
  rintro e w1 ⟨rfl, hb⟩
  have HB : Hid (Below w.heap.size w (w1.alloc (.cells #[.int .u64 0, .bool false, .int .u64 0] 57))) := hb.alloc hb.size _
  clear C hb
  go_wp2_with fail
  go_ret
  exact ⟨rfl, HB.out⟩
theorem now_un (h : UN w u) (k c : Int) : Calls Try.prog 10 #[u, .int .i64 k, .int .u64 c] w fun e w' => e = .returned (.tuple #[.int .u64 0, .bool false]) ∧ Below w.heap.size w w' := by
  have C := of_un h k
  unfold sp at C
  clear h
  go_enter Try.func10, Try.ntmps10
  go_wp2_with fail
  refine C.mono ?_
  rintro e w1 ⟨rfl, hb⟩
  have HB : Hid (Below w.heap.size w (w1.alloc (.cells #[.int .u64 0, .bool false, .int .u64 0] 57))) := hb.alloc hb.size _
  clear C hb
  go_wp2_with fail
  go_ret2
  exact ⟨rfl, HB.out⟩
theorem set_un (h : UN w u) (k c : Int) : Calls Try.prog 15 #[u, .int .i64 k, .int .u64 c] w fun e w' => e = .returned (.int .i64 1) ∧ Below w.heap.size w w' := by
  have C := of_un h k
  unfold sp at C
  clear h
  go_enter Try.func15, Try.ntmps15
  go_wp2_with fail
  refine C.mono ?_
  rintro e w1 ⟨rfl, hb⟩
  have HB : Hid (Below w.heap.size w (w1.alloc (.cells #[.int .u64 0, .bool false, .int .u64 0] 57))) := hb.alloc hb.size _
  clear C hb
  go_wp2_with fail
  go_ret
  exact ⟨rfl, HB.out⟩
theorem stop_un (h : UN w u) (k c : Int) : Calls Try.prog 16 #[u, .int .i64 k] w fun e w' => e = .returned (.int .i64 1) ∧ Below w.heap.size w w' := by
  have C := of_un h k
  unfold sp at C
  clear h
  go_enter Try.func16, Try.ntmps16
  go_wp2_with fail
  refine C.mono ?_
  rintro e w1 ⟨rfl, hb⟩
  have HB : Hid (Below w.heap.size w (w1.alloc (.cells #[.int .u64 0, .bool false, .int .u64 0] 57))) := hb.alloc hb.size _
  clear C hb
  go_wp2_with fail
  go_ret
  exact ⟨rfl, HB.out⟩
theorem halt_un (h : UN w u) (k c : Int) : Calls Try.prog 17 #[u, .int .i64 k, .int .u64 c] w fun e w' => e = .returned (.int .i64 1) ∧ Below w.heap.size w w' := by
  have C := of_un h k
  unfold sp at C
  clear h
  go_enter Try.func17, Try.ntmps17
  go_wp2_with fail
  refine C.mono ?_
  rintro e w1 ⟨rfl, hb⟩
  have HB : Hid (Below w.heap.size w (w1.alloc (.cells #[.int .u64 0, .bool false, .int .u64 0] 57))) := hb.alloc hb.size _
  clear C hb
  go_wp2_with fail
  go_ret
  exact ⟨rfl, HB.out⟩
theorem go_un (h : UN w u) (k c : Int) : Calls Try.prog 18 #[u, .int .i64 k, .int .u64 c] w fun e w' => e = .returned (.int .i64 1) ∧ Below w.heap.size w w' := by
  have C := of_un h k
  unfold sp at C
  clear h
  go_enter Try.func18, Try.ntmps18
  go_wp2_with fail
  refine C.mono ?_
  rintro e w1 ⟨rfl, hb⟩
  have HB : Hid (Below w.heap.size w (w1.alloc (.cells #[.int .u64 0, .bool false, .int .u64 0] 57))) := hb.alloc hb.size _
  clear C hb
  go_wp2_with fail
  go_ret
  exact ⟨rfl, HB.out⟩
theorem end_un (h : UN w u) (k c : Int) : Calls Try.prog 20 #[u, .int .i64 k] w fun e w' => e = .returned (.int .i64 1) ∧ Below w.heap.size w w' := by
  have C := of_un h k
  unfold sp at C
  clear h
  go_enter Try.func20, Try.ntmps20
  go_wp2_with fail
  refine C.mono ?_
  rintro e w1 ⟨rfl, hb⟩
  have HB : Hid (Below w.heap.size w (w1.alloc (.cells #[.int .u64 0, .bool false, .int .u64 0] 57))) := hb.alloc hb.size _
  clear C hb
  go_wp2_with fail
  go_ret
  exact ⟨rfl, HB.out⟩
theorem next_un (h : UN w u) : Calls Try.prog 12 #[u] w fun e w' => e = .returned (.tuple #[.int .u64 0, .bool false]) ∧ Below w.heap.size w w' := by
  rcases h with rfl | ⟨b, rfl, h1⟩
  · go_enter Try.func12, Try.ntmps12
    go_wp2_with fail
    go_ret2
    exact ⟨rfl, Below.refl _ _⟩
  · have c1 : w.cell? ⟨b, 1, none⟩ = some (.map none) := by rw [cell_at h1]; rfl
    have hl := lt_of_heap h1
    have hrr := run_range_nilMap (P := Try.prog) w 39 3 30 Try.underlying39
    have hnr := run_next_nilMap (P := Try.prog) w 0 0 0 #[]
    have HB : Hid (Below w.heap.size w (w.alloc (.mapIter none 0 #[] 0))) := below_box w _
    clear h1
    go_enter Try.func12, Try.ntmps12
    go_wp2_with fail
    go_loopw [4, 5] (fun q4 q5 wr => q4 = .int .u64 0 ∧ q5 = .bool false ∧ wr = w.alloc (.mapIter none 0 #[] 0)) (fun _ _ _ => 0)
    case atStart => exact ⟨rfl, rfl, rfl⟩
    case round =>
      obtain ⟨rfl, rfl, rfl⟩ := hrel
      go_wp2_with fail
      go_ret2
      exact ⟨rfl, HB.out⟩
theorem due_un (h : UN w u) (c : Int) : Calls Try.prog 19 #[u, .int .u64 c] w fun e w' => e = .returned (.slice none 0 0) ∧ Below w.heap.size w w' := by
  rcases h with rfl | ⟨b, rfl, h1⟩
  · go_enter Try.func19, Try.ntmps19
    go_wp2_with fail
    go_ret
    exact ⟨rfl, Below.refl _ _⟩
  · have c1 : w.cell? ⟨b, 1, none⟩ = some (.map none) := by rw [cell_at h1]; rfl
    have hl := lt_of_heap h1
    have hrr := run_range_nilMap (P := Try.prog) w 39 3 30 Try.underlying39
    have hnr := run_next_nilMap (P := Try.prog) w 0 0 0 #[]
    have HB : Hid (Below w.heap.size w (w.alloc (.mapIter none 0 #[] 0))) := below_box w _
    have HS := Try.slices_Sort_int_none none 0 (w.alloc (.mapIter none 0 #[] 0))
    clear h1
    go_enter Try.func19, Try.ntmps19
    go_wp2_with fail
    go_loopw [5] (fun q5 wr => q5 = .slice none 0 0 ∧ wr = w.alloc (.mapIter none 0 #[] 0)) (fun _ _ => 0)
    case atStart => exact ⟨rfl, rfl⟩
    case round =>
      obtain ⟨rfl, rfl⟩ := hrel
      go_wp2_with fail
      refine HS.mono ?_
      rintro e w2 ⟨rfl, rfl⟩
      go_wp2_with fail
      go_ret
      exact ⟨rfl, HB.out⟩
end
end Go.Proofs.Ytgiafngiledmbaa
