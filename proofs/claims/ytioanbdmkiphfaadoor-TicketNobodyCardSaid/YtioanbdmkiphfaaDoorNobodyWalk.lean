/-
  Locks that no call made; the walk of TicketNobody.
-/
import Derived.Test.YtioanbdmkiphfaaDoorLn
namespace Go.Proofs.YtioanbdmkiphfaaDoor
open Go.RowKit
set_option linter.unusedVariables false
set_option maxRecDepth 20000

/-- nineteen zeros -/
def zeroL : Array Value := #[.pointer none, .int .u64 0, .int .i64 0, .int .i64 0, .int .u64 0, .int .i64 0, .int .u64 0, .int .i64 0, .int .u64 0, .int .i64 0, .int .u64 0, .int .i64 0, .int .u64 0, .int .i64 0, .int .u64 0, .int .i64 0, .int .u64 0, .int .i64 0, .int .u64 0]
/-- no lock -/
def UN (w : World) (p : Value) : Prop := p = .pointer none ∨ ∃ k, p = .pointer (some ⟨k, 0, none⟩) ∧ w.heap[k]? = some (.cells zeroL 65 (0, 0))
theorem UN.below {w w' : World} {p : Value} (h : UN w p) (hb : Below w.heap.size w w') : UN w' p := by
  rcases h with h | ⟨k, rfl, h⟩
  · exact .inl h
  · exact .inr ⟨k, rfl, (hb.block k (lt_of_heap h)).trans h⟩
theorem eq_zeros (w : World) : (Op.equalIn 10000 65 (.agg zeroL) (.agg zeroL)).run Tryd.prog w = .ok true w := by kernel_rfl
theorem isMade_un (p : Value) (w : World) (h : UN w p) : Calls Tryd.prog 38 #[p] w fun e w' => e = .returned (.bool false) ∧ w' = w := by
  rcases h with rfl | ⟨k, rfl, hb⟩
  · go_enter Tryd.func38, Tryd.ntmps38
    go_wp2
    go_ret
    exact ⟨rfl, rfl⟩
  · have hr := range_of hb
    have hl := lt_of_heap hb
    have hi : (Tryd.prog.info? 65).map (·.size) = some zeroL.toList.length := by kernel_rfl
    have he := eq_zeros w
    go_enter Tryd.func38, Tryd.ntmps38
    go_wp2_with (first
      | (refine wpList_load_at rfl 65 (.tmp 7) rfl k 0 rfl zeroL.toList _ hr Tryd.underlying65 rfl hi ?_)
      | (refine wpList_neq_agg rfl 65 (.tmp 8) (.tmp 9) rfl _ _ rfl rfl (by kernel_rfl) true he ?_))
    go_ret
    exact ⟨rfl, rfl⟩
theorem check_un (p : Value) (c : Int) (w : World) (h : UN w p) : Calls Tryd.prog 27 #[p, .int .i64 c] w fun e w' => e = .returned (.int .i64 1) ∧ w' = w := by
  have C := isMade_un p w h
  clear h
  go_enter Tryd.func27, Tryd.ntmps27
  go_wp2_with fail
  refine C.mono ?_
  rintro e w1 ⟨rfl, rfl⟩
  go_wp2_with fail
  go_ret
  exact ⟨rfl, rfl⟩
theorem begin_un (p : Value) (c x y : Int) (w : World) (h : UN w p) : Calls Tryd.prog 26 #[p, .int .i64 c, .int .i64 x, .int .i64 y] w fun e w' => e = .returned (.int .i64 1) ∧ w' = w := by
  have C := check_un p c w h
  clear h
  go_enter Tryd.func26, Tryd.ntmps26
  go_wp2_with fail
  refine C.mono ?_
  rintro e w1 ⟨rfl, rfl⟩
  go_wp2_with fail
  go_ret
  exact ⟨rfl, rfl⟩
theorem take_un (p : Value) (c : Int) (w : World) (h : UN w p) : Calls Tryd.prog 13 #[p, .int .i64 c] w fun e w' => e = .returned (.int .i64 1) ∧ w' = w := by
  have C := begin_un p c 0 1 w h
  clear h
  go_enter Tryd.func13, Tryd.ntmps13
  go_wp2_with fail
  refine C.mono ?_
  rintro e w1 ⟨rfl, rfl⟩
  go_wp2_with fail
  go_ret
  exact ⟨rfl, rfl⟩
theorem give_un (p : Value) (c : Int) (w : World) (h : UN w p) : Calls Tryd.prog 15 #[p, .int .i64 c] w fun e w' => e = .returned (.int .i64 1) ∧ w' = w := by
  have C := begin_un p c 3 4 w h
  clear h
  go_enter Tryd.func15, Tryd.ntmps15
  go_wp2_with fail
  refine C.mono ?_
  rintro e w1 ⟨rfl, rfl⟩
  go_wp2_with fail
  go_ret
  exact ⟨rfl, rfl⟩
theorem state_un (p : Value) (c : Int) (w : World) (h : UN w p) : Calls Tryd.prog 20 #[p, .int .i64 c] w fun e w' => e = .returned (.tuple #[.int .i64 0, .int .u64 0]) ∧ w' = w := by
  have C := check_un p c w h
  clear h
  go_enter Tryd.func20, Tryd.ntmps20
  go_wp2_with fail
  refine C.mono ?_
  rintro e w1 ⟨rfl, rfl⟩
  go_wp2_with fail
  go_ret2
  exact ⟨rfl, rfl⟩
theorem Step_un (p : Value) (c : Int) (w : World) (h : UN w p) : Calls Tryd.prog 16 #[p, .int .i64 c] w fun e w' => e = .returned (.tuple #[.int .i64 0, .int .i64 1]) ∧ w' = w := by
  have C := check_un p c w h
  clear h
  go_enter Tryd.func16, Tryd.ntmps16
  go_wp2_with fail
  refine C.mono ?_
  rintro e w1 ⟨rfl, rfl⟩
  go_wp2_with fail
  go_ret2
  exact ⟨rfl, rfl⟩
theorem new_un (p : Value) (t c : Int) (w : World) (h : HV w p (.slice none 0 0)) : Calls Tryd.prog 11 #[p, .int .u64 t, .int .i64 c] w fun e w' => e = .returned (.tuple #[.pointer none, .int .i64 1]) ∧ w' = w := by
  have C := frames_any _ _ _ _ w (by decide) h
  rw [show (((0 : Nat) : Int) / 256 : Int) = 0 by decide] at C
  clear h
  go_enter Tryd.func11, Tryd.ntmps11
  go_wp2_with fail
  refine C.mono ?_
  rintro e w1 ⟨rfl, rfl⟩
  go_wp2_with fail
  go_ret2
  exact ⟨rfl, rfl⟩
namespace ticketNobody
/-- between the rounds -/
structure NW (w0 w : World) : Prop where
  bel : Below w0.heap.size w0 w
  c0 : w.cell? ⟨w0.heap.size + 1, 0, none⟩ = some (.pointer none)
  c1 : w.cell? ⟨w0.heap.size + 1, 1, none⟩ = some (.pointer (some ⟨w0.heap.size, 0, none⟩))
  un : UN w (.pointer (some ⟨w0.heap.size, 0, none⟩))
theorem nw_made (w : World) : NW w ((w.alloc (.cells zeroL 65)).alloc (.cells #[.pointer none, .pointer (some ⟨w.heap.size, 0, none⟩)] 32)) := by
  have e1 := heap_alloc_at w (.cells zeroL 65)
  have e2 := heap_alloc_at (w.alloc (.cells zeroL 65)) (.cells #[.pointer none, .pointer (some ⟨w.heap.size, 0, none⟩)] 32)
  simp only [World.size_alloc] at e2
  exact ⟨((Below.refl _ _).alloc (Nat.le_refl _) _).alloc (by simp) _, by rw [cell_at e2]; rfl, by rw [cell_at e2]; rfl, .inr ⟨_, rfl, (heap_alloc_past _ _ (by simp)).trans e1⟩⟩
set_option maxHeartbeats 1000000 in
theorem walk (c : Int) (w : World) : Calls Tryd.prog 4 #[.int .i64 c] w fun e w' => e = .returned (.bool true) ∧ Below w.heap.size w w' := by
  go_enter Tryd.func4, Tryd.ntmps4
  go_wp2_with fail
  go_loopw [17] (fun q wr => ∃ j : Nat, j ≤ 2 ∧ q = .int .i64 j ∧ Hid (NW w wr)) (fun q _ => 2 - (intOf q).toNat)
  case atStart => exact ⟨0, by omega, rfl, nw_made w⟩
  case round =>
    obtain ⟨j, hj, rfl, HZ⟩ := hrel
    have c0 := HZ.out.c0
    have c1 := HZ.out.c1
    have hl : w.heap.size + 1 < wr.heap.size := World.block_lt_of_cell? wr ⟨w.heap.size + 1, 0, none⟩ c0
    have hj' : j = 0 ∨ j = 1 ∨ j = 2 := by omega
    have hn : UN wr (.pointer none) := .inl rfl
    have hu : UN wr (.pointer (some ⟨w.heap.size, 0, none⟩)) := HZ.out.un
    have A0 := Step_un _ c _ hn
    have A1 := state_un _ c _ hn
    have A2 := take_un _ c _ hn
    have A3 := give_un _ c _ hn
    have B0 := Step_un _ c _ hu
    have B1 := state_un _ c _ hu
    have B2 := take_un _ c _ hu
    have B3 := give_un _ c _ hu
    rcases hj' with rfl | rfl | rfl
    · go_wp2_with fail
      refine A0.mono ?_
      rintro e w1 ⟨rfl, rfl⟩
      go_wp2_with fail
      refine A1.mono ?_
      rintro e w1 ⟨rfl, rfl⟩
      go_wp2_with fail
      refine A2.mono ?_
      rintro e w1 ⟨rfl, rfl⟩
      go_wp2_with fail
      refine A3.mono ?_
      rintro e w1 ⟨rfl, rfl⟩
      go_wp2_with fail
      go_roundw
      case rel => exact ⟨1, by omega, rfl, HZ⟩
      case measure => simp [intOf]
    · go_wp2_with fail
      refine B0.mono ?_
      rintro e w1 ⟨rfl, rfl⟩
      go_wp2_with fail
      refine B1.mono ?_
      rintro e w1 ⟨rfl, rfl⟩
      go_wp2_with fail
      refine B2.mono ?_
      rintro e w1 ⟨rfl, rfl⟩
      go_wp2_with fail
      refine B3.mono ?_
      rintro e w1 ⟨rfl, rfl⟩
      go_wp2_with fail
      go_roundw
      case rel => exact ⟨2, by omega, rfl, HZ⟩
      case measure => simp [intOf]
    · have N1 := new_un (.pointer none) 0 1 wr (HV.nil _)
      clear A0 A1 A2 A3 B0 B1 B2 B3
      go_wp2_with fail
      refine N1.mono ?_
      rintro e w1 ⟨rfl, rfl⟩
      go_wp2_with fail
      have N2 := new_un (.pointer (some ⟨w1.heap.size, 0, none⟩)) 0 1 (w1.alloc (.cells #[.slice none 0 0] 68)) (.inr ⟨w1.heap.size, rfl, by simp, by simp⟩)
      refine N2.mono ?_
      rintro e w2 ⟨rfl, rfl⟩
      go_wp2_with fail
      go_ret
      exact ⟨rfl, HZ.out.bel.alloc HZ.out.bel.size _⟩
end ticketNobody
end Go.Proofs.YtioanbdmkiphfaaDoor
