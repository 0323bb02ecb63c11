/-
  The walk of EmulateFaults.
-/
import Derived.Test.YtkckobbedpccfaaCa
namespace Go.Proofs.Ytkckobbedpccfaa
open Go.RowKit
set_option linter.unusedVariables false
set_option maxRecDepth 100000
theorem call_zero (w : World) : Calls Try.prog 5 #[.agg #[.int .u64 0, .int .u64 0, .int .u64 0, .int .u64 0, .int .u64 0, .int .u64 0, .int .u64 0, .int .u64 0, .int .u64 0, .int .u64 0, .int .u64 0, .int .u64 0, .int .u64 0, .int .u64 0, .int .u64 0, .int .u64 0, .int .u64 0, .int .i64 0]] w fun r w' => r = .returned (.tuple #[.int .u64 0, .agg #[.int .u64 0, .int .u64 0, .int .u64 0, .int .u64 0]]) ∧ Below w.heap.size w w' := call_any (fun _ => 0) 0 0 w
theorem skip_zero (v : Int) (w : World) : Calls Try.prog 10 #[.agg #[.int .u64 0, .int .u64 0, .int .u64 0, .int .u64 0, .int .u64 0, .int .u64 0, .int .u64 0, .int .u64 0, .int .u64 0, .int .u64 0, .int .u64 0, .int .u64 0, .int .u64 0, .int .u64 0, .int .u64 0, .int .u64 0, .int .u64 v, .int .i64 0]] w fun r w' => r = .returned (.agg #[.int .u64 0, .int .u64 0, .int .u64 0, .int .u64 0, .int .u64 0, .int .u64 0, .int .u64 0, .int .u64 0, .int .u64 0, .int .u64 0, .int .u64 0, .int .u64 0, .int .u64 0, .int .u64 0, .int .u64 0, .int .u64 0, .int .u64 (nx v), .int .i64 0]) ∧ Below w.heap.size w w' := skip_any (fun _ => 0) v 0 w
theorem eq_four (w : World) : (Op.equalIn 10000 28 (.agg #[.int .u64 0, .int .u64 0, .int .u64 0, .int .u64 0]) (.agg #[.int .u64 0, .int .u64 0, .int .u64 0, .int .u64 0])).run Try.prog w = .ok true w := by
  have hi : ∃ i, Try.prog.info? 22 = some i := Option.isSome_iff_exists.1 (by kernel_rfl)
  obtain ⟨i, hi⟩ := hi
  have hc : Try.prog.cellsOf 22 = 1 := by kernel_rfl
  rw [run_equalIn_array w 9999 _ _ Try.underlying28 hi, hc]
  exact eq_items 9998 _ _ w (fun j hj => ⟨0, by
    have hj' : j < 4 := by simpa using hj
    match j, hj' with
    | 0, _ | 1, _ | 2, _ | 3, _ => rfl
    | k + 4, h => omega⟩)
theorem field_pc (v : Int) (w : World) : (Instr.field 27 (.agg #[.int .u64 0, .int .u64 0, .int .u64 0, .int .u64 0, .int .u64 0, .int .u64 0, .int .u64 0, .int .u64 0, .int .u64 0, .int .u64 0, .int .u64 0, .int .u64 0, .int .u64 0, .int .u64 0, .int .u64 0, .int .u64 0, .int .u64 v, .int .i64 0]) 1).run Try.prog w = .ok (.int .u64 v) w := by kernel_rfl
set_option maxHeartbeats 1600000 in
theorem faults_of (c v g f : Int) (w : World) (hf : faultF c = f) (hc : c = 20 ∨ c = 21 ∨ c = 23 ∨ (c ≠ 20 ∧ c ≠ 21 ∧ c ≠ 23)) : Calls Try.prog 4 #[.int .i64 c, .int .u64 v, .int .u64 g] w fun e w' => e = .returned (.bool true) ∧ Below w.heap.size w w' := by
  have C1 := fault_any c v g w
  have C2 := call_zero
  have C3 := skip_zero v
  have ev : nx v = IntKind.u64.wrap (v + 4) := rfl
  rw [hf] at C1
  rw [ev] at C3
  clear ev
  rcases hc with rfl | rfl | rfl | ⟨h0, h1, h2⟩
  all_goals (unfold faultF at hf)
  · rw [if_pos rfl] at hf
    subst hf
    go_enter Try.func4, Try.ntmps4
    go_wp2_with fail
    refine C1.mono ?_
    rintro e y ⟨rfl, b1⟩
    have s1 := b1.size
    go_wp2_with fail
    refine (C2 _).mono ?_
    rintro e y2 ⟨rfl, b2⟩
    have HB : Hid (Below w.heap.size w y2) := ((b1.alloc s1 _).alloc (by simp <;> omega) _).trans (b2.mono (by simp <;> omega))
    obtain ⟨hcc, hff⟩ := bcell b2
    simp only [World.size_alloc] at hcc hff
    have s2 : y.heap.size < y2.heap.size := by have := b2.size; simp at this; omega
    clear C1 C2 b1 b2
    go_wp2_with fail
    rw [eq_four]
    simp only [Result.andThen_ok, Oper.upon_value]
    go_wp2_with fail
    refine (C3 _).mono ?_
    rintro e y3 ⟨rfl, b3⟩
    have HB2 : Hid (Below w.heap.size w y3) := (HB.out.alloc (by omega) _).trans (b3.mono (by simp <;> omega))
    clear C3 b3
    go_wp2_with fail
    rw [field_pc]
    simp only [Result.andThen_ok, Oper.upon_value]
    go_wp2_with fail
    go_ret
    exact ⟨rfl, HB2.out⟩
  · rw [if_neg (by decide), if_pos rfl] at hf
    subst hf
    go_enter Try.func4, Try.ntmps4
    go_wp2_with fail
    refine C1.mono ?_
    rintro e y ⟨rfl, b1⟩
    have s1 := b1.size
    go_wp2_with fail
    refine (C2 _).mono ?_
    rintro e y2 ⟨rfl, b2⟩
    have HB : Hid (Below w.heap.size w y2) := ((b1.alloc s1 _).alloc (by simp <;> omega) _).trans (b2.mono (by simp <;> omega))
    obtain ⟨hcc, hff⟩ := bcell b2
    simp only [World.size_alloc] at hcc hff
    have s2 : y.heap.size < y2.heap.size := by have := b2.size; simp at this; omega
    clear C1 C2 b1 b2
    go_wp2_with fail
    rw [eq_four]
    simp only [Result.andThen_ok, Oper.upon_value]
    go_wp2_with fail
    refine (C3 _).mono ?_
    rintro e y3 ⟨rfl, b3⟩
    have HB2 : Hid (Below w.heap.size w y3) := (HB.out.alloc (by omega) _).trans (b3.mono (by simp <;> omega))
    clear C3 b3
    go_wp2_with fail
    rw [field_pc]
    simp only [Result.andThen_ok, Oper.upon_value]
    go_wp2_with fail
    go_ret
    exact ⟨rfl, HB2.out⟩
  · rw [if_neg (by decide), if_neg (by decide), if_pos rfl] at hf
    subst hf
    go_enter Try.func4, Try.ntmps4
    go_wp2_with fail
    refine C1.mono ?_
    rintro e y ⟨rfl, b1⟩
    have s1 := b1.size
    go_wp2_with fail
    refine (C2 _).mono ?_
    rintro e y2 ⟨rfl, b2⟩
    have HB : Hid (Below w.heap.size w y2) := ((b1.alloc s1 _).alloc (by simp <;> omega) _).trans (b2.mono (by simp <;> omega))
    obtain ⟨hcc, hff⟩ := bcell b2
    simp only [World.size_alloc] at hcc hff
    have s2 : y.heap.size < y2.heap.size := by have := b2.size; simp at this; omega
    clear C1 C2 b1 b2
    go_wp2_with fail
    rw [eq_four]
    simp only [Result.andThen_ok, Oper.upon_value]
    go_wp2_with fail
    refine (C3 _).mono ?_
    rintro e y3 ⟨rfl, b3⟩
    have HB2 : Hid (Below w.heap.size w y3) := (HB.out.alloc (by omega) _).trans (b3.mono (by simp <;> omega))
    clear C3 b3
    go_wp2_with fail
    rw [field_pc]
    simp only [Result.andThen_ok, Oper.upon_value]
    go_wp2_with fail
    go_ret
    exact ⟨rfl, HB2.out⟩
  · rw [if_neg h0, if_neg h1, if_neg h2] at hf
    subst hf
    have e0 : (c == 20) = false := beq_false_of_ne h0
    have e1 : (c == 21) = false := beq_false_of_ne h1
    have e2 : (c == 23) = false := beq_false_of_ne h2
    go_enter Try.func4, Try.ntmps4
    go_wp2_with fail
    refine C1.mono ?_
    rintro e y ⟨rfl, b1⟩
    have s1 := b1.size
    go_wp2_with fail
    refine (C2 _).mono ?_
    rintro e y2 ⟨rfl, b2⟩
    have HB : Hid (Below w.heap.size w y2) := (b1.alloc s1 _).trans (b2.mono (by simp <;> omega))
    obtain ⟨hcc, hff⟩ := bcell b2
    simp only [World.size_alloc] at hcc hff
    have s2 : y.heap.size < y2.heap.size := by have := b2.size; simp at this; omega
    clear C1 C2 b1 b2
    go_wp2_with fail
    rw [eq_four]
    simp only [Result.andThen_ok, Oper.upon_value]
    go_wp2_with fail
    refine (C3 _).mono ?_
    rintro e y3 ⟨rfl, b3⟩
    have HB2 : Hid (Below w.heap.size w y3) := (HB.out.alloc (by omega) _).trans (b3.mono (by simp <;> omega))
    clear C3 b3
    go_wp2_with fail
    rw [field_pc]
    simp only [Result.andThen_ok, Oper.upon_value]
    go_wp2_with fail
    go_ret
    exact ⟨rfl, HB2.out⟩
theorem faultsWalk (c v g : Int) (w : World) : Calls Try.prog 4 #[.int .i64 c, .int .u64 v, .int .u64 g] w fun e w' => e = .returned (.bool true) ∧ Below w.heap.size w w' :=
  faults_of c v g _ w rfl (by omega)
end Go.Proofs.Ytkckobbedpccfaa
