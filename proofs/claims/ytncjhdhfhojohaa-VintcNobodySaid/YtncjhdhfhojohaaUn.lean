/-
  The calls of controllers that no call made.
-/
import Derived.Test.YtncjhdhfhojohaaFi
namespace Go.Proofs.Ytncjhdhfhojohaa
open Go.RowKit
set_option linter.unusedVariables false
set_option maxRecDepth 100000
section
variable {w : World} {u : Value}
theorem enable_un (h : UN w u) (v s : Int) (on : Bool) : Calls Try.prog 18 #[u, .int .i64 v, .int .i64 s, .bool on] w fun e w' => e = .returned (.int .i64 1) ∧ w' = w := by
  have C1 := has_un h v
  have C2 := check_un h false
  clear h
  go_enter Try.func18, Try.ntmps18
  go_wp2_with fail
  refine C1.mono ?_
  rintro e w ⟨rfl, rfl⟩
  go_wp2_with fail
  refine C2.mono ?_
  rintro e w ⟨rfl, rfl⟩
  go_wp2_with fail
  go_ret
  exact ⟨rfl, rfl⟩
theorem complete_un (h : UN w u) (v s : Int) : Calls Try.prog 21 #[u, .int .i64 v, .int .i64 s] w fun e w' => e = .returned (.int .i64 1) ∧ w' = w := by
  have C1 := has_un h v
  have C2 := check_un h false
  clear h
  go_enter Try.func21, Try.ntmps21
  go_wp2_with fail
  refine C1.mono ?_
  rintro e w ⟨rfl, rfl⟩
  go_wp2_with fail
  refine C2.mono ?_
  rintro e w ⟨rfl, rfl⟩
  go_wp2_with fail
  go_ret
  exact ⟨rfl, rfl⟩
theorem bar_un (h : UN w u) (v s : Int) : Calls Try.prog 20 #[u, .int .i64 v, .int .i64 s] w fun e w' => e = .returned (.int .i64 1) ∧ w' = w := by
  have C1 := has_un h v
  have C2 := check_un h false
  clear h
  go_enter Try.func20, Try.ntmps20
  go_wp2_with fail
  refine C1.mono ?_
  rintro e w ⟨rfl, rfl⟩
  go_wp2_with fail
  refine C2.mono ?_
  rintro e w ⟨rfl, rfl⟩
  go_wp2_with fail
  go_ret
  exact ⟨rfl, rfl⟩
theorem poke_un (h : UN w u) (v : Int) : Calls Try.prog 22 #[u, .int .i64 v] w fun e w' => e = .returned (.int .i64 1) ∧ w' = w := by
  have C1 := has_un h v
  have C2 := check_un h false
  clear h
  go_enter Try.func22, Try.ntmps22
  go_wp2_with fail
  refine C1.mono ?_
  rintro e w ⟨rfl, rfl⟩
  go_wp2_with fail
  refine C2.mono ?_
  rintro e w ⟨rfl, rfl⟩
  go_wp2_with fail
  go_ret
  exact ⟨rfl, rfl⟩
theorem soft_un (h : UN w u) (v : Int) : Calls Try.prog 23 #[u, .int .i64 v] w fun e w' => e = .returned (.bool false) ∧ w' = w := by
  have C1 := has_un h v
  clear h
  go_enter Try.func23, Try.ntmps23
  go_wp2_with fail
  refine C1.mono ?_
  rintro e w ⟨rfl, rfl⟩
  go_wp2_with fail
  go_ret
  exact ⟨rfl, rfl⟩
theorem line_un (h : UN w u) (v : Int) : Calls Try.prog 11 #[u, .int .i64 v] w fun e w' => e = .returned (.bool false) ∧ w' = w := by
  have C1 := has_un h v
  clear h
  go_enter Try.func11, Try.ntmps11
  go_wp2_with fail
  refine C1.mono ?_
  rintro e w ⟨rfl, rfl⟩
  go_wp2_with fail
  go_ret
  exact ⟨rfl, rfl⟩
theorem claim_un (h : UN w u) (v : Int) : Calls Try.prog 16 #[u, .int .i64 v] w fun e w' => e = .returned (.tuple #[.int .i64 0, .int .i64 1]) ∧ w' = w := by
  have C1 := has_un h v
  have C2 := check_un h false
  clear h
  go_enter Try.func16, Try.ntmps16
  go_wp2_with fail
  refine C1.mono ?_
  rintro e w ⟨rfl, rfl⟩
  go_wp2_with fail
  refine C2.mono ?_
  rintro e w ⟨rfl, rfl⟩
  go_wp2_with fail
  go_ret2
  exact ⟨rfl, rfl⟩
theorem weigh_un (h : UN w u) (s n : Int) : Calls Try.prog 19 #[u, .int .i64 s, .int .i64 n] w fun e w' => e = .returned (.int .i64 1) ∧ w' = w := by
  have C1 := isSource_any s w
  have C3 := isWeight_any n w
  generalize src s = p at *
  cases p
  · have C2 := check_un h false
    clear h
    go_enter Try.func19, Try.ntmps19
    go_wp2_with fail
    refine C1.mono ?_
    rintro e w ⟨rfl, rfl⟩
    go_wp2_with fail
    refine C2.mono ?_
    rintro e w ⟨rfl, rfl⟩
    go_wp2_with fail
    go_ret
    exact ⟨rfl, rfl⟩
  · have C2 := check_un h (wgt n)
    clear h
    generalize wgt n = q at *
    go_enter Try.func19, Try.ntmps19
    go_wp2_with fail
    refine C1.mono ?_
    rintro e w ⟨rfl, rfl⟩
    go_wp2_with fail
    refine C3.mono ?_
    rintro e w ⟨rfl, rfl⟩
    go_wp2_with fail
    refine C2.mono ?_
    rintro e w ⟨rfl, rfl⟩
    go_wp2_with fail
    go_ret
    exact ⟨rfl, rfl⟩
end
end Go.Proofs.Ytncjhdhfhojohaa
