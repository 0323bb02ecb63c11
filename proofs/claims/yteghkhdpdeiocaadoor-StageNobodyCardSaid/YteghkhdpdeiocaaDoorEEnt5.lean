/-
  What Split, Join, names and the document's Split, Join and Allows tell: their contracts.
-/
import Derived.Test.YteghkhdpdeiocaaDoorEEnt
namespace Go.Proofs.YteghkhdpdeiocaaDoor.E
open Go.RowKit
set_option linter.unusedVariables false
set_option maxRecDepth 100000

/-- an address's parts -/
def splitV (n : Int) : Value := if n < 262144 then .tuple #[.int .i64 (n / 8192), .int .i64 (n / 256 % 32), .int .i64 (n % 256), .bool true] else .tuple #[.int .i64 0, .int .i64 0, .int .i64 0, .bool false]
theorem split_any (n : Int) (h0 : 0 ≤ n) (h1 : n < 18446744073709551616) (W : World) :
    Calls Tryd.prog 75 #[.int .u64 n] W fun e W' => e = .returned (splitV n) ∧ W' = W := by
  by_cases h : n < 262144
  · have e : splitV n = .tuple #[.int .i64 (n / 8192), .int .i64 (n / 256 % 32), .int .i64 (n % 256), .bool true] := by unfold splitV; rw [if_pos h]
    rw [e]
    clear e
    have e0 : (n / 262144 == 0) = true := beq_iff_eq.2 (by omega)
    have e1 : wrap64 (n / 8192) = n / 8192 := IntWalk.wrap64_in _ ⟨by omega, by omega⟩
    have e2 : wrap64 (n / 256 % 32) = n / 256 % 32 := IntWalk.wrap64_in _ ⟨by omega, by omega⟩
    have e3 : wrap64 (n % 256) = n % 256 := IntWalk.wrap64_in _ ⟨by omega, by omega⟩
    go_enter Tryd.func75, Tryd.ntmps75
    go_wp2
    exact bodyPost_ret (v := .tuple #[.int .i64 (n / 8192), .int .i64 (n / 256 % 32), .int .i64 (n % 256), .bool true]) (by simp [results, Tryd.results75, go_sem]) rfl ⟨rfl, rfl⟩
  · have e : splitV n = .tuple #[.int .i64 0, .int .i64 0, .int .i64 0, .bool false] := by unfold splitV; rw [if_neg h]
    rw [e]
    clear e
    have e0 : (n / 262144 == 0) = false := beq_eq_false_iff_ne.2 (by omega)
    go_enter Tryd.func75, Tryd.ntmps75
    go_wp2
    exact bodyPost_ret (v := .tuple #[.int .i64 0, .int .i64 0, .int .i64 0, .bool false]) (by simp [results, Tryd.results75, go_sem]) rfl ⟨rfl, rfl⟩

end Go.Proofs.YteghkhdpdeiocaaDoor.E
