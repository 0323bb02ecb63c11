/-
  EmulateStores for each operation and register.
-/
import Derived.Test.YtkckobbedpccfaaDoorKSt
namespace Go.Proofs.YtkckobbedpccfaaDoor.K
open Go.RowKit
set_option linter.unusedVariables false
set_option maxRecDepth 100000
theorem storesWalk (op rg0 : Int) (X : Nat → Int) (hX : ∀ n, n < 16 → U (X n)) (pc m : Int) (h0 : -9223372036854775808 ≤ op) (h1 : op ≤ 9223372036854775807) (w : World) (hz : SZ w) : Calls Tryd.prog 4 #[.agg (regC X pc m), .int .i64 op, .int .i64 rg0] w fun e w' => e = .returned (.bool true) ∧ Below w.heap.size w w' := by
  obtain ⟨o, ho, o0, o1⟩ := op_at6 op h0 h1
  obtain ⟨k, hk, ek⟩ := and_low rg0 15 15 rfl (by decide)
  have hc : o = 23 ∨ o = 24 ∨ o = 25 ∨ o = 26 ∨ o = 27 ∨ o = 28 := by omega
  rcases hc with rfl | rfl | rfl | rfl | rfl | rfl
  · exact stores_23 op rg0 k hk X hX pc m ho ek w hz
  · exact stores_24 op rg0 k hk X hX pc m ho ek w hz
  · exact stores_25 op rg0 k hk X hX pc m ho ek w hz
  · exact stores_26 op rg0 k hk X hX pc m ho ek w hz
  · exact stores_27 op rg0 k hk X hX pc m ho ek w hz
  · exact stores_28 op rg0 k hk X hX pc m ho ek w hz
end Go.Proofs.YtkckobbedpccfaaDoor.K
