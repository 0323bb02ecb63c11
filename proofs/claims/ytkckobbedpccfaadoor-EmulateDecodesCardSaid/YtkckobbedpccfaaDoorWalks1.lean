/-
  What the functions of package word and of the document's answer do that divide, shift and compare: their contracts.
-/
import Derived.Test.YtkckobbedpccfaaDoorRows
import Derived.Test.YtkckobbedpccfaaDoorMath
import Derived.WalkKit
import Derived.ProofKit
import Derived.OpenShut
import Derived.Deep.QuietTactic
import Derived.BigQuiet
namespace Go.Proofs.YtkckobbedpccfaaDoor
open Go.RowKit
set_option linter.unusedVariables false

theorem ret_bool {a b : Bool} (h : a = b) : Ending.returned (.bool a) = .returned (.bool b) := by rw [h]
theorem ret_int {k : IntKind} {a b : Int} (h : a = b) : Ending.returned (.int k a) = .returned (.int k b) := by rw [h]

theorem grown_drewN {W w : World} (h : Grown W w) : ∀ n, Grown W (w.drewN n)
  | 0 => h
  | n + 1 => (grown_drewN h n).drew

theorem endsInt_lt (a b : Int) (h : b < a) (w : World) :
    Calls Tryd.prog 39 #[.int .i64 a, .int .i64 b] w fun e w' => e = .returned (.tuple #[.int .i64 b, .int .i64 a]) ∧ w' = w := by
  go_enter Tryd.func39, Tryd.ntmps39
  go_wp2
  go_ret2
  exact ⟨rfl, rfl⟩
theorem endsInt_ge (a b : Int) (h : a ≤ b) (w : World) :
    Calls Tryd.prog 39 #[.int .i64 a, .int .i64 b] w fun e w' => e = .returned (.tuple #[.int .i64 a, .int .i64 b]) ∧ w' = w := by
  have h' : ¬ b < a := by omega
  go_enter Tryd.func39, Tryd.ntmps39
  go_wp2
  go_ret2
  exact ⟨rfl, rfl⟩
theorem fill_pos (a b : Int) (h0 : 0 ≤ a) (h1 : a < 9223372036854775808) (w : World) :
    Calls Tryd.prog 40 #[.int .u64 a, .int .u64 b] w fun e w' => e = .returned (.int .u64 0) ∧ w' = w := by
  have h2 : (a / 9223372036854775808 == 0) = true := beq_iff_eq.2 (by omega)
  go_enter Tryd.func40, Tryd.ntmps40
  go_wp2
  go_ret
  exact ⟨rfl, rfl⟩
theorem fill_neg (a b : Int) (h0 : 9223372036854775808 ≤ a) (h1 : a < 18446744073709551616) (hb0 : 0 ≤ b) (hb1 : b < 64) (w : World) :
    Calls Tryd.prog 40 #[.int .u64 a, .int .u64 b] w fun e w' => e = .returned (.int .u64 (bits .xor .u64 IntKind.u64.max (18446744073709551615 / 2 ^ b.toNat))) ∧ w' = w := by
  have h2 : (a / 9223372036854775808 == 0) = false := beq_eq_false_iff_ne.2 (by omega)
  go_enter Tryd.func40, Tryd.ntmps40
  go_wp2
  go_ret
  exact ⟨rfl, rfl⟩

theorem shift_any (k a b : Int) (h0 : 0 ≤ a) (h1 : a < 18446744073709551616) (hb0 : 0 ≤ b) (hb1 : b < 18446744073709551616) (w : World) :
    Calls Tryd.prog 30 #[.int .i64 k, .int .u64 a, .int .u64 b] w fun e w' => e = .returned (.int .u64 (shiftW k a b)) ∧ w' = w := by
  have h63 := and63 b hb0 hb1
  by_cases k0 : k = 0
  · have HK : Hid (shiftW k a b = IntKind.u64.wrap (a * 2 ^ (b % 64).toNat)) := by show shiftW k a b = _; simp [shiftW, k0]
    go_enter Tryd.func30, Tryd.ntmps30
    go_wp2
    go_ret
    exact ⟨ret_int HK.out.symm, rfl⟩
  by_cases k1 : k = 1
  · have HK : Hid (shiftW k a b = bits .or .u64 (a / 2 ^ (b % 64).toNat) 0) := by
      show shiftW k a b = _
      have hq := Int.ediv_nonneg (b := 2 ^ (b % 64).toNat) h0 (Int.pow_nonneg (by decide))
      have hl := Int.ediv_le_self (2 ^ (b % 64).toNat) h0
      rw [u64_or _ _ hq (by omega) (by omega) (by omega)]
      simp [shiftW, k1]; omega
    go_enter Tryd.func30, Tryd.ntmps30
    go_wp2
    go_ret
    exact ⟨ret_int HK.out.symm, rfl⟩
  by_cases k2 : k = 2
  · by_cases hs : a < 9223372036854775808
    · have HK : Hid (shiftW k a b = bits .or .u64 (a / 2 ^ (b % 64).toNat) 0) := by
        show shiftW k a b = _
        have hq := Int.ediv_nonneg (b := 2 ^ (b % 64).toNat) h0 (Int.pow_nonneg (by decide))
        have hl := Int.ediv_le_self (2 ^ (b % 64).toNat) h0
        rw [u64_or _ _ hq (by omega) (by omega) (by omega)]
        simp [shiftW, k2, sar_pos a _ h0 hs]; omega
      go_enter Tryd.func30, Tryd.ntmps30
      go_wp2_with (go_at_call 40; refine (fill_pos _ _ (by omega) (by omega) _).mono ?_; rintro e w' ⟨rfl, rfl⟩)
      go_ret
      exact ⟨ret_int HK.out.symm, rfl⟩
    · have HK : Hid (shiftW k a b = bits .or .u64 (a / 2 ^ (b % 64).toNat) (bits .xor .u64 IntKind.u64.max (18446744073709551615 / 2 ^ (b % 64).toNat))) := by
        show shiftW k a b = _
        rw [sar_neg a (64 - (b % 64).toNat) (b % 64).toNat (by omega) (by omega) h1]
        simp [shiftW, k2]
      go_enter Tryd.func30, Tryd.ntmps30
      go_wp2_with (go_at_call 40; refine (fill_neg _ _ (by omega) (by omega) (by omega) (by omega) _).mono ?_; rintro e w' ⟨rfl, rfl⟩)
      go_ret
      exact ⟨ret_int HK.out.symm, rfl⟩
  have HK : Hid (shiftW k a b = a) := by show shiftW k a b = _; simp [shiftW, k0, k1, k2]
  go_enter Tryd.func30, Tryd.ntmps30
  go_wp2
  go_ret
  exact ⟨ret_int HK.out.symm, rfl⟩
end Go.Proofs.YtkckobbedpccfaaDoor
