/-
  Plain arithmetic of numbers and their bytes, the lowest first, over no program.
-/
import Derived.Test.YtkckobbedpccfaaDoorMath3
namespace Go.Proofs.YtkckobbedpccfaaDoor
open Go.RowKit
set_option linter.unusedVariables false

/-- the number of m bytes from place k on -/
def leFrom (zs : List Int) : Nat → Nat → Int
  | _, 0 => 0
  | k, m + 1 => zs.getD k 0 + 256 * leFrom zs (k + 1) m

theorem leFrom_snoc (zs : List Int) : ∀ m k, leFrom zs k (m + 1) = leFrom zs k m + zs.getD (k + m) 0 * 2 ^ (8 * m)
  | 0, k => by simp [leFrom]
  | m + 1, k => by
    have ih := leFrom_snoc zs m (k + 1)
    rw [leFrom, ih, leFrom, show k + 1 + m = k + (m + 1) by omega, show 8 * (m + 1) = 8 * m + 8 by omega, Int.pow_add, Int.mul_add, Int.mul_left_comm]
    rw [show (2 : Int) ^ 8 = 256 from rfl, Int.mul_comm 256 (2 ^ (8 * m))]
    omega

def Bytes (zs : List Int) : Prop := ∀ i, 0 ≤ zs.getD i 0 ∧ zs.getD i 0 ≤ 255

theorem leFrom_bound (zs : List Int) (h : Bytes zs) : ∀ m k, 0 ≤ leFrom zs k m ∧ leFrom zs k m < 2 ^ (8 * m)
  | 0, k => by simp [leFrom]
  | m + 1, k => by
    have ih := leFrom_bound zs h m (k + 1)
    have hz := h k
    rw [leFrom, show 8 * (m + 1) = 8 * m + 8 by omega, Int.pow_add, show (2 : Int) ^ 8 = 256 from rfl]
    generalize leFrom zs (k + 1) m = x at *
    generalize (2 : Int) ^ (8 * m) = P at *
    omega

/-- a byte laid above what is below it -/
theorem or_byte (v z : Int) (m : Nat) (hm : m < 8) (hv0 : 0 ≤ v) (hv : v < 2 ^ (8 * m)) (hz0 : 0 ≤ z) (hz : z ≤ 255) :
    bits .or .u64 v (IntKind.u64.wrap (z * 2 ^ (8 * m))) = v + z * 2 ^ (8 * m) := by
  have hp := pow_pos' (8 * m)
  have hle : (2 : Int) ^ (8 * m) ≤ 2 ^ 56 := pow_le' (by omega)
  have hle2 : z * 2 ^ (8 * m) ≤ 255 * 2 ^ (8 * m) := Int.mul_le_mul_of_nonneg_right hz (by omega)
  have hge : 0 ≤ z * 2 ^ (8 * m) := Int.mul_nonneg hz0 (by omega)
  have hw : IntKind.u64.wrap (z * 2 ^ (8 * m)) = z * 2 ^ (8 * m) := by
    rw [IntKind.wrap_u64]
    generalize z * 2 ^ (8 * m) = x at *
    generalize (2 : Int) ^ (8 * m) = P at *
    omega
  rw [hw]
  have hc : bits .or .u64 v (z * 2 ^ (8 * m)) = bits .or .u64 (z * 2 ^ (8 * m)) v := by
    rw [u64_or _ _ hv0 (by generalize (2 : Int) ^ (8 * m) = P at *; omega) hge (by generalize z * 2 ^ (8 * m) = x at *; generalize (2 : Int) ^ (8 * m) = P at *; omega),
      u64_or _ _ hge (by generalize z * 2 ^ (8 * m) = x at *; generalize (2 : Int) ^ (8 * m) = P at *; omega) hv0 (by generalize (2 : Int) ^ (8 * m) = P at *; omega), Nat.or_comm]
  rw [hc, bits_join .u64 64 (by decide) wraps_u64 (8 * m) (z * 2 ^ (8 * m)) v hge (by simp) (by generalize z * 2 ^ (8 * m) = x at *; generalize (2 : Int) ^ (8 * m) = P at *; omega) hv0 hv (by generalize (2 : Int) ^ (8 * m) = P at *; omega)]
  omega

/-- what a load of n bytes tells of the number that stands there -/
def extW (n : Int) (v : Int) : Int := if n = 4 ∧ 2147483648 ≤ v then v + 18446744069414584320 else v

theorem ext_shift (v : Int) (h0 : 0 ≤ v) (h1 : v < 18446744073709551616) : shiftW 2 (IntKind.u64.wrap (v * 2 ^ 0)) 0 = v := by
  rw [show shiftW 2 (IntKind.u64.wrap (v * 2 ^ 0)) 0 = IntKind.u64.wrap (wrap64 (IntKind.u64.wrap (v * 2 ^ 0)) / 2 ^ 0) from rfl]
  simp only [IntKind.wrap_u64, wrap64, Int.pow_zero, Int.mul_one, Int.ediv_one]
  omega
theorem ext_shift4 (v : Int) (h0 : 0 ≤ v) (h1 : v < 4294967296) : shiftW 2 (IntKind.u64.wrap (v * 2 ^ 32)) 32 = extW 4 v := by
  rw [show shiftW 2 (IntKind.u64.wrap (v * 2 ^ 32)) 32 = IntKind.u64.wrap (wrap64 (IntKind.u64.wrap (v * 2 ^ 32)) / 2 ^ 32) from rfl]
  have e : (2 : Int) ^ 32 = 4294967296 := rfl
  have hX : IntKind.u64.wrap (v * 2 ^ 32) = v * 4294967296 := by rw [IntKind.wrap_u64, e]; omega
  rw [hX, e]
  by_cases h : v < 2147483648
  · have h2 : wrap64 (v * 4294967296) = v * 4294967296 := by unfold wrap64; omega
    rw [h2, Int.mul_ediv_cancel _ (by decide), IntKind.wrap_u64, extW, if_neg (by omega)]
    omega
  · have h2 : wrap64 (v * 4294967296) = (v - 4294967296) * 4294967296 := by unfold wrap64; omega
    rw [h2, Int.mul_ediv_cancel _ (by decide), IntKind.wrap_u64, extW, if_pos (by omega)]
    omega

/-- the byte of v at place i -/
def byteAt (v : Int) (i : Nat) : Int := v / 2 ^ (8 * i) % 256
def bytesOf (v : Int) (n : Nat) : List Int := (List.range n).map (byteAt v)

theorem byteAt_bound (v : Int) (i : Nat) : 0 ≤ byteAt v i ∧ byteAt v i ≤ 255 := by unfold byteAt; omega
theorem bytesOf_getD (v : Int) (n i : Nat) (h : i < n) : (bytesOf v n).getD i 0 = byteAt v i := by
  simp [bytesOf, h]
theorem bytesOf_bytes (v : Int) (n : Nat) : Bytes (bytesOf v n) := by
  intro i
  by_cases h : i < n
  · rw [bytesOf_getD v n i h]; exact byteAt_bound v i
  · have : (bytesOf v n).getD i 0 = 0 := by simp [bytesOf, h]
    omega
theorem le_bytes (v : Int) (n : Nat) : ∀ m, m ≤ n → leFrom (bytesOf v n) 0 m = v % 2 ^ (8 * m)
  | 0, _ => by simp [leFrom, Int.emod_one]
  | m + 1, h => by
    rw [leFrom_snoc, le_bytes v n m (by omega), Nat.zero_add, bytesOf_getD v n m (by omega), byteAt, show 8 * (m + 1) = 8 * m + 8 by omega, Int.pow_add, show (2 : Int) ^ 8 = 256 from rfl]
    have hp := pow_pos' (8 * m)
    generalize (2 : Int) ^ (8 * m) = P at *
    have h1 := Int.emod_add_mul_ediv v P
    have h2 := Int.emod_add_mul_ediv (v / P) 256
    have h3 := Int.emod_nonneg v (show P ≠ 0 by omega)
    have h4 := Int.emod_lt_of_pos v hp
    have e2 : v = (v % P + v / P % 256 * P) + (P * 256) * (v / P / 256) := by
      have e3 : P * 256 * (v / P / 256) = P * (256 * (v / P / 256)) := by rw [Int.mul_assoc]
      have e4 : v / P % 256 * P + P * (256 * (v / P / 256)) = P * (v / P) := by
        rw [Int.mul_comm (v / P % 256) P, ← Int.mul_add, h2]
      omega
    have h5 : 0 ≤ v / P % 256 ∧ v / P % 256 < 256 := by omega
    have h6 : v / P % 256 * P ≤ 255 * P := Int.mul_le_mul_of_nonneg_right (by omega) (by omega)
    have h7 : 0 ≤ v / P % 256 * P := Int.mul_nonneg h5.1 (by omega)
    have e5 : v % (P * 256) = v % P + v / P % 256 * P := by
      conv => lhs; rw [e2]
      rw [Int.add_mul_emod_self_left]
      exact Int.emod_eq_of_lt (by omega) (by omega)
    exact e5.symm
end Go.Proofs.YtkckobbedpccfaaDoor
