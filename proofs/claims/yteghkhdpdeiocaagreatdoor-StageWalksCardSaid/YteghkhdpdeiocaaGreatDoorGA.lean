/-
  Plain arithmetic of shifts and bits of 64-bit numbers, over no program.
  What the functions of package word and of the document's answer do that divide, shift and compare: their contracts.
  Plain arithmetic of fields of 32 bits and of numbers with a sign, over no program.
  Plain arithmetic of placing bits into a word of 32 bits, over no program.
  What the functions of package word and of the document's answer do that tell and place fields and signs: their contracts.
  What sizeOf does: its contract, over the table of sizes as it is laid.
  Plain arithmetic of numbers and their bytes, the lowest first, over no program.
  What Load does, the program's and the document's: their contracts.
  What Store does, the program's and the document's: their contracts.
  What the document's Load and Store do: their contracts.
  What the document's Store does: its contract.
  Slices of bytes that came in or were cut, told by their numbers: loads, conversions and appends over them.
-/
import Derived.RowKit
import Derived.IntWalk
import Derived.Laws.BitsAllLaws
import Derived.Laws.BitsLemmas
import Derived.Test.YteghkhdpdeiocaaGreatDoorRows
import Derived.WalkKit
import Derived.ProofKit
import Derived.OpenShut
import Derived.Deep.QuietTactic
import Derived.BigQuiet
import Derived.Laws.BytesArg
import Derived.Laws.AppendOwnNone
namespace Go.Proofs.YteghkhdpdeiocaaGreatDoor
open Go.RowKit
set_option linter.unusedVariables false
set_option maxRecDepth 100000

theorem umax_eq : IntKind.u64.max = 18446744073709551615 := by decide
theorem wraps_u64 (n : Int) (h0 : 0 ≤ n) (h1 : n < 2 ^ 64) : IntKind.u64.wrap n = n := by rw [IntKind.wrap_u64]; omega
theorem and63 (b : Int) (h0 : 0 ≤ b) (h1 : b < 18446744073709551616) : bits .and .u64 b 63 = b % 64 :=
  bits_mask .u64 64 (by decide) wraps_u64 6 (by decide) b h0 (by omega)

theorem ones_shift (m n : Nat) (h : m + n = 64) : (18446744073709551615 : Nat) / 2 ^ n = 2 ^ m - 1 := by
  have e : (18446744073709551616 : Nat) = 2 ^ m * 2 ^ n := by rw [← Nat.pow_add, h]
  have hn : 0 < 2 ^ n := Nat.two_pow_pos n
  have hm : 0 < 2 ^ m := Nat.two_pow_pos m
  apply (Nat.div_eq_iff hn).2
  generalize hN : 2 ^ n = N at *
  generalize hM : 2 ^ m = M at *
  have e2 : (M - 1) * N = M * N - N := by rw [Nat.sub_mul, Nat.one_mul]
  have e3 : N ≤ M * N := Nat.le_mul_of_pos_left _ hm
  omega

theorem fill_nat (m n : Nat) (h : m + n = 64) : (18446744073709551615 : Nat) ^^^ (18446744073709551615 / 2 ^ n) = 2 ^ m * (2 ^ n - 1) := by
  rw [ones_shift m n h]
  have e : (18446744073709551615 : Nat) = 2 ^ 64 - 1 := by decide
  rw [e]
  apply Nat.eq_of_testBit_eq
  intro j
  rw [Nat.testBit_xor, Nat.testBit_two_pow_sub_one, Nat.testBit_two_pow_sub_one, Nat.testBit_two_pow_mul, Nat.testBit_two_pow_sub_one]
  by_cases h1 : j < m
  · have h2 : j < 64 := by omega
    have h3 : ¬ m ≤ j := by omega
    simp [h1, h2, h3]
  · have h3 : m ≤ j := by omega
    by_cases h2 : j < 64
    · have h4 : j - m < n := by omega
      simp [h1, h2, h3, h4]
    · have h4 : ¬ j - m < n := by omega
      simp [h1, h2, h4]

theorem pow_split (m n : Nat) (h : m + n = 64) : (18446744073709551616 : Int) = 2 ^ m * 2 ^ n := by
  rw [← Int.pow_add, h]; decide

theorem sar_pos (a : Int) (n : Nat) (h0 : 0 ≤ a) (h1 : a < 9223372036854775808) : IntKind.u64.wrap (wrap64 a / 2 ^ n) = a / 2 ^ n := by
  have e : wrap64 a = a := IntWalk.wrap64_in a ⟨by omega, by omega⟩
  rw [e, IntKind.wrap_u64]
  have h2 : 0 ≤ a / 2 ^ n := Int.ediv_nonneg h0 (Int.pow_nonneg (by decide))
  have h3 : a / 2 ^ n ≤ a := Int.ediv_le_self _ h0
  omega

theorem sar_neg (a : Int) (m n : Nat) (h : m + n = 64) (h0 : 9223372036854775808 ≤ a) (h1 : a < 18446744073709551616) :
    bits .or .u64 (a / 2 ^ n) (bits .xor .u64 IntKind.u64.max (18446744073709551615 / 2 ^ n)) = IntKind.u64.wrap (wrap64 a / 2 ^ n) := by
  obtain ⟨A, rfl⟩ := Int.eq_ofNat_of_zero_le (show 0 ≤ a by omega)
  have e0 : wrap64 (A : Int) = A + -(2 ^ m) * 2 ^ n := by
    have := pow_split m n h
    rw [Int.neg_mul, ← this]; unfold wrap64; omega
  have hn0 : (2 ^ n : Int) ≠ 0 := by have : (0 : Int) < 2 ^ n := Int.pow_pos (by decide); omega
  rw [e0, Int.add_mul_ediv_right _ _ hn0, umax_eq]
  have e1 : (18446744073709551615 : Int) / 2 ^ n = ((18446744073709551615 / 2 ^ n : Nat) : Int) := by simp
  have e2 : (A : Int) / 2 ^ n = ((A / 2 ^ n : Nat) : Int) := by simp
  have hl : (18446744073709551615 : Nat) / 2 ^ n ≤ 18446744073709551615 := Nat.div_le_self _ _
  have hx := u64_xor_nat 18446744073709551615 (18446744073709551615 / 2 ^ n) (by omega) (by omega)
  rw [fill_nat m n h] at hx
  rw [e1, e2]
  rw [show ((18446744073709551615 : Nat) : Int) = 18446744073709551615 from rfl] at hx
  rw [hx]
  have hA : A / 2 ^ n < 2 ^ m := by
    apply (Nat.div_lt_iff_lt_mul (Nat.two_pow_pos n)).2
    rw [← Nat.pow_add, h]; omega
  have hMN : 2 ^ m * 2 ^ n = (18446744073709551616 : Nat) := by rw [← Nat.pow_add, h]
  have hf : 2 ^ m * (2 ^ n - 1) = 18446744073709551616 - 2 ^ m := by rw [Nat.mul_sub, hMN, Nat.mul_one]
  have hm1 : 1 ≤ 2 ^ m := Nat.two_pow_pos m
  have hm2 : 2 ^ m ≤ 18446744073709551616 := by rw [← hMN]; exact Nat.le_mul_of_pos_right _ (Nat.two_pow_pos n)
  rw [u64_or_nat _ _ (by have := Nat.div_le_self A (2 ^ n); omega) (by omega), Nat.or_comm, ← Nat.two_pow_add_eq_or_of_lt hA, hf, IntKind.wrap_u64]
  have hc : ((2 : Int) ^ m) = ((2 ^ m : Nat) : Int) := by simp
  rw [hc]
  generalize 2 ^ m = M at *
  generalize A / 2 ^ n = q at *
  omega

/-- What Shift tells: by its kind, by the lowest six bits of the count. -/
def shiftW (k a b : Int) : Int :=
  if k = 0 then IntKind.u64.wrap (a * 2 ^ (b % 64).toNat) else
  if k = 1 then a / 2 ^ (b % 64).toNat else
  if k = 2 then IntKind.u64.wrap (wrap64 a / 2 ^ (b % 64).toNat) else a

/-- What Less tells. -/
def lessW (a b : Int) (s : Bool) : Bool := if s then decide (wrap64 a < wrap64 b) else decide (a < b)

end Go.Proofs.YteghkhdpdeiocaaGreatDoor
namespace Go.Proofs.YteghkhdpdeiocaaGreatDoor
open Go.RowKit
set_option linter.unusedVariables false
set_option maxRecDepth 100000

theorem ret_bool {a b : Bool} (h : a = b) : Ending.returned (.bool a) = .returned (.bool b) := by rw [h]
theorem ret_int {k : IntKind} {a b : Int} (h : a = b) : Ending.returned (.int k a) = .returned (.int k b) := by rw [h]

theorem grown_drewN {W w : World} (h : Grown W w) : ∀ n, Grown W (w.drewN n)
  | 0 => h
  | n + 1 => (grown_drewN h n).drew

theorem endsInt_lt (a b : Int) (h : b < a) (w : World) :
    Calls Tryz.prog 114 #[.int .i64 a, .int .i64 b] w fun e w' => e = .returned (.tuple #[.int .i64 b, .int .i64 a]) ∧ w' = w := by
  go_enter Tryz.func114, Tryz.ntmps114
  go_wp2
  go_ret2
  exact ⟨rfl, rfl⟩
theorem endsInt_ge (a b : Int) (h : a ≤ b) (w : World) :
    Calls Tryz.prog 114 #[.int .i64 a, .int .i64 b] w fun e w' => e = .returned (.tuple #[.int .i64 a, .int .i64 b]) ∧ w' = w := by
  have h' : ¬ b < a := by omega
  go_enter Tryz.func114, Tryz.ntmps114
  go_wp2
  go_ret2
  exact ⟨rfl, rfl⟩
theorem fill_pos (a b : Int) (h0 : 0 ≤ a) (h1 : a < 9223372036854775808) (w : World) :
    Calls Tryz.prog 115 #[.int .u64 a, .int .u64 b] w fun e w' => e = .returned (.int .u64 0) ∧ w' = w := by
  have h2 : (a / 9223372036854775808 == 0) = true := beq_iff_eq.2 (by omega)
  go_enter Tryz.func115, Tryz.ntmps115
  go_wp2
  go_ret
  exact ⟨rfl, rfl⟩
theorem fill_neg (a b : Int) (h0 : 9223372036854775808 ≤ a) (h1 : a < 18446744073709551616) (hb0 : 0 ≤ b) (hb1 : b < 64) (w : World) :
    Calls Tryz.prog 115 #[.int .u64 a, .int .u64 b] w fun e w' => e = .returned (.int .u64 (bits .xor .u64 IntKind.u64.max (18446744073709551615 / 2 ^ b.toNat))) ∧ w' = w := by
  have h2 : (a / 9223372036854775808 == 0) = false := beq_eq_false_iff_ne.2 (by omega)
  go_enter Tryz.func115, Tryz.ntmps115
  go_wp2
  go_ret
  exact ⟨rfl, rfl⟩

theorem shift_any (k a b : Int) (h0 : 0 ≤ a) (h1 : a < 18446744073709551616) (hb0 : 0 ≤ b) (hb1 : b < 18446744073709551616) (w : World) :
    Calls Tryz.prog 109 #[.int .i64 k, .int .u64 a, .int .u64 b] w fun e w' => e = .returned (.int .u64 (shiftW k a b)) ∧ w' = w := by
  have h63 := and63 b hb0 hb1
  by_cases k0 : k = 0
  · have HK : Hid (shiftW k a b = IntKind.u64.wrap (a * 2 ^ (b % 64).toNat)) := by show shiftW k a b = _; simp [shiftW, k0]
    go_enter Tryz.func109, Tryz.ntmps109
    go_wp2
    go_ret
    exact ⟨ret_int HK.out.symm, rfl⟩
  by_cases k1 : k = 1
  · have HK : Hid (shiftW k a b = bits .or .u64 (a / 2 ^ (b % 64).toNat) 0) := by
      show shiftW k a b = _
      have hq := Int.ediv_nonneg (b := 2 ^ (b % 64).toNat) h0 (Int.pow_nonneg (by decide))
      have hl := Int.ediv_le_self (2 ^ (b % 64).toNat) h0
      rw [u64_or _ _ hq (by omega) (by omega) (by omega)]
      simp [shiftW, k1]; omega
    go_enter Tryz.func109, Tryz.ntmps109
    go_wp2
    go_ret
    exact ⟨ret_int HK.out.symm, rfl⟩
  by_cases k2 : k = 2
  · by_cases hs : a < 9223372036854775808
    · have HK : Hid (shiftW k a b = bits .or .u64 (a / 2 ^ (b % 64).toNat) 0) := by
        show shiftW k a b = _
        have hq := Int.ediv_nonneg (b := 2 ^ (b % 64).toNat) h0 (Int.pow_nonneg (by decide))
        have hl := Int.ediv_le_self (2 ^ (b % 64).toNat) h0
        rw [u64_or _ _ hq (by omega) (by omega) (by omega)]
        simp [shiftW, k2, sar_pos a _ h0 hs]; omega
      go_enter Tryz.func109, Tryz.ntmps109
      go_wp2_with (go_at_call 115; refine (fill_pos _ _ (by omega) (by omega) _).mono ?_; rintro e w' ⟨rfl, rfl⟩)
      go_ret
      exact ⟨ret_int HK.out.symm, rfl⟩
    · have HK : Hid (shiftW k a b = bits .or .u64 (a / 2 ^ (b % 64).toNat) (bits .xor .u64 IntKind.u64.max (18446744073709551615 / 2 ^ (b % 64).toNat))) := by
        show shiftW k a b = _
        rw [sar_neg a (64 - (b % 64).toNat) (b % 64).toNat (by omega) (by omega) h1]
        simp [shiftW, k2]
      go_enter Tryz.func109, Tryz.ntmps109
      go_wp2_with (go_at_call 115; refine (fill_neg _ _ (by omega) (by omega) (by omega) (by omega) _).mono ?_; rintro e w' ⟨rfl, rfl⟩)
      go_ret
      exact ⟨ret_int HK.out.symm, rfl⟩
  have HK : Hid (shiftW k a b = a) := by show shiftW k a b = _; simp [shiftW, k0, k1, k2]
  go_enter Tryz.func109, Tryz.ntmps109
  go_wp2
  go_ret
  exact ⟨ret_int HK.out.symm, rfl⟩
end Go.Proofs.YteghkhdpdeiocaaGreatDoor
namespace Go.Proofs.YteghkhdpdeiocaaGreatDoor
open Go.RowKit
set_option linter.unusedVariables false
set_option maxRecDepth 100000

theorem wraps_u32 (n : Int) (h0 : 0 ≤ n) (h1 : n < 2 ^ 32) : IntKind.u32.wrap n = n := by rw [IntKind.wrap_u32]; omega

theorem pow_pos' (n : Nat) : (0 : Int) < 2 ^ n := Int.pow_pos (by decide)
theorem pow_le' {m n : Nat} (h : m ≤ n) : (2 : Int) ^ m ≤ 2 ^ n := by
  have := Nat.pow_le_pow_right (n := 2) (by decide) h
  have e1 : ((2 ^ m : Nat) : Int) = 2 ^ m := by simp
  have e2 : ((2 ^ n : Nat) : Int) = 2 ^ n := by simp
  rw [← e1, ← e2]; omega
theorem pow_half (N : Nat) (h : 1 ≤ N) : (2 : Int) ^ N = 2 * 2 ^ (N - 1) := by
  obtain ⟨M, rfl⟩ : ∃ M, N = M + 1 := ⟨N - 1, by omega⟩
  rw [Int.pow_succ]; simp; omega

theorem emod_le_self (x m : Int) (h0 : 0 ≤ x) (hm : 0 < m) : x % m ≤ x := by
  have h1 := Int.emod_add_mul_ediv x m
  have h2 : 0 ≤ m * (x / m) := Int.mul_nonneg (Int.le_of_lt hm) (Int.ediv_nonneg h0 (Int.le_of_lt hm))
  omega
theorem ones32 (n : Nat) (h : n ≤ 32) : (4294967295 : Int) / 2 ^ (32 - n) = 2 ^ n - 1 := by
  have e : (4294967296 : Int) = 2 ^ n * 2 ^ (32 - n) := by rw [← Int.pow_add, show n + (32 - n) = 32 by omega]; decide
  have hn := pow_pos' (32 - n)
  have hm := pow_pos' n
  generalize hN : (2 : Int) ^ (32 - n) = N at *
  generalize hM : (2 : Int) ^ n = M at *
  rw [show (4294967295 : Int) = N - 1 + (M - 1) * N by rw [Int.sub_mul, ← e]; omega, Int.add_mul_ediv_right _ _ (by omega), Int.ediv_eq_zero_of_lt (by omega) (by omega)]
  omega

theorem and_ones32 (x : Int) (n : Nat) (h : n ≤ 32) (h0 : 0 ≤ x) (h1 : x ≤ 4294967295) : bits .and .u32 x (2 ^ n - 1) = x % 2 ^ n :=
  bits_mask .u32 32 (by decide) wraps_u32 n h x h0 (by omega)

/-- a field's next bit below -/
theorem field_step (w : Int) (j m : Nat) : w / 2 ^ j % 2 ^ (m + 1) = w / 2 ^ (j + 1) % 2 ^ m * 2 + w / 2 ^ j % 2 := by
  have e : w / 2 ^ (j + 1) = w / 2 ^ j / 2 := by
    rw [Int.pow_succ, Int.ediv_ediv_of_nonneg (Int.le_of_lt (pow_pos' j))]
  rw [e, Int.pow_succ]
  generalize w / 2 ^ j = x
  have hp := pow_pos' m
  generalize (2 : Int) ^ m = P at *
  have h1 := Int.emod_add_mul_ediv x 2
  have h2 := Int.emod_add_mul_ediv (x / 2) P
  have h3 := Int.emod_nonneg (x / 2) (show P ≠ 0 by omega)
  have h4 := Int.emod_lt_of_pos (x / 2) hp
  have h5 : 0 ≤ x % 2 ∧ x % 2 < 2 := by omega
  have e2 : x = (x / 2 % P * 2 + x % 2) + (P * 2) * (x / 2 / P) := by
    generalize x / 2 / P = Q at *
    have : P * 2 * Q = 2 * (P * Q) := by rw [Int.mul_assoc, Int.mul_left_comm]
    omega
  have e3 : x % (P * 2) = (x / 2 % P * 2 + x % 2) := by
    conv => lhs; rw [e2]
    rw [Int.add_mul_emod_self_left]
    exact Int.emod_eq_of_lt (by omega) (by omega)
  exact e3

/-- what Sign tells -/
def signW (v : Int) (N : Nat) : Int := (v + 2 ^ (N - 1)) % 2 ^ N - 2 ^ (N - 1)

theorem sign_shift (v : Int) (N : Nat) (h1 : 1 ≤ N) (h2 : N ≤ 63) : wrap64 (v * 2 ^ (64 - N)) / 2 ^ (64 - N) = signW v N := by
  have e : (18446744073709551616 : Int) = 2 ^ (64 - N) * 2 ^ N := by rw [← Int.pow_add, show (64 - N) + N = 64 by omega]; decide
  have e2 : (9223372036854775808 : Int) = 2 ^ (N - 1) * 2 ^ (64 - N) := by rw [← Int.pow_add, show (N - 1) + (64 - N) = 63 by omega]; decide
  unfold wrap64 signW
  have hk := pow_pos' (64 - N)
  rw [e]
  rw [show v * 2 ^ (64 - N) + 9223372036854775808 = 2 ^ (64 - N) * (v + 2 ^ (N - 1)) by rw [e2, Int.mul_add, Int.mul_comm v, Int.mul_comm (2 ^ (N - 1))]]
  rw [Int.mul_emod_mul_of_pos _ _ hk]
  conv => lhs; rw [show (9223372036854775808 : Int) = 2 ^ (64 - N) * 2 ^ (N - 1) by rw [e2, Int.mul_comm]]
  rw [← Int.mul_sub, Int.mul_ediv_cancel_left _ (by omega)]

theorem sign_cases (v : Int) (N : Nat) (h1 : 1 ≤ N) :
    ((v % 2 ^ N / 2 ^ (N - 1) == 1) = true ∧ signW v N = v % 2 ^ N - 2 ^ (N - 1) - 2 ^ (N - 1)) ∨ ((v % 2 ^ N / 2 ^ (N - 1) == 1) = false ∧ signW v N = v % 2 ^ N) := by
  unfold signW
  rw [pow_half N h1]
  have hp := pow_pos' (N - 1)
  generalize (2 : Int) ^ (N - 1) = H at *
  have h3 := Int.emod_nonneg v (show 2 * H ≠ 0 by omega)
  have h4 := Int.emod_lt_of_pos v (show 0 < 2 * H by omega)
  have h5 := Int.emod_add_mul_ediv v (2 * H)
  have ev : (v + H) % (2 * H) = (v % (2 * H) + H) % (2 * H) := by rw [Int.emod_add_emod]
  generalize v % (2 * H) = m at *
  by_cases hm : m < H
  · right
    have : m / H = 0 := Int.ediv_eq_zero_of_lt h3 hm
    refine ⟨by rw [this]; decide, ?_⟩
    rw [ev, Int.emod_eq_of_lt (by omega) (by omega)]; omega
  · left
    have : m / H = 1 := by
      rw [show m = (m - H) + 1 * H by omega, Int.add_mul_ediv_right _ _ (by omega), Int.ediv_eq_zero_of_lt (by omega) (by omega)]; rfl
    refine ⟨by rw [this]; decide, ?_⟩
    rw [ev, show m + H = (m - H) + 2 * H * 1 by omega, Int.add_mul_emod_self_left, Int.emod_eq_of_lt (by omega) (by omega)]

/-- the lowest bits of a number with a sign -/
theorem and_ones64 (v : Int) (N : Nat) (h : N ≤ 63) : bits .and .i64 v (2 ^ N - 1) = v % 2 ^ N := by
  have hp := pow_pos' N
  have hle : (2 : Int) ^ N ≤ 2 ^ 63 := pow_le' h
  have hm0 := Int.emod_nonneg v (show (2 : Int) ^ N ≠ 0 by omega)
  have hm1 := Int.emod_lt_of_pos v hp
  show IntKind.i64.wrap ((BitVec.ofInt 64 v &&& BitVec.ofInt 64 (2 ^ N - 1)).toNat : Int) = _
  rw [BitVec.toNat_and, BitVec.toNat_ofInt, BitVec.toNat_ofInt]
  have e1 : (((2 : Int) ^ N - 1) % ((2 ^ 64 : Nat) : Int)).toNat = 2 ^ N - 1 := by
    have e0 : ((2 : Int) ^ N - 1) = ((2 ^ N - 1 : Nat) : Int) := by rw [Int.natCast_sub (Nat.two_pow_pos N)]; simp
    rw [e0, ← Int.natCast_emod, Int.toNat_natCast]
    apply Nat.mod_eq_of_lt
    have := Nat.pow_le_pow_right (n := 2) (by decide) h
    have := Nat.two_pow_pos N
    omega
  rw [e1, Nat.and_two_pow_sub_one_eq_mod]
  have e2 : (((v % ((2 ^ 64 : Nat) : Int)).toNat % 2 ^ N : Nat) : Int) = v % 2 ^ N := by
    rw [Int.natCast_emod, Int.toNat_of_nonneg (by omega)]
    have e3 : ((2 ^ N : Nat) : Int) = 2 ^ N := by simp
    rw [e3]
    apply Int.emod_emod_of_dvd
    refine ⟨2 ^ (64 - N), ?_⟩
    rw [← Int.pow_add, show N + (64 - N) = 64 by omega]; rfl
  rw [e2, IntKind.wrap_i64]
  omega

theorem one_shl (N : Nat) (h : N ≤ 62) : wrap64 (2 ^ N) = 2 ^ N := by
  have hp := pow_pos' N
  have hle : (2 : Int) ^ N ≤ 2 ^ 62 := pow_le' h
  exact IntWalk.wrap64_in _ ⟨by omega, by omega⟩
theorem ones_shl (N : Nat) (h : N ≤ 63) : wrap64 (wrap64 (2 ^ N) - 1) = 2 ^ N - 1 := by
  by_cases h2 : N ≤ 62
  · rw [one_shl N h2]
    have hp := pow_pos' N
    have hle : (2 : Int) ^ N ≤ 2 ^ 62 := pow_le' h2
    exact IntWalk.wrap64_in _ ⟨by omega, by omega⟩
  · have : N = 63 := by omega
    subst this; decide +kernel

end Go.Proofs.YteghkhdpdeiocaaGreatDoor
namespace Go.Proofs.YteghkhdpdeiocaaGreatDoor
open Go.RowKit
set_option linter.unusedVariables false
set_option maxRecDepth 100000

/-- the word with i bits of V laid from t on -/
def placeN (w V t i : Nat) : Nat := (w &&& (4294967295 - (2 ^ i - 1) * 2 ^ t)) ||| (V * 2 ^ t % 4294967296 &&& (2 ^ i - 1) * 2 ^ t)

theorem mask_lt (t i : Nat) (h : t + i ≤ 32) : (2 ^ i - 1) * 2 ^ t < 2 ^ 32 := by
  have h1 : 2 ^ i * 2 ^ t ≤ 2 ^ 32 := by rw [← Nat.pow_add]; exact Nat.pow_le_pow_right (by decide) (by omega)
  have h2 := Nat.two_pow_pos t
  have h3 := Nat.two_pow_pos i
  have h4 : (2 ^ i - 1) * 2 ^ t = 2 ^ i * 2 ^ t - 2 ^ t := by rw [Nat.sub_mul, Nat.one_mul]
  have h5 : 2 ^ t ≤ 2 ^ i * 2 ^ t := Nat.le_mul_of_pos_left _ h3
  omega

theorem testBit_mask (t i j : Nat) : ((2 ^ i - 1) * 2 ^ t).testBit j = (decide (t ≤ j) && decide (j - t < i)) := by
  rw [Nat.testBit_mul_two_pow, Nat.testBit_two_pow_sub_one]
theorem testBit_not32 (m j : Nat) (h : m < 2 ^ 32) : (4294967295 - m).testBit j = (decide (j < 32) && !m.testBit j) := by
  rw [show 4294967295 - m = 2 ^ 32 - (m + 1) by omega, Nat.testBit_two_pow_sub_succ h]

theorem testBit_place (w V t i j : Nat) (hw : w < 2 ^ 32) (h : t + i ≤ 32) :
    (placeN w V t i).testBit j = if t ≤ j ∧ j < t + i then V.testBit (j - t) else w.testBit j := by
  unfold placeN
  rw [Nat.testBit_or, Nat.testBit_and, Nat.testBit_and, testBit_not32 _ _ (mask_lt t i h), testBit_mask]
  rw [show (4294967296 : Nat) = 2 ^ 32 from rfl, Nat.testBit_mod_two_pow, Nat.testBit_mul_two_pow]
  by_cases hj : j < 32
  · by_cases h1 : t ≤ j
    · by_cases h2 : j < t + i
      · have h3 : j - t < i := by omega
        simp [hj, h1, h2, h3]
      · have h3 : ¬ j - t < i := by omega
        simp [hj, h1, h2, h3]
    · simp [hj, h1]
  · have h2 : ¬ (t ≤ j ∧ j < t + i) := by omega
    have h3 : w.testBit j = false := Nat.testBit_lt_two_pow (Nat.lt_of_lt_of_le hw (Nat.pow_le_pow_right (by decide) (by omega)))
    simp [hj, h2, h3]

theorem place_lt (w V t i : Nat) (hw : w < 2 ^ 32) (h : t + i ≤ 32) : placeN w V t i < 4294967296 := by
  unfold placeN
  exact Nat.or_lt_two_pow (n := 32) (Nat.and_lt_two_pow _ (by omega)) (Nat.and_lt_two_pow _ (mask_lt t i h))

theorem place_zero (w V t : Nat) (hw : w < 2 ^ 32) (h : t ≤ 32) : placeN w V t 0 = w := by
  apply Nat.eq_of_testBit_eq
  intro j
  rw [testBit_place w V t 0 j hw (by omega), if_neg (by omega)]

theorem place_yes (w V t i : Nat) (hw : w < 2 ^ 32) (h : t + i < 32) (hb : V.testBit i = true) :
    (placeN w V t i &&& (4294967295 - 2 ^ (t + i))) ||| 2 ^ (t + i) = placeN w V t (i + 1) := by
  have hp : 2 ^ (t + i) < 2 ^ 32 := Nat.pow_lt_pow_right (by decide) h
  apply Nat.eq_of_testBit_eq
  intro j
  rw [Nat.testBit_or, Nat.testBit_and, testBit_not32 _ _ hp, testBit_place w V t i j hw (by omega), testBit_place w V t (i + 1) j hw (by omega), Nat.testBit_two_pow]
  by_cases e : t + i = j
  · subst e
    have : t ≤ t + i ∧ t + i < t + (i + 1) := by omega
    rw [if_pos this, show t + i - t = i by omega, hb]; simp
  · have hiff : (t ≤ j ∧ j < t + (i + 1)) ↔ (t ≤ j ∧ j < t + i) := by omega
    by_cases hj : j < 32
    · simp [e, hj, hiff]
    · have h3 : w.testBit j = false := Nat.testBit_lt_two_pow (Nat.lt_of_lt_of_le hw (Nat.pow_le_pow_right (by decide) (by omega)))
      have h4 : ¬ (t ≤ j ∧ j < t + i) := by omega
      simp [e, hj, hiff, h3, h4]
theorem place_no (w V t i : Nat) (hw : w < 2 ^ 32) (h : t + i < 32) (hb : V.testBit i = false) :
    (placeN w V t i &&& (4294967295 - 2 ^ (t + i))) = placeN w V t (i + 1) := by
  have hp : 2 ^ (t + i) < 2 ^ 32 := Nat.pow_lt_pow_right (by decide) h
  apply Nat.eq_of_testBit_eq
  intro j
  rw [Nat.testBit_and, testBit_not32 _ _ hp, testBit_place w V t i j hw (by omega), testBit_place w V t (i + 1) j hw (by omega), Nat.testBit_two_pow]
  by_cases e : t + i = j
  · subst e
    have : t ≤ t + i ∧ t + i < t + (i + 1) := by omega
    rw [if_pos this, show t + i - t = i by omega, hb]; simp
  · have hiff : (t ≤ j ∧ j < t + (i + 1)) ↔ (t ≤ j ∧ j < t + i) := by omega
    by_cases hj : j < 32
    · simp [e, hj, hiff]
    · have h3 : w.testBit j = false := Nat.testBit_lt_two_pow (Nat.lt_of_lt_of_le hw (Nat.pow_le_pow_right (by decide) (by omega)))
      have h4 : ¬ (t ≤ j ∧ j < t + i) := by omega
      simp [e, hj, hiff, h3, h4]

theorem and1 (x : Int) : bits .and .i64 x 1 = x % 2 := and_ones64 x 1 (by decide)

theorem bit_of (v : Int) (i : Nat) (hi : i < 32) : (v / 2 ^ i % 2 == 1) = (v % 4294967296).toNat.testBit i := by
  have hV0 : 0 ≤ v % 4294967296 := by omega
  obtain ⟨V, hV⟩ := Int.eq_ofNat_of_zero_le hV0
  rw [hV, Int.toNat_natCast, Nat.testBit_eq_decide_div_mod_eq]
  have hp := pow_pos' i
  have e : (4294967296 : Int) = 2 ^ (31 - i) * 2 * 2 ^ i := by
    rw [← Int.pow_succ, ← Int.pow_add, show 31 - i + 1 + i = 32 by omega]; decide
  have ev : v = (V : Int) + (2 ^ (31 - i) * 2 * (v / 4294967296)) * 2 ^ i := by
    have h := Int.emod_add_mul_ediv v 4294967296
    rw [Int.mul_right_comm (2 ^ (31 - i) * 2), ← e, ← hV]; omega
  have e2 : v / 2 ^ i % 2 = ((V / 2 ^ i % 2 : Nat) : Int) := by
    conv => lhs; rw [ev]
    rw [Int.add_mul_ediv_right _ _ (by omega), Int.mul_right_comm, Int.add_mul_emod_self_right]
    simp
  rw [e2, Bool.eq_iff_iff]
  simp only [beq_iff_eq, decide_eq_true_eq]
  omega

theorem place_word (w V t n : Nat) (v : Int) (hV : v % 4294967296 = V) (hw : w < 2 ^ 32) (h : t + n ≤ 32) :
    bits .or .u32 (bits .andNot .u32 (w : Int) (((2 ^ n - 1) * 2 ^ t : Nat) : Int)) (bits .and .u32 (IntKind.u32.wrap (IntKind.u32.wrap v * 2 ^ t)) (((2 ^ n - 1) * 2 ^ t : Nat) : Int)) = (placeN w V t n : Int) := by
  have hm := mask_lt t n h
  have e1 : IntKind.u32.wrap (IntKind.u32.wrap v * 2 ^ t) = ((V * 2 ^ t % 4294967296 : Nat) : Int) := by
    rw [IntKind.wrap_u32, IntKind.wrap_u32, hV]; simp
  rw [e1, u32_andNot_nat _ _ (by omega) (by omega), u32_and_nat _ _ (by omega) (by omega)]
  have h1 : w &&& (4294967295 - (2 ^ n - 1) * 2 ^ t) < 2 ^ 32 := Nat.and_lt_two_pow _ (by omega)
  have h2 : V * 2 ^ t % 4294967296 &&& (2 ^ n - 1) * 2 ^ t < 2 ^ 32 := Nat.and_lt_two_pow _ hm
  rw [u32_or_nat _ _ h1 h2]
  rfl
theorem mask_wrap (t n : Nat) (h : t + n ≤ 32) : IntKind.u32.wrap ((2 ^ n - 1) * 2 ^ t) = (((2 ^ n - 1) * 2 ^ t : Nat) : Int) := by
  have hm := mask_lt t n h
  have e : ((2 : Int) ^ n - 1) * 2 ^ t = (((2 ^ n - 1) * 2 ^ t : Nat) : Int) := by
    rw [Int.natCast_mul, Int.natCast_sub (Nat.two_pow_pos n)]; simp
  rw [e, IntKind.wrap_u32]
  omega
theorem bit_wrap (j : Nat) (h : j < 32) : IntKind.u32.wrap (2 ^ j) = ((2 ^ j : Nat) : Int) := by
  have hp : 2 ^ j < 2 ^ 32 := Nat.pow_lt_pow_right (by decide) h
  have e : (2 : Int) ^ j = ((2 ^ j : Nat) : Int) := by simp
  rw [e, IntKind.wrap_u32]
  generalize 2 ^ j = X at *
  omega
theorem place_step_not (w V t i : Nat) (hw : w < 2 ^ 32) (h : t + i < 32) :
    bits .andNot .u32 (placeN w V t i : Int) ((2 ^ (t + i) : Nat) : Int) = ((placeN w V t i &&& (4294967295 - 2 ^ (t + i)) : Nat) : Int) := by
  have hp : 2 ^ (t + i) < 2 ^ 32 := Nat.pow_lt_pow_right (by decide) h
  exact u32_andNot_nat _ _ (place_lt w V t i hw (by omega)) (by omega)
theorem place_step_or (w V t i : Nat) (hw : w < 2 ^ 32) (h : t + i < 32) :
    bits .or .u32 ((placeN w V t i &&& (4294967295 - 2 ^ (t + i)) : Nat) : Int) ((2 ^ (t + i) : Nat) : Int) = (((placeN w V t i &&& (4294967295 - 2 ^ (t + i))) ||| 2 ^ (t + i) : Nat) : Int) := by
  have hp : 2 ^ (t + i) < 2 ^ 32 := Nat.pow_lt_pow_right (by decide) h
  have h1 : placeN w V t i &&& (4294967295 - 2 ^ (t + i)) < 2 ^ 32 := Nat.and_lt_two_pow _ (Nat.lt_of_le_of_lt (Nat.sub_le _ _) (by decide))
  exact u32_or_nat _ _ h1 (by omega)
end Go.Proofs.YteghkhdpdeiocaaGreatDoor
namespace Go.Proofs.YteghkhdpdeiocaaGreatDoor
open Go.RowKit
set_option linter.unusedVariables false
set_option maxRecDepth 100000
theorem within_yes (v a b : Int) (h1 : a ≤ v) (h2 : v ≤ b) (w : World) :
    Calls Tryz.prog 108 #[.int .i64 v, .int .i64 a, .int .i64 b] w fun e w' => e = .returned (.bool true) ∧ w' = w := by
  by_cases e1 : v = a
  · subst e1
    go_enter Tryz.func108, Tryz.ntmps108
    go_wp2_with (go_at_call 114; refine (endsInt_ge _ _ (by omega) _).mono ?_; rintro e w' ⟨rfl, rfl⟩)
    go_ret
    exact ⟨rfl, rfl⟩
  · go_enter Tryz.func108, Tryz.ntmps108
    go_wp2_with fail
    refine (endsInt_lt _ _ (by omega) _).mono ?_
    rintro e w' ⟨rfl, rfl⟩
    go_wp2_with fail
    refine (endsInt_ge _ _ (by omega) _).mono ?_
    rintro e w' ⟨rfl, rfl⟩
    go_wp2_with fail
    go_ret
    exact ⟨rfl, rfl⟩
theorem within_low (v a b : Int) (h1 : v < a) (w : World) :
    Calls Tryz.prog 108 #[.int .i64 v, .int .i64 a, .int .i64 b] w fun e w' => e = .returned (.bool false) ∧ w' = w := by
  have e1 : (v == a) = false := beq_eq_false_iff_ne.2 (by omega)
  by_cases h2 : v ≤ b
  · go_enter Tryz.func108, Tryz.ntmps108
    go_wp2_with (go_at_call 114; refine (endsInt_ge _ _ (by omega) _).mono ?_; rintro e w' ⟨rfl, rfl⟩)
    go_ret
    exact ⟨rfl, rfl⟩
  · go_enter Tryz.func108, Tryz.ntmps108
    go_wp2_with fail
    refine (endsInt_ge _ _ (by omega) _).mono ?_
    rintro e w' ⟨rfl, rfl⟩
    go_wp2_with fail
    refine (endsInt_lt _ _ (by omega) _).mono ?_
    rintro e w' ⟨rfl, rfl⟩
    go_wp2_with fail
    go_ret
    exact ⟨rfl, rfl⟩
theorem within_high (v a b : Int) (h1 : b < v) (w : World) :
    Calls Tryz.prog 108 #[.int .i64 v, .int .i64 a, .int .i64 b] w fun e w' => e = .returned (.bool false) ∧ w' = w := by
  have e1 : (v == b) = false := beq_eq_false_iff_ne.2 (by omega)
  by_cases h2 : a < v
  · go_enter Tryz.func108, Tryz.ntmps108
    go_wp2_with (go_at_call 114; refine (endsInt_lt _ _ (by omega) _).mono ?_; rintro e w' ⟨rfl, rfl⟩)
    go_ret
    exact ⟨rfl, rfl⟩
  · go_enter Tryz.func108, Tryz.ntmps108
    go_wp2_with fail
    refine (endsInt_ge _ _ (by omega) _).mono ?_
    rintro e w' ⟨rfl, rfl⟩
    go_wp2_with fail
    refine (endsInt_lt _ _ (by omega) _).mono ?_
    rintro e w' ⟨rfl, rfl⟩
    by_cases h3 : v = a
    · have e2 : (v == a) = true := beq_iff_eq.2 h3
      subst h3
      go_wp2_with fail
      go_ret
      exact ⟨rfl, rfl⟩
    · have e2 : (v == a) = false := beq_eq_false_iff_ne.2 h3
      go_wp2_with fail
      go_ret
      exact ⟨rfl, rfl⟩
theorem within_any (v a b : Int) (w : World) :
    Calls Tryz.prog 108 #[.int .i64 v, .int .i64 a, .int .i64 b] w fun e w' => e = .returned (.bool (decide (a ≤ v ∧ v ≤ b))) ∧ w' = w := by
  by_cases h1 : a ≤ v
  · by_cases h2 : v ≤ b
    · rw [show decide (a ≤ v ∧ v ≤ b) = true from by simp [h1, h2]]
      exact within_yes v a b h1 h2 w
    · rw [show decide (a ≤ v ∧ v ≤ b) = false from by simp [h2]]
      exact within_high v a b (by omega) w
  · rw [show decide (a ≤ v ∧ v ≤ b) = false from by simp [h1]]
    exact within_low v a b (by omega) w

end Go.Proofs.YteghkhdpdeiocaaGreatDoor
namespace Go.Proofs.YteghkhdpdeiocaaGreatDoor
open Go.RowKit
set_option linter.unusedVariables false
set_option maxRecDepth 100000
structure SZ (w : World) : Prop where
  c0 : w.cell? ⟨1, 0, none⟩ = some (.int .i64 1)
  c1 : w.cell? ⟨1, 1, none⟩ = some (.int .i64 0)
  c2 : w.cell? ⟨1, 2, none⟩ = some (.int .i64 4)
  c3 : w.cell? ⟨1, 3, none⟩ = some (.int .i64 32)
  c4 : w.cell? ⟨1, 4, none⟩ = some (.int .i64 8)
  c5 : w.cell? ⟨1, 5, none⟩ = some (.int .i64 0)
  pos : 1 < w.heap.size

theorem bcell {B : Nat} {W w1 : World} (hb : Below B W w1) : (∀ b o, b < B → w1.cell? ⟨b, o, none⟩ = W.cell? ⟨b, o, none⟩) ∧ (∀ b o, b < B → w1.frozen? ⟨b, o, none⟩ = W.frozen? ⟨b, o, none⟩) :=
  ⟨fun b o h => hb.cell (p := ⟨b, o, none⟩) h, fun b o h => hb.frozen (p := ⟨b, o, none⟩) h⟩

def filledOf (n : Int) : Int := if n = 4 then 32 else 0
theorem idx0 (w : World) : (Instr.index 188 (.agg #[.int .i64 1, .int .i64 0, .int .i64 4, .int .i64 32, .int .i64 8, .int .i64 0]) (.int .i64 0)).run Tryz.prog w = .ok (.agg #[.int .i64 1, .int .i64 0]) w := by kernel_rfl
theorem idx1 (w : World) : (Instr.index 188 (.agg #[.int .i64 1, .int .i64 0, .int .i64 4, .int .i64 32, .int .i64 8, .int .i64 0]) (.int .i64 1)).run Tryz.prog w = .ok (.agg #[.int .i64 4, .int .i64 32]) w := by kernel_rfl
theorem idx2 (w : World) : (Instr.index 188 (.agg #[.int .i64 1, .int .i64 0, .int .i64 4, .int .i64 32, .int .i64 8, .int .i64 0]) (.int .i64 2)).run Tryz.prog w = .ok (.agg #[.int .i64 8, .int .i64 0]) w := by kernel_rfl

theorem sizeOf_yes (n : Int) (w : World) (hz : SZ w) (hn : n = 1 ∨ n = 4 ∨ n = 8) :
    Calls Tryz.prog 107 #[.int .i64 n] w fun e w' => e = .returned (.tuple #[.agg #[.int .i64 n, .int .i64 (filledOf n)], .bool true]) ∧ Below w.heap.size w w' := by
  obtain ⟨c0, c1, c2, c3, c4, c5, hp⟩ := hz
  have i0 := idx0
  have i1 := idx1
  have i2 := idx2
  go_enter Tryz.func107, Tryz.ntmps107
  go_wp2
  go_loopw [7] (fun i w' => ∃ k : Nat, k ≤ 2 ∧ i = .int .i64 k ∧ (n = 1 → k = 0) ∧ (n = 4 → k ≤ 1) ∧ Below (w.heap.size + 1) (w.alloc (.cells #[.int .i64 0, .int .i64 0] 181)) w') (fun i _ => 3 - (intOf i).toNat)
  case atStart => exact ⟨0, by omega, rfl, by omega, by omega, Below.refl _ _⟩
  case round =>
    obtain ⟨k, hk, rfl, hk1, hk2, hb⟩ := hrel
    obtain ⟨hc, hf⟩ := bcell hb
    have hs : w.heap.size < wr.heap.size := by have := hb.size; simp at this; omega
    have HB : Hid (Below w.heap.size w wr) := ((Below.refl _ _).alloc (Nat.le_refl _) _).trans (hb.mono (by omega))
    rcases hn with rfl | rfl | rfl
    · obtain rfl : k = 0 := hk1 rfl
      clear hk1 hk2
      go_wp2
      exact bodyPost_ret (v := .tuple #[.agg #[.int .i64 1, .int .i64 0], .bool true]) (by simp [results, Tryz.results107, go_sem, hc, hs]) rfl ⟨rfl, ((HB.out.setCell (by simp) _).setCell (by simp) _).alloc (by simp; omega) _⟩
    · obtain rfl | rfl : k = 0 ∨ k = 1 := by have := hk2 rfl; omega
      · go_wp2
        go_roundw
        case rel => exact ⟨1, by omega, rfl, by omega, by omega, hb.alloc (by omega) _⟩
        case measure => simp [intOf]
      · go_wp2
        exact bodyPost_ret (v := .tuple #[.agg #[.int .i64 4, .int .i64 32], .bool true]) (by simp [results, Tryz.results107, go_sem, hc, hs]) rfl ⟨rfl, ((HB.out.setCell (by simp) _).setCell (by simp) _).alloc (by simp; omega) _⟩
    · obtain rfl | rfl | rfl : k = 0 ∨ k = 1 ∨ k = 2 := by omega
      · go_wp2
        go_roundw
        case rel => exact ⟨1, by omega, rfl, by omega, by omega, hb.alloc (by omega) _⟩
        case measure => simp [intOf]
      · go_wp2
        go_roundw
        case rel => exact ⟨2, by omega, rfl, by omega, by omega, hb.alloc (by omega) _⟩
        case measure => simp [intOf]
      · go_wp2
        exact bodyPost_ret (v := .tuple #[.agg #[.int .i64 8, .int .i64 0], .bool true]) (by simp [results, Tryz.results107, go_sem, hc, hs]) rfl ⟨rfl, ((HB.out.setCell (by simp) _).setCell (by simp) _).alloc (by simp; omega) _⟩
theorem sizeOf_no (n : Int) (w : World) (hz : SZ w) (hn : ¬ (n = 1 ∨ n = 4 ∨ n = 8)) :
    Calls Tryz.prog 107 #[.int .i64 n] w fun e w' => e = .returned (.tuple #[.agg #[.int .i64 0, .int .i64 0], .bool false]) ∧ Below w.heap.size w w' := by
  obtain ⟨c0, c1, c2, c3, c4, c5, hp⟩ := hz
  have i0 := idx0
  have i1 := idx1
  have i2 := idx2
  go_enter Tryz.func107, Tryz.ntmps107
  go_wp2
  go_loopw [7] (fun i w' => ∃ k : Nat, k ≤ 3 ∧ i = .int .i64 k ∧ Below (w.heap.size + 1) (w.alloc (.cells #[.int .i64 0, .int .i64 0] 181)) w') (fun i _ => 3 - (intOf i).toNat)
  case atStart => exact ⟨0, by omega, rfl, Below.refl _ _⟩
  case round =>
    obtain ⟨k, hk, rfl, hb⟩ := hrel
    obtain ⟨hc, hf⟩ := bcell hb
    have hs : w.heap.size < wr.heap.size := by have := hb.size; simp at this; omega
    have HB : Hid (Below w.heap.size w wr) := ((Below.refl _ _).alloc (Nat.le_refl _) _).trans (hb.mono (by omega))
    have e1 : ((1 : Int) == n) = false := beq_eq_false_iff_ne.2 (by omega)
    have e4 : ((4 : Int) == n) = false := beq_eq_false_iff_ne.2 (by omega)
    have e8 : ((8 : Int) == n) = false := beq_eq_false_iff_ne.2 (by omega)
    obtain rfl | rfl | rfl | rfl : k = 0 ∨ k = 1 ∨ k = 2 ∨ k = 3 := by omega
    · go_wp2
      go_roundw
      case rel => exact ⟨1, by omega, rfl, hb.alloc (by omega) _⟩
      case measure => simp [intOf]
    · go_wp2
      go_roundw
      case rel => exact ⟨2, by omega, rfl, hb.alloc (by omega) _⟩
      case measure => simp [intOf]
    · go_wp2
      go_roundw
      case rel => exact ⟨3, by omega, rfl, hb.alloc (by omega) _⟩
      case measure => simp [intOf]
    · go_wp2
      exact bodyPost_ret (v := .tuple #[.agg #[.int .i64 0, .int .i64 0], .bool false]) (by simp [results, Tryz.results107, go_sem, hc]) rfl ⟨rfl, (HB.out.setCell (by simp) _).setCell (by simp) _⟩
end Go.Proofs.YteghkhdpdeiocaaGreatDoor
namespace Go.Proofs.YteghkhdpdeiocaaGreatDoor
open Go.RowKit
set_option linter.unusedVariables false
set_option maxRecDepth 100000

/-- the number of m bytes from place k on -/
def leFrom (zs : List Int) : Nat → Nat → Int
  | _, 0 => 0
  | k, m + 1 => zs.getD k 0 + 256 * leFrom zs (k + 1) m

theorem leFrom_snoc (zs : List Int) : ∀ m k, leFrom zs k (m + 1) = leFrom zs k m + zs.getD (k + m) 0 * 2 ^ (8 * m)
  | 0, k => by simp [leFrom]
  | m + 1, k => by
    have ih := leFrom_snoc zs m (k + 1)
    rw [leFrom, ih, leFrom, show k + 1 + m = k + (m + 1) by omega, show 8 * (m + 1) = 8 * m + 8 by omega, Int.pow_add, Int.mul_add, Int.mul_left_comm]
    rw [show (2 : Int) ^ 8 = 256 from rfl, Int.mul_comm 256 (2 ^ (8 * m))]
    omega

def Bytes (zs : List Int) : Prop := ∀ i, 0 ≤ zs.getD i 0 ∧ zs.getD i 0 ≤ 255

theorem leFrom_bound (zs : List Int) (h : Bytes zs) : ∀ m k, 0 ≤ leFrom zs k m ∧ leFrom zs k m < 2 ^ (8 * m)
  | 0, k => by simp [leFrom]
  | m + 1, k => by
    have ih := leFrom_bound zs h m (k + 1)
    have hz := h k
    rw [leFrom, show 8 * (m + 1) = 8 * m + 8 by omega, Int.pow_add, show (2 : Int) ^ 8 = 256 from rfl]
    generalize leFrom zs (k + 1) m = x at *
    generalize (2 : Int) ^ (8 * m) = P at *
    omega

/-- a byte laid above what is below it -/
theorem or_byte (v z : Int) (m : Nat) (hm : m < 8) (hv0 : 0 ≤ v) (hv : v < 2 ^ (8 * m)) (hz0 : 0 ≤ z) (hz : z ≤ 255) :
    bits .or .u64 v (IntKind.u64.wrap (z * 2 ^ (8 * m))) = v + z * 2 ^ (8 * m) := by
  have hp := pow_pos' (8 * m)
  have hle : (2 : Int) ^ (8 * m) ≤ 2 ^ 56 := pow_le' (by omega)
  have hle2 : z * 2 ^ (8 * m) ≤ 255 * 2 ^ (8 * m) := Int.mul_le_mul_of_nonneg_right hz (by omega)
  have hge : 0 ≤ z * 2 ^ (8 * m) := Int.mul_nonneg hz0 (by omega)
  have hw : IntKind.u64.wrap (z * 2 ^ (8 * m)) = z * 2 ^ (8 * m) := by
    rw [IntKind.wrap_u64]
    generalize z * 2 ^ (8 * m) = x at *
    generalize (2 : Int) ^ (8 * m) = P at *
    omega
  rw [hw]
  have hc : bits .or .u64 v (z * 2 ^ (8 * m)) = bits .or .u64 (z * 2 ^ (8 * m)) v := by
    rw [u64_or _ _ hv0 (by generalize (2 : Int) ^ (8 * m) = P at *; omega) hge (by generalize z * 2 ^ (8 * m) = x at *; generalize (2 : Int) ^ (8 * m) = P at *; omega),
      u64_or _ _ hge (by generalize z * 2 ^ (8 * m) = x at *; generalize (2 : Int) ^ (8 * m) = P at *; omega) hv0 (by generalize (2 : Int) ^ (8 * m) = P at *; omega), Nat.or_comm]
  rw [hc, bits_join .u64 64 (by decide) wraps_u64 (8 * m) (z * 2 ^ (8 * m)) v hge (by simp) (by generalize z * 2 ^ (8 * m) = x at *; generalize (2 : Int) ^ (8 * m) = P at *; omega) hv0 hv (by generalize (2 : Int) ^ (8 * m) = P at *; omega)]
  omega

/-- what a load of n bytes tells of the number that stands there -/
def extW (n : Int) (v : Int) : Int := if n = 4 ∧ 2147483648 ≤ v then v + 18446744069414584320 else v

theorem ext_shift (v : Int) (h0 : 0 ≤ v) (h1 : v < 18446744073709551616) : shiftW 2 (IntKind.u64.wrap (v * 2 ^ 0)) 0 = v := by
  rw [show shiftW 2 (IntKind.u64.wrap (v * 2 ^ 0)) 0 = IntKind.u64.wrap (wrap64 (IntKind.u64.wrap (v * 2 ^ 0)) / 2 ^ 0) from rfl]
  simp only [IntKind.wrap_u64, wrap64, Int.pow_zero, Int.mul_one, Int.ediv_one]
  omega
theorem ext_shift4 (v : Int) (h0 : 0 ≤ v) (h1 : v < 4294967296) : shiftW 2 (IntKind.u64.wrap (v * 2 ^ 32)) 32 = extW 4 v := by
  rw [show shiftW 2 (IntKind.u64.wrap (v * 2 ^ 32)) 32 = IntKind.u64.wrap (wrap64 (IntKind.u64.wrap (v * 2 ^ 32)) / 2 ^ 32) from rfl]
  have e : (2 : Int) ^ 32 = 4294967296 := rfl
  have hX : IntKind.u64.wrap (v * 2 ^ 32) = v * 4294967296 := by rw [IntKind.wrap_u64, e]; omega
  rw [hX, e]
  by_cases h : v < 2147483648
  · have h2 : wrap64 (v * 4294967296) = v * 4294967296 := by unfold wrap64; omega
    rw [h2, Int.mul_ediv_cancel _ (by decide), IntKind.wrap_u64, extW, if_neg (by omega)]
    omega
  · have h2 : wrap64 (v * 4294967296) = (v - 4294967296) * 4294967296 := by unfold wrap64; omega
    rw [h2, Int.mul_ediv_cancel _ (by decide), IntKind.wrap_u64, extW, if_pos (by omega)]
    omega

/-- the byte of v at place i -/
def byteAt (v : Int) (i : Nat) : Int := v / 2 ^ (8 * i) % 256
def bytesOf (v : Int) (n : Nat) : List Int := (List.range n).map (byteAt v)

theorem byteAt_bound (v : Int) (i : Nat) : 0 ≤ byteAt v i ∧ byteAt v i ≤ 255 := by unfold byteAt; omega
theorem bytesOf_getD (v : Int) (n i : Nat) (h : i < n) : (bytesOf v n).getD i 0 = byteAt v i := by
  simp [bytesOf, h]
theorem bytesOf_bytes (v : Int) (n : Nat) : Bytes (bytesOf v n) := by
  intro i
  by_cases h : i < n
  · rw [bytesOf_getD v n i h]; exact byteAt_bound v i
  · have : (bytesOf v n).getD i 0 = 0 := by simp [bytesOf, h]
    omega
theorem le_bytes (v : Int) (n : Nat) : ∀ m, m ≤ n → leFrom (bytesOf v n) 0 m = v % 2 ^ (8 * m)
  | 0, _ => by simp [leFrom, Int.emod_one]
  | m + 1, h => by
    rw [leFrom_snoc, le_bytes v n m (by omega), Nat.zero_add, bytesOf_getD v n m (by omega), byteAt, show 8 * (m + 1) = 8 * m + 8 by omega, Int.pow_add, show (2 : Int) ^ 8 = 256 from rfl]
    have hp := pow_pos' (8 * m)
    generalize (2 : Int) ^ (8 * m) = P at *
    have h1 := Int.emod_add_mul_ediv v P
    have h2 := Int.emod_add_mul_ediv (v / P) 256
    have h3 := Int.emod_nonneg v (show P ≠ 0 by omega)
    have h4 := Int.emod_lt_of_pos v hp
    have e2 : v = (v % P + v / P % 256 * P) + (P * 256) * (v / P / 256) := by
      have e3 : P * 256 * (v / P / 256) = P * (256 * (v / P / 256)) := by rw [Int.mul_assoc]
      have e4 : v / P % 256 * P + P * (256 * (v / P / 256)) = P * (v / P) := by
        rw [Int.mul_comm (v / P % 256) P, ← Int.mul_add, h2]
      omega
    have h5 : 0 ≤ v / P % 256 ∧ v / P % 256 < 256 := by omega
    have h6 : v / P % 256 * P ≤ 255 * P := Int.mul_le_mul_of_nonneg_right (by omega) (by omega)
    have h7 : 0 ≤ v / P % 256 * P := Int.mul_nonneg h5.1 (by omega)
    have e5 : v % (P * 256) = v % P + v / P % 256 * P := by
      conv => lhs; rw [e2]
      rw [Int.add_mul_emod_self_left]
      exact Int.emod_eq_of_lt (by omega) (by omega)
    exact e5.symm
end Go.Proofs.YteghkhdpdeiocaaGreatDoor
namespace Go.Proofs.YteghkhdpdeiocaaGreatDoor
open Go.RowKit
set_option linter.unusedVariables false
set_option maxRecDepth 100000

theorem ret_ib {k : IntKind} {a b : Int} {c d : Bool} (h : a = b) (g : c = d) : Ending.returned (.tuple #[.int k a, .bool c]) = .returned (.tuple #[.int k b, .bool d]) := by rw [h, g]

theorem ext_any (n f : Nat) (v : Int) (hn : (n : Int) = 1 ∨ (n : Int) = 4 ∨ (n : Int) = 8) (hf : filledOf n = f) (h0 : 0 ≤ v) (h1 : v < 2 ^ (8 * n)) : shiftW 2 (IntKind.u64.wrap (v * 2 ^ f)) f = extW n v := by
  have hn' : n = 1 ∨ n = 4 ∨ n = 8 := by omega
  rcases hn' with rfl | rfl | rfl
  · obtain rfl : f = 0 := by simp [filledOf] at hf; omega
    rw [show ((0 : Nat) : Int) = 0 from rfl, ext_shift v h0 (by omega)]; simp [extW]
  · obtain rfl : f = 32 := by simp [filledOf] at hf; omega
    exact ext_shift4 v h0 (by omega)
  · obtain rfl : f = 0 := by simp [filledOf] at hf; omega
    rw [show ((0 : Nat) : Int) = 0 from rfl, ext_shift v h0 (by omega)]; simp [extW]

theorem wrap_range (x : Int) : 0 ≤ IntKind.u64.wrap x ∧ IntKind.u64.wrap x < 18446744073709551616 := by rw [IntKind.wrap_u64]; omega
theorem filled_le (n : Int) : ∃ f : Nat, filledOf n = f ∧ f ≤ 32 := by
  unfold filledOf
  split
  · exact ⟨32, rfl, by decide⟩
  · exact ⟨0, rfl, by decide⟩

theorem load_yes (b off len cap T N : Nat) (zs : List Int) (w : World) (hz : SZ w) (hN : (N : Int) = 1 ∨ (N : Int) = 4 ∨ (N : Int) = 8) (hT : T + N ≤ len) (hl : len ≤ maxLen) (hb : b < w.heap.size)
    (hc : ∀ i, i < len → w.cell? ⟨b, off + i, none⟩ = some (.int .u8 (zs.getD i 0))) (hB : Bytes zs) :
    Calls Tryz.prog 98 #[.slice (some ⟨b, off, none⟩) len cap, .int .i64 T, .int .i64 N] w fun e w' => e = .returned (.tuple #[.int .u64 (extW N (leFrom zs T N)), .bool true]) ∧ Below w.heap.size w w' := by
  unfold maxLen at hl
  obtain ⟨f, hf, hf32⟩ := filled_le N
  have HE : Hid (shiftW 2 (IntKind.u64.wrap (leFrom zs T N * 2 ^ f)) f = extW N (leFrom zs T N)) := ext_any N f _ hN hf (leFrom_bound zs hB N T).1 (leFrom_bound zs hB N T).2
  go_enter Tryz.func98, Tryz.ntmps98
  go_wp2_with fail
  refine (sizeOf_yes _ _ hz hN).mono ?_
  rintro e w1 ⟨rfl, hb1⟩
  rw [hf]
  clear hf
  obtain ⟨hcc, hff⟩ := bcell hb1
  have hs1 := hb1.size
  have hbw : b < w1.heap.size := by omega
  go_wp2_with fail
  refine (within_yes _ _ _ (by omega) (by omega) _).mono ?_
  rintro e w2 ⟨rfl, rfl⟩
  go_wp2_with fail
  go_loop [10, 32] (fun v i => ∃ k : Nat, k ≤ N ∧ i = .int .i64 k ∧ v = .int .u64 (leFrom zs T k)) (fun _ i => N - (intOf i).toNat)
  case atStart => exact ⟨0, by omega, rfl, rfl⟩
  case round =>
    obtain ⟨k, hk, rfl, rfl⟩ := hrel
    by_cases hlt : k < N
    · have hcx := hc (T + k) (by omega)
      have hz1 := hB (T + k)
      have hb2 := leFrom_bound zs hB k T
      have HS : Hid (leFrom zs T (k + 1) = bits .or .u64 (leFrom zs T k) (IntKind.u64.wrap (zs.getD (T + k) 0 * 2 ^ (8 * k)))) := by
        show _ = _
        rw [or_byte _ _ k (by omega) hb2.1 hb2.2 hz1.1 hz1.2, leFrom_snoc]
      generalize zs.getD (T + k) 0 = z at *
      generalize leFrom zs T k = v at *
      clear hb2
      go_wp2
      go_round
      case rel => exact ⟨k + 1, by omega, by go_num, by rw [HS.out]⟩
      case measure => simp [intOf]; omega
    · obtain rfl : k = N := by omega
      have hr := wrap_range (leFrom zs T k * 2 ^ f)
      clear hc
      go_wp2_with fail
      refine (shift_any _ _ _ (by omega) (by omega) (by omega) (by omega) _).mono ?_
      rintro e w2 ⟨rfl, rfl⟩
      go_wp2_with fail
      go_ret2
      exact ⟨ret_ib HE.out rfl, hb1.alloc (by omega) _⟩

theorem load_no_width (v : Value) (t n : Int) (w : World) (hz : SZ w) (hn : ¬ (n = 1 ∨ n = 4 ∨ n = 8)) :
    Calls Tryz.prog 98 #[v, .int .i64 t, .int .i64 n] w fun e w' => e = .returned (.tuple #[.int .u64 0, .bool false]) ∧ Below w.heap.size w w' := by
  go_enter Tryz.func98, Tryz.ntmps98
  go_wp2_with fail
  refine (sizeOf_no _ _ hz hn).mono ?_
  rintro e w1 ⟨rfl, hb1⟩
  have hs1 := hb1.size
  go_wp2_with fail
  go_ret2
  exact ⟨rfl, hb1.alloc (by omega) _⟩
theorem load_no_place (a : Option Addr) (len cap : Nat) (t n : Int) (w : World) (hz : SZ w) (hn : n = 1 ∨ n = 4 ∨ n = 8) (hl : len ≤ maxLen) (ht : ¬ (0 ≤ t ∧ t ≤ (len : Int) - n)) :
    Calls Tryz.prog 98 #[.slice a len cap, .int .i64 t, .int .i64 n] w fun e w' => e = .returned (.tuple #[.int .u64 0, .bool false]) ∧ Below w.heap.size w w' := by
  unfold maxLen at hl
  have hd : Hid (decide (0 ≤ t ∧ t ≤ (len : Int) - n) = false) := decide_eq_false ht
  go_enter Tryz.func98, Tryz.ntmps98
  go_wp2_with fail
  refine (sizeOf_yes _ _ hz hn).mono ?_
  rintro e w1 ⟨rfl, hb1⟩
  have hs1 := hb1.size
  clear ht
  go_wp2_with fail
  refine (within_any _ _ _ _).mono ?_
  rintro e w2 ⟨rfl, rfl⟩
  rw [hd.out]
  go_wp2_with fail
  go_ret2
  exact ⟨rfl, hb1.alloc (by omega) _⟩
end Go.Proofs.YteghkhdpdeiocaaGreatDoor
namespace Go.Proofs.YteghkhdpdeiocaaGreatDoor
open Go.RowKit
set_option linter.unusedVariables false
set_option maxRecDepth 100000

theorem Tryz.info5 : (Tryz.prog.info? 5).map (fun i => (i.zero, i.size, i.bytes)) = some (some (.int .u8 0), 1, 1) := by kernel_rfl

/-- the bytes as far as they are stored -/
def storeTo (v : Int) (n k : Nat) : List Int := (List.range n).map fun i => if i < k then byteAt v i else 0
theorem storeTo_all (v : Int) (n : Nat) : storeTo v n n = bytesOf v n := by
  unfold storeTo bytesOf
  apply List.map_congr_left
  intro i hi
  rw [if_pos (List.mem_range.1 hi)]
theorem storeTo_set (v : Int) (n k : Nat) (h : k < n) : ((storeTo v n k).map (Value.int .u8)).set k (.int .u8 (byteAt v k)) = (storeTo v n (k + 1)).map (Value.int .u8) := by
  apply List.ext_getElem (by simp [storeTo])
  intro i h1 h2
  simp only [storeTo, List.length_set, List.length_map, List.length_range] at h1
  rw [List.getElem_set]
  by_cases e : k = i
  · subst e; simp [storeTo]
  · rw [if_neg e]
    simp only [storeTo, List.getElem_map, List.getElem_range]
    by_cases e1 : i < k
    · rw [if_pos e1, if_pos (by omega)]
    · rw [if_neg e1, if_neg (by omega)]
theorem made_zero (n : Nat) (v : Int) : (madeCells (Value.int .u8 0).cells (n * 1)).toList = (storeTo v n 0).map (Value.int .u8) := by
  apply List.ext_getElem (by simp [storeTo, madeCells])
  intro i h1 h2
  simp [storeTo, madeCells, Value.cells, Nat.mod_one]

theorem store_yes (v : Int) (N : Nat) (w : World) (hz : SZ w) (hN : (N : Int) = 1 ∨ (N : Int) = 4 ∨ (N : Int) = 8) (h0 : 0 ≤ v) (h1 : v < 18446744073709551616) :
    Calls Tryz.prog 110 #[.int .u64 v, .int .i64 N] w fun e w' => ∃ g, e = .returned (.slice (some ⟨g, 0, none⟩) N N) ∧ w'.ownsRow w.heap.size 5 1 (.slice (some ⟨g, 0, none⟩) N N) N ((bytesOf v N).map (Value.int .u8)) ∧ Below w.heap.size w w' := by
  obtain ⟨i0, hi, hz0, hz1, hz2⟩ := info_parts Tryz.info5
  go_enter Tryz.func110, Tryz.ntmps110
  go_wp2_with fail
  refine (sizeOf_yes _ _ hz hN).mono ?_
  rintro e w1 ⟨rfl, hb1⟩
  have hs1 := hb1.size
  have hN8 : N ≤ 8 := by omega
  generalize filledOf N = fl
  go_wp2_with (at_make; refine wpList_make_full _ rfl _ _ 33 rfl w.heap.size 5 i0 (.int .u8 0) 1 Tryz.underlying33 hi hz0 hz1 _ _ _ _ N rfl rfl rfl rfl (by rw [hz2]; omega) (by unfold maxLen; omega) (by simp; omega) ?_; intro w2 hown2 hgrow2)
  have hb2 : Below w.heap.size w w2 := (hb1.alloc hs1 _).grown hgrow2 (by simp; omega) (by intro k h; cases h)
  rw [made_zero N v, show (w1.alloc (Obj.cells #[Value.int .i64 N, Value.int .i64 fl] 181)).heap.size = w1.heap.size + 1 by simp] at hown2
  clear hgrow2 hb1
  generalize w1.heap.size = s1 at *
  go_loopw [21] (fun i wr => ∃ k : Nat, k ≤ N ∧ i = .int .i64 k ∧ wr.ownsRow w.heap.size 5 1 (.slice (some ⟨s1 + 1, 0, none⟩) N N) N ((storeTo v N k).map (Value.int .u8)) ∧ Below w.heap.size w wr) (fun i _ => N - (intOf i).toNat)
  case atStart => exact ⟨0, by omega, rfl, hown2, hb2⟩
  case round =>
    obtain ⟨k, hk, rfl, hown, hb⟩ := hrel
    by_cases hlt : k < N
    · have hca : wr.cell? ⟨s1 + 1, k, none⟩ = some (.int .u8 ((storeTo v N k).getD k 0)) := by
        rw [hown.cellAt k (by omega)]
        simp [storeTo, hlt]
      have hfa := hown.frozenAt k
      have HO : Hid ((wr.setCell ⟨s1 + 1, k, none⟩ (.int .u8 (byteAt v k))).ownsRow w.heap.size 5 1 (.slice (some ⟨s1 + 1, 0, none⟩) N N) N ((storeTo v N (k + 1)).map (Value.int .u8))) := by
        have := (hown.stored k (.int .u8 (byteAt v k))).1
        rw [storeTo_set v N k hlt] at this
        exact this
      have HB : Hid (Below w.heap.size w (wr.setCell ⟨s1 + 1, k, none⟩ (.int .u8 (byteAt v k)))) := hb.setCell (by simp; omega) _
      have hq := Int.ediv_nonneg (b := 2 ^ (8 * k)) h0 (Int.le_of_lt (pow_pos' _))
      have HY : Hid (v / 2 ^ (8 * k) % 256 = byteAt v k) := rfl
      clear hown hb hown2 hb2
      go_wp2
      go_roundw
      case rel => exact ⟨k + 1, by omega, by go_num, HO.out, HB.out⟩
      case measure => simp [intOf]; omega
    · obtain rfl : k = N := by omega
      go_wp2
      go_ret
      exact ⟨_, rfl, by rw [← storeTo_all]; exact hown, hb⟩
theorem store_no (v n : Int) (w : World) (hz : SZ w) (hn : ¬ (n = 1 ∨ n = 4 ∨ n = 8)) :
    Calls Tryz.prog 110 #[.int .u64 v, .int .i64 n] w fun e w' => e = .returned (.slice none 0 0) ∧ Below w.heap.size w w' := by
  go_enter Tryz.func110, Tryz.ntmps110
  go_wp2_with fail
  refine (sizeOf_no _ _ hz hn).mono ?_
  rintro e w1 ⟨rfl, hb1⟩
  have hs1 := hb1.size
  go_wp2_with fail
  go_ret
  exact ⟨rfl, hb1.alloc (by omega) _⟩
end Go.Proofs.YteghkhdpdeiocaaGreatDoor
namespace Go.Proofs.YteghkhdpdeiocaaGreatDoor
open Go.RowKit
set_option linter.unusedVariables false
set_option maxRecDepth 100000

theorem rload_no_width (v : Value) (t n : Int) (w : World) (hn : ¬ (n = 1 ∨ n = 4 ∨ n = 8)) :
    Calls Tryz.prog 134 #[v, .int .i64 t, .int .i64 n] w fun e w' => e = .returned (.tuple #[.int .u64 0, .bool false]) ∧ w' = w := by
  have e1 : (n != 1) = true := by rw [bne_iff_ne]; omega
  have e4 : (n != 4) = true := by rw [bne_iff_ne]; omega
  have e8 : (n != 8) = true := by rw [bne_iff_ne]; omega
  go_enter Tryz.func134, Tryz.ntmps134
  go_wp2
  go_ret2
  exact ⟨rfl, rfl⟩
theorem rload_no_place (a : Option Addr) (len cap : Nat) (t n : Int) (w : World) (hn : n = 1 ∨ n = 4 ∨ n = 8) (hl : len ≤ maxLen) (ht : ¬ (0 ≤ t ∧ t ≤ (len : Int) - n)) :
    Calls Tryz.prog 134 #[.slice a len cap, .int .i64 t, .int .i64 n] w fun e w' => e = .returned (.tuple #[.int .u64 0, .bool false]) ∧ w' = w := by
  unfold maxLen at hl
  by_cases h0 : t < 0
  · rcases hn with rfl | rfl | rfl
    all_goals
      go_enter Tryz.func134, Tryz.ntmps134
      go_wp2
      go_ret2
      exact ⟨rfl, rfl⟩
  · have h1 : (len : Int) - n < t := by omega
    rcases hn with rfl | rfl | rfl
    all_goals
      go_enter Tryz.func134, Tryz.ntmps134
      go_wp2
      go_ret2
      exact ⟨rfl, rfl⟩

theorem rload_yes (b off len cap T N : Nat) (zs : List Int) (w : World) (hN : (N : Int) = 1 ∨ (N : Int) = 4 ∨ (N : Int) = 8) (hT : T + N ≤ len) (hl : len ≤ maxLen) (hb : b < w.heap.size)
    (hc : ∀ i, i < len → w.cell? ⟨b, off + i, none⟩ = some (.int .u8 (zs.getD i 0))) (hB : Bytes zs) :
    Calls Tryz.prog 134 #[.slice (some ⟨b, off, none⟩) len cap, .int .i64 T, .int .i64 N] w fun e w' => e = .returned (.tuple #[.int .u64 (extW N (leFrom zs T N)), .bool true]) ∧ w' = w := by
  unfold maxLen at hl
  have hN8 : N ≤ 8 := by omega
  have hbnd := leFrom_bound zs hB N T
  have hN' : N = 1 ∨ N = 4 ∨ N = 8 := by omega
  clear hN
  rcases hN' with rfl | rfl | rfl
  · go_enter Tryz.func134, Tryz.ntmps134
    go_wp2
    go_loop [8, 9] (fun v i => ∃ k : Nat, k ≤ 1 ∧ i = .int .i64 ((k : Int) - 1) ∧ v = .int .u64 (leFrom zs (T + k) (1 - k))) (fun _ i => (1 + intOf i).toNat)
    case atStart => exact ⟨1, by omega, rfl, by simp [leFrom]⟩
    case round =>
      obtain ⟨k, hk, rfl, rfl⟩ := hrel
      by_cases hlt : 1 ≤ k
      · obtain ⟨m, rfl⟩ : ∃ m, k = m + 1 := ⟨k - 1, by omega⟩
        have hcx := hc (T + m) (by omega)
        have hz1 := hB (T + m)
        have hb2 := leFrom_bound zs hB (1 - (m + 1)) (T + (m + 1))
        have hp : (2 : Int) ^ (8 * (1 - (m + 1))) ≤ 2 ^ 56 := pow_le' (by omega)
        have hb3 : leFrom zs (T + (m + 1)) (1 - (m + 1)) < 72057594037927936 := by omega
        have HS : Hid (leFrom zs (T + m) (1 - m) = leFrom zs (T + (m + 1)) (1 - (m + 1)) * 256 + zs.getD (T + m) 0) := by
          show _ = _
          rw [show 1 - m = 1 - (m + 1) + 1 by omega, leFrom, Nat.add_assoc]; omega
        have hb4 := hb2.1
        clear hp hb2
        generalize zs.getD (T + m) 0 = z at *
        generalize leFrom zs (T + (m + 1)) (1 - (m + 1)) = v at *
        go_wp2
        go_round
        case rel => exact ⟨m, by omega, by go_num, by rw [HS.out]⟩
        case measure => simp [intOf]; omega
      · obtain rfl : k = 0 := by omega
        have hv0 := hbnd.1
        have hv1 : leFrom zs T 1 < 18446744073709551616 := by have := hbnd.2; omega
        go_wp2
        go_ret2
        exact ⟨ret_ib (by simp [extW]) rfl, rfl⟩
  · go_enter Tryz.func134, Tryz.ntmps134
    go_wp2
    go_loop [8, 9] (fun v i => ∃ k : Nat, k ≤ 4 ∧ i = .int .i64 ((k : Int) - 1) ∧ v = .int .u64 (leFrom zs (T + k) (4 - k))) (fun _ i => (1 + intOf i).toNat)
    case atStart => exact ⟨4, by omega, rfl, by simp [leFrom]⟩
    case round =>
      obtain ⟨k, hk, rfl, rfl⟩ := hrel
      by_cases hlt : 1 ≤ k
      · obtain ⟨m, rfl⟩ : ∃ m, k = m + 1 := ⟨k - 1, by omega⟩
        have hcx := hc (T + m) (by omega)
        have hz1 := hB (T + m)
        have hb2 := leFrom_bound zs hB (4 - (m + 1)) (T + (m + 1))
        have hp : (2 : Int) ^ (8 * (4 - (m + 1))) ≤ 2 ^ 56 := pow_le' (by omega)
        have hb3 : leFrom zs (T + (m + 1)) (4 - (m + 1)) < 72057594037927936 := by omega
        have HS : Hid (leFrom zs (T + m) (4 - m) = leFrom zs (T + (m + 1)) (4 - (m + 1)) * 256 + zs.getD (T + m) 0) := by
          show _ = _
          rw [show 4 - m = 4 - (m + 1) + 1 by omega, leFrom, Nat.add_assoc]; omega
        have hb4 := hb2.1
        clear hp hb2
        generalize zs.getD (T + m) 0 = z at *
        generalize leFrom zs (T + (m + 1)) (4 - (m + 1)) = v at *
        go_wp2
        go_round
        case rel => exact ⟨m, by omega, by go_num, by rw [HS.out]⟩
        case measure => simp [intOf]; omega
      · obtain rfl : k = 0 := by omega
        have hv0 := hbnd.1
        have hv1 : leFrom zs T 4 < 18446744073709551616 := by have := hbnd.2; omega
        have hv2 : leFrom zs T 4 < 4294967296 := by have := hbnd.2; omega
        by_cases hs : leFrom zs T 4 < 2147483648
        · have HE : Hid (extW 4 (leFrom zs T 4) = leFrom zs T 4) := by show _ = _; simp [extW]; omega
          go_wp2
          go_ret2
          exact ⟨ret_ib HE.out.symm rfl, rfl⟩
        · have HE : Hid (extW 4 (leFrom zs T 4) = leFrom zs T 4 + 18446744069414584320) := by show _ = _; rw [extW, if_pos (by omega)]
          go_wp2
          go_ret2
          exact ⟨ret_ib HE.out.symm rfl, rfl⟩
  · go_enter Tryz.func134, Tryz.ntmps134
    go_wp2
    go_loop [8, 9] (fun v i => ∃ k : Nat, k ≤ 8 ∧ i = .int .i64 ((k : Int) - 1) ∧ v = .int .u64 (leFrom zs (T + k) (8 - k))) (fun _ i => (1 + intOf i).toNat)
    case atStart => exact ⟨8, by omega, rfl, by simp [leFrom]⟩
    case round =>
      obtain ⟨k, hk, rfl, rfl⟩ := hrel
      by_cases hlt : 1 ≤ k
      · obtain ⟨m, rfl⟩ : ∃ m, k = m + 1 := ⟨k - 1, by omega⟩
        have hcx := hc (T + m) (by omega)
        have hz1 := hB (T + m)
        have hb2 := leFrom_bound zs hB (8 - (m + 1)) (T + (m + 1))
        have hp : (2 : Int) ^ (8 * (8 - (m + 1))) ≤ 2 ^ 56 := pow_le' (by omega)
        have hb3 : leFrom zs (T + (m + 1)) (8 - (m + 1)) < 72057594037927936 := by omega
        have HS : Hid (leFrom zs (T + m) (8 - m) = leFrom zs (T + (m + 1)) (8 - (m + 1)) * 256 + zs.getD (T + m) 0) := by
          show _ = _
          rw [show 8 - m = 8 - (m + 1) + 1 by omega, leFrom, Nat.add_assoc]; omega
        have hb4 := hb2.1
        clear hp hb2
        generalize zs.getD (T + m) 0 = z at *
        generalize leFrom zs (T + (m + 1)) (8 - (m + 1)) = v at *
        go_wp2
        go_round
        case rel => exact ⟨m, by omega, by go_num, by rw [HS.out]⟩
        case measure => simp [intOf]; omega
      · obtain rfl : k = 0 := by omega
        have hv0 := hbnd.1
        have hv1 : leFrom zs T 8 < 18446744073709551616 := by have := hbnd.2; omega
        go_wp2
        go_ret2
        exact ⟨ret_ib (by simp [extW]) rfl, rfl⟩

theorem row_form {w : World} {base size n : Nat} {e : TypeId} {v : Value} {xs : List Value} (h : w.ownsRow base e size v n xs) (hn : 0 < n) : ∃ g cap, v = .slice (some ⟨g, 0, none⟩) n cap := by
  rcases h.2 with ⟨_, h0⟩ | ⟨g, cap, cur, rfl, _⟩
  · omega
  · exact ⟨g, cap, rfl⟩
theorem bytesOf_snoc (v : Int) (k : Nat) : (bytesOf v (k + 1)).map (Value.int .u8) = (bytesOf v k).map (Value.int .u8) ++ [.int .u8 (byteAt v k)] := by
  simp [bytesOf, List.range_succ]
theorem bytesOf_len (v : Int) (k : Nat) : (bytesOf v k).length = k := by simp [bytesOf]

theorem rstore_no (v n : Int) (w : World) (hn : ¬ (n = 1 ∨ n = 4 ∨ n = 8)) :
    Calls Tryz.prog 103 #[.int .u64 v, .int .i64 n] w fun e w' => e = .returned (.slice none 0 0) ∧ w' = w := by
  have e1 : (n != 1) = true := by rw [bne_iff_ne]; omega
  have e4 : (n != 4) = true := by rw [bne_iff_ne]; omega
  have e8 : (n != 8) = true := by rw [bne_iff_ne]; omega
  go_enter Tryz.func103, Tryz.ntmps103
  go_wp2
  go_ret
  exact ⟨rfl, rfl⟩
end Go.Proofs.YteghkhdpdeiocaaGreatDoor
namespace Go.Proofs.YteghkhdpdeiocaaGreatDoor
open Go.RowKit
set_option linter.unusedVariables false
set_option maxRecDepth 4000
theorem one_new (w : World) (v : Value) (t : TypeId) : ∀ j u, [v][j]? = some u → (w.alloc (.cells #[v] t)).cell? ((⟨w.heap.size, 0, none⟩ : Addr).add j) = some u := by
  intro j u hj
  match j, hj with
  | 0, hj => simp at hj; subst hj; simp [Addr.add]
theorem rstore_yes (v : Int) (N : Nat) (w : World) (hN : (N : Int) = 1 ∨ (N : Int) = 4 ∨ (N : Int) = 8) (h0 : 0 ≤ v) (h1 : v < 18446744073709551616) :
    Calls Tryz.prog 103 #[.int .u64 v, .int .i64 N] w fun e w' => ∃ g cap, e = .returned (.slice (some ⟨g, 0, none⟩) N cap) ∧ w'.ownsRow w.heap.size 5 1 (.slice (some ⟨g, 0, none⟩) N cap) N ((bytesOf v N).map (Value.int .u8)) ∧ Below w.heap.size w w' := by
  obtain ⟨i0, hi, hz0, hz1, hz2⟩ := info_parts Tryz.info5
  have hN' : N = 1 ∨ N = 4 ∨ N = 8 := by omega
  clear hN
  rcases hN' with rfl | rfl | rfl
  · rw [show ((1 : Nat) : Int) = 1 from rfl]
    go_enter Tryz.func103, Tryz.ntmps103
    go_wp2
    go_loopw [5, 6] (fun sv i wr => ∃ k : Nat, k ≤ 1 ∧ i = .int .i64 k ∧ wr.ownsRow w.heap.size 5 1 sv k ((bytesOf v k).map (Value.int .u8)) ∧ Below w.heap.size w wr) (fun _ i _ => 1 - (intOf i).toNat)
    case atStart => exact ⟨0, by omega, rfl, World.ownsRow_nil _ _ _ _, Below.refl _ _⟩
    case round =>
      obtain ⟨k, hk, rfl, hown, hb⟩ := hrel
      have hsz := hb.size
      by_cases hlt : k < 1
      · have hq := Int.ediv_nonneg (b := 2 ^ (8 * k)) h0 (Int.le_of_lt (pow_pos' _))
        go_wp2_with (at_builtin; refine wpList_append_own _ rfl _ _ 33 rfl w.heap.size 5 i0 (.int .u8 0) 1 1 Tryz.underlying33 hi hz0 hz1 hz2 rfl (by decide) _ _ _ rfl (hown.alloc _) ⟨wr.heap.size, 0, none⟩ 1 1 [.int .u8 (v / 2 ^ (8 * k) % 256)] rfl rfl (one_new _ _ _) (by intro u hu; simp at hu; subst hu; rfl) (by unfold maxLen; omega) (by omega) (by simp; omega) ?_; intro v1 w1 hown1 hgrow1 hnil1)
        have hb1 : Below w.heap.size w w1 := (hb.alloc hsz _).grown hgrow1 (by simp; omega) (fun g hg => (hown.lt g hg).1)
        have hown2 : w1.ownsRow w.heap.size 5 1 v1 (k + 1) ((bytesOf v (k + 1)).map (Value.int .u8)) := by rw [bytesOf_snoc]; exact hown1
        go_roundw
        case rel => exact ⟨k + 1, by omega, by go_num, hown2, hb1⟩
        case measure => simp [intOf]; omega
      · obtain rfl : k = 1 := by omega
        obtain ⟨g, cap, rfl⟩ := row_form hown (by decide)
        go_wp2
        go_ret
        exact ⟨g, cap, rfl, hown, hb⟩
  · rw [show ((4 : Nat) : Int) = 4 from rfl]
    go_enter Tryz.func103, Tryz.ntmps103
    go_wp2
    go_loopw [5, 6] (fun sv i wr => ∃ k : Nat, k ≤ 4 ∧ i = .int .i64 k ∧ wr.ownsRow w.heap.size 5 1 sv k ((bytesOf v k).map (Value.int .u8)) ∧ Below w.heap.size w wr) (fun _ i _ => 4 - (intOf i).toNat)
    case atStart => exact ⟨0, by omega, rfl, World.ownsRow_nil _ _ _ _, Below.refl _ _⟩
    case round =>
      obtain ⟨k, hk, rfl, hown, hb⟩ := hrel
      have hsz := hb.size
      by_cases hlt : k < 4
      · have hq := Int.ediv_nonneg (b := 2 ^ (8 * k)) h0 (Int.le_of_lt (pow_pos' _))
        go_wp2_with (at_builtin; refine wpList_append_own _ rfl _ _ 33 rfl w.heap.size 5 i0 (.int .u8 0) 1 1 Tryz.underlying33 hi hz0 hz1 hz2 rfl (by decide) _ _ _ rfl (hown.alloc _) ⟨wr.heap.size, 0, none⟩ 1 1 [.int .u8 (v / 2 ^ (8 * k) % 256)] rfl rfl (one_new _ _ _) (by intro u hu; simp at hu; subst hu; rfl) (by unfold maxLen; omega) (by omega) (by simp; omega) ?_; intro v1 w1 hown1 hgrow1 hnil1)
        have hb1 : Below w.heap.size w w1 := (hb.alloc hsz _).grown hgrow1 (by simp; omega) (fun g hg => (hown.lt g hg).1)
        have hown2 : w1.ownsRow w.heap.size 5 1 v1 (k + 1) ((bytesOf v (k + 1)).map (Value.int .u8)) := by rw [bytesOf_snoc]; exact hown1
        go_roundw
        case rel => exact ⟨k + 1, by omega, by go_num, hown2, hb1⟩
        case measure => simp [intOf]; omega
      · obtain rfl : k = 4 := by omega
        obtain ⟨g, cap, rfl⟩ := row_form hown (by decide)
        go_wp2
        go_ret
        exact ⟨g, cap, rfl, hown, hb⟩
  · rw [show ((8 : Nat) : Int) = 8 from rfl]
    go_enter Tryz.func103, Tryz.ntmps103
    go_wp2
    go_loopw [5, 6] (fun sv i wr => ∃ k : Nat, k ≤ 8 ∧ i = .int .i64 k ∧ wr.ownsRow w.heap.size 5 1 sv k ((bytesOf v k).map (Value.int .u8)) ∧ Below w.heap.size w wr) (fun _ i _ => 8 - (intOf i).toNat)
    case atStart => exact ⟨0, by omega, rfl, World.ownsRow_nil _ _ _ _, Below.refl _ _⟩
    case round =>
      obtain ⟨k, hk, rfl, hown, hb⟩ := hrel
      have hsz := hb.size
      by_cases hlt : k < 8
      · have hq := Int.ediv_nonneg (b := 2 ^ (8 * k)) h0 (Int.le_of_lt (pow_pos' _))
        go_wp2_with (at_builtin; refine wpList_append_own _ rfl _ _ 33 rfl w.heap.size 5 i0 (.int .u8 0) 1 1 Tryz.underlying33 hi hz0 hz1 hz2 rfl (by decide) _ _ _ rfl (hown.alloc _) ⟨wr.heap.size, 0, none⟩ 1 1 [.int .u8 (v / 2 ^ (8 * k) % 256)] rfl rfl (one_new _ _ _) (by intro u hu; simp at hu; subst hu; rfl) (by unfold maxLen; omega) (by omega) (by simp; omega) ?_; intro v1 w1 hown1 hgrow1 hnil1)
        have hb1 : Below w.heap.size w w1 := (hb.alloc hsz _).grown hgrow1 (by simp; omega) (fun g hg => (hown.lt g hg).1)
        have hown2 : w1.ownsRow w.heap.size 5 1 v1 (k + 1) ((bytesOf v (k + 1)).map (Value.int .u8)) := by rw [bytesOf_snoc]; exact hown1
        go_roundw
        case rel => exact ⟨k + 1, by omega, by go_num, hown2, hb1⟩
        case measure => simp [intOf]; omega
      · obtain rfl : k = 8 := by omega
        obtain ⟨g, cap, rfl⟩ := row_form hown (by decide)
        go_wp2
        go_ret
        exact ⟨g, cap, rfl, hown, hb⟩
end Go.Proofs.YteghkhdpdeiocaaGreatDoor
namespace Go.Proofs.YteghkhdpdeiocaaGreatDoor
open Go.RowKit
set_option linter.unusedVariables false
set_option maxRecDepth 4000

/-- a slice of bytes with these numbers -/
def SL (w : World) (a : Option Addr) (len : Nat) (zs : List Int) : Prop :=
  zs.length = len ∧ Bytes zs ∧ (len = 0 ∨ ∃ b off, a = some ⟨b, off, none⟩ ∧ b < w.heap.size ∧ ∀ i, i < len → w.cell? ⟨b, off + i, none⟩ = some (.int .u8 (zs.getD i 0)))

theorem SL.below {w w' : World} {a : Option Addr} {len : Nat} {zs : List Int} (h : SL w a len zs) (hb : Below w.heap.size w w') : SL w' a len zs := by
  obtain ⟨h1, h2, h3⟩ := h
  refine ⟨h1, h2, ?_⟩
  rcases h3 with h3 | ⟨b, off, rfl, hlt, hc⟩
  · exact .inl h3
  · have := hb.size
    exact .inr ⟨b, off, rfl, by omega, fun i hi => ((bcell hb).1 b _ hlt).trans (hc i hi)⟩

def okW (len : Nat) (t n : Int) : Bool := decide ((n = 1 ∨ n = 4 ∨ n = 8) ∧ 0 ≤ t ∧ t ≤ (len : Int) - n)
def valW (zs : List Int) (len : Nat) (t n : Int) : Int := if okW len t n then extW n (leFrom zs t.toNat n.toNat) else 0

theorem load_any (a : Option Addr) (len cap : Nat) (zs : List Int) (t n : Int) (w : World) (hz : SZ w) (hs : SL w a len zs) (hl : len ≤ maxLen) :
    Calls Tryz.prog 98 #[.slice a len cap, .int .i64 t, .int .i64 n] w fun e w' => e = .returned (.tuple #[.int .u64 (valW zs len t n), .bool (okW len t n)]) ∧ Below w.heap.size w w' := by
  by_cases hn : n = 1 ∨ n = 4 ∨ n = 8
  · by_cases ht : 0 ≤ t ∧ t ≤ (len : Int) - n
    · have hok : okW len t n = true := decide_eq_true ⟨hn, ht⟩
      rw [valW, hok, if_pos rfl]
      obtain ⟨T, rfl⟩ := Int.eq_ofNat_of_zero_le ht.1
      obtain ⟨M, rfl⟩ := Int.eq_ofNat_of_zero_le (show 0 ≤ n by omega)
      rw [Int.toNat_natCast, Int.toNat_natCast]
      rcases hs.2.2 with h0 | ⟨b, off, rfl, hlt, hc⟩
      · omega
      · exact load_yes b off len cap T M zs w hz hn (by omega) hl hlt hc hs.2.1
    · have hok : okW len t n = false := decide_eq_false (fun h => ht h.2)
      rw [valW, hok, if_neg (by decide)]
      exact load_no_place a len cap t n w hz hn hl ht
  · have hok : okW len t n = false := decide_eq_false (fun h => hn h.1)
    rw [valW, hok, if_neg (by decide)]
    exact load_no_width _ t n w hz hn
theorem rload_any (a : Option Addr) (len cap : Nat) (zs : List Int) (t n : Int) (w : World) (hs : SL w a len zs) (hl : len ≤ maxLen) :
    Calls Tryz.prog 134 #[.slice a len cap, .int .i64 t, .int .i64 n] w fun e w' => e = .returned (.tuple #[.int .u64 (valW zs len t n), .bool (okW len t n)]) ∧ w' = w := by
  by_cases hn : n = 1 ∨ n = 4 ∨ n = 8
  · by_cases ht : 0 ≤ t ∧ t ≤ (len : Int) - n
    · have hok : okW len t n = true := decide_eq_true ⟨hn, ht⟩
      rw [valW, hok, if_pos rfl]
      obtain ⟨T, rfl⟩ := Int.eq_ofNat_of_zero_le ht.1
      obtain ⟨M, rfl⟩ := Int.eq_ofNat_of_zero_le (show 0 ≤ n by omega)
      rw [Int.toNat_natCast, Int.toNat_natCast]
      rcases hs.2.2 with h0 | ⟨b, off, rfl, hlt, hc⟩
      · omega
      · exact rload_yes b off len cap T M zs w hn (by omega) hl hlt hc hs.2.1
    · have hok : okW len t n = false := decide_eq_false (fun h => ht h.2)
      rw [valW, hok, if_neg (by decide)]
      exact rload_no_place a len cap t n w hn hl ht
  · have hok : okW len t n = false := decide_eq_false (fun h => hn h.1)
    rw [valW, hok, if_neg (by decide)]
    exact rload_no_width _ t n w hn

theorem conv_zero (w : World) (p : Option Addr) (c : Nat) : (convert 33 9 (.slice p 0 c)).run Tryz.prog w = .ok (.string ByteArray.empty) w := by
  rw [run_convert_bytes_string w 33 9 5 _ 0 c Tryz.underlying33 Tryz.underlying5 Tryz.underlying9]
  cases p <;> simp [Conv.bytesToString, loadCells]
  all_goals rfl
theorem conv_sl {w : World} {a : Option Addr} {len : Nat} {zs : List Int} (cap : Nat) (h : SL w a len zs) : (convert 33 9 (.slice a len cap)).run Tryz.prog w = .ok (.string (strOfNums zs)) w := by
  obtain ⟨h1, h2, h3⟩ := h
  rcases h3 with rfl | ⟨b, off, rfl, hlt, hc⟩
  · obtain rfl : zs = [] := List.length_eq_zero_iff.1 h1
    rw [conv_zero]; rfl
  · exact run_convert_bytes_arg w 33 5 Tryz.underlying33 Tryz.underlying5 b off len cap zs h1 hc 9 Tryz.underlying9

/-- a row that the call owns, as a slice of its numbers -/
theorem SL.own {w : World} {base g cap n : Nat} {zs : List Int} (h : w.ownsRow base 5 1 (.slice (some ⟨g, 0, none⟩) n cap) n (zs.map (Value.int .u8))) (hB : Bytes zs) : SL w (some ⟨g, 0, none⟩) n zs := by
  have hl : zs.length = n := by have := h.1; simpa using this
  refine ⟨hl, hB, .inr ⟨g, 0, rfl, (h.lt g rfl).2, fun i hi => ?_⟩⟩
  rw [Nat.zero_add, h.cellAt i (by omega)]
  simp [List.getElem?_eq_getElem (show i < zs.length by omega)]
/-- its first numbers -/
theorem SL.head {w : World} {base g cap n : Nat} {zs : List Int} {r : List Int} (c : Nat) (h : w.ownsRow base 5 1 (.slice (some ⟨g, 0, none⟩) n cap) n ((zs ++ r).map (Value.int .u8))) (hB : Bytes zs) : SL w (some ⟨g, 0, none⟩) zs.length zs := by
  have hl : (zs ++ r).length = n := by have := h.1; simpa using this
  rw [List.length_append] at hl
  refine ⟨rfl, hB, .inr ⟨g, 0, rfl, (h.lt g rfl).2, fun i hi => ?_⟩⟩
  rw [Nat.zero_add, h.cellAt i (by omega)]
  simp [List.getElem?_append, hi]

theorem grown_of_below {w w' : World} (h : Below w.heap.size w w') : w.grownBy w' none := ⟨h.os, h.tape, h.output, h.size, fun k hk _ => h.block k hk⟩
theorem own_below {w w' : World} {base g cap n : Nat} {e : TypeId} {size m : Nat} {xs : List Value} (h : w.ownsRow base e size (.slice (some ⟨g, 0, none⟩) n cap) m xs) (hb : Below w.heap.size w w') : w'.ownsRow base e size (.slice (some ⟨g, 0, none⟩) n cap) m xs :=
  h.kept (grown_of_below hb) (.inr (by simp [Value.ownBlock]))
theorem grown_refl (w : World) (row : Option Nat) : w.grownBy w row := ⟨rfl, rfl, rfl, Nat.le_refl _, fun _ _ _ => rfl⟩
theorem grown_trans {a b c : World} {row : Option Nat} (h : a.grownBy b row) (k : b.grownBy c row) : a.grownBy c row :=
  ⟨k.os.trans h.os, k.tape.trans h.tape, k.output.trans h.output, Nat.le_trans h.size k.size, fun i hi hne => (k.block i (Nat.lt_of_lt_of_le hi h.size) hne).trans (h.block i hi hne)⟩

/-- append of a slice of bytes, nil or not, to a row of the call's own -/
theorem wpList_append_sl {w : World} {ops : Array Oper} {rest : List Oper} {o : Oper} {a : Act} {Q : Exit → Act → World → Prop} (hgd : o.guard = none) (s x : Operand)
    (ho : o.op = .call { callee := .builtin .append, args := #[s, x], argTypes := #[33, 33] }) (base : Nat)
    (v : Value) (n : Nat) (xs : List Int) (hs : a.eval s = v) (hown : w.ownsRow base 5 1 v n (xs.map (Value.int .u8)))
    (ad : Option Addr) (m c : Nat) (zs : List Int) (hx : a.eval x = .slice ad m c) (hnil : ad = none → m = 0 ∧ c = 0) (hsl : SL w ad m zs)
    (hbytes : n + m ≤ 140737488355328) (hbase : base ≤ w.heap.size)
    (h : ∀ v' w', w'.ownsRow base 5 1 v' (n + m) ((xs ++ zs).map (Value.int .u8)) → w.grownBy w' v.ownBlock → wpList Tryz.prog ops Q rest (a.put o.dst v') w') : wpList Tryz.prog ops Q (o :: rest) a w := by
  obtain ⟨i0, hi, hz0, hz1, hz2⟩ := info_parts Tryz.info5
  cases ad with
  | none =>
    obtain ⟨rfl, rfl⟩ := hnil rfl
    have hz : zs = [] := List.length_eq_zero_iff.1 hsl.1
    subst hz
    refine wpList_append_own_none hgd s x 33 ho base 5 i0 1 Tryz.underlying33 hi v n _ hs hown hx ?_
    exact h v w (by simpa using hown) (grown_refl _ _)
  | some ad =>
    refine wpList_append_own w hgd s x 33 ho base 5 i0 (.int .u8 0) 1 1 Tryz.underlying33 hi hz0 hz1 hz2 rfl (by decide) v n _ hs hown ad m c (zs.map (Value.int .u8)) hx (by simpa using hsl.1) ?_ ?_ (by unfold maxLen; omega) (by omega) hbase ?_
    · intro j u hj
      have hjl : j < zs.length := by
        rcases Nat.lt_or_ge j zs.length with h' | h'
        · exact h'
        · simp [List.getElem?_eq_none (show (zs.map (Value.int .u8)).length ≤ j by simpa using h')] at hj
      rcases hsl.2.2 with h0 | ⟨b, off, hb, hlt, hc⟩
      · have := hsl.1; omega
      · cases hb
        have hplain : (⟨b, off, none⟩ : Addr).add j = ⟨b, off + j, none⟩ := by unfold Addr.add; split <;> simp_all
        rw [hplain, hc j (by have := hsl.1; omega)]
        simp [List.getElem?_eq_getElem hjl] at hj
        subst hj
        simp [List.getD, List.getElem?_eq_getElem hjl]
    · intro u hu
      obtain ⟨z, _, rfl⟩ := List.mem_map.1 hu
      rfl
    · intro v' w' h1 h2 _
      exact h v' w' (by simpa using h1) h2
end Go.Proofs.YteghkhdpdeiocaaGreatDoor
