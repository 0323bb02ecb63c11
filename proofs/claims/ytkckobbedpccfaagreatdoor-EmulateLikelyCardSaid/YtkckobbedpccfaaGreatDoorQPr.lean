/-
  Plain arithmetic of shifts and bits of 64-bit numbers, over no program.
  What the functions of package word and of the document's answer do that divide, shift and compare: their contracts.
  What two numbers come to: the contracts of the pairs' methods.
-/
import Derived.RowKit
import Derived.IntWalk
import Derived.Laws.BitsAllLaws
import Derived.Laws.BitsLemmas
import Derived.Test.YtkckobbedpccfaaGreatDoorRows
import Derived.WalkKit
import Derived.ProofKit
import Derived.OpenShut
import Derived.Deep.QuietTactic
import Derived.BigQuiet
import Derived.Test.YtkckobbedpccfaaGreatDoorQHc
namespace Go.Proofs.YtkckobbedpccfaaGreatDoor.W
open Go.RowKit
set_option linter.unusedVariables false

theorem umax_eq : IntKind.u64.max = 18446744073709551615 := by decide
theorem wraps_u64 (n : Int) (h0 : 0 ≤ n) (h1 : n < 2 ^ 64) : IntKind.u64.wrap n = n := by rw [IntKind.wrap_u64]; omega
theorem and63 (b : Int) (h0 : 0 ≤ b) (h1 : b < 18446744073709551616) : bits .and .u64 b 63 = b % 64 :=
  bits_mask .u64 64 (by decide) wraps_u64 6 (by decide) b h0 (by omega)

theorem ones_shift (m n : Nat) (h : m + n = 64) : (18446744073709551615 : Nat) / 2 ^ n = 2 ^ m - 1 := by
  have e : (18446744073709551616 : Nat) = 2 ^ m * 2 ^ n := by rw [← Nat.pow_add, h]
  have hn : 0 < 2 ^ n := Nat.two_pow_pos n
  have hm : 0 < 2 ^ m := Nat.two_pow_pos m
  apply (Nat.div_eq_iff hn).2
  generalize hN : 2 ^ n = N at *
  generalize hM : 2 ^ m = M at *
  have e2 : (M - 1) * N = M * N - N := by rw [Nat.sub_mul, Nat.one_mul]
  have e3 : N ≤ M * N := Nat.le_mul_of_pos_left _ hm
  omega

theorem fill_nat (m n : Nat) (h : m + n = 64) : (18446744073709551615 : Nat) ^^^ (18446744073709551615 / 2 ^ n) = 2 ^ m * (2 ^ n - 1) := by
  rw [ones_shift m n h]
  have e : (18446744073709551615 : Nat) = 2 ^ 64 - 1 := by decide
  rw [e]
  apply Nat.eq_of_testBit_eq
  intro j
  rw [Nat.testBit_xor, Nat.testBit_two_pow_sub_one, Nat.testBit_two_pow_sub_one, Nat.testBit_two_pow_mul, Nat.testBit_two_pow_sub_one]
  by_cases h1 : j < m
  · have h2 : j < 64 := by omega
    have h3 : ¬ m ≤ j := by omega
    simp [h1, h2, h3]
  · have h3 : m ≤ j := by omega
    by_cases h2 : j < 64
    · have h4 : j - m < n := by omega
      simp [h1, h2, h3, h4]
    · have h4 : ¬ j - m < n := by omega
      simp [h1, h2, h4]

theorem pow_split (m n : Nat) (h : m + n = 64) : (18446744073709551616 : Int) = 2 ^ m * 2 ^ n := by
  rw [← Int.pow_add, h]; decide

theorem sar_pos (a : Int) (n : Nat) (h0 : 0 ≤ a) (h1 : a < 9223372036854775808) : IntKind.u64.wrap (wrap64 a / 2 ^ n) = a / 2 ^ n := by
  have e : wrap64 a = a := IntWalk.wrap64_in a ⟨by omega, by omega⟩
  rw [e, IntKind.wrap_u64]
  have h2 : 0 ≤ a / 2 ^ n := Int.ediv_nonneg h0 (Int.pow_nonneg (by decide))
  have h3 : a / 2 ^ n ≤ a := Int.ediv_le_self _ h0
  omega

theorem sar_neg (a : Int) (m n : Nat) (h : m + n = 64) (h0 : 9223372036854775808 ≤ a) (h1 : a < 18446744073709551616) :
    bits .or .u64 (a / 2 ^ n) (bits .xor .u64 IntKind.u64.max (18446744073709551615 / 2 ^ n)) = IntKind.u64.wrap (wrap64 a / 2 ^ n) := by
  obtain ⟨A, rfl⟩ := Int.eq_ofNat_of_zero_le (show 0 ≤ a by omega)
  have e0 : wrap64 (A : Int) = A + -(2 ^ m) * 2 ^ n := by
    have := pow_split m n h
    rw [Int.neg_mul, ← this]; unfold wrap64; omega
  have hn0 : (2 ^ n : Int) ≠ 0 := by have : (0 : Int) < 2 ^ n := Int.pow_pos (by decide); omega
  rw [e0, Int.add_mul_ediv_right _ _ hn0, umax_eq]
  have e1 : (18446744073709551615 : Int) / 2 ^ n = ((18446744073709551615 / 2 ^ n : Nat) : Int) := by simp
  have e2 : (A : Int) / 2 ^ n = ((A / 2 ^ n : Nat) : Int) := by simp
  have hl : (18446744073709551615 : Nat) / 2 ^ n ≤ 18446744073709551615 := Nat.div_le_self _ _
  have hx := u64_xor_nat 18446744073709551615 (18446744073709551615 / 2 ^ n) (by omega) (by omega)
  rw [fill_nat m n h] at hx
  rw [e1, e2]
  rw [show ((18446744073709551615 : Nat) : Int) = 18446744073709551615 from rfl] at hx
  rw [hx]
  have hA : A / 2 ^ n < 2 ^ m := by
    apply (Nat.div_lt_iff_lt_mul (Nat.two_pow_pos n)).2
    rw [← Nat.pow_add, h]; omega
  have hMN : 2 ^ m * 2 ^ n = (18446744073709551616 : Nat) := by rw [← Nat.pow_add, h]
  have hf : 2 ^ m * (2 ^ n - 1) = 18446744073709551616 - 2 ^ m := by rw [Nat.mul_sub, hMN, Nat.mul_one]
  have hm1 : 1 ≤ 2 ^ m := Nat.two_pow_pos m
  have hm2 : 2 ^ m ≤ 18446744073709551616 := by rw [← hMN]; exact Nat.le_mul_of_pos_right _ (Nat.two_pow_pos n)
  rw [u64_or_nat _ _ (by have := Nat.div_le_self A (2 ^ n); omega) (by omega), Nat.or_comm, ← Nat.two_pow_add_eq_or_of_lt hA, hf, IntKind.wrap_u64]
  have hc : ((2 : Int) ^ m) = ((2 ^ m : Nat) : Int) := by simp
  rw [hc]
  generalize 2 ^ m = M at *
  generalize A / 2 ^ n = q at *
  omega

/-- What Shift tells: by its kind, by the lowest six bits of the count. -/
def shiftW (k a b : Int) : Int :=
  if k = 0 then IntKind.u64.wrap (a * 2 ^ (b % 64).toNat) else
  if k = 1 then a / 2 ^ (b % 64).toNat else
  if k = 2 then IntKind.u64.wrap (wrap64 a / 2 ^ (b % 64).toNat) else a

/-- What Less tells. -/
def lessW (a b : Int) (s : Bool) : Bool := if s then decide (wrap64 a < wrap64 b) else decide (a < b)

end Go.Proofs.YtkckobbedpccfaaGreatDoor.W
namespace Go.Proofs.YtkckobbedpccfaaGreatDoor.W
open Go.RowKit
set_option linter.unusedVariables false

theorem ret_bool {a b : Bool} (h : a = b) : Ending.returned (.bool a) = .returned (.bool b) := by rw [h]
theorem ret_int {k : IntKind} {a b : Int} (h : a = b) : Ending.returned (.int k a) = .returned (.int k b) := by rw [h]

theorem grown_drewN {W w : World} (h : Grown W w) : ∀ n, Grown W (w.drewN n)
  | 0 => h
  | n + 1 => (grown_drewN h n).drew

theorem endsInt_lt (a b : Int) (h : b < a) (w : World) :
    Calls Tryz.prog 66 #[.int .i64 a, .int .i64 b] w fun e w' => e = .returned (.tuple #[.int .i64 b, .int .i64 a]) ∧ w' = w := by
  go_enter Tryz.func66, Tryz.ntmps66
  go_wp2
  go_ret2
  exact ⟨rfl, rfl⟩
theorem endsInt_ge (a b : Int) (h : a ≤ b) (w : World) :
    Calls Tryz.prog 66 #[.int .i64 a, .int .i64 b] w fun e w' => e = .returned (.tuple #[.int .i64 a, .int .i64 b]) ∧ w' = w := by
  have h' : ¬ b < a := by omega
  go_enter Tryz.func66, Tryz.ntmps66
  go_wp2
  go_ret2
  exact ⟨rfl, rfl⟩
theorem endsI_lt (a b : Int) (h : b < a) (w : World) :
    Calls Tryz.prog 148 #[.int .i64 a, .int .i64 b] w fun e w' => e = .returned (.tuple #[.int .i64 b, .int .i64 a]) ∧ w' = w := by
  go_enter Tryz.func148, Tryz.ntmps148
  go_wp2
  go_ret2
  exact ⟨rfl, rfl⟩
theorem endsI_ge (a b : Int) (h : a ≤ b) (w : World) :
    Calls Tryz.prog 148 #[.int .i64 a, .int .i64 b] w fun e w' => e = .returned (.tuple #[.int .i64 a, .int .i64 b]) ∧ w' = w := by
  have h' : ¬ b < a := by omega
  go_enter Tryz.func148, Tryz.ntmps148
  go_wp2
  go_ret2
  exact ⟨rfl, rfl⟩
theorem endsU_lt (a b : Int) (h : b < a) (w : World) :
    Calls Tryz.prog 149 #[.int .u64 a, .int .u64 b] w fun e w' => e = .returned (.tuple #[.int .u64 b, .int .u64 a]) ∧ w' = w := by
  go_enter Tryz.func149, Tryz.ntmps149
  go_wp2
  go_ret2
  exact ⟨rfl, rfl⟩
theorem endsU_ge (a b : Int) (h : a ≤ b) (w : World) :
    Calls Tryz.prog 149 #[.int .u64 a, .int .u64 b] w fun e w' => e = .returned (.tuple #[.int .u64 a, .int .u64 b]) ∧ w' = w := by
  have h' : ¬ b < a := by omega
  go_enter Tryz.func149, Tryz.ntmps149
  go_wp2
  go_ret2
  exact ⟨rfl, rfl⟩

theorem belowI_any (a b : Int) (w : World) :
    Calls Tryz.prog 143 #[.int .i64 a, .int .i64 b] w fun e w' => e = .returned (.bool (decide (a < b))) ∧ w' = w := by
  rcases Int.lt_trichotomy a b with h | h | h
  · have h1 : (b == a) = false := beq_eq_false_iff_ne.2 (by omega)
    have h3 : (b != a) = true := by rw [bne_iff_ne]; omega
    go_enter Tryz.func143, Tryz.ntmps143
    go_wp2_with (go_at_call 148; refine (endsI_ge _ _ (by omega) _).mono ?_; rintro e w' ⟨rfl, rfl⟩)
    go_ret
    exact ⟨ret_bool (by simp [h]), rfl⟩
  · subst h
    go_enter Tryz.func143, Tryz.ntmps143
    go_wp2_with (go_at_call 148; refine (endsI_ge _ _ (by omega) _).mono ?_; rintro e w' ⟨rfl, rfl⟩)
    go_ret
    exact ⟨ret_bool (by simp), rfl⟩
  · have h1 : (b == a) = false := beq_eq_false_iff_ne.2 (by omega)
    go_enter Tryz.func143, Tryz.ntmps143
    go_wp2_with (go_at_call 148; refine (endsI_lt _ _ (by omega) _).mono ?_; rintro e w' ⟨rfl, rfl⟩)
    go_ret
    exact ⟨ret_bool (by simp; omega), rfl⟩
theorem belowU_any (a b : Int) (w : World) :
    Calls Tryz.prog 144 #[.int .u64 a, .int .u64 b] w fun e w' => e = .returned (.bool (decide (a < b))) ∧ w' = w := by
  rcases Int.lt_trichotomy a b with h | h | h
  · have h1 : (b == a) = false := beq_eq_false_iff_ne.2 (by omega)
    have h3 : (b != a) = true := by rw [bne_iff_ne]; omega
    go_enter Tryz.func144, Tryz.ntmps144
    go_wp2_with (go_at_call 149; refine (endsU_ge _ _ (by omega) _).mono ?_; rintro e w' ⟨rfl, rfl⟩)
    go_ret
    exact ⟨ret_bool (by simp [h]), rfl⟩
  · subst h
    go_enter Tryz.func144, Tryz.ntmps144
    go_wp2_with (go_at_call 149; refine (endsU_ge _ _ (by omega) _).mono ?_; rintro e w' ⟨rfl, rfl⟩)
    go_ret
    exact ⟨ret_bool (by simp), rfl⟩
  · have h1 : (b == a) = false := beq_eq_false_iff_ne.2 (by omega)
    go_enter Tryz.func144, Tryz.ntmps144
    go_wp2_with (go_at_call 149; refine (endsU_lt _ _ (by omega) _).mono ?_; rintro e w' ⟨rfl, rfl⟩)
    go_ret
    exact ⟨ret_bool (by simp; omega), rfl⟩

theorem less_any (a b : Int) (s : Bool) (w : World) :
    Calls Tryz.prog 130 #[.int .u64 a, .int .u64 b, .bool s] w fun e w' => e = .returned (.bool (lessW a b s)) ∧ w' = w := by
  cases s
  · go_enter Tryz.func130, Tryz.ntmps130
    go_wp2_with (go_at_call 144; refine (belowU_any _ _ _).mono ?_; rintro e w' ⟨rfl, rfl⟩)
    go_ret
    exact ⟨ret_bool (by simp [lessW]), rfl⟩
  · go_enter Tryz.func130, Tryz.ntmps130
    go_wp2_with (go_at_call 143; refine (belowI_any _ _ _).mono ?_; rintro e w' ⟨rfl, rfl⟩)
    go_ret
    exact ⟨ret_bool (by simp [lessW]), rfl⟩
theorem divide_0 (a : Int) (w : World) :
    Calls Tryz.prog 133 #[.int .u64 a, .int .u64 0] w fun e w' => e = .returned (.tuple #[.int .u64 18446744073709551615, .int .u64 a]) ∧ ∃ n, w' = w.drewN n := by
  go_enter Tryz.func133, Tryz.ntmps133
  go_wp2
  go_ret2
  exact ⟨rfl, 0, rfl⟩
theorem divide_any (a b : Int) (h0 : 0 ≤ a) (ha : a < 18446744073709551616) (h1 : 0 < b) (w : World) :
    Calls Tryz.prog 133 #[.int .u64 a, .int .u64 b] w fun e w' => e = .returned (.tuple #[.int .u64 (a / b), .int .u64 (a % b)]) ∧ ∃ n, w' = w.drewN n := by
  have hb : (b == 0) = false := beq_eq_false_iff_ne.2 (by omega)
  go_enter Tryz.func133, Tryz.ntmps133
  go_wp2
  go_quiet (fail)
  go_wp2
  go_ret2
  exact ⟨rfl, _, rfl⟩
theorem fill_pos (a b : Int) (h0 : 0 ≤ a) (h1 : a < 9223372036854775808) (w : World) :
    Calls Tryz.prog 67 #[.int .u64 a, .int .u64 b] w fun e w' => e = .returned (.int .u64 0) ∧ w' = w := by
  have h2 : (a / 9223372036854775808 == 0) = true := beq_iff_eq.2 (by omega)
  go_enter Tryz.func67, Tryz.ntmps67
  go_wp2
  go_ret
  exact ⟨rfl, rfl⟩
theorem fill_neg (a b : Int) (h0 : 9223372036854775808 ≤ a) (h1 : a < 18446744073709551616) (hb0 : 0 ≤ b) (hb1 : b < 64) (w : World) :
    Calls Tryz.prog 67 #[.int .u64 a, .int .u64 b] w fun e w' => e = .returned (.int .u64 (bits .xor .u64 IntKind.u64.max (18446744073709551615 / 2 ^ b.toNat))) ∧ w' = w := by
  have h2 : (a / 9223372036854775808 == 0) = false := beq_eq_false_iff_ne.2 (by omega)
  go_enter Tryz.func67, Tryz.ntmps67
  go_wp2
  go_ret
  exact ⟨rfl, rfl⟩

theorem shift_any (k a b : Int) (h0 : 0 ≤ a) (h1 : a < 18446744073709551616) (hb0 : 0 ≤ b) (hb1 : b < 18446744073709551616) (w : World) :
    Calls Tryz.prog 45 #[.int .i64 k, .int .u64 a, .int .u64 b] w fun e w' => e = .returned (.int .u64 (shiftW k a b)) ∧ w' = w := by
  have h63 := and63 b hb0 hb1
  by_cases k0 : k = 0
  · have HK : Hid (shiftW k a b = IntKind.u64.wrap (a * 2 ^ (b % 64).toNat)) := by show shiftW k a b = _; simp [shiftW, k0]
    go_enter Tryz.func45, Tryz.ntmps45
    go_wp2
    go_ret
    exact ⟨ret_int HK.out.symm, rfl⟩
  by_cases k1 : k = 1
  · have HK : Hid (shiftW k a b = bits .or .u64 (a / 2 ^ (b % 64).toNat) 0) := by
      show shiftW k a b = _
      have hq := Int.ediv_nonneg (b := 2 ^ (b % 64).toNat) h0 (Int.pow_nonneg (by decide))
      have hl := Int.ediv_le_self (2 ^ (b % 64).toNat) h0
      rw [u64_or _ _ hq (by omega) (by omega) (by omega)]
      simp [shiftW, k1]; omega
    go_enter Tryz.func45, Tryz.ntmps45
    go_wp2
    go_ret
    exact ⟨ret_int HK.out.symm, rfl⟩
  by_cases k2 : k = 2
  · by_cases hs : a < 9223372036854775808
    · have HK : Hid (shiftW k a b = bits .or .u64 (a / 2 ^ (b % 64).toNat) 0) := by
        show shiftW k a b = _
        have hq := Int.ediv_nonneg (b := 2 ^ (b % 64).toNat) h0 (Int.pow_nonneg (by decide))
        have hl := Int.ediv_le_self (2 ^ (b % 64).toNat) h0
        rw [u64_or _ _ hq (by omega) (by omega) (by omega)]
        simp [shiftW, k2, sar_pos a _ h0 hs]; omega
      go_enter Tryz.func45, Tryz.ntmps45
      go_wp2_with (go_at_call 67; refine (fill_pos _ _ (by omega) (by omega) _).mono ?_; rintro e w' ⟨rfl, rfl⟩)
      go_ret
      exact ⟨ret_int HK.out.symm, rfl⟩
    · have HK : Hid (shiftW k a b = bits .or .u64 (a / 2 ^ (b % 64).toNat) (bits .xor .u64 IntKind.u64.max (18446744073709551615 / 2 ^ (b % 64).toNat))) := by
        show shiftW k a b = _
        rw [sar_neg a (64 - (b % 64).toNat) (b % 64).toNat (by omega) (by omega) h1]
        simp [shiftW, k2]
      go_enter Tryz.func45, Tryz.ntmps45
      go_wp2_with (go_at_call 67; refine (fill_neg _ _ (by omega) (by omega) (by omega) (by omega) _).mono ?_; rintro e w' ⟨rfl, rfl⟩)
      go_ret
      exact ⟨ret_int HK.out.symm, rfl⟩
  have HK : Hid (shiftW k a b = a) := by show shiftW k a b = _; simp [shiftW, k0, k1, k2]
  go_enter Tryz.func45, Tryz.ntmps45
  go_wp2
  go_ret
  exact ⟨ret_int HK.out.symm, rfl⟩
end Go.Proofs.YtkckobbedpccfaaGreatDoor.W
namespace Go.Proofs.YtkckobbedpccfaaGreatDoor
open Go.RowKit
set_option linter.unusedVariables false
set_option maxRecDepth 100000

def prV (a b : Int) : Value := .agg #[.int .u64 a, .int .u64 b]
theorem below_box (w : World) (o : Obj) : Below w.heap.size w (w.alloc o) := (Below.refl _ _).alloc (Nat.le_refl _) _
def quoP (a b : Int) : Int := if b = 0 then 18446744073709551615 else a / b
def remP (a b : Int) : Int := if b = 0 then a else a % b
theorem divide_pr (a b : Int) (ha : C.U a) (hb : C.U b) (w : World) : Calls Tryz.prog 133 #[.int .u64 a, .int .u64 b] w fun e w' => e = .returned (.tuple #[.int .u64 (quoP a b), .int .u64 (remP a b)]) ∧ ∃ n, w' = w.drewN n := by
  unfold quoP remP
  by_cases h : b = 0
  · subst h
    rw [if_pos rfl, if_pos rfl]
    exact W.divide_0 a w
  · rw [if_neg h, if_neg h]
    exact W.divide_any a b ha.1 ha.2 (by have := hb.1; omega) w

theorem plus_pr (a b : Int) (w : World) : Calls Tryz.prog 101 #[prV a b] w fun e w' => e = .returned (.int .u64 (IntKind.u64.wrap (a + b))) ∧ Below w.heap.size w w' := by
  unfold prV
  go_enter Tryz.func101, Tryz.ntmps101
  go_wp2
  go_ret
  exact ⟨rfl, below_box _ _⟩
theorem minus_pr (a b : Int) (w : World) : Calls Tryz.prog 102 #[prV a b] w fun e w' => e = .returned (.int .u64 (IntKind.u64.wrap (a - b))) ∧ Below w.heap.size w w' := by
  unfold prV
  go_enter Tryz.func102, Tryz.ntmps102
  go_wp2
  go_ret
  exact ⟨rfl, below_box _ _⟩
theorem and_pr (a b : Int) (w : World) : Calls Tryz.prog 103 #[prV a b] w fun e w' => e = .returned (.int .u64 (bits .and .u64 a b)) ∧ Below w.heap.size w w' := by
  unfold prV
  go_enter Tryz.func103, Tryz.ntmps103
  go_wp2
  go_ret
  exact ⟨rfl, below_box _ _⟩
theorem or_pr (a b : Int) (w : World) : Calls Tryz.prog 104 #[prV a b] w fun e w' => e = .returned (.int .u64 (bits .or .u64 a b)) ∧ Below w.heap.size w w' := by
  unfold prV
  go_enter Tryz.func104, Tryz.ntmps104
  go_wp2
  go_ret
  exact ⟨rfl, below_box _ _⟩
theorem xor_pr (a b : Int) (w : World) : Calls Tryz.prog 105 #[prV a b] w fun e w' => e = .returned (.int .u64 (bits .xor .u64 a b)) ∧ Below w.heap.size w w' := by
  unfold prV
  go_enter Tryz.func105, Tryz.ntmps105
  go_wp2
  go_ret
  exact ⟨rfl, below_box _ _⟩
theorem times_pr (a b : Int) (w : World) : Calls Tryz.prog 111 #[prV a b] w fun e w' => e = .returned (.int .u64 (IntKind.u64.wrap (a * b))) ∧ Below w.heap.size w w' := by
  unfold prV
  go_enter Tryz.func111, Tryz.ntmps111
  go_wp2
  go_ret
  exact ⟨rfl, below_box _ _⟩
theorem second_pr (a b : Int) (w : World) : Calls Tryz.prog 138 #[prV a b] w fun e w' => e = .returned (.int .u64 (b)) ∧ Below w.heap.size w w' := by
  unfold prV
  go_enter Tryz.func138, Tryz.ntmps138
  go_wp2
  go_ret
  exact ⟨rfl, below_box _ _⟩
theorem sll_pr (a b : Int) (ha : C.U a) (hb : C.U b) (w : World) : Calls Tryz.prog 106 #[prV a b] w fun e w' => e = .returned (.int .u64 (W.shiftW 0 a b)) ∧ Below w.heap.size w w' := by
  have CS := W.shift_any 0 a b ha.1 ha.2 hb.1 hb.2
  generalize W.shiftW 0 a b = z at *
  unfold prV
  go_enter Tryz.func106, Tryz.ntmps106
  go_wp2_with fail
  refine (CS _).mono ?_
  rintro e w' ⟨rfl, hw⟩
  subst hw
  go_wp2_with fail
  go_ret
  exact ⟨rfl, below_box _ _⟩
theorem srl_pr (a b : Int) (ha : C.U a) (hb : C.U b) (w : World) : Calls Tryz.prog 107 #[prV a b] w fun e w' => e = .returned (.int .u64 (W.shiftW 1 a b)) ∧ Below w.heap.size w w' := by
  have CS := W.shift_any 1 a b ha.1 ha.2 hb.1 hb.2
  generalize W.shiftW 1 a b = z at *
  unfold prV
  go_enter Tryz.func107, Tryz.ntmps107
  go_wp2_with fail
  refine (CS _).mono ?_
  rintro e w' ⟨rfl, hw⟩
  subst hw
  go_wp2_with fail
  go_ret
  exact ⟨rfl, below_box _ _⟩
theorem sra_pr (a b : Int) (ha : C.U a) (hb : C.U b) (w : World) : Calls Tryz.prog 108 #[prV a b] w fun e w' => e = .returned (.int .u64 (W.shiftW 2 a b)) ∧ Below w.heap.size w w' := by
  have CS := W.shift_any 2 a b ha.1 ha.2 hb.1 hb.2
  generalize W.shiftW 2 a b = z at *
  unfold prV
  go_enter Tryz.func108, Tryz.ntmps108
  go_wp2_with fail
  refine (CS _).mono ?_
  rintro e w' ⟨rfl, hw⟩
  subst hw
  go_wp2_with fail
  go_ret
  exact ⟨rfl, below_box _ _⟩
theorem quo_pr (a b : Int) (ha : C.U a) (hb : C.U b) (w : World) : Calls Tryz.prog 112 #[prV a b] w fun e w' => e = .returned (.int .u64 (quoP a b)) ∧ Below w.heap.size w w' := by
  have CS := divide_pr a b ha hb
  generalize quoP a b = z at *
  generalize remP a b = z2 at *
  unfold prV
  go_enter Tryz.func112, Tryz.ntmps112
  go_wp2_with fail
  refine (CS _).mono ?_
  rintro e w' ⟨rfl, n, hw⟩
  subst hw
  go_wp2_with fail
  go_ret
  exact ⟨rfl, C.below_drewN (below_box _ _) _⟩
theorem rem_pr (a b : Int) (ha : C.U a) (hb : C.U b) (w : World) : Calls Tryz.prog 113 #[prV a b] w fun e w' => e = .returned (.int .u64 (remP a b)) ∧ Below w.heap.size w w' := by
  have CS := divide_pr a b ha hb
  generalize quoP a b = z at *
  generalize remP a b = z2 at *
  unfold prV
  go_enter Tryz.func113, Tryz.ntmps113
  go_wp2_with fail
  refine (CS _).mono ?_
  rintro e w' ⟨rfl, n, hw⟩
  subst hw
  go_wp2_with fail
  go_ret
  exact ⟨rfl, C.below_drewN (below_box _ _) _⟩
theorem upper_pr (a b : Int) (w : World) : Calls Tryz.prog 114 #[prV a b] w fun e w' => e = .returned (.int .u64 (IntKind.u64.wrap (b * 4096))) ∧ Below w.heap.size w w' := by
  unfold prV
  go_enter Tryz.func114, Tryz.ntmps114
  go_wp2
  go_ret
  exact ⟨rfl, below_box _ _⟩
theorem same_pr (a b : Int) (w : World) : Calls Tryz.prog 91 #[prV a b] w fun e w' => e = .returned (.bool (a == b)) ∧ Below w.heap.size w w' := by
  unfold prV
  go_enter Tryz.func91, Tryz.ntmps91
  go_wp2
  go_ret
  exact ⟨rfl, below_box _ _⟩
theorem other_pr (a b : Int) (w : World) : Calls Tryz.prog 92 #[prV a b] w fun e w' => e = .returned (.bool (a != b)) ∧ Below w.heap.size w w' := by
  unfold prV
  go_enter Tryz.func92, Tryz.ntmps92
  go_wp2
  go_ret
  exact ⟨rfl, below_box _ _⟩

theorem lessS_pr (a b : Int) (w : World) : Calls Tryz.prog 93 #[prV a b] w fun e w' => e = .returned (.bool (W.lessW a b true)) ∧ Below w.heap.size w w' := by
  have CS := W.less_any a b true
  generalize W.lessW a b true = z at *
  unfold prV
  go_enter Tryz.func93, Tryz.ntmps93
  go_wp2_with fail
  refine (CS _).mono ?_
  rintro e w' ⟨rfl, hw⟩
  subst hw
  go_wp2_with fail
  go_ret
  exact ⟨rfl, below_box _ _⟩
theorem lessU_pr (a b : Int) (w : World) : Calls Tryz.prog 95 #[prV a b] w fun e w' => e = .returned (.bool (W.lessW a b false)) ∧ Below w.heap.size w w' := by
  have CS := W.less_any a b false
  generalize W.lessW a b false = z at *
  unfold prV
  go_enter Tryz.func95, Tryz.ntmps95
  go_wp2_with fail
  refine (CS _).mono ?_
  rintro e w' ⟨rfl, hw⟩
  subst hw
  go_wp2_with fail
  go_ret
  exact ⟨rfl, below_box _ _⟩
theorem geS_pr (a b : Int) (w : World) : Calls Tryz.prog 94 #[prV a b] w fun e w' => e = .returned (.bool (!W.lessW a b true)) ∧ Below w.heap.size w w' := by
  have CS := lessS_pr a b
  generalize W.lessW a b true = z at *
  unfold prV at *
  go_enter Tryz.func94, Tryz.ntmps94
  go_wp2_with fail
  refine (CS _).mono ?_
  rintro e w1 ⟨rfl, hb⟩
  have HB : Hid (Below w.heap.size w w1) := (below_box _ _).trans (hb.mono (by simp))
  clear hb CS
  go_wp2_with fail
  go_ret
  exact ⟨rfl, HB.out⟩
theorem geU_pr (a b : Int) (w : World) : Calls Tryz.prog 96 #[prV a b] w fun e w' => e = .returned (.bool (!W.lessW a b false)) ∧ Below w.heap.size w w' := by
  have CS := lessU_pr a b
  generalize W.lessW a b false = z at *
  unfold prV at *
  go_enter Tryz.func96, Tryz.ntmps96
  go_wp2_with fail
  refine (CS _).mono ?_
  rintro e w1 ⟨rfl, hb⟩
  have HB : Hid (Below w.heap.size w w1) := (below_box _ _).trans (hb.mono (by simp))
  clear hb CS
  go_wp2_with fail
  go_ret
  exact ⟨rfl, HB.out⟩
theorem oneIf_pr (z : Bool) (w : World) : Calls Tryz.prog 132 #[.bool z] w fun e w' => e = .returned (.int .u64 (if z then 1 else 0)) ∧ w' = w := by
  cases z
  · go_enter Tryz.func132, Tryz.ntmps132
    go_wp2
    go_ret
    exact ⟨rfl, rfl⟩
  · go_enter Tryz.func132, Tryz.ntmps132
    go_wp2
    go_ret
    exact ⟨rfl, rfl⟩
theorem slt_pr (a b : Int) (w : World) : Calls Tryz.prog 109 #[prV a b] w fun e w' => e = .returned (.int .u64 (if W.lessW a b true then 1 else 0)) ∧ Below w.heap.size w w' := by
  have CS := lessS_pr a b
  have CO := oneIf_pr (W.lessW a b true)
  generalize W.lessW a b true = z at *
  generalize (if z = true then (1 : Int) else 0) = q at *
  unfold prV at *
  go_enter Tryz.func109, Tryz.ntmps109
  go_wp2_with fail
  refine (CS _).mono ?_
  rintro e w1 ⟨rfl, hb⟩
  have HB : Hid (Below w.heap.size w w1) := (below_box _ _).trans (hb.mono (by simp))
  clear hb CS
  go_wp2_with fail
  refine (CO _).mono ?_
  rintro e w2 ⟨rfl, rfl⟩
  go_wp2_with fail
  go_ret
  exact ⟨rfl, HB.out⟩
theorem sltu_pr (a b : Int) (w : World) : Calls Tryz.prog 110 #[prV a b] w fun e w' => e = .returned (.int .u64 (if W.lessW a b false then 1 else 0)) ∧ Below w.heap.size w w' := by
  have CS := lessU_pr a b
  have CO := oneIf_pr (W.lessW a b false)
  generalize W.lessW a b false = z at *
  generalize (if z = true then (1 : Int) else 0) = q at *
  unfold prV at *
  go_enter Tryz.func110, Tryz.ntmps110
  go_wp2_with fail
  refine (CS _).mono ?_
  rintro e w1 ⟨rfl, hb⟩
  have HB : Hid (Below w.heap.size w w1) := (below_box _ _).trans (hb.mono (by simp))
  clear hb CS
  go_wp2_with fail
  refine (CO _).mono ?_
  rintro e w2 ⟨rfl, rfl⟩
  go_wp2_with fail
  go_ret
  exact ⟨rfl, HB.out⟩

/-- what an operation on two numbers comes to -/
def reckP (op a b : Int) : Int :=
  if op = 1 ∨ op = 14 then IntKind.u64.wrap (a + b) else if op = 2 then IntKind.u64.wrap (a - b) else if op = 3 ∨ op = 15 then bits .and .u64 a b else if op = 4 ∨ op = 16 then bits .or .u64 a b else if op = 5 ∨ op = 17 then bits .xor .u64 a b
  else if op = 6 ∨ op = 18 then W.shiftW 0 a b else if op = 7 ∨ op = 19 then W.shiftW 1 a b else if op = 8 ∨ op = 20 then W.shiftW 2 a b else if op = 9 ∨ op = 21 then (if W.lessW a b true then 1 else 0) else if op = 10 then (if W.lessW a b false then 1 else 0)
  else if op = 11 then IntKind.u64.wrap (a * b) else if op = 12 then quoP a b else if op = 13 then remP a b else IntKind.u64.wrap (b * 4096)
def condP (op a b : Int) : Bool := if op = 29 then a == b else if op = 30 then a != b else if op = 31 then W.lessW a b true else if op = 32 then !W.lessW a b true else if op = 33 then W.lessW a b false else !W.lessW a b false
/-- the method of an operation on two numbers -/
def reckF (op : Int) : Nat := if op = 1 ∨ op = 14 then 101 else if op = 2 then 102 else if op = 3 ∨ op = 15 then 103 else if op = 4 ∨ op = 16 then 104 else if op = 5 ∨ op = 17 then 105 else if op = 6 ∨ op = 18 then 106 else if op = 7 ∨ op = 19 then 107 else if op = 8 ∨ op = 20 then 108 else if op = 9 ∨ op = 21 then 109 else if op = 10 then 110 else if op = 11 then 111 else if op = 12 then 112 else if op = 13 then 113 else 114
def condF (op : Int) : Nat := if op = 29 then 91 else if op = 30 then 92 else if op = 31 then 93 else if op = 32 then 94 else if op = 33 then 95 else 96
theorem reck_pr (op a b : Int) (h1 : 1 ≤ op) (h2 : op ≤ 22) (ha : C.U a) (hb : C.U b) (w : World) : Calls Tryz.prog (reckF op) #[prV a b] w fun e w' => e = .returned (.int .u64 (reckP op a b)) ∧ Below w.heap.size w w' := by
  have hc : op = 1 ∨ op = 2 ∨ op = 3 ∨ op = 4 ∨ op = 5 ∨ op = 6 ∨ op = 7 ∨ op = 8 ∨ op = 9 ∨ op = 10 ∨ op = 11 ∨ op = 12 ∨ op = 13 ∨ op = 14 ∨ op = 15 ∨ op = 16 ∨ op = 17 ∨ op = 18 ∨ op = 19 ∨ op = 20 ∨ op = 21 ∨ op = 22 := by omega
  rcases hc with rfl | rfl | rfl | rfl | rfl | rfl | rfl | rfl | rfl | rfl | rfl | rfl | rfl | rfl | rfl | rfl | rfl | rfl | rfl | rfl | rfl | rfl
  all_goals simp only [reckP, reckF, Int.reduceEq, or_true, or_self, or_false, if_true, if_false]
  all_goals first
    | exact plus_pr a b w
    | exact minus_pr a b w
    | exact and_pr a b w
    | exact or_pr a b w
    | exact xor_pr a b w
    | exact sll_pr a b ha hb w
    | exact srl_pr a b ha hb w
    | exact sra_pr a b ha hb w
    | exact slt_pr a b w
    | exact sltu_pr a b w
    | exact times_pr a b w
    | exact quo_pr a b ha hb w
    | exact rem_pr a b ha hb w
    | exact upper_pr a b w
theorem cond_pr (op a b : Int) (h1 : 29 ≤ op) (h2 : op ≤ 34) (w : World) : Calls Tryz.prog (condF op) #[prV a b] w fun e w' => e = .returned (.bool (condP op a b)) ∧ Below w.heap.size w w' := by
  have hc : op = 29 ∨ op = 30 ∨ op = 31 ∨ op = 32 ∨ op = 33 ∨ op = 34 := by omega
  rcases hc with rfl | rfl | rfl | rfl | rfl | rfl
  all_goals simp only [condP, condF, Int.reduceEq, if_true, if_false]
  all_goals first
    | exact same_pr a b w
    | exact other_pr a b w
    | exact lessS_pr a b w
    | exact geS_pr a b w
    | exact lessU_pr a b w
    | exact geU_pr a b w
end Go.Proofs.YtkckobbedpccfaaGreatDoor
