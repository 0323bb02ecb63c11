/-
  What the functions of package word and of the document's answer do that divide, shift and compare: their contracts.
  What the functions of package word and of the document's answer do that tell and place fields and signs: their contracts.
  What the functions that place bits into a word do: their contracts.
  What the functions that tell signs and whether a number fits do: their contracts.
  Fields, places, signs and fits at every argument: one contract a function, the same for the program's and the document's.
  An entry of a map literal, at the operation: a law for walks. Elements are read as themselves.
  What is placed into bits that are 0 is added: an instruction's word as a sum.
-/
import Derived.Test.YtkckobbedpccfaaGreatDoorRows
import Derived.Test.YtkckobbedpccfaaGreatDoorQI1
import Derived.WalkKit
import Derived.ProofKit
import Derived.OpenShut
import Derived.Deep.QuietTactic
import Derived.BigQuiet
import Derived.Maps.OwnSet
namespace Go.Proofs.YtkckobbedpccfaaGreatDoor.I
open Go.RowKit
set_option linter.unusedVariables false
set_option maxRecDepth 100000

theorem ret_bool {a b : Bool} (h : a = b) : Ending.returned (.bool a) = .returned (.bool b) := by rw [h]
theorem ret_int {k : IntKind} {a b : Int} (h : a = b) : Ending.returned (.int k a) = .returned (.int k b) := by rw [h]

theorem grown_drewN {W w : World} (h : Grown W w) : ∀ n, Grown W (w.drewN n)
  | 0 => h
  | n + 1 => (grown_drewN h n).drew

theorem endsInt_lt (a b : Int) (h : b < a) (w : World) :
    Calls Tryz.prog 66 #[.int .i64 a, .int .i64 b] w fun e w' => e = .returned (.tuple #[.int .i64 b, .int .i64 a]) ∧ w' = w := by
  go_enter Tryz.func66, Tryz.ntmps66
  go_wp2
  go_ret2
  exact ⟨rfl, rfl⟩
theorem endsInt_ge (a b : Int) (h : a ≤ b) (w : World) :
    Calls Tryz.prog 66 #[.int .i64 a, .int .i64 b] w fun e w' => e = .returned (.tuple #[.int .i64 a, .int .i64 b]) ∧ w' = w := by
  have h' : ¬ b < a := by omega
  go_enter Tryz.func66, Tryz.ntmps66
  go_wp2
  go_ret2
  exact ⟨rfl, rfl⟩
end Go.Proofs.YtkckobbedpccfaaGreatDoor.I
namespace Go.Proofs.YtkckobbedpccfaaGreatDoor.I
open Go.RowKit
set_option linter.unusedVariables false
set_option maxRecDepth 100000
theorem within_yes (v a b : Int) (h1 : a ≤ v) (h2 : v ≤ b) (w : World) :
    Calls Tryz.prog 44 #[.int .i64 v, .int .i64 a, .int .i64 b] w fun e w' => e = .returned (.bool true) ∧ w' = w := by
  by_cases e1 : v = a
  · subst e1
    go_enter Tryz.func44, Tryz.ntmps44
    go_wp2_with (go_at_call 66; refine (endsInt_ge _ _ (by omega) _).mono ?_; rintro e w' ⟨rfl, rfl⟩)
    go_ret
    exact ⟨rfl, rfl⟩
  · go_enter Tryz.func44, Tryz.ntmps44
    go_wp2_with fail
    refine (endsInt_lt _ _ (by omega) _).mono ?_
    rintro e w' ⟨rfl, rfl⟩
    go_wp2_with fail
    refine (endsInt_ge _ _ (by omega) _).mono ?_
    rintro e w' ⟨rfl, rfl⟩
    go_wp2_with fail
    go_ret
    exact ⟨rfl, rfl⟩
theorem within_low (v a b : Int) (h1 : v < a) (w : World) :
    Calls Tryz.prog 44 #[.int .i64 v, .int .i64 a, .int .i64 b] w fun e w' => e = .returned (.bool false) ∧ w' = w := by
  have e1 : (v == a) = false := beq_eq_false_iff_ne.2 (by omega)
  by_cases h2 : v ≤ b
  · go_enter Tryz.func44, Tryz.ntmps44
    go_wp2_with (go_at_call 66; refine (endsInt_ge _ _ (by omega) _).mono ?_; rintro e w' ⟨rfl, rfl⟩)
    go_ret
    exact ⟨rfl, rfl⟩
  · go_enter Tryz.func44, Tryz.ntmps44
    go_wp2_with fail
    refine (endsInt_ge _ _ (by omega) _).mono ?_
    rintro e w' ⟨rfl, rfl⟩
    go_wp2_with fail
    refine (endsInt_lt _ _ (by omega) _).mono ?_
    rintro e w' ⟨rfl, rfl⟩
    go_wp2_with fail
    go_ret
    exact ⟨rfl, rfl⟩
theorem within_high (v a b : Int) (h1 : b < v) (w : World) :
    Calls Tryz.prog 44 #[.int .i64 v, .int .i64 a, .int .i64 b] w fun e w' => e = .returned (.bool false) ∧ w' = w := by
  have e1 : (v == b) = false := beq_eq_false_iff_ne.2 (by omega)
  by_cases h2 : a < v
  · go_enter Tryz.func44, Tryz.ntmps44
    go_wp2_with (go_at_call 66; refine (endsInt_lt _ _ (by omega) _).mono ?_; rintro e w' ⟨rfl, rfl⟩)
    go_ret
    exact ⟨rfl, rfl⟩
  · go_enter Tryz.func44, Tryz.ntmps44
    go_wp2_with fail
    refine (endsInt_ge _ _ (by omega) _).mono ?_
    rintro e w' ⟨rfl, rfl⟩
    go_wp2_with fail
    refine (endsInt_lt _ _ (by omega) _).mono ?_
    rintro e w' ⟨rfl, rfl⟩
    by_cases h3 : v = a
    · have e2 : (v == a) = true := beq_iff_eq.2 h3
      subst h3
      go_wp2_with fail
      go_ret
      exact ⟨rfl, rfl⟩
    · have e2 : (v == a) = false := beq_eq_false_iff_ne.2 h3
      go_wp2_with fail
      go_ret
      exact ⟨rfl, rfl⟩
theorem within_any (v a b : Int) (w : World) :
    Calls Tryz.prog 44 #[.int .i64 v, .int .i64 a, .int .i64 b] w fun e w' => e = .returned (.bool (decide (a ≤ v ∧ v ≤ b))) ∧ w' = w := by
  by_cases h1 : a ≤ v
  · by_cases h2 : v ≤ b
    · rw [show decide (a ≤ v ∧ v ≤ b) = true from by simp [h1, h2]]
      exact within_yes v a b h1 h2 w
    · rw [show decide (a ≤ v ∧ v ≤ b) = false from by simp [h2]]
      exact within_high v a b (by omega) w
  · rw [show decide (a ≤ v ∧ v ≤ b) = false from by simp [h1]]
    exact within_low v a b (by omega) w

theorem isField_yes (t n : Int) (h1 : 0 ≤ t) (h2 : t ≤ 31) (h3 : 1 ≤ n) (h4 : t + n ≤ 32) (w : World) :
    Calls Tryz.prog 82 #[.int .i64 t, .int .i64 n] w fun e w' => e = .returned (.bool true) ∧ w' = w := by
  go_enter Tryz.func82, Tryz.ntmps82
  go_wp2_with (go_at_call 44; refine (within_yes _ _ _ (by omega) (by omega) _).mono ?_; rintro e w' ⟨rfl, rfl⟩)
  go_ret
  exact ⟨rfl, rfl⟩
theorem isField_no (t n : Int) (h : ¬ (0 ≤ t ∧ t ≤ 31 ∧ 1 ≤ n ∧ t + n ≤ 32)) (w : World) :
    Calls Tryz.prog 82 #[.int .i64 t, .int .i64 n] w fun e w' => e = .returned (.bool false) ∧ w' = w := by
  by_cases h1 : t < 0
  · go_enter Tryz.func82, Tryz.ntmps82
    go_wp2_with (go_at_call 44; refine (within_low _ _ _ (by omega) _).mono ?_; rintro e w' ⟨rfl, rfl⟩)
    go_ret
    exact ⟨rfl, rfl⟩
  by_cases h2 : 31 < t
  · go_enter Tryz.func82, Tryz.ntmps82
    go_wp2_with (go_at_call 44; refine (within_high _ _ _ (by omega) _).mono ?_; rintro e w' ⟨rfl, rfl⟩)
    go_ret
    exact ⟨rfl, rfl⟩
  by_cases h3 : n < 1
  · go_enter Tryz.func82, Tryz.ntmps82
    go_wp2_with fail
    refine (within_yes _ _ _ (by omega) (by omega) _).mono ?_
    rintro e w' ⟨rfl, rfl⟩
    go_wp2_with fail
    refine (within_low _ _ _ (by omega) _).mono ?_
    rintro e w' ⟨rfl, rfl⟩
    go_wp2_with fail
    go_ret
    exact ⟨rfl, rfl⟩
  · go_enter Tryz.func82, Tryz.ntmps82
    go_wp2_with fail
    refine (within_yes _ _ _ (by omega) (by omega) _).mono ?_
    rintro e w' ⟨rfl, rfl⟩
    go_wp2_with fail
    refine (within_high _ _ _ (by omega) _).mono ?_
    rintro e w' ⟨rfl, rfl⟩
    go_wp2_with fail
    go_ret
    exact ⟨rfl, rfl⟩
theorem ones_any (n : Nat) (h1 : 1 ≤ n) (h2 : n ≤ 32) (w : World) :
    Calls Tryz.prog 83 #[.int .i64 n] w fun e w' => e = .returned (.int .u32 (2 ^ n - 1)) ∧ w' = w := by
  have HO : Hid ((4294967295 : Int) / 2 ^ (32 - n) = 2 ^ n - 1) := ones32 n h2
  go_enter Tryz.func83, Tryz.ntmps83
  go_wp2
  go_ret
  exact ⟨ret_int HO.out, rfl⟩

theorem field_no (a t n : Int) (h : ¬ (0 ≤ t ∧ t ≤ 31 ∧ 1 ≤ n ∧ t + n ≤ 32)) (w : World) :
    Calls Tryz.prog 60 #[.int .u32 a, .int .i64 t, .int .i64 n] w fun e w' => e = .returned (.int .i64 0) ∧ w' = w := by
  go_enter Tryz.func60, Tryz.ntmps60
  go_wp2_with (go_at_call 82; refine (isField_no _ _ h _).mono ?_; rintro e w' ⟨rfl, rfl⟩)
  go_ret
  exact ⟨rfl, rfl⟩
theorem field_yes (a : Int) (t n : Nat) (ha : 0 ≤ a) (ha' : a ≤ 4294967295) (h3 : 1 ≤ n) (h4 : t + n ≤ 32) (w : World) :
    Calls Tryz.prog 60 #[.int .u32 a, .int .i64 t, .int .i64 n] w fun e w' => e = .returned (.int .i64 (a / 2 ^ t % 2 ^ n)) ∧ w' = w := by
  have hq := Int.ediv_nonneg (b := 2 ^ t) ha (Int.le_of_lt (pow_pos' t))
  have hl := Int.ediv_le_self (2 ^ t) ha
  have e1 := and_ones32 (a / 2 ^ t) n (by omega) hq (by omega)
  have hq2 := Int.emod_nonneg (a / 2 ^ t) (show (2 : Int) ^ n ≠ 0 by have := pow_pos' n; omega)
  have hl2 := emod_le_self (a / 2 ^ t) (2 ^ n) hq (pow_pos' n)
  generalize hF : a / 2 ^ t % 2 ^ n = F at *
  have HF : Hid (a / 2 ^ t % 2 ^ n = F) := hF
  clear hF
  go_enter Tryz.func60, Tryz.ntmps60
  go_wp2_with (first | (go_at_call 82; refine (isField_yes _ _ (by omega) (by omega) (by omega) (by omega) _).mono ?_; rintro e w' ⟨rfl, rfl⟩) | (go_at_call 83; refine (ones_any _ (by omega) (by omega) _).mono ?_; rintro e w' ⟨rfl, rfl⟩))
  go_ret
  exact ⟨rfl, rfl⟩
end Go.Proofs.YtkckobbedpccfaaGreatDoor.I
namespace Go.Proofs.YtkckobbedpccfaaGreatDoor.I
open Go.RowKit
set_option linter.unusedVariables false
set_option maxRecDepth 100000
theorem rplace_not (a v t n : Int) (h : ¬ (0 ≤ t ∧ t ≤ 31 ∧ 1 ≤ n ∧ t + n ≤ 32)) (hn0 : -1 ≤ n) (hn : n ≤ 33) (w : World) :
    Calls Tryz.prog 14 #[.int .u32 a, .int .i64 v, .int .i64 t, .int .i64 n] w fun e w' => e = .returned (.int .u32 a) ∧ w' = w := by
  by_cases h1 : t < 0
  · go_enter Tryz.func14, Tryz.ntmps14
    go_wp2
    go_ret
    exact ⟨rfl, rfl⟩
  by_cases h2 : 31 < t
  · go_enter Tryz.func14, Tryz.ntmps14
    go_wp2
    go_ret
    exact ⟨rfl, rfl⟩
  by_cases h3 : n < 1
  · go_enter Tryz.func14, Tryz.ntmps14
    go_wp2
    go_ret
    exact ⟨rfl, rfl⟩
  by_cases h4 : 32 < n
  · go_enter Tryz.func14, Tryz.ntmps14
    go_wp2
    go_ret
    exact ⟨rfl, rfl⟩
  have h5 : 32 < t + n := by omega
  go_enter Tryz.func14, Tryz.ntmps14
  go_wp2
  go_ret
  exact ⟨rfl, rfl⟩
theorem rplace_is (W : Nat) (v : Int) (t n : Nat) (hW : W < 4294967296) (h3 : 1 ≤ n) (h4 : t + n ≤ 32) (w : World) :
    Calls Tryz.prog 14 #[.int .u32 W, .int .i64 v, .int .i64 t, .int .i64 n] w fun e w' => e = .returned (.int .u32 (placeN W (v % 4294967296).toNat t n)) ∧ w' = w := by
  have Z := place_zero W (v % 4294967296).toNat t hW (by omega)
  have HZ : Hid (placeN W (v % 4294967296).toNat t 0 = W) := Z
  clear Z
  go_enter Tryz.func14, Tryz.ntmps14
  go_wp2
  go_loop [0, 9] (fun x i => ∃ k : Nat, k ≤ n ∧ i = .int .i64 k ∧ x = .int .u32 (placeN W (v % 4294967296).toNat t k)) (fun _ i => n - (intOf i).toNat)
  case atStart => exact ⟨0, by omega, rfl, by rw [HZ.out]⟩
  case round =>
    obtain ⟨k, hk, rfl, rfl⟩ := hrel
    by_cases hlt : k < n
    · have HB : Hid ((2 : Int) ^ (t + k) % 4294967296 = ((2 ^ (t + k) : Nat) : Int)) := by
        have h := bit_wrap (t + k) (by omega)
        rw [IntKind.wrap_u32] at h
        exact h
      have e2 := place_step_not W (v % 4294967296).toNat t k hW (by omega)
      have e3 := place_step_or W (v % 4294967296).toNat t k hW (by omega)
      have e4 := and1 (v / 2 ^ k)
      have hb := bit_of v k (by omega)
      by_cases hbit : (v % 4294967296).toNat.testBit k = true
      · have e5 := place_yes W (v % 4294967296).toNat t k hW (by omega) hbit
        rw [e5] at e3
        clear e5
        rw [hbit] at hb
        clear hbit
        generalize (placeN W (v % 4294967296).toNat t k &&& (4294967295 - 2 ^ (t + k))) = X at *
        generalize hY : placeN W (v % 4294967296).toNat t (k + 1) = Y at *
        have HY : Hid (placeN W (v % 4294967296).toNat t (k + 1) = Y) := hY
        clear hY
        have E2 : Hid (_ = _) := e2
        have E3 : Hid (_ = _) := e3
        clear e2 e3
        go_wp2
        go_round
        case rel => exact ⟨k + 1, by omega, by go_num, by rw [HY.out, HB.out, E2.out, E3.out]⟩
        case measure => simp [intOf]; omega
      · have e5 := place_no W (v % 4294967296).toNat t k hW (by omega) (by simpa using hbit)
        rw [e5] at e2
        clear e5 e3
        rw [Bool.not_eq_true] at hbit
        rw [hbit] at hb
        clear hbit
        generalize hY : placeN W (v % 4294967296).toNat t (k + 1) = Y at *
        have HY : Hid (placeN W (v % 4294967296).toNat t (k + 1) = Y) := hY
        clear hY
        have E2 : Hid (_ = _) := e2
        clear e2
        go_wp2
        go_round
        case rel => exact ⟨k + 1, by omega, by go_num, by rw [HY.out, HB.out, E2.out]⟩
        case measure => simp [intOf]; omega
    · obtain rfl : k = n := by omega
      go_wp2
      go_ret
      exact ⟨rfl, rfl⟩
end Go.Proofs.YtkckobbedpccfaaGreatDoor.I
namespace Go.Proofs.YtkckobbedpccfaaGreatDoor.I
open Go.RowKit
set_option linter.unusedVariables false
set_option maxRecDepth 100000
theorem sign_no (v n : Int) (h : ¬ (1 ≤ n ∧ n ≤ 63)) (w : World) :
    Calls Tryz.prog 85 #[.int .i64 v, .int .i64 n] w fun e w' => e = .returned (.int .i64 0) ∧ w' = w := by
  by_cases h1 : n < 1
  · go_enter Tryz.func85, Tryz.ntmps85
    go_wp2_with (go_at_call 44; refine (within_low _ _ _ (by omega) _).mono ?_; rintro e w' ⟨rfl, rfl⟩)
    go_ret
    exact ⟨rfl, rfl⟩
  · go_enter Tryz.func85, Tryz.ntmps85
    go_wp2_with (go_at_call 44; refine (within_high _ _ _ (by omega) _).mono ?_; rintro e w' ⟨rfl, rfl⟩)
    go_ret
    exact ⟨rfl, rfl⟩
theorem sign_yes (v : Int) (n : Nat) (h1 : 1 ≤ n) (h2 : n ≤ 63) (w : World) :
    Calls Tryz.prog 85 #[.int .i64 v, .int .i64 n] w fun e w' => e = .returned (.int .i64 (signW v n)) ∧ w' = w := by
  have HS : Hid (wrap64 (v * 2 ^ (64 - n)) / 2 ^ (64 - n) = signW v n) := sign_shift v n h1 h2
  go_enter Tryz.func85, Tryz.ntmps85
  go_wp2_with (go_at_call 44; refine (within_yes _ _ _ (by omega) (by omega) _).mono ?_; rintro e w' ⟨rfl, rfl⟩)
  go_ret
  exact ⟨ret_int HS.out, rfl⟩
theorem rfits_no (v n : Int) (h : ¬ (1 ≤ n ∧ n ≤ 63)) (w : World) :
    Calls Tryz.prog 55 #[.int .i64 v, .int .i64 n] w fun e w' => e = .returned (.bool false) ∧ w' = w := by
  by_cases h1 : n < 1
  · have h3 : decide (1 ≤ n) = false := by simp; omega
    go_enter Tryz.func55, Tryz.ntmps55
    go_wp2
    go_ret
    exact ⟨rfl, rfl⟩
  · have h3 : decide (1 ≤ n) = true := by simp; omega
    have h4 : decide (n ≤ 63) = false := by simp; omega
    go_enter Tryz.func55, Tryz.ntmps55
    go_wp2
    go_ret
    exact ⟨rfl, rfl⟩
theorem rfits_yes (v : Int) (n : Nat) (h1 : 1 ≤ n) (h2 : n ≤ 63) (w : World) :
    Calls Tryz.prog 55 #[.int .i64 v, .int .i64 n] w fun e w' => e = .returned (.bool (decide (-(2 ^ (n - 1)) ≤ v ∧ v ≤ 2 ^ (n - 1) - 1))) ∧ w' = w := by
  have e3 := one_shl (n - 1) (by omega)
  have hp := pow_pos' (n - 1)
  have hle : (2 : Int) ^ (n - 1) ≤ 2 ^ 62 := pow_le' (by omega)
  generalize hH : (2 : Int) ^ (n - 1) = H at *
  by_cases c1 : -H ≤ v
  · by_cases c2 : v ≤ H - 1
    · go_enter Tryz.func55, Tryz.ntmps55
      go_wp2
      go_ret
      exact ⟨ret_bool (by simp [c1, c2]), rfl⟩
    · go_enter Tryz.func55, Tryz.ntmps55
      go_wp2
      go_ret
      exact ⟨ret_bool (by simp; omega), rfl⟩
  · go_enter Tryz.func55, Tryz.ntmps55
    go_wp2
    go_ret
    exact ⟨ret_bool (by simp; omega), rfl⟩
end Go.Proofs.YtkckobbedpccfaaGreatDoor.I
namespace Go.Proofs.YtkckobbedpccfaaGreatDoor.I
open Go.RowKit
set_option linter.unusedVariables false
set_option maxRecDepth 100000
def fieldW (a t n : Int) : Int := if 0 ≤ t ∧ t ≤ 31 ∧ 1 ≤ n ∧ t + n ≤ 32 then a / 2 ^ t.toNat % 2 ^ n.toNat else 0
def placeW (a v t n : Int) : Int := if 0 ≤ t ∧ t ≤ 31 ∧ 1 ≤ n ∧ t + n ≤ 32 then (placeN a.toNat (v % 4294967296).toNat t.toNat n.toNat : Int) else a
def signWI (v n : Int) : Int := if 1 ≤ n ∧ n ≤ 63 then signW v n.toNat else 0
def fitsW (v n : Int) : Bool := if 1 ≤ n ∧ n ≤ 63 then decide (-(2 ^ (n.toNat - 1)) ≤ v ∧ v ≤ 2 ^ (n.toNat - 1) - 1) else false

theorem field_any (a t n : Int) (ha : 0 ≤ a) (ha' : a ≤ 4294967295) (w : World) :
    Calls Tryz.prog 60 #[.int .u32 a, .int .i64 t, .int .i64 n] w fun e w' => e = .returned (.int .i64 (fieldW a t n)) ∧ w' = w := by
  by_cases h : 0 ≤ t ∧ t ≤ 31 ∧ 1 ≤ n ∧ t + n ≤ 32
  · rw [fieldW, if_pos h]
    obtain ⟨T, rfl⟩ := Int.eq_ofNat_of_zero_le h.1
    obtain ⟨N, rfl⟩ := Int.eq_ofNat_of_zero_le (show 0 ≤ n by omega)
    rw [Int.toNat_natCast, Int.toNat_natCast]
    exact field_yes a T N ha ha' (by omega) (by omega) w
  · rw [fieldW, if_neg h]
    exact field_no a t n h w
theorem rplace_any (a v t n : Int) (ha : 0 ≤ a) (ha' : a ≤ 4294967295) (hn0 : -1 ≤ n) (hn : n ≤ 33) (w : World) :
    Calls Tryz.prog 14 #[.int .u32 a, .int .i64 v, .int .i64 t, .int .i64 n] w fun e w' => e = .returned (.int .u32 (placeW a v t n)) ∧ w' = w := by
  by_cases h : 0 ≤ t ∧ t ≤ 31 ∧ 1 ≤ n ∧ t + n ≤ 32
  · rw [placeW, if_pos h]
    obtain ⟨A, rfl⟩ := Int.eq_ofNat_of_zero_le ha
    obtain ⟨T, rfl⟩ := Int.eq_ofNat_of_zero_le h.1
    obtain ⟨N, rfl⟩ := Int.eq_ofNat_of_zero_le (show 0 ≤ n by omega)
    rw [Int.toNat_natCast, Int.toNat_natCast, Int.toNat_natCast]
    exact rplace_is A v T N (by omega) (by omega) (by omega) w
  · rw [placeW, if_neg h]
    exact rplace_not a v t n h hn0 hn w
theorem sign_any (v n : Int) (w : World) :
    Calls Tryz.prog 85 #[.int .i64 v, .int .i64 n] w fun e w' => e = .returned (.int .i64 (signWI v n)) ∧ w' = w := by
  by_cases h : 1 ≤ n ∧ n ≤ 63
  · rw [signWI, if_pos h]
    obtain ⟨N, rfl⟩ := Int.eq_ofNat_of_zero_le (show 0 ≤ n by omega)
    rw [Int.toNat_natCast]
    exact sign_yes v N (by omega) (by omega) w
  · rw [signWI, if_neg h]
    exact sign_no v n h w
theorem rfits_any (v n : Int) (w : World) :
    Calls Tryz.prog 55 #[.int .i64 v, .int .i64 n] w fun e w' => e = .returned (.bool (fitsW v n)) ∧ w' = w := by
  by_cases h : 1 ≤ n ∧ n ≤ 63
  · rw [fitsW, if_pos h]
    obtain ⟨N, rfl⟩ := Int.eq_ofNat_of_zero_le (show 0 ≤ n by omega)
    rw [Int.toNat_natCast]
    exact rfits_yes v N (by omega) (by omega) w
  · rw [fitsW, if_neg h]
    exact rfits_no v n h w
end Go.Proofs.YtkckobbedpccfaaGreatDoor.I
namespace Go.Proofs.YtkckobbedpccfaaGreatDoor.I
open Go.RowKit Go.Maps
set_option linter.unusedVariables false

/-- an element reads as itself -/
def RV (v : Value) : Option (DataW Value × List MemPlace) := some (.held v, [])

theorem wpList_insert_own {P : Program} (w : World) {ops : Array Oper} {rest : List Oper} {o : Oper} {a : Act} {Q : Exit → Act → World → Prop}
    (hg : o.guard = none) (m x v : Operand) (t : TypeId) (hop : o.op = Op.insert t m x v)
    (k e : TypeId) (K : Keyed P k) (ht : P.underlying t = some (.map k e)) (b n : Nat) (D : DataW Value)
    (hm : a.eval m = .map (some b)) (hown : w.ownsMap P k RV b n D) (hn : n < maxLen) (key val : Value) (kl : Lit) (hx : a.eval x = key) (hv : a.eval v = val) (hkey : keyOf P k key = some kl)
    (hK : ∀ w', w'.ownsMap P k RV b (n + 1) (D.put kl (.held val)) → w.grownBy w' (some b) → wpList P ops Q rest (a.put o.dst undef) w') :
    wpList P ops Q (o :: rest) a w := by
  refine wpList_plain hg fun K' hK' => ?_
  obtain ⟨w', hrun, r1, r2⟩ := hown.update K ht hn hkey (show RV val = some (.held val, []) from rfl)
  unfold Oper.wp
  simp [execOp, hop, hm, hx, hv, hrun, Result.andThen]
  exact hK' _ _ (hK w' r1 r2)

theorem keep_cell {w w1 : World} {m : Nat} (hg : w.grownBy w1 (some m)) {B i : Nat} {v : Value} (h : w.cell? ⟨B, i, none⟩ = some v) (hlt : B < w.heap.size) (hne : B ≠ m) : w1.cell? ⟨B, i, none⟩ = some v :=
  (World.cell?_of_block (hg.block B hlt (by simpa using hne))).trans h

end Go.Proofs.YtkckobbedpccfaaGreatDoor.I
namespace Go.Proofs.YtkckobbedpccfaaGreatDoor.I
open Go.RowKit
set_option linter.unusedVariables false

theorem placeN_add (A V t n : Nat) (hA : A < 2 ^ 32) (h : t + n ≤ 32) (hm : A % 2 ^ (t + n) = 0) : placeN A V t n = A + V % 2 ^ n * 2 ^ t := by
  obtain ⟨q, rfl⟩ : ∃ q, A = 2 ^ (t + n) * q := ⟨A / 2 ^ (t + n), by have := Nat.div_add_mod A (2 ^ (t + n)); omega⟩
  have hlt : V % 2 ^ n * 2 ^ t < 2 ^ (t + n) := by
    rw [Nat.pow_add, Nat.mul_comm (2 ^ t)]
    exact Nat.mul_lt_mul_of_pos_right (Nat.mod_lt _ (Nat.two_pow_pos n)) (Nat.two_pow_pos t)
  apply Nat.eq_of_testBit_eq
  intro j
  rw [testBit_place _ _ _ _ _ hA h, Nat.testBit_two_pow_mul_add _ hlt, Nat.testBit_two_pow_mul, Nat.testBit_mul_two_pow, Nat.testBit_mod_two_pow]
  by_cases h1 : t ≤ j
  · by_cases h2 : j < t + n
    · have h3 : j - t < n := by omega
      simp [h1, h2, h3]
    · simp [h1, h2]
      intro _
      omega
  · have h2 : j < t + n := by omega
    have h3 : ¬ t + n ≤ j := by omega
    simp [h1, h2, h3]

theorem place_add (a v : Int) (t n : Nat) (h0 : 0 ≤ a) (h1 : a ≤ 4294967295) (hn : 1 ≤ n) (ht : t + n ≤ 32) (hm : a % 2 ^ (t + n) = 0) : placeW a v t n = a + v % 2 ^ n * 2 ^ t := by
  unfold placeW
  rw [if_pos (by omega)]
  obtain ⟨A, rfl⟩ := Int.eq_ofNat_of_zero_le h0
  obtain ⟨V, hV⟩ := Int.eq_ofNat_of_zero_le (Int.emod_nonneg v (show (4294967296 : Int) ≠ 0 by decide))
  rw [Int.toNat_natCast, Int.toNat_natCast, Int.toNat_natCast, hV, Int.toNat_natCast]
  have hm' : A % 2 ^ (t + n) = 0 := by exact_mod_cast hm
  rw [placeN_add A V t n (by omega) ht hm']
  have e : v % 2 ^ n = ((V % 2 ^ n : Nat) : Int) := by
    have hd : (2 : Int) ^ n ∣ 4294967296 := ⟨2 ^ (32 - n), by rw [← Int.pow_add, show n + (32 - n) = 32 by omega]; decide⟩
    rw [← Int.emod_emod_of_dvd v hd, hV]
    simp
  rw [e]
  simp

theorem p26 (v : Int) : placeW 0 v 26 6 = v % 64 * 67108864 := by
  have := place_add 0 v 26 6 (by decide) (by decide) (by decide) (by decide) (by decide)
  simpa using this
theorem p22 (a v : Int) (h0 : 0 ≤ a) (h1 : a ≤ 4294967295) (hm : a % 67108864 = 0) : placeW a v 22 4 = a + v % 16 * 4194304 := by
  have := place_add a v 22 4 h0 h1 (by decide) (by decide) (by simpa using hm)
  simpa using this
theorem p18 (a v : Int) (h0 : 0 ≤ a) (h1 : a ≤ 4294967295) (hm : a % 4194304 = 0) : placeW a v 18 4 = a + v % 16 * 262144 := by
  have := place_add a v 18 4 h0 h1 (by decide) (by decide) (by simpa using hm)
  simpa using this
theorem p14 (a v : Int) (h0 : 0 ≤ a) (h1 : a ≤ 4294967295) (hm : a % 262144 = 0) : placeW a v 14 4 = a + v % 16 * 16384 := by
  have := place_add a v 14 4 h0 h1 (by decide) (by decide) (by simpa using hm)
  simpa using this
theorem p0s (a v : Int) (h0 : 0 ≤ a) (h1 : a ≤ 4294967295) (hm : a % 16384 = 0) : placeW a v 0 14 = a + v % 16384 := by
  have := place_add a v 0 14 h0 h1 (by decide) (by decide) (by simpa using hm)
  simpa using this
theorem p0l (a v : Int) (h0 : 0 ≤ a) (h1 : a ≤ 4294967295) (hm : a % 262144 = 0) : placeW a v 0 18 = a + v % 262144 := by
  have := place_add a v 0 18 h0 h1 (by decide) (by decide) (by simpa using hm)
  simpa using this
end Go.Proofs.YtkckobbedpccfaaGreatDoor.I
