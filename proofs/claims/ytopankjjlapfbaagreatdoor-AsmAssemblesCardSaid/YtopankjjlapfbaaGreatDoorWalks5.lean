/-
  What the functions of package word and of the document's answer do that divide, shift and compare: their contracts.
  What the functions of package word and of the document's answer do that tell and place fields and signs: their contracts.
  What the functions that place bits into a word do: their contracts.
  What the functions that tell signs and whether a number fits do: their contracts.
  Fields, places, signs and fits at every argument: one contract a function, the same for the program's and the document's.
-/
import Derived.Test.YtopankjjlapfbaaGreatDoorRows
import Derived.Test.YtopankjjlapfbaaGreatDoorMath3
import Derived.WalkKit
import Derived.ProofKit
import Derived.OpenShut
import Derived.Deep.QuietTactic
import Derived.BigQuiet
namespace Go.Proofs.YtopankjjlapfbaaGreatDoor
open Go.RowKit
set_option linter.unusedVariables false
set_option maxRecDepth 100000

theorem ret_bool {a b : Bool} (h : a = b) : Ending.returned (.bool a) = .returned (.bool b) := by rw [h]
theorem ret_int {k : IntKind} {a b : Int} (h : a = b) : Ending.returned (.int k a) = .returned (.int k b) := by rw [h]

theorem grown_drewN {W w : World} (h : Grown W w) : ∀ n, Grown W (w.drewN n)
  | 0 => h
  | n + 1 => (grown_drewN h n).drew

theorem endsInt_lt (a b : Int) (h : b < a) (w : World) :
    Calls Tryz.prog 116 #[.int .i64 a, .int .i64 b] w fun e w' => e = .returned (.tuple #[.int .i64 b, .int .i64 a]) ∧ w' = w := by
  go_enter Tryz.func116, Tryz.ntmps116
  go_wp2
  go_ret2
  exact ⟨rfl, rfl⟩
theorem endsInt_ge (a b : Int) (h : a ≤ b) (w : World) :
    Calls Tryz.prog 116 #[.int .i64 a, .int .i64 b] w fun e w' => e = .returned (.tuple #[.int .i64 a, .int .i64 b]) ∧ w' = w := by
  have h' : ¬ b < a := by omega
  go_enter Tryz.func116, Tryz.ntmps116
  go_wp2
  go_ret2
  exact ⟨rfl, rfl⟩
end Go.Proofs.YtopankjjlapfbaaGreatDoor
namespace Go.Proofs.YtopankjjlapfbaaGreatDoor
open Go.RowKit
set_option linter.unusedVariables false
set_option maxRecDepth 100000
theorem within_yes (v a b : Int) (h1 : a ≤ v) (h2 : v ≤ b) (w : World) :
    Calls Tryz.prog 104 #[.int .i64 v, .int .i64 a, .int .i64 b] w fun e w' => e = .returned (.bool true) ∧ w' = w := by
  by_cases e1 : v = a
  · subst e1
    go_enter Tryz.func104, Tryz.ntmps104
    go_wp2_with (go_at_call 116; refine (endsInt_ge _ _ (by omega) _).mono ?_; rintro e w' ⟨rfl, rfl⟩)
    go_ret
    exact ⟨rfl, rfl⟩
  · go_enter Tryz.func104, Tryz.ntmps104
    go_wp2_with fail
    refine (endsInt_lt _ _ (by omega) _).mono ?_
    rintro e w' ⟨rfl, rfl⟩
    go_wp2_with fail
    refine (endsInt_ge _ _ (by omega) _).mono ?_
    rintro e w' ⟨rfl, rfl⟩
    go_wp2_with fail
    go_ret
    exact ⟨rfl, rfl⟩
theorem within_low (v a b : Int) (h1 : v < a) (w : World) :
    Calls Tryz.prog 104 #[.int .i64 v, .int .i64 a, .int .i64 b] w fun e w' => e = .returned (.bool false) ∧ w' = w := by
  have e1 : (v == a) = false := beq_eq_false_iff_ne.2 (by omega)
  by_cases h2 : v ≤ b
  · go_enter Tryz.func104, Tryz.ntmps104
    go_wp2_with (go_at_call 116; refine (endsInt_ge _ _ (by omega) _).mono ?_; rintro e w' ⟨rfl, rfl⟩)
    go_ret
    exact ⟨rfl, rfl⟩
  · go_enter Tryz.func104, Tryz.ntmps104
    go_wp2_with fail
    refine (endsInt_ge _ _ (by omega) _).mono ?_
    rintro e w' ⟨rfl, rfl⟩
    go_wp2_with fail
    refine (endsInt_lt _ _ (by omega) _).mono ?_
    rintro e w' ⟨rfl, rfl⟩
    go_wp2_with fail
    go_ret
    exact ⟨rfl, rfl⟩
theorem within_high (v a b : Int) (h1 : b < v) (w : World) :
    Calls Tryz.prog 104 #[.int .i64 v, .int .i64 a, .int .i64 b] w fun e w' => e = .returned (.bool false) ∧ w' = w := by
  have e1 : (v == b) = false := beq_eq_false_iff_ne.2 (by omega)
  by_cases h2 : a < v
  · go_enter Tryz.func104, Tryz.ntmps104
    go_wp2_with (go_at_call 116; refine (endsInt_lt _ _ (by omega) _).mono ?_; rintro e w' ⟨rfl, rfl⟩)
    go_ret
    exact ⟨rfl, rfl⟩
  · go_enter Tryz.func104, Tryz.ntmps104
    go_wp2_with fail
    refine (endsInt_ge _ _ (by omega) _).mono ?_
    rintro e w' ⟨rfl, rfl⟩
    go_wp2_with fail
    refine (endsInt_lt _ _ (by omega) _).mono ?_
    rintro e w' ⟨rfl, rfl⟩
    by_cases h3 : v = a
    · have e2 : (v == a) = true := beq_iff_eq.2 h3
      subst h3
      go_wp2_with fail
      go_ret
      exact ⟨rfl, rfl⟩
    · have e2 : (v == a) = false := beq_eq_false_iff_ne.2 h3
      go_wp2_with fail
      go_ret
      exact ⟨rfl, rfl⟩
theorem within_any (v a b : Int) (w : World) :
    Calls Tryz.prog 104 #[.int .i64 v, .int .i64 a, .int .i64 b] w fun e w' => e = .returned (.bool (decide (a ≤ v ∧ v ≤ b))) ∧ w' = w := by
  by_cases h1 : a ≤ v
  · by_cases h2 : v ≤ b
    · rw [show decide (a ≤ v ∧ v ≤ b) = true from by simp [h1, h2]]
      exact within_yes v a b h1 h2 w
    · rw [show decide (a ≤ v ∧ v ≤ b) = false from by simp [h2]]
      exact within_high v a b (by omega) w
  · rw [show decide (a ≤ v ∧ v ≤ b) = false from by simp [h1]]
    exact within_low v a b (by omega) w

theorem isField_yes (t n : Int) (h1 : 0 ≤ t) (h2 : t ≤ 31) (h3 : 1 ≤ n) (h4 : t + n ≤ 32) (w : World) :
    Calls Tryz.prog 84 #[.int .i64 t, .int .i64 n] w fun e w' => e = .returned (.bool true) ∧ w' = w := by
  go_enter Tryz.func84, Tryz.ntmps84
  go_wp2_with (go_at_call 104; refine (within_yes _ _ _ (by omega) (by omega) _).mono ?_; rintro e w' ⟨rfl, rfl⟩)
  go_ret
  exact ⟨rfl, rfl⟩
theorem isField_no (t n : Int) (h : ¬ (0 ≤ t ∧ t ≤ 31 ∧ 1 ≤ n ∧ t + n ≤ 32)) (w : World) :
    Calls Tryz.prog 84 #[.int .i64 t, .int .i64 n] w fun e w' => e = .returned (.bool false) ∧ w' = w := by
  by_cases h1 : t < 0
  · go_enter Tryz.func84, Tryz.ntmps84
    go_wp2_with (go_at_call 104; refine (within_low _ _ _ (by omega) _).mono ?_; rintro e w' ⟨rfl, rfl⟩)
    go_ret
    exact ⟨rfl, rfl⟩
  by_cases h2 : 31 < t
  · go_enter Tryz.func84, Tryz.ntmps84
    go_wp2_with (go_at_call 104; refine (within_high _ _ _ (by omega) _).mono ?_; rintro e w' ⟨rfl, rfl⟩)
    go_ret
    exact ⟨rfl, rfl⟩
  by_cases h3 : n < 1
  · go_enter Tryz.func84, Tryz.ntmps84
    go_wp2_with fail
    refine (within_yes _ _ _ (by omega) (by omega) _).mono ?_
    rintro e w' ⟨rfl, rfl⟩
    go_wp2_with fail
    refine (within_low _ _ _ (by omega) _).mono ?_
    rintro e w' ⟨rfl, rfl⟩
    go_wp2_with fail
    go_ret
    exact ⟨rfl, rfl⟩
  · go_enter Tryz.func84, Tryz.ntmps84
    go_wp2_with fail
    refine (within_yes _ _ _ (by omega) (by omega) _).mono ?_
    rintro e w' ⟨rfl, rfl⟩
    go_wp2_with fail
    refine (within_high _ _ _ (by omega) _).mono ?_
    rintro e w' ⟨rfl, rfl⟩
    go_wp2_with fail
    go_ret
    exact ⟨rfl, rfl⟩
theorem ones_any (n : Nat) (h1 : 1 ≤ n) (h2 : n ≤ 32) (w : World) :
    Calls Tryz.prog 85 #[.int .i64 n] w fun e w' => e = .returned (.int .u32 (2 ^ n - 1)) ∧ w' = w := by
  have HO : Hid ((4294967295 : Int) / 2 ^ (32 - n) = 2 ^ n - 1) := ones32 n h2
  go_enter Tryz.func85, Tryz.ntmps85
  go_wp2
  go_ret
  exact ⟨ret_int HO.out, rfl⟩

theorem field_no (a t n : Int) (h : ¬ (0 ≤ t ∧ t ≤ 31 ∧ 1 ≤ n ∧ t + n ≤ 32)) (w : World) :
    Calls Tryz.prog 54 #[.int .u32 a, .int .i64 t, .int .i64 n] w fun e w' => e = .returned (.int .i64 0) ∧ w' = w := by
  go_enter Tryz.func54, Tryz.ntmps54
  go_wp2_with (go_at_call 84; refine (isField_no _ _ h _).mono ?_; rintro e w' ⟨rfl, rfl⟩)
  go_ret
  exact ⟨rfl, rfl⟩
theorem field_yes (a : Int) (t n : Nat) (ha : 0 ≤ a) (ha' : a ≤ 4294967295) (h3 : 1 ≤ n) (h4 : t + n ≤ 32) (w : World) :
    Calls Tryz.prog 54 #[.int .u32 a, .int .i64 t, .int .i64 n] w fun e w' => e = .returned (.int .i64 (a / 2 ^ t % 2 ^ n)) ∧ w' = w := by
  have hq := Int.ediv_nonneg (b := 2 ^ t) ha (Int.le_of_lt (pow_pos' t))
  have hl := Int.ediv_le_self (2 ^ t) ha
  have e1 := and_ones32 (a / 2 ^ t) n (by omega) hq (by omega)
  have hq2 := Int.emod_nonneg (a / 2 ^ t) (show (2 : Int) ^ n ≠ 0 by have := pow_pos' n; omega)
  have hl2 := emod_le_self (a / 2 ^ t) (2 ^ n) hq (pow_pos' n)
  generalize hF : a / 2 ^ t % 2 ^ n = F at *
  have HF : Hid (a / 2 ^ t % 2 ^ n = F) := hF
  clear hF
  go_enter Tryz.func54, Tryz.ntmps54
  go_wp2_with (first | (go_at_call 84; refine (isField_yes _ _ (by omega) (by omega) (by omega) (by omega) _).mono ?_; rintro e w' ⟨rfl, rfl⟩) | (go_at_call 85; refine (ones_any _ (by omega) (by omega) _).mono ?_; rintro e w' ⟨rfl, rfl⟩))
  go_ret
  exact ⟨rfl, rfl⟩
end Go.Proofs.YtopankjjlapfbaaGreatDoor
namespace Go.Proofs.YtopankjjlapfbaaGreatDoor
open Go.RowKit
set_option linter.unusedVariables false
set_option maxRecDepth 100000
theorem place_not (a v t n : Int) (h : ¬ (0 ≤ t ∧ t ≤ 31 ∧ 1 ≤ n ∧ t + n ≤ 32)) (w : World) :
    Calls Tryz.prog 76 #[.int .u32 a, .int .i64 v, .int .i64 t, .int .i64 n] w fun e w' => e = .returned (.int .u32 a) ∧ w' = w := by
  go_enter Tryz.func76, Tryz.ntmps76
  go_wp2_with (go_at_call 84; refine (isField_no _ _ h _).mono ?_; rintro e w' ⟨rfl, rfl⟩)
  go_ret
  exact ⟨rfl, rfl⟩
theorem place_is (W : Nat) (v : Int) (t n : Nat) (hW : W < 4294967296) (h3 : 1 ≤ n) (h4 : t + n ≤ 32) (w : World) :
    Calls Tryz.prog 76 #[.int .u32 W, .int .i64 v, .int .i64 t, .int .i64 n] w fun e w' => e = .returned (.int .u32 (placeN W (v % 4294967296).toNat t n)) ∧ w' = w := by
  have HP : Hid (bits .or .u32 (bits .andNot .u32 (W : Int) (((2 ^ n - 1) * 2 ^ t : Nat) : Int)) (bits .and .u32 (IntKind.u32.wrap (IntKind.u32.wrap v * 2 ^ t)) (((2 ^ n - 1) * 2 ^ t : Nat) : Int)) = (placeN W (v % 4294967296).toNat t n : Int)) :=
    place_word W _ t n v (by omega) hW h4
  have eM := mask_wrap t n h4
  generalize (2 ^ n - 1) * 2 ^ t = M at *
  go_enter Tryz.func76, Tryz.ntmps76
  go_wp2_with (first | (go_at_call 84; refine (isField_yes _ _ (by omega) (by omega) (by omega) (by omega) _).mono ?_; rintro e w' ⟨rfl, rfl⟩) | (go_at_call 85; refine (ones_any _ (by omega) (by omega) _).mono ?_; rintro e w' ⟨rfl, rfl⟩))
  go_ret
  exact ⟨ret_int HP.out, rfl⟩
theorem rplace_not (a v t n : Int) (h : ¬ (0 ≤ t ∧ t ≤ 31 ∧ 1 ≤ n ∧ t + n ≤ 32)) (hn0 : -1 ≤ n) (hn : n ≤ 33) (w : World) :
    Calls Tryz.prog 29 #[.int .u32 a, .int .i64 v, .int .i64 t, .int .i64 n] w fun e w' => e = .returned (.int .u32 a) ∧ w' = w := by
  by_cases h1 : t < 0
  · go_enter Tryz.func29, Tryz.ntmps29
    go_wp2
    go_ret
    exact ⟨rfl, rfl⟩
  by_cases h2 : 31 < t
  · go_enter Tryz.func29, Tryz.ntmps29
    go_wp2
    go_ret
    exact ⟨rfl, rfl⟩
  by_cases h3 : n < 1
  · go_enter Tryz.func29, Tryz.ntmps29
    go_wp2
    go_ret
    exact ⟨rfl, rfl⟩
  by_cases h4 : 32 < n
  · go_enter Tryz.func29, Tryz.ntmps29
    go_wp2
    go_ret
    exact ⟨rfl, rfl⟩
  have h5 : 32 < t + n := by omega
  go_enter Tryz.func29, Tryz.ntmps29
  go_wp2
  go_ret
  exact ⟨rfl, rfl⟩
theorem rplace_is (W : Nat) (v : Int) (t n : Nat) (hW : W < 4294967296) (h3 : 1 ≤ n) (h4 : t + n ≤ 32) (w : World) :
    Calls Tryz.prog 29 #[.int .u32 W, .int .i64 v, .int .i64 t, .int .i64 n] w fun e w' => e = .returned (.int .u32 (placeN W (v % 4294967296).toNat t n)) ∧ w' = w := by
  have Z := place_zero W (v % 4294967296).toNat t hW (by omega)
  have HZ : Hid (placeN W (v % 4294967296).toNat t 0 = W) := Z
  clear Z
  go_enter Tryz.func29, Tryz.ntmps29
  go_wp2
  go_loop [0, 9] (fun x i => ∃ k : Nat, k ≤ n ∧ i = .int .i64 k ∧ x = .int .u32 (placeN W (v % 4294967296).toNat t k)) (fun _ i => n - (intOf i).toNat)
  case atStart => exact ⟨0, by omega, rfl, by rw [HZ.out]⟩
  case round =>
    obtain ⟨k, hk, rfl, rfl⟩ := hrel
    by_cases hlt : k < n
    · have HB : Hid ((2 : Int) ^ (t + k) % 4294967296 = ((2 ^ (t + k) : Nat) : Int)) := by
        have h := bit_wrap (t + k) (by omega)
        rw [IntKind.wrap_u32] at h
        exact h
      have e2 := place_step_not W (v % 4294967296).toNat t k hW (by omega)
      have e3 := place_step_or W (v % 4294967296).toNat t k hW (by omega)
      have e4 := and1 (v / 2 ^ k)
      have hb := bit_of v k (by omega)
      by_cases hbit : (v % 4294967296).toNat.testBit k = true
      · have e5 := place_yes W (v % 4294967296).toNat t k hW (by omega) hbit
        rw [e5] at e3
        clear e5
        rw [hbit] at hb
        clear hbit
        generalize (placeN W (v % 4294967296).toNat t k &&& (4294967295 - 2 ^ (t + k))) = X at *
        generalize hY : placeN W (v % 4294967296).toNat t (k + 1) = Y at *
        have HY : Hid (placeN W (v % 4294967296).toNat t (k + 1) = Y) := hY
        clear hY
        have E2 : Hid (_ = _) := e2
        have E3 : Hid (_ = _) := e3
        clear e2 e3
        go_wp2
        go_round
        case rel => exact ⟨k + 1, by omega, by go_num, by rw [HY.out, HB.out, E2.out, E3.out]⟩
        case measure => simp [intOf]; omega
      · have e5 := place_no W (v % 4294967296).toNat t k hW (by omega) (by simpa using hbit)
        rw [e5] at e2
        clear e5 e3
        rw [Bool.not_eq_true] at hbit
        rw [hbit] at hb
        clear hbit
        generalize hY : placeN W (v % 4294967296).toNat t (k + 1) = Y at *
        have HY : Hid (placeN W (v % 4294967296).toNat t (k + 1) = Y) := hY
        clear hY
        have E2 : Hid (_ = _) := e2
        clear e2
        go_wp2
        go_round
        case rel => exact ⟨k + 1, by omega, by go_num, by rw [HY.out, HB.out, E2.out]⟩
        case measure => simp [intOf]; omega
    · obtain rfl : k = n := by omega
      go_wp2
      go_ret
      exact ⟨rfl, rfl⟩
end Go.Proofs.YtopankjjlapfbaaGreatDoor
namespace Go.Proofs.YtopankjjlapfbaaGreatDoor
open Go.RowKit
set_option linter.unusedVariables false
set_option maxRecDepth 100000
theorem sign_no (v n : Int) (h : ¬ (1 ≤ n ∧ n ≤ 63)) (w : World) :
    Calls Tryz.prog 86 #[.int .i64 v, .int .i64 n] w fun e w' => e = .returned (.int .i64 0) ∧ w' = w := by
  by_cases h1 : n < 1
  · go_enter Tryz.func86, Tryz.ntmps86
    go_wp2_with (go_at_call 104; refine (within_low _ _ _ (by omega) _).mono ?_; rintro e w' ⟨rfl, rfl⟩)
    go_ret
    exact ⟨rfl, rfl⟩
  · go_enter Tryz.func86, Tryz.ntmps86
    go_wp2_with (go_at_call 104; refine (within_high _ _ _ (by omega) _).mono ?_; rintro e w' ⟨rfl, rfl⟩)
    go_ret
    exact ⟨rfl, rfl⟩
theorem sign_yes (v : Int) (n : Nat) (h1 : 1 ≤ n) (h2 : n ≤ 63) (w : World) :
    Calls Tryz.prog 86 #[.int .i64 v, .int .i64 n] w fun e w' => e = .returned (.int .i64 (signW v n)) ∧ w' = w := by
  have HS : Hid (wrap64 (v * 2 ^ (64 - n)) / 2 ^ (64 - n) = signW v n) := sign_shift v n h1 h2
  go_enter Tryz.func86, Tryz.ntmps86
  go_wp2_with (go_at_call 104; refine (within_yes _ _ _ (by omega) (by omega) _).mono ?_; rintro e w' ⟨rfl, rfl⟩)
  go_ret
  exact ⟨ret_int HS.out, rfl⟩
theorem rfits_no (v n : Int) (h : ¬ (1 ≤ n ∧ n ≤ 63)) (w : World) :
    Calls Tryz.prog 83 #[.int .i64 v, .int .i64 n] w fun e w' => e = .returned (.bool false) ∧ w' = w := by
  by_cases h1 : n < 1
  · have h3 : decide (1 ≤ n) = false := by simp; omega
    go_enter Tryz.func83, Tryz.ntmps83
    go_wp2
    go_ret
    exact ⟨rfl, rfl⟩
  · have h3 : decide (1 ≤ n) = true := by simp; omega
    have h4 : decide (n ≤ 63) = false := by simp; omega
    go_enter Tryz.func83, Tryz.ntmps83
    go_wp2
    go_ret
    exact ⟨rfl, rfl⟩
theorem rfits_yes (v : Int) (n : Nat) (h1 : 1 ≤ n) (h2 : n ≤ 63) (w : World) :
    Calls Tryz.prog 83 #[.int .i64 v, .int .i64 n] w fun e w' => e = .returned (.bool (decide (-(2 ^ (n - 1)) ≤ v ∧ v ≤ 2 ^ (n - 1) - 1))) ∧ w' = w := by
  have e3 := one_shl (n - 1) (by omega)
  have hp := pow_pos' (n - 1)
  have hle : (2 : Int) ^ (n - 1) ≤ 2 ^ 62 := pow_le' (by omega)
  generalize hH : (2 : Int) ^ (n - 1) = H at *
  by_cases c1 : -H ≤ v
  · by_cases c2 : v ≤ H - 1
    · go_enter Tryz.func83, Tryz.ntmps83
      go_wp2
      go_ret
      exact ⟨ret_bool (by simp [c1, c2]), rfl⟩
    · go_enter Tryz.func83, Tryz.ntmps83
      go_wp2
      go_ret
      exact ⟨ret_bool (by simp; omega), rfl⟩
  · go_enter Tryz.func83, Tryz.ntmps83
    go_wp2
    go_ret
    exact ⟨ret_bool (by simp; omega), rfl⟩
end Go.Proofs.YtopankjjlapfbaaGreatDoor
namespace Go.Proofs.YtopankjjlapfbaaGreatDoor
open Go.RowKit
set_option linter.unusedVariables false
set_option maxRecDepth 100000
def fieldW (a t n : Int) : Int := if 0 ≤ t ∧ t ≤ 31 ∧ 1 ≤ n ∧ t + n ≤ 32 then a / 2 ^ t.toNat % 2 ^ n.toNat else 0
def placeW (a v t n : Int) : Int := if 0 ≤ t ∧ t ≤ 31 ∧ 1 ≤ n ∧ t + n ≤ 32 then (placeN a.toNat (v % 4294967296).toNat t.toNat n.toNat : Int) else a
def signWI (v n : Int) : Int := if 1 ≤ n ∧ n ≤ 63 then signW v n.toNat else 0
def fitsW (v n : Int) : Bool := if 1 ≤ n ∧ n ≤ 63 then decide (-(2 ^ (n.toNat - 1)) ≤ v ∧ v ≤ 2 ^ (n.toNat - 1) - 1) else false

theorem field_any (a t n : Int) (ha : 0 ≤ a) (ha' : a ≤ 4294967295) (w : World) :
    Calls Tryz.prog 54 #[.int .u32 a, .int .i64 t, .int .i64 n] w fun e w' => e = .returned (.int .i64 (fieldW a t n)) ∧ w' = w := by
  by_cases h : 0 ≤ t ∧ t ≤ 31 ∧ 1 ≤ n ∧ t + n ≤ 32
  · rw [fieldW, if_pos h]
    obtain ⟨T, rfl⟩ := Int.eq_ofNat_of_zero_le h.1
    obtain ⟨N, rfl⟩ := Int.eq_ofNat_of_zero_le (show 0 ≤ n by omega)
    rw [Int.toNat_natCast, Int.toNat_natCast]
    exact field_yes a T N ha ha' (by omega) (by omega) w
  · rw [fieldW, if_neg h]
    exact field_no a t n h w
theorem place_any (a v t n : Int) (ha : 0 ≤ a) (ha' : a ≤ 4294967295) (w : World) :
    Calls Tryz.prog 76 #[.int .u32 a, .int .i64 v, .int .i64 t, .int .i64 n] w fun e w' => e = .returned (.int .u32 (placeW a v t n)) ∧ w' = w := by
  by_cases h : 0 ≤ t ∧ t ≤ 31 ∧ 1 ≤ n ∧ t + n ≤ 32
  · rw [placeW, if_pos h]
    obtain ⟨A, rfl⟩ := Int.eq_ofNat_of_zero_le ha
    obtain ⟨T, rfl⟩ := Int.eq_ofNat_of_zero_le h.1
    obtain ⟨N, rfl⟩ := Int.eq_ofNat_of_zero_le (show 0 ≤ n by omega)
    rw [Int.toNat_natCast, Int.toNat_natCast, Int.toNat_natCast]
    exact place_is A v T N (by omega) (by omega) (by omega) w
  · rw [placeW, if_neg h]
    exact place_not a v t n h w
theorem rplace_any (a v t n : Int) (ha : 0 ≤ a) (ha' : a ≤ 4294967295) (hn0 : -1 ≤ n) (hn : n ≤ 33) (w : World) :
    Calls Tryz.prog 29 #[.int .u32 a, .int .i64 v, .int .i64 t, .int .i64 n] w fun e w' => e = .returned (.int .u32 (placeW a v t n)) ∧ w' = w := by
  by_cases h : 0 ≤ t ∧ t ≤ 31 ∧ 1 ≤ n ∧ t + n ≤ 32
  · rw [placeW, if_pos h]
    obtain ⟨A, rfl⟩ := Int.eq_ofNat_of_zero_le ha
    obtain ⟨T, rfl⟩ := Int.eq_ofNat_of_zero_le h.1
    obtain ⟨N, rfl⟩ := Int.eq_ofNat_of_zero_le (show 0 ≤ n by omega)
    rw [Int.toNat_natCast, Int.toNat_natCast, Int.toNat_natCast]
    exact rplace_is A v T N (by omega) (by omega) (by omega) w
  · rw [placeW, if_neg h]
    exact rplace_not a v t n h hn0 hn w
theorem sign_any (v n : Int) (w : World) :
    Calls Tryz.prog 86 #[.int .i64 v, .int .i64 n] w fun e w' => e = .returned (.int .i64 (signWI v n)) ∧ w' = w := by
  by_cases h : 1 ≤ n ∧ n ≤ 63
  · rw [signWI, if_pos h]
    obtain ⟨N, rfl⟩ := Int.eq_ofNat_of_zero_le (show 0 ≤ n by omega)
    rw [Int.toNat_natCast]
    exact sign_yes v N (by omega) (by omega) w
  · rw [signWI, if_neg h]
    exact sign_no v n h w
theorem rfits_any (v n : Int) (w : World) :
    Calls Tryz.prog 83 #[.int .i64 v, .int .i64 n] w fun e w' => e = .returned (.bool (fitsW v n)) ∧ w' = w := by
  by_cases h : 1 ≤ n ∧ n ≤ 63
  · rw [fitsW, if_pos h]
    obtain ⟨N, rfl⟩ := Int.eq_ofNat_of_zero_le (show 0 ≤ n by omega)
    rw [Int.toNat_natCast]
    exact rfits_yes v N (by omega) (by omega) w
  · rw [fitsW, if_neg h]
    exact rfits_no v n h w
end Go.Proofs.YtopankjjlapfbaaGreatDoor
