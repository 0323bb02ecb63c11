/-
  What Split, Join, names and the document's Split, Join and Allows tell: their contracts.
-/
import Derived.Test.YtbaagnfcdphddaaDoorEnt
namespace Go.Proofs.YtbaagnfcdphddaaDoor
open Go.RowKit
set_option linter.unusedVariables false

/-- an address's parts -/
def splitV (n : Int) : Value := if n < 262144 then .tuple #[.int .i64 (n / 8192), .int .i64 (n / 256 % 32), .int .i64 (n % 256), .bool true] else .tuple #[.int .i64 0, .int .i64 0, .int .i64 0, .bool false]
def joinB (a b c : Int) : Bool := decide (0 ≤ a ∧ a < 32) && decide (0 ≤ b ∧ b < 32) && decide (0 ≤ c ∧ c < 256)
def joinN (a b c : Int) : Int := if joinB a b c then a * 8192 + b * 256 + c else 0
def joinE (a b c : Int) : Int := if joinB a b c then 0 else 2

theorem split_any (n : Int) (h0 : 0 ≤ n) (h1 : n < 18446744073709551616) (W : World) :
    Calls Tryd.prog 33 #[.int .u64 n] W fun e W' => e = .returned (splitV n) ∧ W' = W := by
  by_cases h : n < 262144
  · have e : splitV n = .tuple #[.int .i64 (n / 8192), .int .i64 (n / 256 % 32), .int .i64 (n % 256), .bool true] := by unfold splitV; rw [if_pos h]
    rw [e]
    clear e
    have e0 : (n / 262144 == 0) = true := beq_iff_eq.2 (by omega)
    have e1 : wrap64 (n / 8192) = n / 8192 := IntWalk.wrap64_in _ ⟨by omega, by omega⟩
    have e2 : wrap64 (n / 256 % 32) = n / 256 % 32 := IntWalk.wrap64_in _ ⟨by omega, by omega⟩
    have e3 : wrap64 (n % 256) = n % 256 := IntWalk.wrap64_in _ ⟨by omega, by omega⟩
    go_enter Tryd.func33, Tryd.ntmps33
    go_wp2
    exact bodyPost_ret (v := .tuple #[.int .i64 (n / 8192), .int .i64 (n / 256 % 32), .int .i64 (n % 256), .bool true]) (by simp [results, Tryd.results33, go_sem]) rfl ⟨rfl, rfl⟩
  · have e : splitV n = .tuple #[.int .i64 0, .int .i64 0, .int .i64 0, .bool false] := by unfold splitV; rw [if_neg h]
    rw [e]
    clear e
    have e0 : (n / 262144 == 0) = false := beq_eq_false_iff_ne.2 (by omega)
    go_enter Tryd.func33, Tryd.ntmps33
    go_wp2
    exact bodyPost_ret (v := .tuple #[.int .i64 0, .int .i64 0, .int .i64 0, .bool false]) (by simp [results, Tryd.results33, go_sem]) rfl ⟨rfl, rfl⟩

theorem join_or (a b c : Int) (ha : 0 ≤ a) (ha' : a < 32) (hb : 0 ≤ b) (hb' : b < 32) (hc : 0 ≤ c) (hc' : c < 256) : bits .or .u64 (bits .or .u64 (a * 8192) (b * 256)) c = a * 8192 + b * 256 + c := by
  obtain ⟨a, rfl⟩ := Int.eq_ofNat_of_zero_le ha
  obtain ⟨b, rfl⟩ := Int.eq_ofNat_of_zero_le hb
  obtain ⟨c, rfl⟩ := Int.eq_ofNat_of_zero_le hc
  have e1 : ((a : Int) * 8192) = ((2 ^ 13 * a : Nat) : Int) := by omega
  have e2 : ((b : Int) * 256) = ((b * 256 : Nat) : Int) := by omega
  rw [e1, e2, u64_or_nat _ _ (by omega) (by omega), ← Nat.two_pow_add_eq_or_of_lt (show b * 256 < 2 ^ 13 by omega), u64_or_nat _ _ (by omega) (by omega)]
  have e3 : 2 ^ 13 * a + b * 256 = 2 ^ 8 * (32 * a + b) := by omega
  rw [e3, ← Nat.two_pow_add_eq_or_of_lt (show c < 2 ^ 8 by omega)]
  omega

theorem join_any (a b c : Int) (W : World) :
    Calls Tryd.prog 7 #[.int .i64 a, .int .i64 b, .int .i64 c] W fun e W' => e = .returned (.tuple #[.int .u64 (joinN a b c), .int .i64 (joinE a b c)]) ∧ W' = W := by
  have C1 := below_any a 32
  have C2 := below_any b 32
  have C3 := below_any c 256
  unfold joinN joinE joinB
  by_cases h1 : 0 ≤ a ∧ a < 32
  · by_cases h2 : 0 ≤ b ∧ b < 32
    · by_cases h3 : 0 ≤ c ∧ c < 256
      · have ho := join_or a b c h1.1 h1.2 h2.1 h2.2 h3.1 h3.2
        have w1 : IntKind.u64.wrap a = a := wraps_u64 _ (by omega) (by omega)
        have w2 : IntKind.u64.wrap b = b := wraps_u64 _ (by omega) (by omega)
        have w3 : IntKind.u64.wrap c = c := wraps_u64 _ (by omega) (by omega)
        have w4 : IntKind.u64.wrap (a * 8192) = a * 8192 := wraps_u64 _ (by omega) (by omega)
        have w5 : IntKind.u64.wrap (b * 256) = b * 256 := wraps_u64 _ (by omega) (by omega)
        rw [decide_eq_true h1] at C1 ⊢
        rw [decide_eq_true h2] at C2 ⊢
        rw [decide_eq_true h3] at C3 ⊢
        simp only [Bool.and_self, if_true]
        go_enter Tryd.func7, Tryd.ntmps7
        go_wp2_with fail
        refine (C1 _).mono ?_
        rintro e w' ⟨rfl, rfl⟩
        go_wp2_with fail
        refine (C2 _).mono ?_
        rintro e w' ⟨rfl, rfl⟩
        go_wp2_with fail
        refine (C3 _).mono ?_
        rintro e w' ⟨rfl, rfl⟩
        go_wp2_with fail
        go_ret2
        exact ⟨rfl, rfl⟩
      · rw [decide_eq_true h1] at C1 ⊢
        rw [decide_eq_true h2] at C2 ⊢
        rw [decide_eq_false h3] at C3 ⊢
        simp only [Bool.and_false, Bool.false_eq_true, if_false]
        go_enter Tryd.func7, Tryd.ntmps7
        go_wp2_with fail
        refine (C1 _).mono ?_
        rintro e w' ⟨rfl, rfl⟩
        go_wp2_with fail
        refine (C2 _).mono ?_
        rintro e w' ⟨rfl, rfl⟩
        go_wp2_with fail
        refine (C3 _).mono ?_
        rintro e w' ⟨rfl, rfl⟩
        go_wp2_with fail
        go_ret2
        exact ⟨rfl, rfl⟩
    · rw [decide_eq_true h1] at C1 ⊢
      rw [decide_eq_false h2] at C2 ⊢
      simp only [Bool.and_false, Bool.false_and, Bool.false_eq_true, if_false]
      go_enter Tryd.func7, Tryd.ntmps7
      go_wp2_with fail
      refine (C1 _).mono ?_
      rintro e w' ⟨rfl, rfl⟩
      go_wp2_with fail
      refine (C2 _).mono ?_
      rintro e w' ⟨rfl, rfl⟩
      go_wp2_with fail
      go_ret2
      exact ⟨rfl, rfl⟩
  · rw [decide_eq_false h1] at C1 ⊢
    simp only [Bool.false_and, Bool.false_eq_true, if_false]
    go_enter Tryd.func7, Tryd.ntmps7
    go_wp2_with fail
    refine (C1 _).mono ?_
    rintro e w' ⟨rfl, rfl⟩
    go_wp2_with fail
    go_ret2
    exact ⟨rfl, rfl⟩

end Go.Proofs.YtbaagnfcdphddaaDoor
