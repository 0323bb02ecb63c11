/-
  Fields, places, signs and fits at every argument: one contract a function, the same for the program's and the document's.
-/
import Derived.Test.YtkckobbedpccfaaDoorIWalks3
import Derived.Test.YtkckobbedpccfaaDoorIWalks4
namespace Go.Proofs.YtkckobbedpccfaaDoor.I
open Go.RowKit
set_option linter.unusedVariables false
set_option maxRecDepth 100000
def fieldW (a t n : Int) : Int := if 0 ≤ t ∧ t ≤ 31 ∧ 1 ≤ n ∧ t + n ≤ 32 then a / 2 ^ t.toNat % 2 ^ n.toNat else 0
def placeW (a v t n : Int) : Int := if 0 ≤ t ∧ t ≤ 31 ∧ 1 ≤ n ∧ t + n ≤ 32 then (placeN a.toNat (v % 4294967296).toNat t.toNat n.toNat : Int) else a
def signWI (v n : Int) : Int := if 1 ≤ n ∧ n ≤ 63 then signW v n.toNat else 0
def fitsW (v n : Int) : Bool := if 1 ≤ n ∧ n ≤ 63 then decide (-(2 ^ (n.toNat - 1)) ≤ v ∧ v ≤ 2 ^ (n.toNat - 1) - 1) else false

theorem field_any (a t n : Int) (ha : 0 ≤ a) (ha' : a ≤ 4294967295) (w : World) :
    Calls Tryd.prog 33 #[.int .u32 a, .int .i64 t, .int .i64 n] w fun e w' => e = .returned (.int .i64 (fieldW a t n)) ∧ w' = w := by
  by_cases h : 0 ≤ t ∧ t ≤ 31 ∧ 1 ≤ n ∧ t + n ≤ 32
  · rw [fieldW, if_pos h]
    obtain ⟨T, rfl⟩ := Int.eq_ofNat_of_zero_le h.1
    obtain ⟨N, rfl⟩ := Int.eq_ofNat_of_zero_le (show 0 ≤ n by omega)
    rw [Int.toNat_natCast, Int.toNat_natCast]
    exact field_yes a T N ha ha' (by omega) (by omega) w
  · rw [fieldW, if_neg h]
    exact field_no a t n h w
theorem rplace_any (a v t n : Int) (ha : 0 ≤ a) (ha' : a ≤ 4294967295) (hn0 : -1 ≤ n) (hn : n ≤ 33) (w : World) :
    Calls Tryd.prog 20 #[.int .u32 a, .int .i64 v, .int .i64 t, .int .i64 n] w fun e w' => e = .returned (.int .u32 (placeW a v t n)) ∧ w' = w := by
  by_cases h : 0 ≤ t ∧ t ≤ 31 ∧ 1 ≤ n ∧ t + n ≤ 32
  · rw [placeW, if_pos h]
    obtain ⟨A, rfl⟩ := Int.eq_ofNat_of_zero_le ha
    obtain ⟨T, rfl⟩ := Int.eq_ofNat_of_zero_le h.1
    obtain ⟨N, rfl⟩ := Int.eq_ofNat_of_zero_le (show 0 ≤ n by omega)
    rw [Int.toNat_natCast, Int.toNat_natCast, Int.toNat_natCast]
    exact rplace_is A v T N (by omega) (by omega) (by omega) w
  · rw [placeW, if_neg h]
    exact rplace_not a v t n h hn0 hn w
theorem sign_any (v n : Int) (w : World) :
    Calls Tryd.prog 45 #[.int .i64 v, .int .i64 n] w fun e w' => e = .returned (.int .i64 (signWI v n)) ∧ w' = w := by
  by_cases h : 1 ≤ n ∧ n ≤ 63
  · rw [signWI, if_pos h]
    obtain ⟨N, rfl⟩ := Int.eq_ofNat_of_zero_le (show 0 ≤ n by omega)
    rw [Int.toNat_natCast]
    exact sign_yes v N (by omega) (by omega) w
  · rw [signWI, if_neg h]
    exact sign_no v n h w
theorem rfits_any (v n : Int) (w : World) :
    Calls Tryd.prog 41 #[.int .i64 v, .int .i64 n] w fun e w' => e = .returned (.bool (fitsW v n)) ∧ w' = w := by
  by_cases h : 1 ≤ n ∧ n ≤ 63
  · rw [fitsW, if_pos h]
    obtain ⟨N, rfl⟩ := Int.eq_ofNat_of_zero_le (show 0 ≤ n by omega)
    rw [Int.toNat_natCast]
    exact rfits_yes v N (by omega) (by omega) w
  · rw [fitsW, if_neg h]
    exact rfits_no v n h w
end Go.Proofs.YtkckobbedpccfaaDoor.I
