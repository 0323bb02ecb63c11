/-
  What the functions that place bits into a word do: their contracts.
-/
import Derived.Test.YtlliompimlondaaDoorWalks2
namespace Go.Proofs.YtlliompimlondaaDoor
open Go.RowKit
set_option linter.unusedVariables false
theorem place_not (a v t n : Int) (h : ¬ (0 ≤ t ∧ t ≤ 31 ∧ 1 ≤ n ∧ t + n ≤ 32)) (w : World) :
    Calls Tryd.prog 9 #[.int .u32 a, .int .i64 v, .int .i64 t, .int .i64 n] w fun e w' => e = .returned (.int .u32 a) ∧ w' = w := by
  go_enter Tryd.func9, Tryd.ntmps9
  go_wp2_with (go_at_call 15; refine (isField_no _ _ h _).mono ?_; rintro e w' ⟨rfl, rfl⟩)
  go_ret
  exact ⟨rfl, rfl⟩
theorem place_is (W : Nat) (v : Int) (t n : Nat) (hW : W < 4294967296) (h3 : 1 ≤ n) (h4 : t + n ≤ 32) (w : World) :
    Calls Tryd.prog 9 #[.int .u32 W, .int .i64 v, .int .i64 t, .int .i64 n] w fun e w' => e = .returned (.int .u32 (placeN W (v % 4294967296).toNat t n)) ∧ w' = w := by
  have HP : Hid (bits .or .u32 (bits .andNot .u32 (W : Int) (((2 ^ n - 1) * 2 ^ t : Nat) : Int)) (bits .and .u32 (IntKind.u32.wrap (IntKind.u32.wrap v * 2 ^ t)) (((2 ^ n - 1) * 2 ^ t : Nat) : Int)) = (placeN W (v % 4294967296).toNat t n : Int)) :=
    place_word W _ t n v (by omega) hW h4
  have eM := mask_wrap t n h4
  generalize (2 ^ n - 1) * 2 ^ t = M at *
  go_enter Tryd.func9, Tryd.ntmps9
  go_wp2_with (first | (go_at_call 15; refine (isField_yes _ _ (by omega) (by omega) (by omega) (by omega) _).mono ?_; rintro e w' ⟨rfl, rfl⟩) | (go_at_call 16; refine (ones_any _ (by omega) (by omega) _).mono ?_; rintro e w' ⟨rfl, rfl⟩))
  go_ret
  exact ⟨ret_int HP.out, rfl⟩
end Go.Proofs.YtlliompimlondaaDoor
