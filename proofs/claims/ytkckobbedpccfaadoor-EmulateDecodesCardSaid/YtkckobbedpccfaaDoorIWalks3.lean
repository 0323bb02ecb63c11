/-
  What the functions that place bits into a word do: their contracts.
-/
import Derived.Test.YtkckobbedpccfaaDoorIWalks2
namespace Go.Proofs.YtkckobbedpccfaaDoor.I
open Go.RowKit
set_option linter.unusedVariables false
set_option maxRecDepth 100000
theorem rplace_not (a v t n : Int) (h : ¬ (0 ≤ t ∧ t ≤ 31 ∧ 1 ≤ n ∧ t + n ≤ 32)) (hn0 : -1 ≤ n) (hn : n ≤ 33) (w : World) :
    Calls Tryd.prog 20 #[.int .u32 a, .int .i64 v, .int .i64 t, .int .i64 n] w fun e w' => e = .returned (.int .u32 a) ∧ w' = w := by
  by_cases h1 : t < 0
  · go_enter Tryd.func20, Tryd.ntmps20
    go_wp2
    go_ret
    exact ⟨rfl, rfl⟩
  by_cases h2 : 31 < t
  · go_enter Tryd.func20, Tryd.ntmps20
    go_wp2
    go_ret
    exact ⟨rfl, rfl⟩
  by_cases h3 : n < 1
  · go_enter Tryd.func20, Tryd.ntmps20
    go_wp2
    go_ret
    exact ⟨rfl, rfl⟩
  by_cases h4 : 32 < n
  · go_enter Tryd.func20, Tryd.ntmps20
    go_wp2
    go_ret
    exact ⟨rfl, rfl⟩
  have h5 : 32 < t + n := by omega
  go_enter Tryd.func20, Tryd.ntmps20
  go_wp2
  go_ret
  exact ⟨rfl, rfl⟩
theorem rplace_is (W : Nat) (v : Int) (t n : Nat) (hW : W < 4294967296) (h3 : 1 ≤ n) (h4 : t + n ≤ 32) (w : World) :
    Calls Tryd.prog 20 #[.int .u32 W, .int .i64 v, .int .i64 t, .int .i64 n] w fun e w' => e = .returned (.int .u32 (placeN W (v % 4294967296).toNat t n)) ∧ w' = w := by
  have Z := place_zero W (v % 4294967296).toNat t hW (by omega)
  have HZ : Hid (placeN W (v % 4294967296).toNat t 0 = W) := Z
  clear Z
  go_enter Tryd.func20, Tryd.ntmps20
  go_wp2
  go_loop [0, 9] (fun x i => ∃ k : Nat, k ≤ n ∧ i = .int .i64 k ∧ x = .int .u32 (placeN W (v % 4294967296).toNat t k)) (fun _ i => n - (intOf i).toNat)
  case atStart => exact ⟨0, by omega, rfl, by rw [HZ.out]⟩
  case round =>
    obtain ⟨k, hk, rfl, rfl⟩ := hrel
    by_cases hlt : k < n
    · have HB : Hid ((2 : Int) ^ (t + k) % 4294967296 = ((2 ^ (t + k) : Nat) : Int)) := by
        have h := bit_wrap (t + k) (by omega)
        rw [IntKind.wrap_u32] at h
        exact h
      have e2 := place_step_not W (v % 4294967296).toNat t k hW (by omega)
      have e3 := place_step_or W (v % 4294967296).toNat t k hW (by omega)
      have e4 := and1 (v / 2 ^ k)
      have hb := bit_of v k (by omega)
      by_cases hbit : (v % 4294967296).toNat.testBit k = true
      · have e5 := place_yes W (v % 4294967296).toNat t k hW (by omega) hbit
        rw [e5] at e3
        clear e5
        rw [hbit] at hb
        clear hbit
        generalize (placeN W (v % 4294967296).toNat t k &&& (4294967295 - 2 ^ (t + k))) = X at *
        generalize hY : placeN W (v % 4294967296).toNat t (k + 1) = Y at *
        have HY : Hid (placeN W (v % 4294967296).toNat t (k + 1) = Y) := hY
        clear hY
        have E2 : Hid (_ = _) := e2
        have E3 : Hid (_ = _) := e3
        clear e2 e3
        go_wp2
        go_round
        case rel => exact ⟨k + 1, by omega, by go_num, by rw [HY.out, HB.out, E2.out, E3.out]⟩
        case measure => simp [intOf]; omega
      · have e5 := place_no W (v % 4294967296).toNat t k hW (by omega) (by simpa using hbit)
        rw [e5] at e2
        clear e5 e3
        rw [Bool.not_eq_true] at hbit
        rw [hbit] at hb
        clear hbit
        generalize hY : placeN W (v % 4294967296).toNat t (k + 1) = Y at *
        have HY : Hid (placeN W (v % 4294967296).toNat t (k + 1) = Y) := hY
        clear hY
        have E2 : Hid (_ = _) := e2
        clear e2
        go_wp2
        go_round
        case rel => exact ⟨k + 1, by omega, by go_num, by rw [HY.out, HB.out, E2.out]⟩
        case measure => simp [intOf]; omega
    · obtain rfl : k = n := by omega
      go_wp2
      go_ret
      exact ⟨rfl, rfl⟩
end Go.Proofs.YtkckobbedpccfaaDoor.I
