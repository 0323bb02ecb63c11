/-
  What the document's Load and Store do: their contracts.
-/
import Derived.Test.YtkckobbedpccfaaDoorWalks8
namespace Go.Proofs.YtkckobbedpccfaaDoor
open Go.RowKit
set_option linter.unusedVariables false

theorem rload_no_width (v : Value) (t n : Int) (w : World) (hn : ¬ (n = 1 ∨ n = 4 ∨ n = 8)) :
    Calls Tryd.prog 17 #[v, .int .i64 t, .int .i64 n] w fun e w' => e = .returned (.tuple #[.int .u64 0, .bool false]) ∧ w' = w := by
  have e1 : (n != 1) = true := by rw [bne_iff_ne]; omega
  have e4 : (n != 4) = true := by rw [bne_iff_ne]; omega
  have e8 : (n != 8) = true := by rw [bne_iff_ne]; omega
  go_enter Tryd.func17, Tryd.ntmps17
  go_wp2
  go_ret2
  exact ⟨rfl, rfl⟩
theorem rload_no_place (a : Option Addr) (len cap : Nat) (t n : Int) (w : World) (hn : n = 1 ∨ n = 4 ∨ n = 8) (hl : len ≤ maxLen) (ht : ¬ (0 ≤ t ∧ t ≤ (len : Int) - n)) :
    Calls Tryd.prog 17 #[.slice a len cap, .int .i64 t, .int .i64 n] w fun e w' => e = .returned (.tuple #[.int .u64 0, .bool false]) ∧ w' = w := by
  unfold maxLen at hl
  by_cases h0 : t < 0
  · rcases hn with rfl | rfl | rfl
    all_goals
      go_enter Tryd.func17, Tryd.ntmps17
      go_wp2
      go_ret2
      exact ⟨rfl, rfl⟩
  · have h1 : (len : Int) - n < t := by omega
    rcases hn with rfl | rfl | rfl
    all_goals
      go_enter Tryd.func17, Tryd.ntmps17
      go_wp2
      go_ret2
      exact ⟨rfl, rfl⟩

theorem rload_yes (b off len cap T N : Nat) (zs : List Int) (w : World) (hN : (N : Int) = 1 ∨ (N : Int) = 4 ∨ (N : Int) = 8) (hT : T + N ≤ len) (hl : len ≤ maxLen) (hb : b < w.heap.size)
    (hc : ∀ i, i < len → w.cell? ⟨b, off + i, none⟩ = some (.int .u8 (zs.getD i 0))) (hB : Bytes zs) :
    Calls Tryd.prog 17 #[.slice (some ⟨b, off, none⟩) len cap, .int .i64 T, .int .i64 N] w fun e w' => e = .returned (.tuple #[.int .u64 (extW N (leFrom zs T N)), .bool true]) ∧ w' = w := by
  unfold maxLen at hl
  have hN8 : N ≤ 8 := by omega
  have hbnd := leFrom_bound zs hB N T
  have hN' : N = 1 ∨ N = 4 ∨ N = 8 := by omega
  clear hN
  rcases hN' with rfl | rfl | rfl
  · go_enter Tryd.func17, Tryd.ntmps17
    go_wp2
    go_loop [8, 9] (fun v i => ∃ k : Nat, k ≤ 1 ∧ i = .int .i64 ((k : Int) - 1) ∧ v = .int .u64 (leFrom zs (T + k) (1 - k))) (fun _ i => (1 + intOf i).toNat)
    case atStart => exact ⟨1, by omega, rfl, by simp [leFrom]⟩
    case round =>
      obtain ⟨k, hk, rfl, rfl⟩ := hrel
      by_cases hlt : 1 ≤ k
      · obtain ⟨m, rfl⟩ : ∃ m, k = m + 1 := ⟨k - 1, by omega⟩
        have hcx := hc (T + m) (by omega)
        have hz1 := hB (T + m)
        have hb2 := leFrom_bound zs hB (1 - (m + 1)) (T + (m + 1))
        have hp : (2 : Int) ^ (8 * (1 - (m + 1))) ≤ 2 ^ 56 := pow_le' (by omega)
        have hb3 : leFrom zs (T + (m + 1)) (1 - (m + 1)) < 72057594037927936 := by omega
        have HS : Hid (leFrom zs (T + m) (1 - m) = leFrom zs (T + (m + 1)) (1 - (m + 1)) * 256 + zs.getD (T + m) 0) := by
          show _ = _
          rw [show 1 - m = 1 - (m + 1) + 1 by omega, leFrom, Nat.add_assoc]; omega
        have hb4 := hb2.1
        clear hp hb2
        generalize zs.getD (T + m) 0 = z at *
        generalize leFrom zs (T + (m + 1)) (1 - (m + 1)) = v at *
        go_wp2
        go_round
        case rel => exact ⟨m, by omega, by go_num, by rw [HS.out]⟩
        case measure => simp [intOf]; omega
      · obtain rfl : k = 0 := by omega
        have hv0 := hbnd.1
        have hv1 : leFrom zs T 1 < 18446744073709551616 := by have := hbnd.2; omega
        go_wp2
        go_ret2
        exact ⟨ret_ib (by simp [extW]) rfl, rfl⟩
  · go_enter Tryd.func17, Tryd.ntmps17
    go_wp2
    go_loop [8, 9] (fun v i => ∃ k : Nat, k ≤ 4 ∧ i = .int .i64 ((k : Int) - 1) ∧ v = .int .u64 (leFrom zs (T + k) (4 - k))) (fun _ i => (1 + intOf i).toNat)
    case atStart => exact ⟨4, by omega, rfl, by simp [leFrom]⟩
    case round =>
      obtain ⟨k, hk, rfl, rfl⟩ := hrel
      by_cases hlt : 1 ≤ k
      · obtain ⟨m, rfl⟩ : ∃ m, k = m + 1 := ⟨k - 1, by omega⟩
        have hcx := hc (T + m) (by omega)
        have hz1 := hB (T + m)
        have hb2 := leFrom_bound zs hB (4 - (m + 1)) (T + (m + 1))
        have hp : (2 : Int) ^ (8 * (4 - (m + 1))) ≤ 2 ^ 56 := pow_le' (by omega)
        have hb3 : leFrom zs (T + (m + 1)) (4 - (m + 1)) < 72057594037927936 := by omega
        have HS : Hid (leFrom zs (T + m) (4 - m) = leFrom zs (T + (m + 1)) (4 - (m + 1)) * 256 + zs.getD (T + m) 0) := by
          show _ = _
          rw [show 4 - m = 4 - (m + 1) + 1 by omega, leFrom, Nat.add_assoc]; omega
        have hb4 := hb2.1
        clear hp hb2
        generalize zs.getD (T + m) 0 = z at *
        generalize leFrom zs (T + (m + 1)) (4 - (m + 1)) = v at *
        go_wp2
        go_round
        case rel => exact ⟨m, by omega, by go_num, by rw [HS.out]⟩
        case measure => simp [intOf]; omega
      · obtain rfl : k = 0 := by omega
        have hv0 := hbnd.1
        have hv1 : leFrom zs T 4 < 18446744073709551616 := by have := hbnd.2; omega
        have hv2 : leFrom zs T 4 < 4294967296 := by have := hbnd.2; omega
        by_cases hs : leFrom zs T 4 < 2147483648
        · have HE : Hid (extW 4 (leFrom zs T 4) = leFrom zs T 4) := by show _ = _; simp [extW]; omega
          go_wp2
          go_ret2
          exact ⟨ret_ib HE.out.symm rfl, rfl⟩
        · have HE : Hid (extW 4 (leFrom zs T 4) = leFrom zs T 4 + 18446744069414584320) := by show _ = _; rw [extW, if_pos (by omega)]
          go_wp2
          go_ret2
          exact ⟨ret_ib HE.out.symm rfl, rfl⟩
  · go_enter Tryd.func17, Tryd.ntmps17
    go_wp2
    go_loop [8, 9] (fun v i => ∃ k : Nat, k ≤ 8 ∧ i = .int .i64 ((k : Int) - 1) ∧ v = .int .u64 (leFrom zs (T + k) (8 - k))) (fun _ i => (1 + intOf i).toNat)
    case atStart => exact ⟨8, by omega, rfl, by simp [leFrom]⟩
    case round =>
      obtain ⟨k, hk, rfl, rfl⟩ := hrel
      by_cases hlt : 1 ≤ k
      · obtain ⟨m, rfl⟩ : ∃ m, k = m + 1 := ⟨k - 1, by omega⟩
        have hcx := hc (T + m) (by omega)
        have hz1 := hB (T + m)
        have hb2 := leFrom_bound zs hB (8 - (m + 1)) (T + (m + 1))
        have hp : (2 : Int) ^ (8 * (8 - (m + 1))) ≤ 2 ^ 56 := pow_le' (by omega)
        have hb3 : leFrom zs (T + (m + 1)) (8 - (m + 1)) < 72057594037927936 := by omega
        have HS : Hid (leFrom zs (T + m) (8 - m) = leFrom zs (T + (m + 1)) (8 - (m + 1)) * 256 + zs.getD (T + m) 0) := by
          show _ = _
          rw [show 8 - m = 8 - (m + 1) + 1 by omega, leFrom, Nat.add_assoc]; omega
        have hb4 := hb2.1
        clear hp hb2
        generalize zs.getD (T + m) 0 = z at *
        generalize leFrom zs (T + (m + 1)) (8 - (m + 1)) = v at *
        go_wp2
        go_round
        case rel => exact ⟨m, by omega, by go_num, by rw [HS.out]⟩
        case measure => simp [intOf]; omega
      · obtain rfl : k = 0 := by omega
        have hv0 := hbnd.1
        have hv1 : leFrom zs T 8 < 18446744073709551616 := by have := hbnd.2; omega
        go_wp2
        go_ret2
        exact ⟨ret_ib (by simp [extW]) rfl, rfl⟩

theorem row_form {w : World} {base size n : Nat} {e : TypeId} {v : Value} {xs : List Value} (h : w.ownsRow base e size v n xs) (hn : 0 < n) : ∃ g cap, v = .slice (some ⟨g, 0, none⟩) n cap := by
  rcases h.2 with ⟨_, h0⟩ | ⟨g, cap, cur, rfl, _⟩
  · omega
  · exact ⟨g, cap, rfl⟩
theorem bytesOf_snoc (v : Int) (k : Nat) : (bytesOf v (k + 1)).map (Value.int .u8) = (bytesOf v k).map (Value.int .u8) ++ [.int .u8 (byteAt v k)] := by
  simp [bytesOf, List.range_succ]
theorem bytesOf_len (v : Int) (k : Nat) : (bytesOf v k).length = k := by simp [bytesOf]

theorem rstore_no (v n : Int) (w : World) (hn : ¬ (n = 1 ∨ n = 4 ∨ n = 8)) :
    Calls Tryd.prog 18 #[.int .u64 v, .int .i64 n] w fun e w' => e = .returned (.slice none 0 0) ∧ w' = w := by
  have e1 : (n != 1) = true := by rw [bne_iff_ne]; omega
  have e4 : (n != 4) = true := by rw [bne_iff_ne]; omega
  have e8 : (n != 8) = true := by rw [bne_iff_ne]; omega
  go_enter Tryd.func18, Tryd.ntmps18
  go_wp2
  go_ret
  exact ⟨rfl, rfl⟩
end Go.Proofs.YtkckobbedpccfaaDoor
