/-
  What Load does, the program's and the document's: their contracts.
-/
import Derived.Test.YtkckobbedpccfaaDoorWalks6
import Derived.Test.YtkckobbedpccfaaDoorMath4
namespace Go.Proofs.YtkckobbedpccfaaDoor
open Go.RowKit
set_option linter.unusedVariables false

theorem ret_ib {k : IntKind} {a b : Int} {c d : Bool} (h : a = b) (g : c = d) : Ending.returned (.tuple #[.int k a, .bool c]) = .returned (.tuple #[.int k b, .bool d]) := by rw [h, g]

theorem ext_any (n f : Nat) (v : Int) (hn : (n : Int) = 1 ∨ (n : Int) = 4 ∨ (n : Int) = 8) (hf : filledOf n = f) (h0 : 0 ≤ v) (h1 : v < 2 ^ (8 * n)) : shiftW 2 (IntKind.u64.wrap (v * 2 ^ f)) f = extW n v := by
  have hn' : n = 1 ∨ n = 4 ∨ n = 8 := by omega
  rcases hn' with rfl | rfl | rfl
  · obtain rfl : f = 0 := by simp [filledOf] at hf; omega
    rw [show ((0 : Nat) : Int) = 0 from rfl, ext_shift v h0 (by omega)]; simp [extW]
  · obtain rfl : f = 32 := by simp [filledOf] at hf; omega
    exact ext_shift4 v h0 (by omega)
  · obtain rfl : f = 0 := by simp [filledOf] at hf; omega
    rw [show ((0 : Nat) : Int) = 0 from rfl, ext_shift v h0 (by omega)]; simp [extW]

theorem wrap_range (x : Int) : 0 ≤ IntKind.u64.wrap x ∧ IntKind.u64.wrap x < 18446744073709551616 := by rw [IntKind.wrap_u64]; omega
theorem filled_le (n : Int) : ∃ f : Nat, filledOf n = f ∧ f ≤ 32 := by
  unfold filledOf
  split
  · exact ⟨32, rfl, by decide⟩
  · exact ⟨0, rfl, by decide⟩

theorem load_yes (b off len cap T N : Nat) (zs : List Int) (w : World) (hz : SZ w) (hN : (N : Int) = 1 ∨ (N : Int) = 4 ∨ (N : Int) = 8) (hT : T + N ≤ len) (hl : len ≤ maxLen) (hb : b < w.heap.size)
    (hc : ∀ i, i < len → w.cell? ⟨b, off + i, none⟩ = some (.int .u8 (zs.getD i 0))) (hB : Bytes zs) :
    Calls Tryd.prog 15 #[.slice (some ⟨b, off, none⟩) len cap, .int .i64 T, .int .i64 N] w fun e w' => e = .returned (.tuple #[.int .u64 (extW N (leFrom zs T N)), .bool true]) ∧ Below w.heap.size w w' := by
  unfold maxLen at hl
  obtain ⟨f, hf, hf32⟩ := filled_le N
  have HE : Hid (shiftW 2 (IntKind.u64.wrap (leFrom zs T N * 2 ^ f)) f = extW N (leFrom zs T N)) := ext_any N f _ hN hf (leFrom_bound zs hB N T).1 (leFrom_bound zs hB N T).2
  go_enter Tryd.func15, Tryd.ntmps15
  go_wp2_with fail
  refine (sizeOf_yes _ _ hz hN).mono ?_
  rintro e w1 ⟨rfl, hb1⟩
  rw [hf]
  clear hf
  obtain ⟨hcc, hff⟩ := bcell hb1
  have hs1 := hb1.size
  have hbw : b < w1.heap.size := by omega
  go_wp2_with fail
  refine (within_yes _ _ _ (by omega) (by omega) _).mono ?_
  rintro e w2 ⟨rfl, rfl⟩
  go_wp2_with fail
  go_loop [10, 32] (fun v i => ∃ k : Nat, k ≤ N ∧ i = .int .i64 k ∧ v = .int .u64 (leFrom zs T k)) (fun _ i => N - (intOf i).toNat)
  case atStart => exact ⟨0, by omega, rfl, rfl⟩
  case round =>
    obtain ⟨k, hk, rfl, rfl⟩ := hrel
    by_cases hlt : k < N
    · have hcx := hc (T + k) (by omega)
      have hz1 := hB (T + k)
      have hb2 := leFrom_bound zs hB k T
      have HS : Hid (leFrom zs T (k + 1) = bits .or .u64 (leFrom zs T k) (IntKind.u64.wrap (zs.getD (T + k) 0 * 2 ^ (8 * k)))) := by
        show _ = _
        rw [or_byte _ _ k (by omega) hb2.1 hb2.2 hz1.1 hz1.2, leFrom_snoc]
      generalize zs.getD (T + k) 0 = z at *
      generalize leFrom zs T k = v at *
      clear hb2
      go_wp2
      go_round
      case rel => exact ⟨k + 1, by omega, by go_num, by rw [HS.out]⟩
      case measure => simp [intOf]; omega
    · obtain rfl : k = N := by omega
      have hr := wrap_range (leFrom zs T k * 2 ^ f)
      clear hc
      go_wp2_with fail
      refine (shift_any _ _ _ (by omega) (by omega) (by omega) (by omega) _).mono ?_
      rintro e w2 ⟨rfl, rfl⟩
      go_wp2_with fail
      go_ret2
      exact ⟨ret_ib HE.out rfl, hb1.alloc (by omega) _⟩

theorem load_no_width (v : Value) (t n : Int) (w : World) (hz : SZ w) (hn : ¬ (n = 1 ∨ n = 4 ∨ n = 8)) :
    Calls Tryd.prog 15 #[v, .int .i64 t, .int .i64 n] w fun e w' => e = .returned (.tuple #[.int .u64 0, .bool false]) ∧ Below w.heap.size w w' := by
  go_enter Tryd.func15, Tryd.ntmps15
  go_wp2_with fail
  refine (sizeOf_no _ _ hz hn).mono ?_
  rintro e w1 ⟨rfl, hb1⟩
  have hs1 := hb1.size
  go_wp2_with fail
  go_ret2
  exact ⟨rfl, hb1.alloc (by omega) _⟩
theorem load_no_place (a : Option Addr) (len cap : Nat) (t n : Int) (w : World) (hz : SZ w) (hn : n = 1 ∨ n = 4 ∨ n = 8) (hl : len ≤ maxLen) (ht : ¬ (0 ≤ t ∧ t ≤ (len : Int) - n)) :
    Calls Tryd.prog 15 #[.slice a len cap, .int .i64 t, .int .i64 n] w fun e w' => e = .returned (.tuple #[.int .u64 0, .bool false]) ∧ Below w.heap.size w w' := by
  unfold maxLen at hl
  have hd : Hid (decide (0 ≤ t ∧ t ≤ (len : Int) - n) = false) := decide_eq_false ht
  go_enter Tryd.func15, Tryd.ntmps15
  go_wp2_with fail
  refine (sizeOf_yes _ _ hz hn).mono ?_
  rintro e w1 ⟨rfl, hb1⟩
  have hs1 := hb1.size
  clear ht
  go_wp2_with fail
  refine (within_any _ _ _ _).mono ?_
  rintro e w2 ⟨rfl, rfl⟩
  rw [hd.out]
  go_wp2_with fail
  go_ret2
  exact ⟨rfl, hb1.alloc (by omega) _⟩
end Go.Proofs.YtkckobbedpccfaaDoor
