/-
  What the functions of package word and of the document's answer do that divide, shift and compare: their contracts.
  What the functions of package word and of the document's answer do that tell and place fields and signs: their contracts.
  What sizeOf does: its contract, over the table of sizes as it is laid.
-/
import Derived.Test.YtkckobbedpccfaaGreatDoorRows
import Derived.Test.YtkckobbedpccfaaGreatDoorQA
import Derived.WalkKit
import Derived.ProofKit
import Derived.OpenShut
import Derived.Deep.QuietTactic
import Derived.BigQuiet
namespace Go.Proofs.YtkckobbedpccfaaGreatDoor
open Go.RowKit
set_option linter.unusedVariables false

theorem ret_bool {a b : Bool} (h : a = b) : Ending.returned (.bool a) = .returned (.bool b) := by rw [h]
theorem ret_int {k : IntKind} {a b : Int} (h : a = b) : Ending.returned (.int k a) = .returned (.int k b) := by rw [h]

theorem grown_drewN {W w : World} (h : Grown W w) : ∀ n, Grown W (w.drewN n)
  | 0 => h
  | n + 1 => (grown_drewN h n).drew

theorem endsInt_lt (a b : Int) (h : b < a) (w : World) :
    Calls Tryz.prog 66 #[.int .i64 a, .int .i64 b] w fun e w' => e = .returned (.tuple #[.int .i64 b, .int .i64 a]) ∧ w' = w := by
  go_enter Tryz.func66, Tryz.ntmps66
  go_wp2
  go_ret2
  exact ⟨rfl, rfl⟩
theorem endsInt_ge (a b : Int) (h : a ≤ b) (w : World) :
    Calls Tryz.prog 66 #[.int .i64 a, .int .i64 b] w fun e w' => e = .returned (.tuple #[.int .i64 a, .int .i64 b]) ∧ w' = w := by
  have h' : ¬ b < a := by omega
  go_enter Tryz.func66, Tryz.ntmps66
  go_wp2
  go_ret2
  exact ⟨rfl, rfl⟩
theorem fill_pos (a b : Int) (h0 : 0 ≤ a) (h1 : a < 9223372036854775808) (w : World) :
    Calls Tryz.prog 67 #[.int .u64 a, .int .u64 b] w fun e w' => e = .returned (.int .u64 0) ∧ w' = w := by
  have h2 : (a / 9223372036854775808 == 0) = true := beq_iff_eq.2 (by omega)
  go_enter Tryz.func67, Tryz.ntmps67
  go_wp2
  go_ret
  exact ⟨rfl, rfl⟩
theorem fill_neg (a b : Int) (h0 : 9223372036854775808 ≤ a) (h1 : a < 18446744073709551616) (hb0 : 0 ≤ b) (hb1 : b < 64) (w : World) :
    Calls Tryz.prog 67 #[.int .u64 a, .int .u64 b] w fun e w' => e = .returned (.int .u64 (bits .xor .u64 IntKind.u64.max (18446744073709551615 / 2 ^ b.toNat))) ∧ w' = w := by
  have h2 : (a / 9223372036854775808 == 0) = false := beq_eq_false_iff_ne.2 (by omega)
  go_enter Tryz.func67, Tryz.ntmps67
  go_wp2
  go_ret
  exact ⟨rfl, rfl⟩

theorem shift_any (k a b : Int) (h0 : 0 ≤ a) (h1 : a < 18446744073709551616) (hb0 : 0 ≤ b) (hb1 : b < 18446744073709551616) (w : World) :
    Calls Tryz.prog 45 #[.int .i64 k, .int .u64 a, .int .u64 b] w fun e w' => e = .returned (.int .u64 (shiftW k a b)) ∧ w' = w := by
  have h63 := and63 b hb0 hb1
  by_cases k0 : k = 0
  · have HK : Hid (shiftW k a b = IntKind.u64.wrap (a * 2 ^ (b % 64).toNat)) := by show shiftW k a b = _; simp [shiftW, k0]
    go_enter Tryz.func45, Tryz.ntmps45
    go_wp2
    go_ret
    exact ⟨ret_int HK.out.symm, rfl⟩
  by_cases k1 : k = 1
  · have HK : Hid (shiftW k a b = bits .or .u64 (a / 2 ^ (b % 64).toNat) 0) := by
      show shiftW k a b = _
      have hq := Int.ediv_nonneg (b := 2 ^ (b % 64).toNat) h0 (Int.pow_nonneg (by decide))
      have hl := Int.ediv_le_self (2 ^ (b % 64).toNat) h0
      rw [u64_or _ _ hq (by omega) (by omega) (by omega)]
      simp [shiftW, k1]; omega
    go_enter Tryz.func45, Tryz.ntmps45
    go_wp2
    go_ret
    exact ⟨ret_int HK.out.symm, rfl⟩
  by_cases k2 : k = 2
  · by_cases hs : a < 9223372036854775808
    · have HK : Hid (shiftW k a b = bits .or .u64 (a / 2 ^ (b % 64).toNat) 0) := by
        show shiftW k a b = _
        have hq := Int.ediv_nonneg (b := 2 ^ (b % 64).toNat) h0 (Int.pow_nonneg (by decide))
        have hl := Int.ediv_le_self (2 ^ (b % 64).toNat) h0
        rw [u64_or _ _ hq (by omega) (by omega) (by omega)]
        simp [shiftW, k2, sar_pos a _ h0 hs]; omega
      go_enter Tryz.func45, Tryz.ntmps45
      go_wp2_with (go_at_call 67; refine (fill_pos _ _ (by omega) (by omega) _).mono ?_; rintro e w' ⟨rfl, rfl⟩)
      go_ret
      exact ⟨ret_int HK.out.symm, rfl⟩
    · have HK : Hid (shiftW k a b = bits .or .u64 (a / 2 ^ (b % 64).toNat) (bits .xor .u64 IntKind.u64.max (18446744073709551615 / 2 ^ (b % 64).toNat))) := by
        show shiftW k a b = _
        rw [sar_neg a (64 - (b % 64).toNat) (b % 64).toNat (by omega) (by omega) h1]
        simp [shiftW, k2]
      go_enter Tryz.func45, Tryz.ntmps45
      go_wp2_with (go_at_call 67; refine (fill_neg _ _ (by omega) (by omega) (by omega) (by omega) _).mono ?_; rintro e w' ⟨rfl, rfl⟩)
      go_ret
      exact ⟨ret_int HK.out.symm, rfl⟩
  have HK : Hid (shiftW k a b = a) := by show shiftW k a b = _; simp [shiftW, k0, k1, k2]
  go_enter Tryz.func45, Tryz.ntmps45
  go_wp2
  go_ret
  exact ⟨ret_int HK.out.symm, rfl⟩
end Go.Proofs.YtkckobbedpccfaaGreatDoor
namespace Go.Proofs.YtkckobbedpccfaaGreatDoor
open Go.RowKit
set_option linter.unusedVariables false
theorem within_yes (v a b : Int) (h1 : a ≤ v) (h2 : v ≤ b) (w : World) :
    Calls Tryz.prog 44 #[.int .i64 v, .int .i64 a, .int .i64 b] w fun e w' => e = .returned (.bool true) ∧ w' = w := by
  by_cases e1 : v = a
  · subst e1
    go_enter Tryz.func44, Tryz.ntmps44
    go_wp2_with (go_at_call 66; refine (endsInt_ge _ _ (by omega) _).mono ?_; rintro e w' ⟨rfl, rfl⟩)
    go_ret
    exact ⟨rfl, rfl⟩
  · go_enter Tryz.func44, Tryz.ntmps44
    go_wp2_with fail
    refine (endsInt_lt _ _ (by omega) _).mono ?_
    rintro e w' ⟨rfl, rfl⟩
    go_wp2_with fail
    refine (endsInt_ge _ _ (by omega) _).mono ?_
    rintro e w' ⟨rfl, rfl⟩
    go_wp2_with fail
    go_ret
    exact ⟨rfl, rfl⟩
theorem within_low (v a b : Int) (h1 : v < a) (w : World) :
    Calls Tryz.prog 44 #[.int .i64 v, .int .i64 a, .int .i64 b] w fun e w' => e = .returned (.bool false) ∧ w' = w := by
  have e1 : (v == a) = false := beq_eq_false_iff_ne.2 (by omega)
  by_cases h2 : v ≤ b
  · go_enter Tryz.func44, Tryz.ntmps44
    go_wp2_with (go_at_call 66; refine (endsInt_ge _ _ (by omega) _).mono ?_; rintro e w' ⟨rfl, rfl⟩)
    go_ret
    exact ⟨rfl, rfl⟩
  · go_enter Tryz.func44, Tryz.ntmps44
    go_wp2_with fail
    refine (endsInt_ge _ _ (by omega) _).mono ?_
    rintro e w' ⟨rfl, rfl⟩
    go_wp2_with fail
    refine (endsInt_lt _ _ (by omega) _).mono ?_
    rintro e w' ⟨rfl, rfl⟩
    go_wp2_with fail
    go_ret
    exact ⟨rfl, rfl⟩
theorem within_high (v a b : Int) (h1 : b < v) (w : World) :
    Calls Tryz.prog 44 #[.int .i64 v, .int .i64 a, .int .i64 b] w fun e w' => e = .returned (.bool false) ∧ w' = w := by
  have e1 : (v == b) = false := beq_eq_false_iff_ne.2 (by omega)
  by_cases h2 : a < v
  · go_enter Tryz.func44, Tryz.ntmps44
    go_wp2_with (go_at_call 66; refine (endsInt_lt _ _ (by omega) _).mono ?_; rintro e w' ⟨rfl, rfl⟩)
    go_ret
    exact ⟨rfl, rfl⟩
  · go_enter Tryz.func44, Tryz.ntmps44
    go_wp2_with fail
    refine (endsInt_ge _ _ (by omega) _).mono ?_
    rintro e w' ⟨rfl, rfl⟩
    go_wp2_with fail
    refine (endsInt_lt _ _ (by omega) _).mono ?_
    rintro e w' ⟨rfl, rfl⟩
    by_cases h3 : v = a
    · have e2 : (v == a) = true := beq_iff_eq.2 h3
      subst h3
      go_wp2_with fail
      go_ret
      exact ⟨rfl, rfl⟩
    · have e2 : (v == a) = false := beq_eq_false_iff_ne.2 h3
      go_wp2_with fail
      go_ret
      exact ⟨rfl, rfl⟩
theorem within_any (v a b : Int) (w : World) :
    Calls Tryz.prog 44 #[.int .i64 v, .int .i64 a, .int .i64 b] w fun e w' => e = .returned (.bool (decide (a ≤ v ∧ v ≤ b))) ∧ w' = w := by
  by_cases h1 : a ≤ v
  · by_cases h2 : v ≤ b
    · rw [show decide (a ≤ v ∧ v ≤ b) = true from by simp [h1, h2]]
      exact within_yes v a b h1 h2 w
    · rw [show decide (a ≤ v ∧ v ≤ b) = false from by simp [h2]]
      exact within_high v a b (by omega) w
  · rw [show decide (a ≤ v ∧ v ≤ b) = false from by simp [h1]]
    exact within_low v a b (by omega) w

end Go.Proofs.YtkckobbedpccfaaGreatDoor
namespace Go.Proofs.YtkckobbedpccfaaGreatDoor
open Go.RowKit
set_option linter.unusedVariables false
structure SZ (w : World) : Prop where
  c0 : w.cell? ⟨0, 0, none⟩ = some (.int .i64 1)
  c1 : w.cell? ⟨0, 1, none⟩ = some (.int .i64 0)
  c2 : w.cell? ⟨0, 2, none⟩ = some (.int .i64 4)
  c3 : w.cell? ⟨0, 3, none⟩ = some (.int .i64 32)
  c4 : w.cell? ⟨0, 4, none⟩ = some (.int .i64 8)
  c5 : w.cell? ⟨0, 5, none⟩ = some (.int .i64 0)
  pos : 0 < w.heap.size

theorem bcell {B : Nat} {W w1 : World} (hb : Below B W w1) : (∀ b o, b < B → w1.cell? ⟨b, o, none⟩ = W.cell? ⟨b, o, none⟩) ∧ (∀ b o, b < B → w1.frozen? ⟨b, o, none⟩ = W.frozen? ⟨b, o, none⟩) :=
  ⟨fun b o h => hb.cell (p := ⟨b, o, none⟩) h, fun b o h => hb.frozen (p := ⟨b, o, none⟩) h⟩

def filledOf (n : Int) : Int := if n = 4 then 32 else 0
theorem idx0 (w : World) : (Instr.index 136 (.agg #[.int .i64 1, .int .i64 0, .int .i64 4, .int .i64 32, .int .i64 8, .int .i64 0]) (.int .i64 0)).run Tryz.prog w = .ok (.agg #[.int .i64 1, .int .i64 0]) w := by kernel_rfl
theorem idx1 (w : World) : (Instr.index 136 (.agg #[.int .i64 1, .int .i64 0, .int .i64 4, .int .i64 32, .int .i64 8, .int .i64 0]) (.int .i64 1)).run Tryz.prog w = .ok (.agg #[.int .i64 4, .int .i64 32]) w := by kernel_rfl
theorem idx2 (w : World) : (Instr.index 136 (.agg #[.int .i64 1, .int .i64 0, .int .i64 4, .int .i64 32, .int .i64 8, .int .i64 0]) (.int .i64 2)).run Tryz.prog w = .ok (.agg #[.int .i64 8, .int .i64 0]) w := by kernel_rfl

theorem sizeOf_yes (n : Int) (w : World) (hz : SZ w) (hn : n = 1 ∨ n = 4 ∨ n = 8) :
    Calls Tryz.prog 39 #[.int .i64 n] w fun e w' => e = .returned (.tuple #[.agg #[.int .i64 n, .int .i64 (filledOf n)], .bool true]) ∧ Below w.heap.size w w' := by
  obtain ⟨c0, c1, c2, c3, c4, c5, hp⟩ := hz
  have i0 := idx0
  have i1 := idx1
  have i2 := idx2
  go_enter Tryz.func39, Tryz.ntmps39
  go_wp2
  go_loopw [7] (fun i w' => ∃ k : Nat, k ≤ 2 ∧ i = .int .i64 k ∧ (n = 1 → k = 0) ∧ (n = 4 → k ≤ 1) ∧ Below (w.heap.size + 1) (w.alloc (.cells #[.int .i64 0, .int .i64 0] 107)) w') (fun i _ => 3 - (intOf i).toNat)
  case atStart => exact ⟨0, by omega, rfl, by omega, by omega, Below.refl _ _⟩
  case round =>
    obtain ⟨k, hk, rfl, hk1, hk2, hb⟩ := hrel
    obtain ⟨hc, hf⟩ := bcell hb
    have hs : w.heap.size < wr.heap.size := by have := hb.size; simp at this; omega
    have HB : Hid (Below w.heap.size w wr) := ((Below.refl _ _).alloc (Nat.le_refl _) _).trans (hb.mono (by omega))
    rcases hn with rfl | rfl | rfl
    · obtain rfl : k = 0 := hk1 rfl
      clear hk1 hk2
      go_wp2
      exact bodyPost_ret (v := .tuple #[.agg #[.int .i64 1, .int .i64 0], .bool true]) (by simp [results, Tryz.results39, go_sem, hc, hs]) rfl ⟨rfl, ((HB.out.setCell (by simp) _).setCell (by simp) _).alloc (by simp; omega) _⟩
    · obtain rfl | rfl : k = 0 ∨ k = 1 := by have := hk2 rfl; omega
      · go_wp2
        go_roundw
        case rel => exact ⟨1, by omega, rfl, by omega, by omega, hb.alloc (by omega) _⟩
        case measure => simp [intOf]
      · go_wp2
        exact bodyPost_ret (v := .tuple #[.agg #[.int .i64 4, .int .i64 32], .bool true]) (by simp [results, Tryz.results39, go_sem, hc, hs]) rfl ⟨rfl, ((HB.out.setCell (by simp) _).setCell (by simp) _).alloc (by simp; omega) _⟩
    · obtain rfl | rfl | rfl : k = 0 ∨ k = 1 ∨ k = 2 := by omega
      · go_wp2
        go_roundw
        case rel => exact ⟨1, by omega, rfl, by omega, by omega, hb.alloc (by omega) _⟩
        case measure => simp [intOf]
      · go_wp2
        go_roundw
        case rel => exact ⟨2, by omega, rfl, by omega, by omega, hb.alloc (by omega) _⟩
        case measure => simp [intOf]
      · go_wp2
        exact bodyPost_ret (v := .tuple #[.agg #[.int .i64 8, .int .i64 0], .bool true]) (by simp [results, Tryz.results39, go_sem, hc, hs]) rfl ⟨rfl, ((HB.out.setCell (by simp) _).setCell (by simp) _).alloc (by simp; omega) _⟩
theorem sizeOf_no (n : Int) (w : World) (hz : SZ w) (hn : ¬ (n = 1 ∨ n = 4 ∨ n = 8)) :
    Calls Tryz.prog 39 #[.int .i64 n] w fun e w' => e = .returned (.tuple #[.agg #[.int .i64 0, .int .i64 0], .bool false]) ∧ Below w.heap.size w w' := by
  obtain ⟨c0, c1, c2, c3, c4, c5, hp⟩ := hz
  have i0 := idx0
  have i1 := idx1
  have i2 := idx2
  go_enter Tryz.func39, Tryz.ntmps39
  go_wp2
  go_loopw [7] (fun i w' => ∃ k : Nat, k ≤ 3 ∧ i = .int .i64 k ∧ Below (w.heap.size + 1) (w.alloc (.cells #[.int .i64 0, .int .i64 0] 107)) w') (fun i _ => 3 - (intOf i).toNat)
  case atStart => exact ⟨0, by omega, rfl, Below.refl _ _⟩
  case round =>
    obtain ⟨k, hk, rfl, hb⟩ := hrel
    obtain ⟨hc, hf⟩ := bcell hb
    have hs : w.heap.size < wr.heap.size := by have := hb.size; simp at this; omega
    have HB : Hid (Below w.heap.size w wr) := ((Below.refl _ _).alloc (Nat.le_refl _) _).trans (hb.mono (by omega))
    have e1 : ((1 : Int) == n) = false := beq_eq_false_iff_ne.2 (by omega)
    have e4 : ((4 : Int) == n) = false := beq_eq_false_iff_ne.2 (by omega)
    have e8 : ((8 : Int) == n) = false := beq_eq_false_iff_ne.2 (by omega)
    obtain rfl | rfl | rfl | rfl : k = 0 ∨ k = 1 ∨ k = 2 ∨ k = 3 := by omega
    · go_wp2
      go_roundw
      case rel => exact ⟨1, by omega, rfl, hb.alloc (by omega) _⟩
      case measure => simp [intOf]
    · go_wp2
      go_roundw
      case rel => exact ⟨2, by omega, rfl, hb.alloc (by omega) _⟩
      case measure => simp [intOf]
    · go_wp2
      go_roundw
      case rel => exact ⟨3, by omega, rfl, hb.alloc (by omega) _⟩
      case measure => simp [intOf]
    · go_wp2
      exact bodyPost_ret (v := .tuple #[.agg #[.int .i64 0, .int .i64 0], .bool false]) (by simp [results, Tryz.results39, go_sem, hc]) rfl ⟨rfl, (HB.out.setCell (by simp) _).setCell (by simp) _⟩
end Go.Proofs.YtkckobbedpccfaaGreatDoor
