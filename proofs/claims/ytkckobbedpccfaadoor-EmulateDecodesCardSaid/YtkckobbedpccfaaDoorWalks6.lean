/-
  What sizeOf does: its contract, over the table of sizes as it is laid.
-/
import Derived.Test.YtkckobbedpccfaaDoorWalks2
namespace Go.Proofs.YtkckobbedpccfaaDoor
open Go.RowKit
set_option linter.unusedVariables false
structure SZ (w : World) : Prop where
  c0 : w.cell? ⟨0, 0, none⟩ = some (.int .i64 1)
  c1 : w.cell? ⟨0, 1, none⟩ = some (.int .i64 0)
  c2 : w.cell? ⟨0, 2, none⟩ = some (.int .i64 4)
  c3 : w.cell? ⟨0, 3, none⟩ = some (.int .i64 32)
  c4 : w.cell? ⟨0, 4, none⟩ = some (.int .i64 8)
  c5 : w.cell? ⟨0, 5, none⟩ = some (.int .i64 0)
  pos : 0 < w.heap.size

theorem bcell {B : Nat} {W w1 : World} (hb : Below B W w1) : (∀ b o, b < B → w1.cell? ⟨b, o, none⟩ = W.cell? ⟨b, o, none⟩) ∧ (∀ b o, b < B → w1.frozen? ⟨b, o, none⟩ = W.frozen? ⟨b, o, none⟩) :=
  ⟨fun b o h => hb.cell (p := ⟨b, o, none⟩) h, fun b o h => hb.frozen (p := ⟨b, o, none⟩) h⟩

def filledOf (n : Int) : Int := if n = 4 then 32 else 0
theorem idx0 (w : World) : (Instr.index 81 (.agg #[.int .i64 1, .int .i64 0, .int .i64 4, .int .i64 32, .int .i64 8, .int .i64 0]) (.int .i64 0)).run Tryd.prog w = .ok (.agg #[.int .i64 1, .int .i64 0]) w := by kernel_rfl
theorem idx1 (w : World) : (Instr.index 81 (.agg #[.int .i64 1, .int .i64 0, .int .i64 4, .int .i64 32, .int .i64 8, .int .i64 0]) (.int .i64 1)).run Tryd.prog w = .ok (.agg #[.int .i64 4, .int .i64 32]) w := by kernel_rfl
theorem idx2 (w : World) : (Instr.index 81 (.agg #[.int .i64 1, .int .i64 0, .int .i64 4, .int .i64 32, .int .i64 8, .int .i64 0]) (.int .i64 2)).run Tryd.prog w = .ok (.agg #[.int .i64 8, .int .i64 0]) w := by kernel_rfl

theorem sizeOf_yes (n : Int) (w : World) (hz : SZ w) (hn : n = 1 ∨ n = 4 ∨ n = 8) :
    Calls Tryd.prog 28 #[.int .i64 n] w fun e w' => e = .returned (.tuple #[.agg #[.int .i64 n, .int .i64 (filledOf n)], .bool true]) ∧ Below w.heap.size w w' := by
  obtain ⟨c0, c1, c2, c3, c4, c5, hp⟩ := hz
  have i0 := idx0
  have i1 := idx1
  have i2 := idx2
  go_enter Tryd.func28, Tryd.ntmps28
  go_wp2
  go_loopw [7] (fun i w' => ∃ k : Nat, k ≤ 2 ∧ i = .int .i64 k ∧ (n = 1 → k = 0) ∧ (n = 4 → k ≤ 1) ∧ Below (w.heap.size + 1) (w.alloc (.cells #[.int .i64 0, .int .i64 0] 66)) w') (fun i _ => 3 - (intOf i).toNat)
  case atStart => exact ⟨0, by omega, rfl, by omega, by omega, Below.refl _ _⟩
  case round =>
    obtain ⟨k, hk, rfl, hk1, hk2, hb⟩ := hrel
    obtain ⟨hc, hf⟩ := bcell hb
    have hs : w.heap.size < wr.heap.size := by have := hb.size; simp at this; omega
    have HB : Hid (Below w.heap.size w wr) := ((Below.refl _ _).alloc (Nat.le_refl _) _).trans (hb.mono (by omega))
    rcases hn with rfl | rfl | rfl
    · obtain rfl : k = 0 := hk1 rfl
      clear hk1 hk2
      go_wp2
      exact bodyPost_ret (v := .tuple #[.agg #[.int .i64 1, .int .i64 0], .bool true]) (by simp [results, Tryd.results28, go_sem, hc, hs]) rfl ⟨rfl, ((HB.out.setCell (by simp) _).setCell (by simp) _).alloc (by simp; omega) _⟩
    · obtain rfl | rfl : k = 0 ∨ k = 1 := by have := hk2 rfl; omega
      · go_wp2
        go_roundw
        case rel => exact ⟨1, by omega, rfl, by omega, by omega, hb.alloc (by omega) _⟩
        case measure => simp [intOf]
      · go_wp2
        exact bodyPost_ret (v := .tuple #[.agg #[.int .i64 4, .int .i64 32], .bool true]) (by simp [results, Tryd.results28, go_sem, hc, hs]) rfl ⟨rfl, ((HB.out.setCell (by simp) _).setCell (by simp) _).alloc (by simp; omega) _⟩
    · obtain rfl | rfl | rfl : k = 0 ∨ k = 1 ∨ k = 2 := by omega
      · go_wp2
        go_roundw
        case rel => exact ⟨1, by omega, rfl, by omega, by omega, hb.alloc (by omega) _⟩
        case measure => simp [intOf]
      · go_wp2
        go_roundw
        case rel => exact ⟨2, by omega, rfl, by omega, by omega, hb.alloc (by omega) _⟩
        case measure => simp [intOf]
      · go_wp2
        exact bodyPost_ret (v := .tuple #[.agg #[.int .i64 8, .int .i64 0], .bool true]) (by simp [results, Tryd.results28, go_sem, hc, hs]) rfl ⟨rfl, ((HB.out.setCell (by simp) _).setCell (by simp) _).alloc (by simp; omega) _⟩
theorem sizeOf_no (n : Int) (w : World) (hz : SZ w) (hn : ¬ (n = 1 ∨ n = 4 ∨ n = 8)) :
    Calls Tryd.prog 28 #[.int .i64 n] w fun e w' => e = .returned (.tuple #[.agg #[.int .i64 0, .int .i64 0], .bool false]) ∧ Below w.heap.size w w' := by
  obtain ⟨c0, c1, c2, c3, c4, c5, hp⟩ := hz
  have i0 := idx0
  have i1 := idx1
  have i2 := idx2
  go_enter Tryd.func28, Tryd.ntmps28
  go_wp2
  go_loopw [7] (fun i w' => ∃ k : Nat, k ≤ 3 ∧ i = .int .i64 k ∧ Below (w.heap.size + 1) (w.alloc (.cells #[.int .i64 0, .int .i64 0] 66)) w') (fun i _ => 3 - (intOf i).toNat)
  case atStart => exact ⟨0, by omega, rfl, Below.refl _ _⟩
  case round =>
    obtain ⟨k, hk, rfl, hb⟩ := hrel
    obtain ⟨hc, hf⟩ := bcell hb
    have hs : w.heap.size < wr.heap.size := by have := hb.size; simp at this; omega
    have HB : Hid (Below w.heap.size w wr) := ((Below.refl _ _).alloc (Nat.le_refl _) _).trans (hb.mono (by omega))
    have e1 : ((1 : Int) == n) = false := beq_eq_false_iff_ne.2 (by omega)
    have e4 : ((4 : Int) == n) = false := beq_eq_false_iff_ne.2 (by omega)
    have e8 : ((8 : Int) == n) = false := beq_eq_false_iff_ne.2 (by omega)
    obtain rfl | rfl | rfl | rfl : k = 0 ∨ k = 1 ∨ k = 2 ∨ k = 3 := by omega
    · go_wp2
      go_roundw
      case rel => exact ⟨1, by omega, rfl, hb.alloc (by omega) _⟩
      case measure => simp [intOf]
    · go_wp2
      go_roundw
      case rel => exact ⟨2, by omega, rfl, hb.alloc (by omega) _⟩
      case measure => simp [intOf]
    · go_wp2
      go_roundw
      case rel => exact ⟨3, by omega, rfl, hb.alloc (by omega) _⟩
      case measure => simp [intOf]
    · go_wp2
      exact bodyPost_ret (v := .tuple #[.agg #[.int .i64 0, .int .i64 0], .bool false]) (by simp [results, Tryd.results28, go_sem, hc]) rfl ⟨rfl, (HB.out.setCell (by simp) _).setCell (by simp) _⟩
end Go.Proofs.YtkckobbedpccfaaDoor
