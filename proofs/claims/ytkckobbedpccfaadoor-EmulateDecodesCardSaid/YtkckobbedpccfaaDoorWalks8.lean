/-
  What Store does, the program's and the document's: their contracts.
-/
import Derived.Test.YtkckobbedpccfaaDoorWalks7
namespace Go.Proofs.YtkckobbedpccfaaDoor
open Go.RowKit
set_option linter.unusedVariables false

theorem Tryd.info5 : (Tryd.prog.info? 5).map (fun i => (i.zero, i.size, i.bytes)) = some (some (.int .u8 0), 1, 1) := by kernel_rfl

/-- the bytes as far as they are stored -/
def storeTo (v : Int) (n k : Nat) : List Int := (List.range n).map fun i => if i < k then byteAt v i else 0
theorem storeTo_all (v : Int) (n : Nat) : storeTo v n n = bytesOf v n := by
  unfold storeTo bytesOf
  apply List.map_congr_left
  intro i hi
  rw [if_pos (List.mem_range.1 hi)]
theorem storeTo_set (v : Int) (n k : Nat) (h : k < n) : ((storeTo v n k).map (Value.int .u8)).set k (.int .u8 (byteAt v k)) = (storeTo v n (k + 1)).map (Value.int .u8) := by
  apply List.ext_getElem (by simp [storeTo])
  intro i h1 h2
  simp only [storeTo, List.length_set, List.length_map, List.length_range] at h1
  rw [List.getElem_set]
  by_cases e : k = i
  · subst e; simp [storeTo]
  · rw [if_neg e]
    simp only [storeTo, List.getElem_map, List.getElem_range]
    by_cases e1 : i < k
    · rw [if_pos e1, if_pos (by omega)]
    · rw [if_neg e1, if_neg (by omega)]
theorem made_zero (n : Nat) (v : Int) : (madeCells (Value.int .u8 0).cells (n * 1)).toList = (storeTo v n 0).map (Value.int .u8) := by
  apply List.ext_getElem (by simp [storeTo, madeCells])
  intro i h1 h2
  simp [storeTo, madeCells, Value.cells, Nat.mod_one]

theorem store_yes (v : Int) (N : Nat) (w : World) (hz : SZ w) (hN : (N : Int) = 1 ∨ (N : Int) = 4 ∨ (N : Int) = 8) (h0 : 0 ≤ v) (h1 : v < 18446744073709551616) :
    Calls Tryd.prog 16 #[.int .u64 v, .int .i64 N] w fun e w' => ∃ g, e = .returned (.slice (some ⟨g, 0, none⟩) N N) ∧ w'.ownsRow w.heap.size 5 1 (.slice (some ⟨g, 0, none⟩) N N) N ((bytesOf v N).map (Value.int .u8)) ∧ Below w.heap.size w w' := by
  obtain ⟨i0, hi, hz0, hz1, hz2⟩ := info_parts Tryd.info5
  go_enter Tryd.func16, Tryd.ntmps16
  go_wp2_with fail
  refine (sizeOf_yes _ _ hz hN).mono ?_
  rintro e w1 ⟨rfl, hb1⟩
  have hs1 := hb1.size
  have hN8 : N ≤ 8 := by omega
  generalize filledOf N = fl
  go_wp2_with (at_make; refine wpList_make_full _ rfl _ _ 54 rfl w.heap.size 5 i0 (.int .u8 0) 1 Tryd.underlying54 hi hz0 hz1 _ _ _ _ N rfl rfl rfl rfl (by rw [hz2]; omega) (by unfold maxLen; omega) (by simp; omega) ?_; intro w2 hown2 hgrow2)
  have hb2 : Below w.heap.size w w2 := (hb1.alloc hs1 _).grown hgrow2 (by simp; omega) (by intro k h; cases h)
  rw [made_zero N v, show (w1.alloc (Obj.cells #[Value.int .i64 N, Value.int .i64 fl] 66)).heap.size = w1.heap.size + 1 by simp] at hown2
  clear hgrow2 hb1
  generalize w1.heap.size = s1 at *
  go_loopw [21] (fun i wr => ∃ k : Nat, k ≤ N ∧ i = .int .i64 k ∧ wr.ownsRow w.heap.size 5 1 (.slice (some ⟨s1 + 1, 0, none⟩) N N) N ((storeTo v N k).map (Value.int .u8)) ∧ Below w.heap.size w wr) (fun i _ => N - (intOf i).toNat)
  case atStart => exact ⟨0, by omega, rfl, hown2, hb2⟩
  case round =>
    obtain ⟨k, hk, rfl, hown, hb⟩ := hrel
    by_cases hlt : k < N
    · have hca : wr.cell? ⟨s1 + 1, k, none⟩ = some (.int .u8 ((storeTo v N k).getD k 0)) := by
        rw [hown.cellAt k (by omega)]
        simp [storeTo, hlt]
      have hfa := hown.frozenAt k
      have HO : Hid ((wr.setCell ⟨s1 + 1, k, none⟩ (.int .u8 (byteAt v k))).ownsRow w.heap.size 5 1 (.slice (some ⟨s1 + 1, 0, none⟩) N N) N ((storeTo v N (k + 1)).map (Value.int .u8))) := by
        have := (hown.stored k (.int .u8 (byteAt v k))).1
        rw [storeTo_set v N k hlt] at this
        exact this
      have HB : Hid (Below w.heap.size w (wr.setCell ⟨s1 + 1, k, none⟩ (.int .u8 (byteAt v k)))) := hb.setCell (by simp; omega) _
      have hq := Int.ediv_nonneg (b := 2 ^ (8 * k)) h0 (Int.le_of_lt (pow_pos' _))
      have HY : Hid (v / 2 ^ (8 * k) % 256 = byteAt v k) := rfl
      clear hown hb hown2 hb2
      go_wp2
      go_roundw
      case rel => exact ⟨k + 1, by omega, by go_num, HO.out, HB.out⟩
      case measure => simp [intOf]; omega
    · obtain rfl : k = N := by omega
      go_wp2
      go_ret
      exact ⟨_, rfl, by rw [← storeTo_all]; exact hown, hb⟩
theorem store_no (v n : Int) (w : World) (hz : SZ w) (hn : ¬ (n = 1 ∨ n = 4 ∨ n = 8)) :
    Calls Tryd.prog 16 #[.int .u64 v, .int .i64 n] w fun e w' => e = .returned (.slice none 0 0) ∧ Below w.heap.size w w' := by
  go_enter Tryd.func16, Tryd.ntmps16
  go_wp2_with fail
  refine (sizeOf_no _ _ hz hn).mono ?_
  rintro e w1 ⟨rfl, hb1⟩
  have hs1 := hb1.size
  go_wp2_with fail
  go_ret
  exact ⟨rfl, hb1.alloc (by omega) _⟩
end Go.Proofs.YtkckobbedpccfaaDoor
