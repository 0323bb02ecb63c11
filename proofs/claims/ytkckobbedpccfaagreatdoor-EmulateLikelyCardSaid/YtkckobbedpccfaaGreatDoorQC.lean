/-
  What Load does, the program's and the document's: their contracts.
  What Store does, the program's and the document's: their contracts.
  What the document's Load and Store do: their contracts.
  What the document's Store does: its contract.
-/
import Derived.Test.YtkckobbedpccfaaGreatDoorQB
import Derived.Test.YtkckobbedpccfaaGreatDoorQA
namespace Go.Proofs.YtkckobbedpccfaaGreatDoor
open Go.RowKit
set_option linter.unusedVariables false

theorem ret_ib {k : IntKind} {a b : Int} {c d : Bool} (h : a = b) (g : c = d) : Ending.returned (.tuple #[.int k a, .bool c]) = .returned (.tuple #[.int k b, .bool d]) := by rw [h, g]

theorem ext_any (n f : Nat) (v : Int) (hn : (n : Int) = 1 ∨ (n : Int) = 4 ∨ (n : Int) = 8) (hf : filledOf n = f) (h0 : 0 ≤ v) (h1 : v < 2 ^ (8 * n)) : shiftW 2 (IntKind.u64.wrap (v * 2 ^ f)) f = extW n v := by
  have hn' : n = 1 ∨ n = 4 ∨ n = 8 := by omega
  rcases hn' with rfl | rfl | rfl
  · obtain rfl : f = 0 := by simp [filledOf] at hf; omega
    rw [show ((0 : Nat) : Int) = 0 from rfl, ext_shift v h0 (by omega)]; simp [extW]
  · obtain rfl : f = 32 := by simp [filledOf] at hf; omega
    exact ext_shift4 v h0 (by omega)
  · obtain rfl : f = 0 := by simp [filledOf] at hf; omega
    rw [show ((0 : Nat) : Int) = 0 from rfl, ext_shift v h0 (by omega)]; simp [extW]

theorem wrap_range (x : Int) : 0 ≤ IntKind.u64.wrap x ∧ IntKind.u64.wrap x < 18446744073709551616 := by rw [IntKind.wrap_u64]; omega
theorem filled_le (n : Int) : ∃ f : Nat, filledOf n = f ∧ f ≤ 32 := by
  unfold filledOf
  split
  · exact ⟨32, rfl, by decide⟩
  · exact ⟨0, rfl, by decide⟩

theorem load_yes (b off len cap T N : Nat) (zs : List Int) (w : World) (hz : SZ w) (hN : (N : Int) = 1 ∨ (N : Int) = 4 ∨ (N : Int) = 8) (hT : T + N ≤ len) (hl : len ≤ maxLen) (hb : b < w.heap.size)
    (hc : ∀ i, i < len → w.cell? ⟨b, off + i, none⟩ = some (.int .u8 (zs.getD i 0))) (hB : Bytes zs) :
    Calls Tryz.prog 21 #[.slice (some ⟨b, off, none⟩) len cap, .int .i64 T, .int .i64 N] w fun e w' => e = .returned (.tuple #[.int .u64 (extW N (leFrom zs T N)), .bool true]) ∧ Below w.heap.size w w' := by
  unfold maxLen at hl
  obtain ⟨f, hf, hf32⟩ := filled_le N
  have HE : Hid (shiftW 2 (IntKind.u64.wrap (leFrom zs T N * 2 ^ f)) f = extW N (leFrom zs T N)) := ext_any N f _ hN hf (leFrom_bound zs hB N T).1 (leFrom_bound zs hB N T).2
  go_enter Tryz.func21, Tryz.ntmps21
  go_wp2_with fail
  refine (sizeOf_yes _ _ hz hN).mono ?_
  rintro e w1 ⟨rfl, hb1⟩
  rw [hf]
  clear hf
  obtain ⟨hcc, hff⟩ := bcell hb1
  have hs1 := hb1.size
  have hbw : b < w1.heap.size := by omega
  go_wp2_with fail
  refine (within_yes _ _ _ (by omega) (by omega) _).mono ?_
  rintro e w2 ⟨rfl, rfl⟩
  go_wp2_with fail
  go_loop [10, 32] (fun v i => ∃ k : Nat, k ≤ N ∧ i = .int .i64 k ∧ v = .int .u64 (leFrom zs T k)) (fun _ i => N - (intOf i).toNat)
  case atStart => exact ⟨0, by omega, rfl, rfl⟩
  case round =>
    obtain ⟨k, hk, rfl, rfl⟩ := hrel
    by_cases hlt : k < N
    · have hcx := hc (T + k) (by omega)
      have hz1 := hB (T + k)
      have hb2 := leFrom_bound zs hB k T
      have HS : Hid (leFrom zs T (k + 1) = bits .or .u64 (leFrom zs T k) (IntKind.u64.wrap (zs.getD (T + k) 0 * 2 ^ (8 * k)))) := by
        show _ = _
        rw [or_byte _ _ k (by omega) hb2.1 hb2.2 hz1.1 hz1.2, leFrom_snoc]
      generalize zs.getD (T + k) 0 = z at *
      generalize leFrom zs T k = v at *
      clear hb2
      go_wp2
      go_round
      case rel => exact ⟨k + 1, by omega, by go_num, by rw [HS.out]⟩
      case measure => simp [intOf]; omega
    · obtain rfl : k = N := by omega
      have hr := wrap_range (leFrom zs T k * 2 ^ f)
      clear hc
      go_wp2_with fail
      refine (shift_any _ _ _ (by omega) (by omega) (by omega) (by omega) _).mono ?_
      rintro e w2 ⟨rfl, rfl⟩
      go_wp2_with fail
      go_ret2
      exact ⟨ret_ib HE.out rfl, hb1.alloc (by omega) _⟩

theorem load_no_width (v : Value) (t n : Int) (w : World) (hz : SZ w) (hn : ¬ (n = 1 ∨ n = 4 ∨ n = 8)) :
    Calls Tryz.prog 21 #[v, .int .i64 t, .int .i64 n] w fun e w' => e = .returned (.tuple #[.int .u64 0, .bool false]) ∧ Below w.heap.size w w' := by
  go_enter Tryz.func21, Tryz.ntmps21
  go_wp2_with fail
  refine (sizeOf_no _ _ hz hn).mono ?_
  rintro e w1 ⟨rfl, hb1⟩
  have hs1 := hb1.size
  go_wp2_with fail
  go_ret2
  exact ⟨rfl, hb1.alloc (by omega) _⟩
theorem load_no_place (a : Option Addr) (len cap : Nat) (t n : Int) (w : World) (hz : SZ w) (hn : n = 1 ∨ n = 4 ∨ n = 8) (hl : len ≤ maxLen) (ht : ¬ (0 ≤ t ∧ t ≤ (len : Int) - n)) :
    Calls Tryz.prog 21 #[.slice a len cap, .int .i64 t, .int .i64 n] w fun e w' => e = .returned (.tuple #[.int .u64 0, .bool false]) ∧ Below w.heap.size w w' := by
  unfold maxLen at hl
  have hd : Hid (decide (0 ≤ t ∧ t ≤ (len : Int) - n) = false) := decide_eq_false ht
  go_enter Tryz.func21, Tryz.ntmps21
  go_wp2_with fail
  refine (sizeOf_yes _ _ hz hn).mono ?_
  rintro e w1 ⟨rfl, hb1⟩
  have hs1 := hb1.size
  clear ht
  go_wp2_with fail
  refine (within_any _ _ _ _).mono ?_
  rintro e w2 ⟨rfl, rfl⟩
  rw [hd.out]
  go_wp2_with fail
  go_ret2
  exact ⟨rfl, hb1.alloc (by omega) _⟩
end Go.Proofs.YtkckobbedpccfaaGreatDoor
namespace Go.Proofs.YtkckobbedpccfaaGreatDoor
open Go.RowKit
set_option linter.unusedVariables false

theorem Tryz.info5 : (Tryz.prog.info? 5).map (fun i => (i.zero, i.size, i.bytes)) = some (some (.int .u8 0), 1, 1) := by kernel_rfl

/-- the bytes as far as they are stored -/
def storeTo (v : Int) (n k : Nat) : List Int := (List.range n).map fun i => if i < k then byteAt v i else 0
theorem storeTo_all (v : Int) (n : Nat) : storeTo v n n = bytesOf v n := by
  unfold storeTo bytesOf
  apply List.map_congr_left
  intro i hi
  rw [if_pos (List.mem_range.1 hi)]
theorem storeTo_set (v : Int) (n k : Nat) (h : k < n) : ((storeTo v n k).map (Value.int .u8)).set k (.int .u8 (byteAt v k)) = (storeTo v n (k + 1)).map (Value.int .u8) := by
  apply List.ext_getElem (by simp [storeTo])
  intro i h1 h2
  simp only [storeTo, List.length_set, List.length_map, List.length_range] at h1
  rw [List.getElem_set]
  by_cases e : k = i
  · subst e; simp [storeTo]
  · rw [if_neg e]
    simp only [storeTo, List.getElem_map, List.getElem_range]
    by_cases e1 : i < k
    · rw [if_pos e1, if_pos (by omega)]
    · rw [if_neg e1, if_neg (by omega)]
theorem made_zero (n : Nat) (v : Int) : (madeCells (Value.int .u8 0).cells (n * 1)).toList = (storeTo v n 0).map (Value.int .u8) := by
  apply List.ext_getElem (by simp [storeTo, madeCells])
  intro i h1 h2
  simp [storeTo, madeCells, Value.cells, Nat.mod_one]

theorem store_yes (v : Int) (N : Nat) (w : World) (hz : SZ w) (hN : (N : Int) = 1 ∨ (N : Int) = 4 ∨ (N : Int) = 8) (h0 : 0 ≤ v) (h1 : v < 18446744073709551616) :
    Calls Tryz.prog 18 #[.int .u64 v, .int .i64 N] w fun e w' => ∃ g, e = .returned (.slice (some ⟨g, 0, none⟩) N N) ∧ w'.ownsRow w.heap.size 5 1 (.slice (some ⟨g, 0, none⟩) N N) N ((bytesOf v N).map (Value.int .u8)) ∧ Below w.heap.size w w' := by
  obtain ⟨i0, hi, hz0, hz1, hz2⟩ := info_parts Tryz.info5
  go_enter Tryz.func18, Tryz.ntmps18
  go_wp2_with fail
  refine (sizeOf_yes _ _ hz hN).mono ?_
  rintro e w1 ⟨rfl, hb1⟩
  have hs1 := hb1.size
  have hN8 : N ≤ 8 := by omega
  generalize filledOf N = fl
  go_wp2_with (at_make; refine wpList_make_full _ rfl _ _ 72 rfl w.heap.size 5 i0 (.int .u8 0) 1 Tryz.underlying72 hi hz0 hz1 _ _ _ _ N rfl rfl rfl rfl (by rw [hz2]; omega) (by unfold maxLen; omega) (by simp; omega) ?_; intro w2 hown2 hgrow2)
  have hb2 : Below w.heap.size w w2 := (hb1.alloc hs1 _).grown hgrow2 (by simp; omega) (by intro k h; cases h)
  rw [made_zero N v, show (w1.alloc (Obj.cells #[Value.int .i64 N, Value.int .i64 fl] 107)).heap.size = w1.heap.size + 1 by simp] at hown2
  clear hgrow2 hb1
  generalize w1.heap.size = s1 at *
  go_loopw [21] (fun i wr => ∃ k : Nat, k ≤ N ∧ i = .int .i64 k ∧ wr.ownsRow w.heap.size 5 1 (.slice (some ⟨s1 + 1, 0, none⟩) N N) N ((storeTo v N k).map (Value.int .u8)) ∧ Below w.heap.size w wr) (fun i _ => N - (intOf i).toNat)
  case atStart => exact ⟨0, by omega, rfl, hown2, hb2⟩
  case round =>
    obtain ⟨k, hk, rfl, hown, hb⟩ := hrel
    by_cases hlt : k < N
    · have hca : wr.cell? ⟨s1 + 1, k, none⟩ = some (.int .u8 ((storeTo v N k).getD k 0)) := by
        rw [hown.cellAt k (by omega)]
        simp [storeTo, hlt]
      have hfa := hown.frozenAt k
      have HO : Hid ((wr.setCell ⟨s1 + 1, k, none⟩ (.int .u8 (byteAt v k))).ownsRow w.heap.size 5 1 (.slice (some ⟨s1 + 1, 0, none⟩) N N) N ((storeTo v N (k + 1)).map (Value.int .u8))) := by
        have := (hown.stored k (.int .u8 (byteAt v k))).1
        rw [storeTo_set v N k hlt] at this
        exact this
      have HB : Hid (Below w.heap.size w (wr.setCell ⟨s1 + 1, k, none⟩ (.int .u8 (byteAt v k)))) := hb.setCell (by simp; omega) _
      have hq := Int.ediv_nonneg (b := 2 ^ (8 * k)) h0 (Int.le_of_lt (pow_pos' _))
      have HY : Hid (v / 2 ^ (8 * k) % 256 = byteAt v k) := rfl
      clear hown hb hown2 hb2
      go_wp2
      go_roundw
      case rel => exact ⟨k + 1, by omega, by go_num, HO.out, HB.out⟩
      case measure => simp [intOf]; omega
    · obtain rfl : k = N := by omega
      go_wp2
      go_ret
      exact ⟨_, rfl, by rw [← storeTo_all]; exact hown, hb⟩
theorem store_no (v n : Int) (w : World) (hz : SZ w) (hn : ¬ (n = 1 ∨ n = 4 ∨ n = 8)) :
    Calls Tryz.prog 18 #[.int .u64 v, .int .i64 n] w fun e w' => e = .returned (.slice none 0 0) ∧ Below w.heap.size w w' := by
  go_enter Tryz.func18, Tryz.ntmps18
  go_wp2_with fail
  refine (sizeOf_no _ _ hz hn).mono ?_
  rintro e w1 ⟨rfl, hb1⟩
  have hs1 := hb1.size
  go_wp2_with fail
  go_ret
  exact ⟨rfl, hb1.alloc (by omega) _⟩
end Go.Proofs.YtkckobbedpccfaaGreatDoor
namespace Go.Proofs.YtkckobbedpccfaaGreatDoor
open Go.RowKit
set_option linter.unusedVariables false

theorem rload_no_width (v : Value) (t n : Int) (w : World) (hn : ¬ (n = 1 ∨ n = 4 ∨ n = 8)) :
    Calls Tryz.prog 213 #[v, .int .i64 t, .int .i64 n] w fun e w' => e = .returned (.tuple #[.int .u64 0, .bool false]) ∧ w' = w := by
  have e1 : (n != 1) = true := by rw [bne_iff_ne]; omega
  have e4 : (n != 4) = true := by rw [bne_iff_ne]; omega
  have e8 : (n != 8) = true := by rw [bne_iff_ne]; omega
  go_enter Tryz.func213, Tryz.ntmps213
  go_wp2
  go_ret2
  exact ⟨rfl, rfl⟩
theorem rload_no_place (a : Option Addr) (len cap : Nat) (t n : Int) (w : World) (hn : n = 1 ∨ n = 4 ∨ n = 8) (hl : len ≤ maxLen) (ht : ¬ (0 ≤ t ∧ t ≤ (len : Int) - n)) :
    Calls Tryz.prog 213 #[.slice a len cap, .int .i64 t, .int .i64 n] w fun e w' => e = .returned (.tuple #[.int .u64 0, .bool false]) ∧ w' = w := by
  unfold maxLen at hl
  by_cases h0 : t < 0
  · rcases hn with rfl | rfl | rfl
    all_goals
      go_enter Tryz.func213, Tryz.ntmps213
      go_wp2
      go_ret2
      exact ⟨rfl, rfl⟩
  · have h1 : (len : Int) - n < t := by omega
    rcases hn with rfl | rfl | rfl
    all_goals
      go_enter Tryz.func213, Tryz.ntmps213
      go_wp2
      go_ret2
      exact ⟨rfl, rfl⟩

theorem rload_yes (b off len cap T N : Nat) (zs : List Int) (w : World) (hN : (N : Int) = 1 ∨ (N : Int) = 4 ∨ (N : Int) = 8) (hT : T + N ≤ len) (hl : len ≤ maxLen) (hb : b < w.heap.size)
    (hc : ∀ i, i < len → w.cell? ⟨b, off + i, none⟩ = some (.int .u8 (zs.getD i 0))) (hB : Bytes zs) :
    Calls Tryz.prog 213 #[.slice (some ⟨b, off, none⟩) len cap, .int .i64 T, .int .i64 N] w fun e w' => e = .returned (.tuple #[.int .u64 (extW N (leFrom zs T N)), .bool true]) ∧ w' = w := by
  unfold maxLen at hl
  have hN8 : N ≤ 8 := by omega
  have hbnd := leFrom_bound zs hB N T
  have hN' : N = 1 ∨ N = 4 ∨ N = 8 := by omega
  clear hN
  rcases hN' with rfl | rfl | rfl
  · go_enter Tryz.func213, Tryz.ntmps213
    go_wp2
    go_loop [8, 9] (fun v i => ∃ k : Nat, k ≤ 1 ∧ i = .int .i64 ((k : Int) - 1) ∧ v = .int .u64 (leFrom zs (T + k) (1 - k))) (fun _ i => (1 + intOf i).toNat)
    case atStart => exact ⟨1, by omega, rfl, by simp [leFrom]⟩
    case round =>
      obtain ⟨k, hk, rfl, rfl⟩ := hrel
      by_cases hlt : 1 ≤ k
      · obtain ⟨m, rfl⟩ : ∃ m, k = m + 1 := ⟨k - 1, by omega⟩
        have hcx := hc (T + m) (by omega)
        have hz1 := hB (T + m)
        have hb2 := leFrom_bound zs hB (1 - (m + 1)) (T + (m + 1))
        have hp : (2 : Int) ^ (8 * (1 - (m + 1))) ≤ 2 ^ 56 := pow_le' (by omega)
        have hb3 : leFrom zs (T + (m + 1)) (1 - (m + 1)) < 72057594037927936 := by omega
        have HS : Hid (leFrom zs (T + m) (1 - m) = leFrom zs (T + (m + 1)) (1 - (m + 1)) * 256 + zs.getD (T + m) 0) := by
          show _ = _
          rw [show 1 - m = 1 - (m + 1) + 1 by omega, leFrom, Nat.add_assoc]; omega
        have hb4 := hb2.1
        clear hp hb2
        generalize zs.getD (T + m) 0 = z at *
        generalize leFrom zs (T + (m + 1)) (1 - (m + 1)) = v at *
        go_wp2
        go_round
        case rel => exact ⟨m, by omega, by go_num, by rw [HS.out]⟩
        case measure => simp [intOf]; omega
      · obtain rfl : k = 0 := by omega
        have hv0 := hbnd.1
        have hv1 : leFrom zs T 1 < 18446744073709551616 := by have := hbnd.2; omega
        go_wp2
        go_ret2
        exact ⟨ret_ib (by simp [extW]) rfl, rfl⟩
  · go_enter Tryz.func213, Tryz.ntmps213
    go_wp2
    go_loop [8, 9] (fun v i => ∃ k : Nat, k ≤ 4 ∧ i = .int .i64 ((k : Int) - 1) ∧ v = .int .u64 (leFrom zs (T + k) (4 - k))) (fun _ i => (1 + intOf i).toNat)
    case atStart => exact ⟨4, by omega, rfl, by simp [leFrom]⟩
    case round =>
      obtain ⟨k, hk, rfl, rfl⟩ := hrel
      by_cases hlt : 1 ≤ k
      · obtain ⟨m, rfl⟩ : ∃ m, k = m + 1 := ⟨k - 1, by omega⟩
        have hcx := hc (T + m) (by omega)
        have hz1 := hB (T + m)
        have hb2 := leFrom_bound zs hB (4 - (m + 1)) (T + (m + 1))
        have hp : (2 : Int) ^ (8 * (4 - (m + 1))) ≤ 2 ^ 56 := pow_le' (by omega)
        have hb3 : leFrom zs (T + (m + 1)) (4 - (m + 1)) < 72057594037927936 := by omega
        have HS : Hid (leFrom zs (T + m) (4 - m) = leFrom zs (T + (m + 1)) (4 - (m + 1)) * 256 + zs.getD (T + m) 0) := by
          show _ = _
          rw [show 4 - m = 4 - (m + 1) + 1 by omega, leFrom, Nat.add_assoc]; omega
        have hb4 := hb2.1
        clear hp hb2
        generalize zs.getD (T + m) 0 = z at *
        generalize leFrom zs (T + (m + 1)) (4 - (m + 1)) = v at *
        go_wp2
        go_round
        case rel => exact ⟨m, by omega, by go_num, by rw [HS.out]⟩
        case measure => simp [intOf]; omega
      · obtain rfl : k = 0 := by omega
        have hv0 := hbnd.1
        have hv1 : leFrom zs T 4 < 18446744073709551616 := by have := hbnd.2; omega
        have hv2 : leFrom zs T 4 < 4294967296 := by have := hbnd.2; omega
        by_cases hs : leFrom zs T 4 < 2147483648
        · have HE : Hid (extW 4 (leFrom zs T 4) = leFrom zs T 4) := by show _ = _; simp [extW]; omega
          go_wp2
          go_ret2
          exact ⟨ret_ib HE.out.symm rfl, rfl⟩
        · have HE : Hid (extW 4 (leFrom zs T 4) = leFrom zs T 4 + 18446744069414584320) := by show _ = _; rw [extW, if_pos (by omega)]
          go_wp2
          go_ret2
          exact ⟨ret_ib HE.out.symm rfl, rfl⟩
  · go_enter Tryz.func213, Tryz.ntmps213
    go_wp2
    go_loop [8, 9] (fun v i => ∃ k : Nat, k ≤ 8 ∧ i = .int .i64 ((k : Int) - 1) ∧ v = .int .u64 (leFrom zs (T + k) (8 - k))) (fun _ i => (1 + intOf i).toNat)
    case atStart => exact ⟨8, by omega, rfl, by simp [leFrom]⟩
    case round =>
      obtain ⟨k, hk, rfl, rfl⟩ := hrel
      by_cases hlt : 1 ≤ k
      · obtain ⟨m, rfl⟩ : ∃ m, k = m + 1 := ⟨k - 1, by omega⟩
        have hcx := hc (T + m) (by omega)
        have hz1 := hB (T + m)
        have hb2 := leFrom_bound zs hB (8 - (m + 1)) (T + (m + 1))
        have hp : (2 : Int) ^ (8 * (8 - (m + 1))) ≤ 2 ^ 56 := pow_le' (by omega)
        have hb3 : leFrom zs (T + (m + 1)) (8 - (m + 1)) < 72057594037927936 := by omega
        have HS : Hid (leFrom zs (T + m) (8 - m) = leFrom zs (T + (m + 1)) (8 - (m + 1)) * 256 + zs.getD (T + m) 0) := by
          show _ = _
          rw [show 8 - m = 8 - (m + 1) + 1 by omega, leFrom, Nat.add_assoc]; omega
        have hb4 := hb2.1
        clear hp hb2
        generalize zs.getD (T + m) 0 = z at *
        generalize leFrom zs (T + (m + 1)) (8 - (m + 1)) = v at *
        go_wp2
        go_round
        case rel => exact ⟨m, by omega, by go_num, by rw [HS.out]⟩
        case measure => simp [intOf]; omega
      · obtain rfl : k = 0 := by omega
        have hv0 := hbnd.1
        have hv1 : leFrom zs T 8 < 18446744073709551616 := by have := hbnd.2; omega
        go_wp2
        go_ret2
        exact ⟨ret_ib (by simp [extW]) rfl, rfl⟩

theorem row_form {w : World} {base size n : Nat} {e : TypeId} {v : Value} {xs : List Value} (h : w.ownsRow base e size v n xs) (hn : 0 < n) : ∃ g cap, v = .slice (some ⟨g, 0, none⟩) n cap := by
  rcases h.2 with ⟨_, h0⟩ | ⟨g, cap, cur, rfl, _⟩
  · omega
  · exact ⟨g, cap, rfl⟩
theorem bytesOf_snoc (v : Int) (k : Nat) : (bytesOf v (k + 1)).map (Value.int .u8) = (bytesOf v k).map (Value.int .u8) ++ [.int .u8 (byteAt v k)] := by
  simp [bytesOf, List.range_succ]
theorem bytesOf_len (v : Int) (k : Nat) : (bytesOf v k).length = k := by simp [bytesOf]

theorem rstore_no (v n : Int) (w : World) (hn : ¬ (n = 1 ∨ n = 4 ∨ n = 8)) :
    Calls Tryz.prog 57 #[.int .u64 v, .int .i64 n] w fun e w' => e = .returned (.slice none 0 0) ∧ w' = w := by
  have e1 : (n != 1) = true := by rw [bne_iff_ne]; omega
  have e4 : (n != 4) = true := by rw [bne_iff_ne]; omega
  have e8 : (n != 8) = true := by rw [bne_iff_ne]; omega
  go_enter Tryz.func57, Tryz.ntmps57
  go_wp2
  go_ret
  exact ⟨rfl, rfl⟩
end Go.Proofs.YtkckobbedpccfaaGreatDoor
namespace Go.Proofs.YtkckobbedpccfaaGreatDoor
open Go.RowKit
set_option linter.unusedVariables false
set_option maxRecDepth 4000
theorem one_new (w : World) (v : Value) (t : TypeId) : ∀ j u, [v][j]? = some u → (w.alloc (.cells #[v] t)).cell? ((⟨w.heap.size, 0, none⟩ : Addr).add j) = some u := by
  intro j u hj
  match j, hj with
  | 0, hj => simp at hj; subst hj; simp [Addr.add]
theorem rstore_yes (v : Int) (N : Nat) (w : World) (hN : (N : Int) = 1 ∨ (N : Int) = 4 ∨ (N : Int) = 8) (h0 : 0 ≤ v) (h1 : v < 18446744073709551616) :
    Calls Tryz.prog 57 #[.int .u64 v, .int .i64 N] w fun e w' => ∃ g cap, e = .returned (.slice (some ⟨g, 0, none⟩) N cap) ∧ w'.ownsRow w.heap.size 5 1 (.slice (some ⟨g, 0, none⟩) N cap) N ((bytesOf v N).map (Value.int .u8)) ∧ Below w.heap.size w w' := by
  obtain ⟨i0, hi, hz0, hz1, hz2⟩ := info_parts Tryz.info5
  have hN' : N = 1 ∨ N = 4 ∨ N = 8 := by omega
  clear hN
  rcases hN' with rfl | rfl | rfl
  · rw [show ((1 : Nat) : Int) = 1 from rfl]
    go_enter Tryz.func57, Tryz.ntmps57
    go_wp2
    go_loopw [5, 6] (fun sv i wr => ∃ k : Nat, k ≤ 1 ∧ i = .int .i64 k ∧ wr.ownsRow w.heap.size 5 1 sv k ((bytesOf v k).map (Value.int .u8)) ∧ Below w.heap.size w wr) (fun _ i _ => 1 - (intOf i).toNat)
    case atStart => exact ⟨0, by omega, rfl, World.ownsRow_nil _ _ _ _, Below.refl _ _⟩
    case round =>
      obtain ⟨k, hk, rfl, hown, hb⟩ := hrel
      have hsz := hb.size
      by_cases hlt : k < 1
      · have hq := Int.ediv_nonneg (b := 2 ^ (8 * k)) h0 (Int.le_of_lt (pow_pos' _))
        go_wp2_with (at_builtin; refine wpList_append_own _ rfl _ _ 72 rfl w.heap.size 5 i0 (.int .u8 0) 1 1 Tryz.underlying72 hi hz0 hz1 hz2 rfl (by decide) _ _ _ rfl (hown.alloc _) ⟨wr.heap.size, 0, none⟩ 1 1 [.int .u8 (v / 2 ^ (8 * k) % 256)] rfl rfl (one_new _ _ _) (by intro u hu; simp at hu; subst hu; rfl) (by unfold maxLen; omega) (by omega) (by simp; omega) ?_; intro v1 w1 hown1 hgrow1 hnil1)
        have hb1 : Below w.heap.size w w1 := (hb.alloc hsz _).grown hgrow1 (by simp; omega) (fun g hg => (hown.lt g hg).1)
        have hown2 : w1.ownsRow w.heap.size 5 1 v1 (k + 1) ((bytesOf v (k + 1)).map (Value.int .u8)) := by rw [bytesOf_snoc]; exact hown1
        go_roundw
        case rel => exact ⟨k + 1, by omega, by go_num, hown2, hb1⟩
        case measure => simp [intOf]; omega
      · obtain rfl : k = 1 := by omega
        obtain ⟨g, cap, rfl⟩ := row_form hown (by decide)
        go_wp2
        go_ret
        exact ⟨g, cap, rfl, hown, hb⟩
  · rw [show ((4 : Nat) : Int) = 4 from rfl]
    go_enter Tryz.func57, Tryz.ntmps57
    go_wp2
    go_loopw [5, 6] (fun sv i wr => ∃ k : Nat, k ≤ 4 ∧ i = .int .i64 k ∧ wr.ownsRow w.heap.size 5 1 sv k ((bytesOf v k).map (Value.int .u8)) ∧ Below w.heap.size w wr) (fun _ i _ => 4 - (intOf i).toNat)
    case atStart => exact ⟨0, by omega, rfl, World.ownsRow_nil _ _ _ _, Below.refl _ _⟩
    case round =>
      obtain ⟨k, hk, rfl, hown, hb⟩ := hrel
      have hsz := hb.size
      by_cases hlt : k < 4
      · have hq := Int.ediv_nonneg (b := 2 ^ (8 * k)) h0 (Int.le_of_lt (pow_pos' _))
        go_wp2_with (at_builtin; refine wpList_append_own _ rfl _ _ 72 rfl w.heap.size 5 i0 (.int .u8 0) 1 1 Tryz.underlying72 hi hz0 hz1 hz2 rfl (by decide) _ _ _ rfl (hown.alloc _) ⟨wr.heap.size, 0, none⟩ 1 1 [.int .u8 (v / 2 ^ (8 * k) % 256)] rfl rfl (one_new _ _ _) (by intro u hu; simp at hu; subst hu; rfl) (by unfold maxLen; omega) (by omega) (by simp; omega) ?_; intro v1 w1 hown1 hgrow1 hnil1)
        have hb1 : Below w.heap.size w w1 := (hb.alloc hsz _).grown hgrow1 (by simp; omega) (fun g hg => (hown.lt g hg).1)
        have hown2 : w1.ownsRow w.heap.size 5 1 v1 (k + 1) ((bytesOf v (k + 1)).map (Value.int .u8)) := by rw [bytesOf_snoc]; exact hown1
        go_roundw
        case rel => exact ⟨k + 1, by omega, by go_num, hown2, hb1⟩
        case measure => simp [intOf]; omega
      · obtain rfl : k = 4 := by omega
        obtain ⟨g, cap, rfl⟩ := row_form hown (by decide)
        go_wp2
        go_ret
        exact ⟨g, cap, rfl, hown, hb⟩
  · rw [show ((8 : Nat) : Int) = 8 from rfl]
    go_enter Tryz.func57, Tryz.ntmps57
    go_wp2
    go_loopw [5, 6] (fun sv i wr => ∃ k : Nat, k ≤ 8 ∧ i = .int .i64 k ∧ wr.ownsRow w.heap.size 5 1 sv k ((bytesOf v k).map (Value.int .u8)) ∧ Below w.heap.size w wr) (fun _ i _ => 8 - (intOf i).toNat)
    case atStart => exact ⟨0, by omega, rfl, World.ownsRow_nil _ _ _ _, Below.refl _ _⟩
    case round =>
      obtain ⟨k, hk, rfl, hown, hb⟩ := hrel
      have hsz := hb.size
      by_cases hlt : k < 8
      · have hq := Int.ediv_nonneg (b := 2 ^ (8 * k)) h0 (Int.le_of_lt (pow_pos' _))
        go_wp2_with (at_builtin; refine wpList_append_own _ rfl _ _ 72 rfl w.heap.size 5 i0 (.int .u8 0) 1 1 Tryz.underlying72 hi hz0 hz1 hz2 rfl (by decide) _ _ _ rfl (hown.alloc _) ⟨wr.heap.size, 0, none⟩ 1 1 [.int .u8 (v / 2 ^ (8 * k) % 256)] rfl rfl (one_new _ _ _) (by intro u hu; simp at hu; subst hu; rfl) (by unfold maxLen; omega) (by omega) (by simp; omega) ?_; intro v1 w1 hown1 hgrow1 hnil1)
        have hb1 : Below w.heap.size w w1 := (hb.alloc hsz _).grown hgrow1 (by simp; omega) (fun g hg => (hown.lt g hg).1)
        have hown2 : w1.ownsRow w.heap.size 5 1 v1 (k + 1) ((bytesOf v (k + 1)).map (Value.int .u8)) := by rw [bytesOf_snoc]; exact hown1
        go_roundw
        case rel => exact ⟨k + 1, by omega, by go_num, hown2, hb1⟩
        case measure => simp [intOf]; omega
      · obtain rfl : k = 8 := by omega
        obtain ⟨g, cap, rfl⟩ := row_form hown (by decide)
        go_wp2
        go_ret
        exact ⟨g, cap, rfl, hown, hb⟩
end Go.Proofs.YtkckobbedpccfaaGreatDoor
