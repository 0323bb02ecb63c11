/-
  The walk of ConsoleRoom.
-/
import Derived.Test.YtbncgmjjkoedhaaRd
import Derived.Test.YtbncgmjjkoedhaaIns
namespace Go.Proofs.Ytbncgmjjkoedhaa.consoleRoom
open Go.RowKit
set_option linter.unusedVariables false
set_option maxRecDepth 20000
theorem sl_zeros {w x : World} {g n : Nat} (h : x.heap[g]? = some (.cells ((List.replicate n (0 : Int)).map (Value.int .u8)).toArray 5 (0, 0))) : SL x (some ⟨g, 0, none⟩) n (List.replicate n 0) :=
  ⟨by simp, bytes_zeros n, .inr ⟨g, 0, rfl, lt_of_heap h, fun i hi => by rw [Nat.zero_add, cell_at h]; simp [hi]⟩⟩
theorem reck (T K M n : Nat) (d1 : Int) (hn : n ≤ 8191) (hT : T = min n 4096) (hK : K ≤ T) (hM : M = 4096 - (T - K)) (hd : d1 = (n : Int) - (T : Int)) :
    wrap64 (wrap64 (0 + (K : Int)) + ((T - K + M : Nat) : Int)) = (T : Int) + M ∧ wrap64 (d1 + (((5000 : Nat) : Int) - (M : Int))) = (n : Int) - T + 5000 - M ∧ wrap64 (0 + (K : Int)) = K := by
  have e : wrap64 (0 + (K : Int)) = K := by rw [Int.zero_add]; exact wrap_small (by omega) (by omega)
  rw [e]
  refine ⟨?_, ?_, rfl⟩
  · rw [wrap_small (by omega) (by omega)]; omega
  · rw [wrap_small (by omega) (by omega)]; omega
set_option maxHeartbeats 1600000 in
theorem walk (a b : Int) (w : World) : Calls Try.prog 6 #[.int .i64 a, .int .i64 b] w fun r w' => r = .returned (.bool true) ∧ Below w.heap.size w w' := by
  obtain ⟨n, hn, en⟩ := and_low a 8191 8191 rfl (by decide)
  obtain ⟨k, hk, ek⟩ := and_low b 8191 8191 rfl (by decide)
  have HN : Hid (_) := new_cx w
  go_enter Try.func6, Try.ntmps6
  go_wp2_with fail
  refine Calls.mono HN.out ?_
  rintro e x ⟨rfl, hC, hb, _⟩
  have hmk := run_make_bytes n (by omega) x
  have bA : Below x.heap.size x (x.alloc (.cells ((List.replicate n (0 : Int)).map (Value.int .u8)).toArray 5)) := (Below.refl _ _).alloc (Nat.le_refl _) _
  have hC1 := hC.below bA
  have hs1 := sl_zeros (w := w) (heap_alloc_at x (.cells ((List.replicate n (0 : Int)).map (Value.int .u8)).toArray 5))
  have hB1 := hb.trans (bA.mono hb.size)
  obtain ⟨x1, hx1⟩ : ∃ x1, x1 = x.alloc (.cells ((List.replicate n (0 : Int)).map (Value.int .u8)).toArray 5) := ⟨_, rfl⟩
  rw [← hx1] at hmk hC1 hs1 hB1
  have I1 := input_cx (cap := n) hC1 hs1 (by intro e; cases e) (Nat.le_refl _) (by omega)
  obtain ⟨T, hT⟩ : ∃ T, tkn (4096 - ([] : List Int).length) n = T := ⟨_, rfl⟩
  rw [hT] at I1
  have hT' : T = min n 4096 := by rw [← hT]; simp [tkn]
  have HI : Hid (_) := I1
  have HB : Hid (Below w.heap.size w x1) := hB1
  clear I1 hT hs1 hC1 hC bA hx1 HN hB1 hb
  rename_i hsz
  clear hsz
  go_wp2_with fail
  refine Calls.mono HI.out ?_
  rintro e y ⟨rfl, hY, hty⟩
  clear HI
  have hTn : T ≤ n := by omega
  obtain ⟨W1, hW1⟩ : ∃ W1, ([] : List Int) ++ List.take T (List.replicate n 0) = W1 := ⟨_, rfl⟩
  rw [hW1] at hY
  have hl1 : W1.length = T := by rw [← hW1]; simp; omega
  obtain ⟨d1, hd1⟩ : ∃ d1 : Int, wrap64 (0 + ((n : Int) - (T : Int))) = d1 := ⟨_, rfl⟩
  rw [hd1] at hY
  have hd1' : d1 = (n : Int) - (T : Int) := by rw [← hd1]; exact (by unfold wrap64; omega)
  have R1 := read_cx hY k (by omega)
  obtain ⟨K, hK⟩ : ∃ K, rk W1 k = K := ⟨_, rfl⟩
  rw [hK] at R1
  have hK' : K = min k T := by rw [← hK]; simp [rk, hl1]
  have HR : Hid (_) := R1
  have HB1 : Hid (Below w.heap.size w y) := HB.out.trans (hty.below (fun q hq => Nat.le_of_not_lt hq) HB.out.size)
  clear HB R1 hY hty hW1 hd1 hK
  have HL : Hid (W1.length = T ∧ d1 = (n : Int) - (T : Int)) := ⟨hl1, hd1'⟩
  clear hl1 hd1'
  rcases (by omega : (n ≤ 4096 ∧ T = n) ∨ (4096 < n ∧ T = 4096)) with ⟨h4, h5⟩ | ⟨h4, h5⟩
  case' inl =>
    have h6 : (T : Int) = (n : Int) := by omega
    have h7 : (n : Int) ≤ 4096 := by omega
  case' inr =>
    have h6 : (T : Int) = 4096 := by omega
    have h7 : (4096 : Int) < (n : Int) := by omega
  all_goals
    have HT : Hid (T = min n 4096 ∧ K = min k T) := ⟨hT', hK'⟩
    clear h5 h4 hT' hK' hTn
    go_wp2_with fail
    refine Calls.mono HR.out ?_
    rintro e z ⟨ra, rc, rfl, hsl, hZ, htz⟩
    clear HR
    have bA : Below z.heap.size z (z.alloc (.cells ((List.replicate 5000 (0 : Int)).map (Value.int .u8)).toArray 5)) := (Below.refl _ _).alloc (Nat.le_refl _) _
    have hZ1 := hZ.below bA
    have hs2 := sl_zeros (w := w) (heap_alloc_at z (.cells ((List.replicate 5000 (0 : Int)).map (Value.int .u8)).toArray 5))
    have hmk2 := run_make_bytes 5000 (by omega) z
    have hB2 : Below w.heap.size w z := HB1.out.trans (htz.below (fun q hq => Nat.le_of_not_lt hq) HB1.out.size)
    have hB3 := hB2.trans (bA.mono hB2.size)
    obtain ⟨z1, hz1⟩ : ∃ z1, z1 = z.alloc (.cells ((List.replicate 5000 (0 : Int)).map (Value.int .u8)).toArray 5) := ⟨_, rfl⟩
    rw [← hz1] at hmk2 hZ1 hs2 hB3
    rw [show ((5000 : Nat) : Int) = 5000 from rfl] at hmk2
    have I2 := input_cx (cap := 5000) hZ1 hs2 (by intro e; cases e) (Nat.le_refl _) (by omega)
    obtain ⟨M, hM⟩ : ∃ M, tkn (4096 - (W1.drop K).length) 5000 = M := ⟨_, rfl⟩
    rw [hM] at I2
    have hM' : M = 4096 - (T - K) := by rw [← hM]; simp only [tkn, List.length_drop, HL.out.1]; omega
    have HI : Hid (_) := I2
    have HB2 : Hid (Below w.heap.size w z1) := hB3
    have HM : Hid (M = 4096 - (T - K)) := hM'
    clear I2 hM hM' hs2 hZ1 hZ bA hz1 hB3 hB2 htz hsl HB1
    rcases (by have := HT.out; omega : (k ≤ T ∧ K = k) ∨ (T < k ∧ K = T)) with ⟨h8, h9⟩ | ⟨h8, h9⟩
    case' inl =>
      have hA : (K : Int) = (k : Int) := by omega
      have hA' : (k : Int) ≤ (T : Int) := by omega
    case' inr =>
      have hA : (K : Int) = (T : Int) := by omega
      have hA' : (T : Int) < (k : Int) := by omega
    all_goals
      clear h8 h9
      go_wp2_with fail
      refine Calls.mono HI.out ?_
      rintro e u ⟨rfl, hU, htu⟩
      clear HI
      have C1 := counts_cx hU
      have hB4 : Hid (Below w.heap.size w u) := HB2.out.trans (htu.below (fun q hq => Nat.le_of_not_lt hq) HB2.out.size)
      obtain ⟨A, B, R, hV, eA, eB, eR⟩ : ∃ A B R : Int, cntV (W1.drop K ++ (List.replicate 5000 (0 : Int)).take M) [] (wrap64 (d1 + (((5000 : Nat) : Int) - (M : Int)))) (wrap64 (0 + (K : Int))) = .agg #[.int .i64 A, .int .i64 B, .int .i64 R, .int .i64 0] ∧ A = (T : Int) + M ∧ B = (n : Int) - T + 5000 - M ∧ R = K := by
        have hl : (W1.drop K ++ (List.replicate 5000 (0 : Int)).take M).length = T - K + M := by have := HL.out.1; have := HM.out; have := HT.out; simp; omega
        obtain ⟨q1, q2, q3⟩ := reck T K M n d1 hn HT.out.1 (by have := HT.out; omega) HM.out HL.out.2
        refine ⟨_, _, _, rfl, ?_, q2, q3⟩
        rw [hl]
        exact q1
      rw [hV] at C1
      have HC : Hid (_) := C1
      have hM1 : (M : Int) = 4096 - (T : Int) + (K : Int) := by have := HM.out; have := HT.out; omega
      clear C1 hU htu hV HB2
      go_wp2_with fail
      refine Calls.mono HC.out ?_
      rintro e v ⟨rfl, hbv⟩
      have HV : Hid (Below w.heap.size w v) := hB4.out.trans (hbv.mono hB4.out.size)
      clear HC hbv
      go_wp2_with fail
      go_ret
      exact ⟨rfl, HV.out.alloc HV.out.size _⟩
end Go.Proofs.Ytbncgmjjkoedhaa.consoleRoom
