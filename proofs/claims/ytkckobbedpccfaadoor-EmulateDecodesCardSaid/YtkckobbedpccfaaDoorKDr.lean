/-
  The document's Decode: its contract.
-/
import Derived.Test.YtkckobbedpccfaaDoorKDd
namespace Go.Proofs.YtkckobbedpccfaaDoor.K
open Go.RowKit Go.Maps
set_option linter.unusedVariables false
set_option maxRecDepth 100000
set_option maxHeartbeats 1600000 in
theorem rdec_bad (a : Int) (X : Nat → Int) (pc m er : Int) (he : er ≠ 0) (C1 : ∀ w, Calls Tryd.prog 14 #[.int .u32 a] w fun e w' => e = .returned (.tuple #[.agg #[.int .i64 0, .int .i64 0, .int .i64 0, .int .i64 0, .int .i64 0], .int .i64 er]) ∧ Below w.heap.size w w') (w : World) :
    Calls Tryd.prog 6 #[.int .u32 a, .agg (regC X pc m)] w fun e w' => e = .returned (.tuple #[.agg (accA false 0 0 0), .int .i64 10]) ∧ Below w.heap.size w w' := by
  have e0 : (er == 0) = false := beq_false_of_ne he
  obtain ⟨x, hx⟩ : ∃ x, (w.alloc (.cells (regC X pc m) 26)).alloc (.cells (accA false 0 0 0) 32) = x := ⟨_, rfl⟩
  obtain ⟨b0, a0, a1, zx⟩ := two_at hx
  have HA0 : Hid (_) := a0
  have HA1 : Hid (_) := a1
  have HB0 : Hid (_) := b0
  clear a0 a1 b0 zx
  unfold accA at hx
  go_enter Tryd.func6, Tryd.ntmps6
  go_wp2_with fail
  clear hx
  refine (C1 _).mono ?_
  rintro e y ⟨rfl, b1⟩
  have bx : Below y.heap.size y (y.alloc (.cells #[.int .i64 0, .int .i64 0, .int .i64 0, .int .i64 0, .int .i64 0] 41)) := below_box y (.cells #[.int .i64 0, .int .i64 0, .int .i64 0, .int .i64 0, .int .i64 0] 41)
  have HD0 : Hid ((y.alloc (.cells #[.int .i64 0, .int .i64 0, .int .i64 0, .int .i64 0, .int .i64 0] 41)).heap[w.heap.size]? = some (.cells (regC X pc m) 26 (0, 0))) := keepB (keepB HA0.out b1) bx
  have HS : Hid ((y.alloc (.cells #[.int .i64 0, .int .i64 0, .int .i64 0, .int .i64 0, .int .i64 0] 41)).heap[w.heap.size + 1]? = some (.cells (accA false 0 0 0) 32 (0, 0))) := keepB (keepB HA1.out b1) bx
  have HE : Hid (Below w.heap.size w (y.alloc (.cells #[.int .i64 0, .int .i64 0, .int .i64 0, .int .i64 0, .int .i64 0] 41))) := (HB0.out.trans (b1.mono HB0.out.size)).trans (bx.mono (Nat.le_trans HB0.out.size b1.size))
  clear C1 b1 bx HA0 HA1 HB0
  go_wp2_with (first
    | (refine wpList_store_row rfl 32 _ _ rfl (w.heap.size + 1) (accA false 0 0 0) rfl rfl 32 (accA false 0 0 0) HS.out inf32 rfl (acc_one _ _ _ _) ?_)
    | fail)
  refine bodyPost_ret (v := _) (results_cell_row2 Tryd.results6 _ _ _ _ _ _ _ rfl (setRow_heap _ _ _ _ _ _ HS.out) Tryd.underlying32 rfl inf32) rfl ⟨rfl, HE.out.trans (below_setRow' _ _ (by omega) _)⟩
set_option maxHeartbeats 1600000 in
theorem rdec_out (a op rd rs1 imm : Int) (k : Nat) (X : Nat → Int) (pc m : Int) (ho : op < 23 ∨ 28 < op) (C1 : ∀ w, Calls Tryd.prog 14 #[.int .u32 a] w fun e w' => e = .returned (.tuple #[.agg #[.int .i64 op, .int .i64 rd, .int .i64 rs1, .int .i64 k, .int .i64 imm], .int .i64 0]) ∧ Below w.heap.size w w') (w : World) :
    Calls Tryd.prog 6 #[.int .u32 a, .agg (regC X pc m)] w fun e w' => e = .returned (.tuple #[.agg (accA false 0 0 0), .int .i64 10]) ∧ Below w.heap.size w w' := by
  obtain ⟨x, hx⟩ : ∃ x, (w.alloc (.cells (regC X pc m) 26)).alloc (.cells (accA false 0 0 0) 32) = x := ⟨_, rfl⟩
  obtain ⟨b0, a0, a1, zx⟩ := two_at hx
  have HA0 : Hid (_) := a0
  have HA1 : Hid (_) := a1
  have HB0 : Hid (_) := b0
  clear a0 a1 b0 zx
  unfold accA at hx
  go_enter Tryd.func6, Tryd.ntmps6
  go_wp2_with fail
  clear hx
  refine (C1 _).mono ?_
  rintro e y ⟨rfl, b1⟩
  have bx : Below y.heap.size y (y.alloc (.cells #[.int .i64 op, .int .i64 rd, .int .i64 rs1, .int .i64 k, .int .i64 imm] 41)) := below_box y (.cells #[.int .i64 op, .int .i64 rd, .int .i64 rs1, .int .i64 k, .int .i64 imm] 41)
  have HD0 : Hid ((y.alloc (.cells #[.int .i64 op, .int .i64 rd, .int .i64 rs1, .int .i64 k, .int .i64 imm] 41)).heap[w.heap.size]? = some (.cells (regC X pc m) 26 (0, 0))) := keepB (keepB HA0.out b1) bx
  have HS : Hid ((y.alloc (.cells #[.int .i64 op, .int .i64 rd, .int .i64 rs1, .int .i64 k, .int .i64 imm] 41)).heap[w.heap.size + 1]? = some (.cells (accA false 0 0 0) 32 (0, 0))) := keepB (keepB HA1.out b1) bx
  have HE : Hid (Below w.heap.size w (y.alloc (.cells #[.int .i64 op, .int .i64 rd, .int .i64 rs1, .int .i64 k, .int .i64 imm] 41))) := (HB0.out.trans (b1.mono HB0.out.size)).trans (bx.mono (Nat.le_trans HB0.out.size b1.size))
  clear C1 b1 bx HA0 HA1 HB0
  rcases ho with ho | ho
  · have h0 := ho
    go_wp2_with (first
      | (refine wpList_store_row rfl 32 _ _ rfl (w.heap.size + 1) (accA false 0 0 0) rfl rfl 32 (accA false 0 0 0) HS.out inf32 rfl (acc_one _ _ _ _) ?_)
      | fail)
    refine bodyPost_ret (v := _) (results_cell_row2 Tryd.results6 _ _ _ _ _ _ _ rfl (setRow_heap _ _ _ _ _ _ HS.out) Tryd.underlying32 rfl inf32) rfl ⟨rfl, HE.out.trans (below_setRow' _ _ (by omega) _)⟩
  · have h0 : ¬ op < 23 := by omega
    go_wp2_with (first
      | (refine wpList_store_row rfl 32 _ _ rfl (w.heap.size + 1) (accA false 0 0 0) rfl rfl 32 (accA false 0 0 0) HS.out inf32 rfl (acc_one _ _ _ _) ?_)
      | fail)
    refine bodyPost_ret (v := _) (results_cell_row2 Tryd.results6 _ _ _ _ _ _ _ rfl (setRow_heap _ _ _ _ _ _ HS.out) Tryd.underlying32 rfl inf32) rfl ⟨rfl, HE.out.trans (below_setRow' _ _ (by omega) _)⟩
set_option maxHeartbeats 1600000 in
theorem rdec_23 (a rd rs1 imm : Int) (k : Nat) (X : Nat → Int) (pc m : Int) (C1 : ∀ w, Calls Tryd.prog 14 #[.int .u32 a] w fun e w' => e = .returned (.tuple #[.agg #[.int .i64 23, .int .i64 rd, .int .i64 rs1, .int .i64 k, .int .i64 imm], .int .i64 0]) ∧ Below w.heap.size w w') (w : World) :
    Calls Tryd.prog 6 #[.int .u32 a, .agg (regC X pc m)] w fun e w' => e = .returned (.tuple #[.agg (accA false 8 rd 0), .int .i64 0]) ∧ Below w.heap.size w w' := by
  obtain ⟨x, hx⟩ : ∃ x, (w.alloc (.cells (regC X pc m) 26)).alloc (.cells (accA false 0 0 0) 32) = x := ⟨_, rfl⟩
  obtain ⟨b0, a0, a1, zx⟩ := two_at hx
  have HA0 : Hid (_) := a0
  have HA1 : Hid (_) := a1
  have HB0 : Hid (_) := b0
  clear a0 a1 b0 zx
  unfold accA at hx
  go_enter Tryd.func6, Tryd.ntmps6
  go_wp2_with fail
  clear hx
  refine (C1 _).mono ?_
  rintro e y ⟨rfl, b1⟩
  have bx : Below y.heap.size y ((y.alloc (.cells #[.int .i64 23, .int .i64 rd, .int .i64 rs1, .int .i64 k, .int .i64 imm] 41)).alloc (.cells #[.int .i64 8, .int .i64 4, .int .i64 1] 3)) := (below_box y (.cells #[.int .i64 23, .int .i64 rd, .int .i64 rs1, .int .i64 k, .int .i64 imm] 41)).trans ((below_box (y.alloc (.cells #[.int .i64 23, .int .i64 rd, .int .i64 rs1, .int .i64 k, .int .i64 imm] 41)) (.cells #[.int .i64 8, .int .i64 4, .int .i64 1] 3)).mono (by simp))
  have HD0 : Hid (((y.alloc (.cells #[.int .i64 23, .int .i64 rd, .int .i64 rs1, .int .i64 k, .int .i64 imm] 41)).alloc (.cells #[.int .i64 8, .int .i64 4, .int .i64 1] 3)).heap[w.heap.size]? = some (.cells (regC X pc m) 26 (0, 0))) := keepB (keepB HA0.out b1) bx
  have HS : Hid (((y.alloc (.cells #[.int .i64 23, .int .i64 rd, .int .i64 rs1, .int .i64 k, .int .i64 imm] 41)).alloc (.cells #[.int .i64 8, .int .i64 4, .int .i64 1] 3)).heap[w.heap.size + 1]? = some (.cells (accA false 0 0 0) 32 (0, 0))) := keepB (keepB HA1.out b1) bx
  have HE : Hid (Below w.heap.size w ((y.alloc (.cells #[.int .i64 23, .int .i64 rd, .int .i64 rs1, .int .i64 k, .int .i64 imm] 41)).alloc (.cells #[.int .i64 8, .int .i64 4, .int .i64 1] 3))) := (HB0.out.trans (b1.mono HB0.out.size)).trans (bx.mono (Nat.le_trans HB0.out.size b1.size))
  clear C1 b1 bx HA0 HA1 HB0
  go_wp2_with (first
    | (refine wpList_store_row rfl 32 _ _ rfl (w.heap.size + 1) (accA false 8 rd 0) rfl rfl 32 (accA false 0 0 0) HS.out inf32 rfl (acc_one _ _ _ _) ?_)
    | fail)
  refine bodyPost_ret (v := _) (results_cell_row2 Tryd.results6 _ _ _ _ _ _ _ rfl (setRow_heap _ _ _ _ _ _ HS.out) Tryd.underlying32 rfl inf32) rfl ⟨rfl, HE.out.trans (below_setRow' _ _ (by omega) _)⟩
set_option maxHeartbeats 1600000 in
theorem rdec_24 (a rd rs1 imm : Int) (k : Nat) (X : Nat → Int) (pc m : Int) (C1 : ∀ w, Calls Tryd.prog 14 #[.int .u32 a] w fun e w' => e = .returned (.tuple #[.agg #[.int .i64 24, .int .i64 rd, .int .i64 rs1, .int .i64 k, .int .i64 imm], .int .i64 0]) ∧ Below w.heap.size w w') (w : World) :
    Calls Tryd.prog 6 #[.int .u32 a, .agg (regC X pc m)] w fun e w' => e = .returned (.tuple #[.agg (accA false 4 rd 0), .int .i64 0]) ∧ Below w.heap.size w w' := by
  obtain ⟨x, hx⟩ : ∃ x, (w.alloc (.cells (regC X pc m) 26)).alloc (.cells (accA false 0 0 0) 32) = x := ⟨_, rfl⟩
  obtain ⟨b0, a0, a1, zx⟩ := two_at hx
  have HA0 : Hid (_) := a0
  have HA1 : Hid (_) := a1
  have HB0 : Hid (_) := b0
  clear a0 a1 b0 zx
  unfold accA at hx
  go_enter Tryd.func6, Tryd.ntmps6
  go_wp2_with fail
  clear hx
  refine (C1 _).mono ?_
  rintro e y ⟨rfl, b1⟩
  have bx : Below y.heap.size y ((y.alloc (.cells #[.int .i64 24, .int .i64 rd, .int .i64 rs1, .int .i64 k, .int .i64 imm] 41)).alloc (.cells #[.int .i64 8, .int .i64 4, .int .i64 1] 3)) := (below_box y (.cells #[.int .i64 24, .int .i64 rd, .int .i64 rs1, .int .i64 k, .int .i64 imm] 41)).trans ((below_box (y.alloc (.cells #[.int .i64 24, .int .i64 rd, .int .i64 rs1, .int .i64 k, .int .i64 imm] 41)) (.cells #[.int .i64 8, .int .i64 4, .int .i64 1] 3)).mono (by simp))
  have HD0 : Hid (((y.alloc (.cells #[.int .i64 24, .int .i64 rd, .int .i64 rs1, .int .i64 k, .int .i64 imm] 41)).alloc (.cells #[.int .i64 8, .int .i64 4, .int .i64 1] 3)).heap[w.heap.size]? = some (.cells (regC X pc m) 26 (0, 0))) := keepB (keepB HA0.out b1) bx
  have HS : Hid (((y.alloc (.cells #[.int .i64 24, .int .i64 rd, .int .i64 rs1, .int .i64 k, .int .i64 imm] 41)).alloc (.cells #[.int .i64 8, .int .i64 4, .int .i64 1] 3)).heap[w.heap.size + 1]? = some (.cells (accA false 0 0 0) 32 (0, 0))) := keepB (keepB HA1.out b1) bx
  have HE : Hid (Below w.heap.size w ((y.alloc (.cells #[.int .i64 24, .int .i64 rd, .int .i64 rs1, .int .i64 k, .int .i64 imm] 41)).alloc (.cells #[.int .i64 8, .int .i64 4, .int .i64 1] 3))) := (HB0.out.trans (b1.mono HB0.out.size)).trans (bx.mono (Nat.le_trans HB0.out.size b1.size))
  clear C1 b1 bx HA0 HA1 HB0
  go_wp2_with (first
    | (refine wpList_store_row rfl 32 _ _ rfl (w.heap.size + 1) (accA false 4 rd 0) rfl rfl 32 (accA false 0 0 0) HS.out inf32 rfl (acc_one _ _ _ _) ?_)
    | fail)
  refine bodyPost_ret (v := _) (results_cell_row2 Tryd.results6 _ _ _ _ _ _ _ rfl (setRow_heap _ _ _ _ _ _ HS.out) Tryd.underlying32 rfl inf32) rfl ⟨rfl, HE.out.trans (below_setRow' _ _ (by omega) _)⟩
set_option maxHeartbeats 1600000 in
theorem rdec_25 (a rd rs1 imm : Int) (k : Nat) (X : Nat → Int) (pc m : Int) (C1 : ∀ w, Calls Tryd.prog 14 #[.int .u32 a] w fun e w' => e = .returned (.tuple #[.agg #[.int .i64 25, .int .i64 rd, .int .i64 rs1, .int .i64 k, .int .i64 imm], .int .i64 0]) ∧ Below w.heap.size w w') (w : World) :
    Calls Tryd.prog 6 #[.int .u32 a, .agg (regC X pc m)] w fun e w' => e = .returned (.tuple #[.agg (accA false 1 rd 0), .int .i64 0]) ∧ Below w.heap.size w w' := by
  obtain ⟨x, hx⟩ : ∃ x, (w.alloc (.cells (regC X pc m) 26)).alloc (.cells (accA false 0 0 0) 32) = x := ⟨_, rfl⟩
  obtain ⟨b0, a0, a1, zx⟩ := two_at hx
  have HA0 : Hid (_) := a0
  have HA1 : Hid (_) := a1
  have HB0 : Hid (_) := b0
  clear a0 a1 b0 zx
  unfold accA at hx
  go_enter Tryd.func6, Tryd.ntmps6
  go_wp2_with fail
  clear hx
  refine (C1 _).mono ?_
  rintro e y ⟨rfl, b1⟩
  have bx : Below y.heap.size y ((y.alloc (.cells #[.int .i64 25, .int .i64 rd, .int .i64 rs1, .int .i64 k, .int .i64 imm] 41)).alloc (.cells #[.int .i64 8, .int .i64 4, .int .i64 1] 3)) := (below_box y (.cells #[.int .i64 25, .int .i64 rd, .int .i64 rs1, .int .i64 k, .int .i64 imm] 41)).trans ((below_box (y.alloc (.cells #[.int .i64 25, .int .i64 rd, .int .i64 rs1, .int .i64 k, .int .i64 imm] 41)) (.cells #[.int .i64 8, .int .i64 4, .int .i64 1] 3)).mono (by simp))
  have HD0 : Hid (((y.alloc (.cells #[.int .i64 25, .int .i64 rd, .int .i64 rs1, .int .i64 k, .int .i64 imm] 41)).alloc (.cells #[.int .i64 8, .int .i64 4, .int .i64 1] 3)).heap[w.heap.size]? = some (.cells (regC X pc m) 26 (0, 0))) := keepB (keepB HA0.out b1) bx
  have HS : Hid (((y.alloc (.cells #[.int .i64 25, .int .i64 rd, .int .i64 rs1, .int .i64 k, .int .i64 imm] 41)).alloc (.cells #[.int .i64 8, .int .i64 4, .int .i64 1] 3)).heap[w.heap.size + 1]? = some (.cells (accA false 0 0 0) 32 (0, 0))) := keepB (keepB HA1.out b1) bx
  have HE : Hid (Below w.heap.size w ((y.alloc (.cells #[.int .i64 25, .int .i64 rd, .int .i64 rs1, .int .i64 k, .int .i64 imm] 41)).alloc (.cells #[.int .i64 8, .int .i64 4, .int .i64 1] 3))) := (HB0.out.trans (b1.mono HB0.out.size)).trans (bx.mono (Nat.le_trans HB0.out.size b1.size))
  clear C1 b1 bx HA0 HA1 HB0
  go_wp2_with (first
    | (refine wpList_store_row rfl 32 _ _ rfl (w.heap.size + 1) (accA false 1 rd 0) rfl rfl 32 (accA false 0 0 0) HS.out inf32 rfl (acc_one _ _ _ _) ?_)
    | fail)
  refine bodyPost_ret (v := _) (results_cell_row2 Tryd.results6 _ _ _ _ _ _ _ rfl (setRow_heap _ _ _ _ _ _ HS.out) Tryd.underlying32 rfl inf32) rfl ⟨rfl, HE.out.trans (below_setRow' _ _ (by omega) _)⟩
set_option maxHeartbeats 1600000 in
theorem rdec_26 (a rd rs1 imm : Int) (k : Nat) (hk : k ≤ 15) (X : Nat → Int) (hX : ∀ n, n < 16 → U (X n)) (pc m : Int) (C1 : ∀ w, Calls Tryd.prog 14 #[.int .u32 a] w fun e w' => e = .returned (.tuple #[.agg #[.int .i64 26, .int .i64 rd, .int .i64 rs1, .int .i64 k, .int .i64 imm], .int .i64 0]) ∧ Below w.heap.size w w') (w : World) :
    Calls Tryd.prog 6 #[.int .u32 a, .agg (regC X pc m)] w fun e w' => e = .returned (.tuple #[.agg (accA true 8 k (storedP X k 8)), .int .i64 0]) ∧ Below w.heap.size w w' := by
  obtain ⟨sv, hsv⟩ : ∃ sv, storedP X k 8 = sv := ⟨_, rfl⟩
  rw [hsv]
  obtain ⟨x, hx⟩ : ∃ x, (w.alloc (.cells (regC X pc m) 26)).alloc (.cells (accA false 0 0 0) 32) = x := ⟨_, rfl⟩
  obtain ⟨b0, a0, a1, zx⟩ := two_at hx
  have HA0 : Hid (_) := a0
  have HA1 : Hid (_) := a1
  have HB0 : Hid (_) := b0
  clear a0 a1 b0 zx
  unfold accA at hx
  go_enter Tryd.func6, Tryd.ntmps6
  go_wp2_with fail
  clear hx
  refine (C1 _).mono ?_
  rintro e y ⟨rfl, b1⟩
  have bx : Below y.heap.size y ((y.alloc (.cells #[.int .i64 26, .int .i64 rd, .int .i64 rs1, .int .i64 k, .int .i64 imm] 41)).alloc (.cells #[.int .i64 8, .int .i64 4, .int .i64 1] 3)) := (below_box y (.cells #[.int .i64 26, .int .i64 rd, .int .i64 rs1, .int .i64 k, .int .i64 imm] 41)).trans ((below_box (y.alloc (.cells #[.int .i64 26, .int .i64 rd, .int .i64 rs1, .int .i64 k, .int .i64 imm] 41)) (.cells #[.int .i64 8, .int .i64 4, .int .i64 1] 3)).mono (by simp))
  have HD0 : Hid (((y.alloc (.cells #[.int .i64 26, .int .i64 rd, .int .i64 rs1, .int .i64 k, .int .i64 imm] 41)).alloc (.cells #[.int .i64 8, .int .i64 4, .int .i64 1] 3)).heap[w.heap.size]? = some (.cells (regC X pc m) 26 (0, 0))) := keepB (keepB HA0.out b1) bx
  have HS : Hid (((y.alloc (.cells #[.int .i64 26, .int .i64 rd, .int .i64 rs1, .int .i64 k, .int .i64 imm] 41)).alloc (.cells #[.int .i64 8, .int .i64 4, .int .i64 1] 3)).heap[w.heap.size + 1]? = some (.cells (accA false 0 0 0) 32 (0, 0))) := keepB (keepB HA1.out b1) bx
  have HE : Hid (Below w.heap.size w ((y.alloc (.cells #[.int .i64 26, .int .i64 rd, .int .i64 rs1, .int .i64 k, .int .i64 imm] 41)).alloc (.cells #[.int .i64 8, .int .i64 4, .int .i64 1] 3))) := (HB0.out.trans (b1.mono HB0.out.size)).trans (bx.mono (Nat.le_trans HB0.out.size b1.size))
  have kl := lt_of_heap HD0.out
  have ck : ((y.alloc (.cells #[.int .i64 26, .int .i64 rd, .int .i64 rs1, .int .i64 k, .int .i64 imm] 41)).alloc (.cells #[.int .i64 8, .int .i64 4, .int .i64 1] 3)).cell? ⟨w.heap.size, k, none⟩ = some (.int .u64 (X k)) := (cell_at HD0.out k).trans (regC_at X pc m k (by omega))
  have bwy : w.heap.size < y.heap.size := Nat.lt_of_lt_of_le (lt_of_heap HA0.out) b1.size
  have cy : y.cell? ⟨w.heap.size, k, none⟩ = some (.int .u64 (X k)) := (cell_at (keepB HA0.out b1) k).trans (regC_at X pc m k (by omega))
  obtain ⟨u0, u1⟩ := hX k (by omega)
  have k0 : (0 : Int) ≤ k := by omega
  have k1 : (k : Int) < 16 := by omega
  clear C1 b1 bx HA0 HA1 HB0
  clear HD0 hX
  unfold storedP at hsv
  generalize X k = v at *
  by_cases hz : k = 0
  · rw [if_pos hz] at hsv
    subst hsv
    have kz : ((k : Int) == 0) = true := by simp [hz]
    clear hz
    go_wp2_with (first
      | (refine wpList_store_row rfl 32 _ _ rfl (w.heap.size + 1) (accA true 8 k 0) rfl rfl 32 (accA false 0 0 0) HS.out inf32 rfl (acc_one _ _ _ _) ?_)
      | fail)
    refine bodyPost_ret (v := _) (results_cell_row2 Tryd.results6 _ _ _ _ _ _ _ rfl (setRow_heap _ _ _ _ _ _ HS.out) Tryd.underlying32 rfl inf32) rfl ⟨rfl, HE.out.trans (below_setRow' _ _ (by omega) _)⟩
  · rw [if_neg hz] at hsv
    have kz : ((k : Int) == 0) = false := beq_false_of_ne (by omega)
    have ev : sv = v := by
      rw [← hsv]
      show v % 18446744073709551616 = v
      omega
    subst ev
    clear hsv
    go_wp2_with (first
      | (refine wpList_store_row rfl 32 _ _ rfl (w.heap.size + 1) (accA true 8 k sv) rfl rfl 32 (accA false 0 0 0) HS.out inf32 rfl (acc_one _ _ _ _) ?_)
      | fail)
    refine bodyPost_ret (v := _) (results_cell_row2 Tryd.results6 _ _ _ _ _ _ _ rfl (setRow_heap _ _ _ _ _ _ HS.out) Tryd.underlying32 rfl inf32) rfl ⟨rfl, HE.out.trans (below_setRow' _ _ (by omega) _)⟩
set_option maxHeartbeats 1600000 in
theorem rdec_27 (a rd rs1 imm : Int) (k : Nat) (hk : k ≤ 15) (X : Nat → Int) (hX : ∀ n, n < 16 → U (X n)) (pc m : Int) (C1 : ∀ w, Calls Tryd.prog 14 #[.int .u32 a] w fun e w' => e = .returned (.tuple #[.agg #[.int .i64 27, .int .i64 rd, .int .i64 rs1, .int .i64 k, .int .i64 imm], .int .i64 0]) ∧ Below w.heap.size w w') (w : World) :
    Calls Tryd.prog 6 #[.int .u32 a, .agg (regC X pc m)] w fun e w' => e = .returned (.tuple #[.agg (accA true 4 k (storedP X k 4)), .int .i64 0]) ∧ Below w.heap.size w w' := by
  obtain ⟨sv, hsv⟩ : ∃ sv, storedP X k 4 = sv := ⟨_, rfl⟩
  rw [hsv]
  obtain ⟨x, hx⟩ : ∃ x, (w.alloc (.cells (regC X pc m) 26)).alloc (.cells (accA false 0 0 0) 32) = x := ⟨_, rfl⟩
  obtain ⟨b0, a0, a1, zx⟩ := two_at hx
  have HA0 : Hid (_) := a0
  have HA1 : Hid (_) := a1
  have HB0 : Hid (_) := b0
  clear a0 a1 b0 zx
  unfold accA at hx
  go_enter Tryd.func6, Tryd.ntmps6
  go_wp2_with fail
  clear hx
  refine (C1 _).mono ?_
  rintro e y ⟨rfl, b1⟩
  have bx : Below y.heap.size y ((y.alloc (.cells #[.int .i64 27, .int .i64 rd, .int .i64 rs1, .int .i64 k, .int .i64 imm] 41)).alloc (.cells #[.int .i64 8, .int .i64 4, .int .i64 1] 3)) := (below_box y (.cells #[.int .i64 27, .int .i64 rd, .int .i64 rs1, .int .i64 k, .int .i64 imm] 41)).trans ((below_box (y.alloc (.cells #[.int .i64 27, .int .i64 rd, .int .i64 rs1, .int .i64 k, .int .i64 imm] 41)) (.cells #[.int .i64 8, .int .i64 4, .int .i64 1] 3)).mono (by simp))
  have HD0 : Hid (((y.alloc (.cells #[.int .i64 27, .int .i64 rd, .int .i64 rs1, .int .i64 k, .int .i64 imm] 41)).alloc (.cells #[.int .i64 8, .int .i64 4, .int .i64 1] 3)).heap[w.heap.size]? = some (.cells (regC X pc m) 26 (0, 0))) := keepB (keepB HA0.out b1) bx
  have HS : Hid (((y.alloc (.cells #[.int .i64 27, .int .i64 rd, .int .i64 rs1, .int .i64 k, .int .i64 imm] 41)).alloc (.cells #[.int .i64 8, .int .i64 4, .int .i64 1] 3)).heap[w.heap.size + 1]? = some (.cells (accA false 0 0 0) 32 (0, 0))) := keepB (keepB HA1.out b1) bx
  have HE : Hid (Below w.heap.size w ((y.alloc (.cells #[.int .i64 27, .int .i64 rd, .int .i64 rs1, .int .i64 k, .int .i64 imm] 41)).alloc (.cells #[.int .i64 8, .int .i64 4, .int .i64 1] 3))) := (HB0.out.trans (b1.mono HB0.out.size)).trans (bx.mono (Nat.le_trans HB0.out.size b1.size))
  have kl := lt_of_heap HD0.out
  have ck : ((y.alloc (.cells #[.int .i64 27, .int .i64 rd, .int .i64 rs1, .int .i64 k, .int .i64 imm] 41)).alloc (.cells #[.int .i64 8, .int .i64 4, .int .i64 1] 3)).cell? ⟨w.heap.size, k, none⟩ = some (.int .u64 (X k)) := (cell_at HD0.out k).trans (regC_at X pc m k (by omega))
  have bwy : w.heap.size < y.heap.size := Nat.lt_of_lt_of_le (lt_of_heap HA0.out) b1.size
  have cy : y.cell? ⟨w.heap.size, k, none⟩ = some (.int .u64 (X k)) := (cell_at (keepB HA0.out b1) k).trans (regC_at X pc m k (by omega))
  obtain ⟨u0, u1⟩ := hX k (by omega)
  have k0 : (0 : Int) ≤ k := by omega
  have k1 : (k : Int) < 16 := by omega
  clear C1 b1 bx HA0 HA1 HB0
  clear HD0 hX
  unfold storedP at hsv
  generalize X k = v at *
  by_cases hz : k = 0
  · rw [if_pos hz] at hsv
    subst hsv
    have kz : ((k : Int) == 0) = true := by simp [hz]
    clear hz
    go_wp2_with (first
      | (refine wpList_store_row rfl 32 _ _ rfl (w.heap.size + 1) (accA true 4 k 0) rfl rfl 32 (accA false 0 0 0) HS.out inf32 rfl (acc_one _ _ _ _) ?_)
      | fail)
    refine bodyPost_ret (v := _) (results_cell_row2 Tryd.results6 _ _ _ _ _ _ _ rfl (setRow_heap _ _ _ _ _ _ HS.out) Tryd.underlying32 rfl inf32) rfl ⟨rfl, HE.out.trans (below_setRow' _ _ (by omega) _)⟩
  · rw [if_neg hz] at hsv
    have kz : ((k : Int) == 0) = false := beq_false_of_ne (by omega)
    have ev : v.tmod 4294967296 = sv := by
      rw [← hsv, Int.tmod_eq_emod_of_nonneg u0]
      rfl
    clear hsv
    go_wp2_with (first
      | (refine wpList_store_row rfl 32 _ _ rfl (w.heap.size + 1) (accA true 4 k sv) rfl rfl 32 (accA false 0 0 0) HS.out inf32 rfl (acc_one _ _ _ _) ?_)
      | fail)
    refine bodyPost_ret (v := _) (results_cell_row2 Tryd.results6 _ _ _ _ _ _ _ rfl (setRow_heap _ _ _ _ _ _ HS.out) Tryd.underlying32 rfl inf32) rfl ⟨rfl, HE.out.trans (below_setRow' _ _ (by omega) _)⟩
set_option maxHeartbeats 1600000 in
theorem rdec_28 (a rd rs1 imm : Int) (k : Nat) (hk : k ≤ 15) (X : Nat → Int) (hX : ∀ n, n < 16 → U (X n)) (pc m : Int) (C1 : ∀ w, Calls Tryd.prog 14 #[.int .u32 a] w fun e w' => e = .returned (.tuple #[.agg #[.int .i64 28, .int .i64 rd, .int .i64 rs1, .int .i64 k, .int .i64 imm], .int .i64 0]) ∧ Below w.heap.size w w') (w : World) :
    Calls Tryd.prog 6 #[.int .u32 a, .agg (regC X pc m)] w fun e w' => e = .returned (.tuple #[.agg (accA true 1 k (storedP X k 1)), .int .i64 0]) ∧ Below w.heap.size w w' := by
  obtain ⟨sv, hsv⟩ : ∃ sv, storedP X k 1 = sv := ⟨_, rfl⟩
  rw [hsv]
  obtain ⟨x, hx⟩ : ∃ x, (w.alloc (.cells (regC X pc m) 26)).alloc (.cells (accA false 0 0 0) 32) = x := ⟨_, rfl⟩
  obtain ⟨b0, a0, a1, zx⟩ := two_at hx
  have HA0 : Hid (_) := a0
  have HA1 : Hid (_) := a1
  have HB0 : Hid (_) := b0
  clear a0 a1 b0 zx
  unfold accA at hx
  go_enter Tryd.func6, Tryd.ntmps6
  go_wp2_with fail
  clear hx
  refine (C1 _).mono ?_
  rintro e y ⟨rfl, b1⟩
  have bx : Below y.heap.size y ((y.alloc (.cells #[.int .i64 28, .int .i64 rd, .int .i64 rs1, .int .i64 k, .int .i64 imm] 41)).alloc (.cells #[.int .i64 8, .int .i64 4, .int .i64 1] 3)) := (below_box y (.cells #[.int .i64 28, .int .i64 rd, .int .i64 rs1, .int .i64 k, .int .i64 imm] 41)).trans ((below_box (y.alloc (.cells #[.int .i64 28, .int .i64 rd, .int .i64 rs1, .int .i64 k, .int .i64 imm] 41)) (.cells #[.int .i64 8, .int .i64 4, .int .i64 1] 3)).mono (by simp))
  have HD0 : Hid (((y.alloc (.cells #[.int .i64 28, .int .i64 rd, .int .i64 rs1, .int .i64 k, .int .i64 imm] 41)).alloc (.cells #[.int .i64 8, .int .i64 4, .int .i64 1] 3)).heap[w.heap.size]? = some (.cells (regC X pc m) 26 (0, 0))) := keepB (keepB HA0.out b1) bx
  have HS : Hid (((y.alloc (.cells #[.int .i64 28, .int .i64 rd, .int .i64 rs1, .int .i64 k, .int .i64 imm] 41)).alloc (.cells #[.int .i64 8, .int .i64 4, .int .i64 1] 3)).heap[w.heap.size + 1]? = some (.cells (accA false 0 0 0) 32 (0, 0))) := keepB (keepB HA1.out b1) bx
  have HE : Hid (Below w.heap.size w ((y.alloc (.cells #[.int .i64 28, .int .i64 rd, .int .i64 rs1, .int .i64 k, .int .i64 imm] 41)).alloc (.cells #[.int .i64 8, .int .i64 4, .int .i64 1] 3))) := (HB0.out.trans (b1.mono HB0.out.size)).trans (bx.mono (Nat.le_trans HB0.out.size b1.size))
  have kl := lt_of_heap HD0.out
  have ck : ((y.alloc (.cells #[.int .i64 28, .int .i64 rd, .int .i64 rs1, .int .i64 k, .int .i64 imm] 41)).alloc (.cells #[.int .i64 8, .int .i64 4, .int .i64 1] 3)).cell? ⟨w.heap.size, k, none⟩ = some (.int .u64 (X k)) := (cell_at HD0.out k).trans (regC_at X pc m k (by omega))
  have bwy : w.heap.size < y.heap.size := Nat.lt_of_lt_of_le (lt_of_heap HA0.out) b1.size
  have cy : y.cell? ⟨w.heap.size, k, none⟩ = some (.int .u64 (X k)) := (cell_at (keepB HA0.out b1) k).trans (regC_at X pc m k (by omega))
  obtain ⟨u0, u1⟩ := hX k (by omega)
  have k0 : (0 : Int) ≤ k := by omega
  have k1 : (k : Int) < 16 := by omega
  clear C1 b1 bx HA0 HA1 HB0
  clear HD0 hX
  unfold storedP at hsv
  generalize X k = v at *
  by_cases hz : k = 0
  · rw [if_pos hz] at hsv
    subst hsv
    have kz : ((k : Int) == 0) = true := by simp [hz]
    clear hz
    go_wp2_with (first
      | (refine wpList_store_row rfl 32 _ _ rfl (w.heap.size + 1) (accA true 1 k 0) rfl rfl 32 (accA false 0 0 0) HS.out inf32 rfl (acc_one _ _ _ _) ?_)
      | fail)
    refine bodyPost_ret (v := _) (results_cell_row2 Tryd.results6 _ _ _ _ _ _ _ rfl (setRow_heap _ _ _ _ _ _ HS.out) Tryd.underlying32 rfl inf32) rfl ⟨rfl, HE.out.trans (below_setRow' _ _ (by omega) _)⟩
  · rw [if_neg hz] at hsv
    have kz : ((k : Int) == 0) = false := beq_false_of_ne (by omega)
    have ev : v.tmod 256 = sv := by
      rw [← hsv, Int.tmod_eq_emod_of_nonneg u0]
      rfl
    clear hsv
    go_wp2_with (first
      | (refine wpList_store_row rfl 32 _ _ rfl (w.heap.size + 1) (accA true 1 k sv) rfl rfl 32 (accA false 0 0 0) HS.out inf32 rfl (acc_one _ _ _ _) ?_)
      | fail)
    refine bodyPost_ret (v := _) (results_cell_row2 Tryd.results6 _ _ _ _ _ _ _ rfl (setRow_heap _ _ _ _ _ _ HS.out) Tryd.underlying32 rfl inf32) rfl ⟨rfl, HE.out.trans (below_setRow' _ _ (by omega) _)⟩
theorem rdecode_any (a : Int) (ha : 0 ≤ a) (ha' : a ≤ 4294967295) (X : Nat → Int) (pc m : Int) (hX : ∀ n, n < 16 → U (X n)) (w : World) : Calls Tryd.prog 6 #[.int .u32 a, .agg (regC X pc m)] w fun e w' => e = .returned (.tuple #[.agg (decP a X).arr, .int .i64 (decE a)]) ∧ Below w.heap.size w w' := by
  unfold decP decE
  cases hv : I.validW a
  · rw [if_neg (by decide), if_neg (by simp)]
    exact rdec_bad a X pc m 10 (by decide) (I.rdecode_no a ha ha' hv) w
  · have C1 := I.rdecode_yes a ha ha' hv
    rw [if_pos rfl]
    obtain ⟨r0, r1⟩ := rs2_range a
    obtain ⟨k, hk⟩ : ∃ k : Nat, I.rs2W a = k := ⟨(I.rs2W a).toNat, by omega⟩
    have hk2 : (I.rs2W a).toNat = k := by omega
    unfold I.ins at C1
    rw [hk] at C1
    rw [hk2]
    generalize I.opW a = op at *
    unfold wantP Acc.arr
    by_cases h1 : 26 ≤ op ∧ op ≤ 28
    · rw [if_pos h1, if_pos ⟨rfl, by omega, by omega⟩]
      have : op = 26 ∨ op = 27 ∨ op = 28 := by omega
      rcases this with rfl | rfl | rfl
      · exact rdec_26 a (I.rdW a) (I.rs1W a) (I.immW a) k (by omega) X hX pc m C1 w
      · exact rdec_27 a (I.rdW a) (I.rs1W a) (I.immW a) k (by omega) X hX pc m C1 w
      · exact rdec_28 a (I.rdW a) (I.rs1W a) (I.immW a) k (by omega) X hX pc m C1 w
    · rw [if_neg h1]
      by_cases h2 : 23 ≤ op ∧ op ≤ 25
      · rw [if_pos h2, if_pos ⟨rfl, by omega, by omega⟩]
        have : op = 23 ∨ op = 24 ∨ op = 25 := by omega
        rcases this with rfl | rfl | rfl
        · exact rdec_23 a (I.rdW a) (I.rs1W a) (I.immW a) k X pc m C1 w
        · exact rdec_24 a (I.rdW a) (I.rs1W a) (I.immW a) k X pc m C1 w
        · exact rdec_25 a (I.rdW a) (I.rs1W a) (I.immW a) k X pc m C1 w
      · rw [if_neg h2, if_neg (by omega)]
        exact rdec_out a op (I.rdW a) (I.rs1W a) (I.immW a) k X pc m (by omega) C1 w
end Go.Proofs.YtkckobbedpccfaaDoor.K
