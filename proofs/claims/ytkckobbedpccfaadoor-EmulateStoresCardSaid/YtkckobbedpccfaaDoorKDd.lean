/-
  Decode of emulate, and the document's: their contracts.
-/
import Derived.Test.YtkckobbedpccfaaDoorKDe
namespace Go.Proofs.YtkckobbedpccfaaDoor.K
open Go.RowKit Go.Maps
set_option linter.unusedVariables false
set_option maxRecDepth 100000
theorem results_cell_row2 {P : Program} {fn : Func} {p u : Tmp} {ty : TypeId} (h : fn.results = #[.cell p ty, .tmp u]) (tmps : Array Value) (w : World) (g : Nat) (t : TypeId) (cs : Array Value) (fr : Nat × Nat) (d : TypeDesc)
    (hp : tmps.getD p undef = .pointer (some ⟨g, 0, none⟩)) (hg : w.heap[g]? = some (.cells cs t fr))
    (hu : P.underlying ty = some d) (hd : (match d with | .struct _ | .array _ _ => true | _ => false) = true) (hi : (P.info? ty).map (·.size) = some cs.size) :
    (results fn tmps).run P w = .ok (.tuple #[.agg cs, tmps.getD u undef]) w := by
  rw [results_cell_tmp h, hp]
  simp [asAddr, run_loadVar_row w g t ty cs fr d hg hu hd hi]
set_option maxHeartbeats 1600000 in
theorem edec_no (a : Int) (X : Nat → Int) (pc m er : Int) (he : er ≠ 0) (C1 : ∀ w, Calls Tryd.prog 12 #[.int .u32 a] w fun e w' => e = .returned (.tuple #[.agg #[.int .i64 0, .int .i64 0, .int .i64 0, .int .i64 0, .int .i64 0], .int .i64 er]) ∧ Below w.heap.size w w') (w : World) :
    Calls Tryd.prog 5 #[.int .u32 a, .agg (regC X pc m)] w fun e w' => e = .returned (.tuple #[.agg (accA false 0 0 0), .int .i64 er]) ∧ Below w.heap.size w w' := by
  obtain ⟨x, hx⟩ : ∃ x, (w.alloc (.cells (regC X pc m) 26)).alloc (.cells (accA false 0 0 0) 28) = x := ⟨_, rfl⟩
  obtain ⟨b0, a0, a1, zx⟩ := two_at hx
  have HA1 : Hid (_) := a1
  have HB0 : Hid (_) := b0
  have e0 : (er == 0) = false := beq_false_of_ne he
  clear a0 a1 b0 zx
  unfold accA at hx
  go_enter Tryd.func5, Tryd.ntmps5
  go_wp2_with fail
  clear hx
  refine (C1 _).mono ?_
  rintro e y ⟨rfl, b1⟩
  have bx := below_box y (.cells #[.int .i64 0, .int .i64 0, .int .i64 0, .int .i64 0, .int .i64 0] 41)
  have HS : Hid ((y.alloc (.cells #[.int .i64 0, .int .i64 0, .int .i64 0, .int .i64 0, .int .i64 0] 41)).heap[w.heap.size + 1]? = some (.cells (accA false 0 0 0) 28 (0, 0))) := keepB (keepB HA1.out b1) bx
  have HB : Hid (Below w.heap.size w (y.alloc (.cells #[.int .i64 0, .int .i64 0, .int .i64 0, .int .i64 0, .int .i64 0] 41))) := (HB0.out.trans (b1.mono HB0.out.size)).trans (bx.mono (Nat.le_trans HB0.out.size b1.size))
  clear C1 b1 bx HA1 HB0
  go_wp2_with (first
    | (refine wpList_store_row rfl 28 _ _ rfl (w.heap.size + 1) (accA false 0 0 0) rfl rfl 28 (accA false 0 0 0) HS.out inf28 rfl (acc_one _ _ _ _) ?_)
    | fail)
  refine bodyPost_ret (v := _) (results_cell_row2 Tryd.results5 _ _ _ _ _ _ _ rfl (setRow_heap _ _ _ _ _ _ HS.out) Tryd.underlying28 rfl inf28) rfl ⟨rfl, HB.out.trans (below_setRow' _ _ (by omega) _)⟩
set_option maxHeartbeats 3200000 in
theorem edec_in (a op rd rs1 imm : Int) (k : Nat) (X : Nat → Int) (pc m : Int) (wr : Bool) (wd rg vl er : Int) (hc : (wr = true ∨ wr = false ∧ wd ≠ 0) ∧ er = 0 ∨ wr = false ∧ wd = 0 ∧ rg = 0 ∧ vl = 0 ∧ er = 10) (C1 : ∀ w, Calls Tryd.prog 12 #[.int .u32 a] w fun e w' => e = .returned (.tuple #[.agg #[.int .i64 op, .int .i64 rd, .int .i64 rs1, .int .i64 k, .int .i64 imm], .int .i64 0]) ∧ Below w.heap.size w w')
    (C2 : ∀ w, Calls Tryd.prog 13 #[.agg #[.int .i64 op, .int .i64 rd, .int .i64 rs1, .int .i64 k, .int .i64 imm], .agg (regC X pc m)] w fun e w' => e = .returned (.agg (accA wr wd rg vl)) ∧ Below w.heap.size w w') (w : World) :
    Calls Tryd.prog 5 #[.int .u32 a, .agg (regC X pc m)] w fun e w' => e = .returned (.tuple #[.agg (accA wr wd rg vl), .int .i64 er]) ∧ Below w.heap.size w w' := by
  obtain ⟨x, hx⟩ : ∃ x, (w.alloc (.cells (regC X pc m) 26)).alloc (.cells (accA false 0 0 0) 28) = x := ⟨_, rfl⟩
  obtain ⟨b0, a0, a1, zx⟩ := two_at hx
  have HA0 : Hid (_) := a0
  have HA1 : Hid (_) := a1
  have HB0 : Hid (_) := b0
  clear a0 a1 b0 zx
  unfold accA at hx C2
  go_enter Tryd.func5, Tryd.ntmps5
  go_wp2_with fail
  clear hx
  refine (C1 _).mono ?_
  rintro e y ⟨rfl, b1⟩
  have bx := below_box y (.cells #[.int .i64 op, .int .i64 rd, .int .i64 rs1, .int .i64 k, .int .i64 imm] 41)
  have HD0 : Hid ((y.alloc (.cells #[.int .i64 op, .int .i64 rd, .int .i64 rs1, .int .i64 k, .int .i64 imm] 41)).heap[w.heap.size]? = some (.cells (regC X pc m) 26 (0, 0))) := keepB (keepB HA0.out b1) bx
  have HD1 : Hid ((y.alloc (.cells #[.int .i64 op, .int .i64 rd, .int .i64 rs1, .int .i64 k, .int .i64 imm] 41)).heap[w.heap.size + 1]? = some (.cells (accA false 0 0 0) 28 (0, 0))) := keepB (keepB HA1.out b1) bx
  have HB : Hid (Below w.heap.size w (y.alloc (.cells #[.int .i64 op, .int .i64 rd, .int .i64 rs1, .int .i64 k, .int .i64 imm] 41))) := (HB0.out.trans (b1.mono HB0.out.size)).trans (bx.mono (Nat.le_trans HB0.out.size b1.size))
  clear C1 b1 bx HA0 HA1 HB0
  go_wp2_with (first
    | (refine wpList_load_row rfl 26 _ rfl w.heap.size rfl 26 (regC X pc m) (0, 0) _ HD0.out Tryd.underlying26 rfl inf25 ?_)
    | fail)
  refine (C2 _).mono ?_
  rintro e z ⟨rfl, b2⟩
  have bz := below_box z (.cells #[.bool wr, .int .i64 wd, .int .i64 rg, .int .u64 vl] 28)
  have HS : Hid ((z.alloc (.cells #[.bool wr, .int .i64 wd, .int .i64 rg, .int .u64 vl] 28)).heap[w.heap.size + 1]? = some (.cells (accA false 0 0 0) 28 (0, 0))) := keepB (keepB HD1.out b2) bz
  have HE : Hid (Below w.heap.size w (z.alloc (.cells #[.bool wr, .int .i64 wd, .int .i64 rg, .int .u64 vl] 28))) := (HB.out.trans (b2.mono HB.out.size)).trans (bz.mono (Nat.le_trans HB.out.size b2.size))
  clear C2 b2 bz HD0 HD1 HB
  rcases hc with ⟨rfl | ⟨rfl, h2⟩, rfl⟩ | ⟨rfl, rfl, rfl, rfl, rfl⟩
  · go_wp2_with (first
      | (refine wpList_store_row rfl 28 _ _ rfl (w.heap.size + 1) (accA true wd rg vl) rfl rfl 28 (accA false 0 0 0) HS.out inf28 rfl (acc_one _ _ _ _) ?_)
      | fail)
    refine bodyPost_ret (v := _) (results_cell_row2 Tryd.results5 _ _ _ _ _ _ _ rfl (setRow_heap _ _ _ _ _ _ HS.out) Tryd.underlying28 rfl inf28) rfl ⟨rfl, HE.out.trans (below_setRow' _ _ (by omega) _)⟩
  · have e0 : (wd == 0) = false := beq_false_of_ne h2
    go_wp2_with (first
      | (refine wpList_store_row rfl 28 _ _ rfl (w.heap.size + 1) (accA false wd rg vl) rfl rfl 28 (accA false 0 0 0) HS.out inf28 rfl (acc_one _ _ _ _) ?_)
      | fail)
    refine bodyPost_ret (v := _) (results_cell_row2 Tryd.results5 _ _ _ _ _ _ _ rfl (setRow_heap _ _ _ _ _ _ HS.out) Tryd.underlying28 rfl inf28) rfl ⟨rfl, HE.out.trans (below_setRow' _ _ (by omega) _)⟩
  · go_wp2_with (first
      | (refine wpList_store_row rfl 28 _ _ rfl (w.heap.size + 1) (accA false 0 0 0) rfl rfl 28 (accA false 0 0 0) HS.out inf28 rfl (acc_one _ _ _ _) ?_)
      | fail)
    refine bodyPost_ret (v := _) (results_cell_row2 Tryd.results5 _ _ _ _ _ _ _ rfl (setRow_heap _ _ _ _ _ _ HS.out) Tryd.underlying28 rfl inf28) rfl ⟨rfl, HE.out.trans (below_setRow' _ _ (by omega) _)⟩
/-- what a word wants; its error -/
structure Acc where
  wr : Bool
  wd : Int
  rg : Int
  vl : Int
def Acc.arr (a : Acc) : Array Value := accA a.wr a.wd a.rg a.vl
def wantP (op rd : Int) (k : Nat) (X : Nat → Int) : Acc := if 26 ≤ op ∧ op ≤ 28 then ⟨true, widthP op, k, storedP X k (widthP op)⟩ else if 23 ≤ op ∧ op ≤ 25 then ⟨false, widthP op, rd, 0⟩ else ⟨false, 0, 0, 0⟩
theorem want_arr (op rd : Int) (k : Nat) (X : Nat → Int) : wantA op rd k X = (wantP op rd k X).arr := by
  unfold wantA wantP
  by_cases h1 : 26 ≤ op ∧ op ≤ 28
  · rw [if_pos h1, if_pos h1]; rfl
  · rw [if_neg h1, if_neg h1]
    by_cases h2 : 23 ≤ op ∧ op ≤ 25
    · rw [if_pos h2, if_pos h2]; rfl
    · rw [if_neg h2, if_neg h2]; rfl
def decP (a : Int) (X : Nat → Int) : Acc := if I.validW a = true then wantP (I.opW a) (I.rdW a) (I.rs2W a).toNat X else ⟨false, 0, 0, 0⟩
def decE (a : Int) : Int := if I.validW a = true ∧ 23 ≤ I.opW a ∧ I.opW a ≤ 28 then 0 else 10
theorem rs2_range (a : Int) : 0 ≤ I.rs2W a ∧ I.rs2W a ≤ 15 := by
  unfold I.rs2W
  split
  · omega
  · omega
theorem decode_any (a : Int) (ha : 0 ≤ a) (ha' : a ≤ 4294967295) (X : Nat → Int) (pc m : Int) (hX : ∀ n, n < 16 → U (X n)) (w : World) : Calls Tryd.prog 5 #[.int .u32 a, .agg (regC X pc m)] w fun e w' => e = .returned (.tuple #[.agg (decP a X).arr, .int .i64 (decE a)]) ∧ Below w.heap.size w w' := by
  unfold decP decE
  cases hv : I.validW a
  · rw [if_neg (by decide), if_neg (by simp)]
    exact edec_no a X pc m 10 (by decide) (I.decode_no a ha ha' hv) w
  · have C1 := I.decode_yes a ha ha' hv
    rw [if_pos rfl]
    obtain ⟨r0, r1⟩ := rs2_range a
    have ho : (Lit.int .i64 (I.opW a)).wf = true := I.opW_wf a
    obtain ⟨k, hk⟩ : ∃ k : Nat, I.rs2W a = k := ⟨(I.rs2W a).toNat, by omega⟩
    have hk2 : (I.rs2W a).toNat = k := by omega
    unfold I.ins at C1
    rw [hk] at C1
    rw [hk2]
    generalize I.opW a = op at *
    have C2 := wanted_any op (I.rdW a) (I.rs1W a) (I.immW a) k X pc m ho (by omega) hX
    rw [want_arr] at C2
    unfold Acc.arr at *
    refine edec_in a op (I.rdW a) (I.rs1W a) (I.immW a) k X pc m _ _ _ _ _ ?_ C1 C2 w
    unfold wantP
    by_cases h1 : 26 ≤ op ∧ op ≤ 28
    · rw [if_pos h1, if_pos ⟨rfl, by omega, by omega⟩]
      exact .inl ⟨.inl rfl, rfl⟩
    · rw [if_neg h1]
      by_cases h2 : 23 ≤ op ∧ op ≤ 25
      · rw [if_pos h2, if_pos ⟨rfl, by omega, by omega⟩]
        refine .inl ⟨.inr ⟨rfl, ?_⟩, rfl⟩
        show widthP op ≠ 0
        have : op = 23 ∨ op = 24 ∨ op = 25 := by omega
        rcases this with rfl | rfl | rfl <;> decide
      · rw [if_neg h2, if_neg (by omega)]
        exact .inr ⟨rfl, rfl, rfl, rfl, rfl⟩
end Go.Proofs.YtkckobbedpccfaaDoor.K
