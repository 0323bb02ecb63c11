/-
  Decode of emulate: widths, what is stored, what is wanted; their contracts.
  Decode of emulate, and the document's: their contracts.
-/
import Derived.Test.YtkckobbedpccfaaGreatDoorQK1
import Derived.Test.YtkckobbedpccfaaGreatDoorQI6
import Derived.Test.YtkckobbedpccfaaGreatDoorQE
namespace Go.Proofs.YtkckobbedpccfaaGreatDoor.K
open Go.RowKit Go.Maps
set_option linter.unusedVariables false
set_option maxRecDepth 100000
theorem u60 : Tryz.prog.underlying 111 = some (.map 3 3) := by kernel_rfl
def wD : DataW Value := ((((((DataW.map [] : DataW Value).put (.int .i64 23) (.held (.int .i64 8))).put (.int .i64 24) (.held (.int .i64 4))).put (.int .i64 25) (.held (.int .i64 1))).put (.int .i64 26) (.held (.int .i64 8))).put (.int .i64 27) (.held (.int .i64 4))).put (.int .i64 28) (.held (.int .i64 1))
/-- how wide an operation is -/
def widthP (op : Int) : Int := if op = 23 ∨ op = 26 then 8 else if op = 24 ∨ op = 27 then 4 else if op = 25 ∨ op = 28 then 1 else 0
theorem w_at (op : Int) : wD.atKey (.int .i64 op) (.held (.int .i64 0)) = .held (.int .i64 (widthP op)) := by
  by_cases h : 23 ≤ op ∧ op ≤ 28
  · have hc : op = 23 ∨ op = 24 ∨ op = 25 ∨ op = 26 ∨ op = 27 ∨ op = 28 := by omega
    rcases hc with rfl | rfl | rfl | rfl | rfl | rfl
    all_goals rfl
  · have hne : ∀ k : Int, op ≠ k → (Lit.int .i64 op) ≠ (Lit.int .i64 k) := fun k hk e => hk (by injection e)
    have e : widthP op = 0 := by unfold widthP; rw [if_neg (by omega), if_neg (by omega), if_neg (by omega)]
    rw [e]
    refine atKey_of_not_has ?_ _
    unfold wD
    rw [has_put_other (hne _ (by omega)), has_put_other (hne _ (by omega)), has_put_other (hne _ (by omega)), has_put_other (hne _ (by omega)), has_put_other (hne _ (by omega)), has_put_other (hne _ (by omega))]
    rfl
theorem zero3 (w : World) : (zeroValue 3).run Tryz.prog w = .ok (.int .i64 0) w := by kernel_rfl
theorem look_w {y : World} {b : Nat} (h : y.ownsMap Tryz.prog 3 I.RV b 6 wD) (op : Int) (hop : (Lit.int .i64 op).wf = true) : (Instr.lookup 111 (.map (some b)) (.int .i64 op) false).run Tryz.prog y = .ok (.int .i64 (widthP op)) y := by
  obtain ⟨v, ps, hrun, hv⟩ := h.lookup I.law3 u60 (zero3 y) (show I.RV (.int .i64 0) = some (.held (.int .i64 0), []) from rfl) (keyOf_int_mk I.u3 hop)
  rw [w_at] at hv
  obtain rfl : v = .int .i64 (widthP op) := by simpa [I.RV] using (congrArg (Option.map Prod.fst) hv)
  exact hrun
structure MB (w w1 : World) : Prop where
  bl : Below w.heap.size w w1
theorem MB.grown {w w1 w2 : World} (h : MB w w1) (hg : w1.grownBy w2 (some w.heap.size)) : MB w w2 := ⟨h.bl.grown hg h.bl.size (fun j hj => by cases hj; omega)⟩
theorem MB_start (w : World) : MB w (w.alloc (.map #[] 0)) := ⟨(Below.refl _ _).alloc (Nat.le_refl _) _⟩
theorem widths_any (w : World) : Calls Tryz.prog 42 #[] w fun e w' => (∃ b, e = .returned (.map (some b)) ∧ w'.ownsMap Tryz.prog 3 I.RV b 6 wD) ∧ Below w.heap.size w w' := by
  have hmm := @run_makeMap Tryz.prog
  go_enter Tryz.func42, Tryz.ntmps42
  go_wp2_with (first
    | (refine I.wpList_insert_own _ rfl _ _ _ 111 rfl 3 3 I.law3 u60 _ _ _ rfl (by assumption) (by decide) _ _ _ rfl rfl (keyOf_int_mk I.u3 (by decide)) ?_; intro w1 hown1 hg1; have ho := MB.grown (by assumption) hg1; clear hg1)
    | (refine I.wpList_insert_own _ rfl _ _ _ 111 rfl 3 3 I.law3 u60 _ _ _ rfl (I.ownsMap_new (by simp) _ _) (by decide) _ _ _ rfl rfl (keyOf_int_mk I.u3 (by decide)) ?_; intro w1 hown1 hg1; have ho := MB.grown (MB_start w) hg1; clear hg1)
    | fail)
  go_ret
  exact ⟨⟨_, rfl, by assumption⟩, MB.bl (by assumption)⟩
/-- a register's lowest bytes -/
def storedP (X : Nat → Int) (k : Nat) (wd : Int) : Int := if k = 0 then 0 else X k % 2 ^ (8 * wd.toNat)
theorem stored_any (X : Nat → Int) (pc m : Int) (k : Nat) (wd : Int) (hk : k ≤ 15) (hw : wd = 8 ∨ wd = 4 ∨ wd = 1) (hX : ∀ n, n < 16 → U (X n)) (w : World) : Calls Tryz.prog 43 #[.agg (regC X pc m), .int .i64 k, .int .i64 wd] w fun e w' => e = .returned (.int .u64 (storedP X k wd)) ∧ Below w.heap.size w w' := by
  obtain ⟨x, hx⟩ : ∃ x, w.alloc (.cells (regC X pc m) 25) = x := ⟨_, rfl⟩
  have HB : Hid (Below w.heap.size w x) := by rw [← hx]; exact below_box _ _
  have a0 : x.heap[w.heap.size]? = some (.cells (regC X pc m) 25 (0, 0)) := by rw [← hx]; exact heap_alloc_at _ _
  have ck : x.cell? ⟨w.heap.size, k, none⟩ = some (.int .u64 (X k)) := (cell_at a0 k).trans (regC_at X pc m k (by omega))
  have cl := lt_of_heap a0
  obtain ⟨u0, u1⟩ := hX k (by omega)
  have k0 : (0 : Int) ≤ k := by omega
  have k1 : (k : Int) < 16 := by omega
  clear a0 hX
  unfold storedP
  generalize X k = v at *
  by_cases hz : k = 0
  · subst hz
    rw [if_pos rfl]
    go_enter Tryz.func43, Tryz.ntmps43
    go_wp2_with fail
    go_ret
    exact ⟨rfl, HB.out⟩
  · rw [if_neg hz]
    have kz : ((k : Int) == 0) = false := beq_false_of_ne (by omega)
    have e8 : v % 2 ^ (8 * (8 : Int).toNat) = v := by
      show v % 18446744073709551616 = v
      omega
    have e4 : v % 2 ^ (8 * (4 : Int).toNat) = v % 4294967296 := rfl
    have e1 : v % 2 ^ (8 * (1 : Int).toNat) = v % 256 := rfl
    rcases hw with rfl | rfl | rfl
    · rw [e8]
      clear e8 e4 e1
      go_enter Tryz.func43, Tryz.ntmps43
      go_wp2_with fail
      go_ret
      exact ⟨rfl, HB.out⟩
    · rw [e4]
      clear e8 e4 e1
      go_enter Tryz.func43, Tryz.ntmps43
      go_wp2_with fail
      go_ret
      exact ⟨ret_int (by simp [IntKind.wrap_u64]; omega), HB.out⟩
    · rw [e1]
      clear e8 e4 e1
      go_enter Tryz.func43, Tryz.ntmps43
      go_wp2_with fail
      go_ret
      exact ⟨ret_int (by simp [IntKind.wrap_u64]; omega), HB.out⟩
def isIn (op : Int) : Bool := decide (23 ≤ op ∧ op ≤ 28)
/-- what an instruction wants -/
def wantA (op rd : Int) (k : Nat) (X : Nat → Int) : Array Value := if 26 ≤ op ∧ op ≤ 28 then accA true (widthP op) k (storedP X k (widthP op)) else if 23 ≤ op ∧ op ≤ 25 then accA false (widthP op) rd 0 else accA false 0 0 0
theorem acc_one (a : Bool) (b c d : Int) : (accA a b c d).all (·.oneCell') = true := by simp [accA, Value.oneCell']
theorem inf28 : (Tryz.prog.info? 49).map (·.size) = some 4 := by kernel_rfl
theorem keepX {w w' : World} {k : Nat} {o : Obj} (h : w.heap[k]? = some o) (hb : Below w.heap.size w w') : w'.heap[k]? = some o := keepB h hb
set_option maxHeartbeats 3200000 in
theorem wanted_any (op rd rs1 imm : Int) (k : Nat) (X : Nat → Int) (pc m : Int) (hop : (Lit.int .i64 op).wf = true) (hk : k ≤ 15) (hX : ∀ n, n < 16 → U (X n)) (w : World) : Calls Tryz.prog 20 #[.agg #[.int .i64 op, .int .i64 rd, .int .i64 rs1, .int .i64 k, .int .i64 imm], .agg (regC X pc m)] w fun e w' => e = .returned (.agg (wantA op rd k X)) ∧ Below w.heap.size w w' := by
  obtain ⟨x, hx⟩ : ∃ x, ((w.alloc (.cells #[.int .i64 op, .int .i64 rd, .int .i64 rs1, .int .i64 k, .int .i64 imm] 33)).alloc (.cells (regC X pc m) 25)).alloc (.cells (accA false 0 0 0) 49) = x := ⟨_, rfl⟩
  obtain ⟨b0, a0, a1, a2⟩ := three_at hx
  have zx : x.heap.size = w.heap.size + 3 := by rw [← hx]; simp
  have HX : Hid (x.heap[w.heap.size]? = some (.cells #[.int .i64 op, .int .i64 rd, .int .i64 rs1, .int .i64 k, .int .i64 imm] 33 (0, 0)) ∧ x.heap[w.heap.size + 1]? = some (.cells (regC X pc m) 25 (0, 0)) ∧ x.heap[w.heap.size + 1 + 1]? = some (.cells (accA false 0 0 0) 49 (0, 0)) ∧ Below w.heap.size w x ∧ x.heap.size = w.heap.size + 3) := ⟨a0, a1, a2, b0, zx⟩
  have c0 : x.cell? ⟨w.heap.size, 0, none⟩ = some (.int .i64 op) := (cell_at a0 0).trans rfl
  have l0 := lt_of_heap a0
  have HO : Hid (_) := hop
  clear a0 a1 a2 b0 zx hop
  unfold accA at hx
  obtain ⟨rc, hrc⟩ : ∃ rc, wantA op rd k X = rc := ⟨_, rfl⟩
  rw [hrc]
  go_enter Tryz.func20, Tryz.ntmps20
  go_upto_region 1 with fail
  clear hx
  have cA : ∀ o, (x.alloc o).drew.cell? ⟨w.heap.size, 0, none⟩ = some (.int .i64 op) := fun o => ((below_box x o).cell (p := ⟨w.heap.size, 0, none⟩) l0).trans c0
  have lA : ∀ o, w.heap.size < (x.alloc o).drew.heap.size := fun o => Nat.lt_of_lt_of_le l0 (below_box x o).size
  have zB : (x.alloc (.cells #[.bool false, .int .i64 0, .int .i64 0, .int .u64 0] 49)).drew.heap[x.heap.size]? = some (.cells #[.bool false, .int .i64 0, .int .i64 0, .int .u64 0] 49 (0, 0)) := heap_alloc_at _ _
  go_cut [5] (fun v wx => ∃ B, v = .pointer (some ⟨B, 0, none⟩) ∧ Hid (wx.heap[B]? = some (.cells (accA false (widthP op) 0 0) 49 (0, 0)) ∧ x.heap.size ≤ B ∧ Below x.heap.size x wx))
  case first =>
    have hS0 : (fun W : World => W.heap[w.heap.size]? = some (.cells #[.int .i64 op, .int .i64 rd, .int .i64 rs1, .int .i64 k, .int .i64 imm] 33 (0, 0)) ∧ Below x.heap.size x W) x.drew := ⟨HX.out.1, (Below.refl _ _).drew⟩
    refine wp_region_held_drew (S := fun W : World => W.heap[w.heap.size]? = some (.cells #[.int .i64 op, .int .i64 rd, .int .i64 rs1, .int .i64 k, .int .i64 imm] 33 (0, 0)) ∧ Below x.heap.size x W) (by kernel_rfl) hS0 (fun _ => ?_)
    refine wpAnyH_take (i := 1) (v := .pointer (some ⟨w.heap.size, 0, none⟩)) rfl (by kernel_rfl) (by kernel_rfl) (by kernel_rfl) (fun _ _ _ h => h) (Or.inl ⟨by rfl, ?_⟩) hS0 ?_
    · intro wq hw
      go_simp
    try simp only [Act.put, List.getElem_toArray, List.getElem_cons_succ, List.getElem_cons_zero, List.setIfInBounds_toArray, List.set_cons_zero, List.set_cons_succ]
    refine wpAnyH_take (i := 2) (v := .int .i64 op) rfl (by kernel_rfl) (by kernel_rfl) (by kernel_rfl) (fun _ _ _ h => h) (Or.inl ⟨by rfl, ?_⟩) hS0 ?_
    · intro wq hw
      have hc : wq.cell? ⟨w.heap.size, 0, none⟩ = some (.int .i64 op) := (cell_at hw.1 0).trans rfl
      have hl := lt_cell hc
      go_simp
    try simp only [Act.put, List.getElem_toArray, List.getElem_cons_succ, List.getElem_cons_zero, List.setIfInBounds_toArray, List.set_cons_zero, List.set_cons_succ]
    refine wpAnyH_ready (rs := [0, 5]) (by kernel_rfl) (by simp) ?_
    refine AllReadyH.cons rfl (fun K hK => ?_) (AllReadyH.cons rfl (fun K hK => ?_) AllReadyH.nil)
    · have CC := widths_any
      go_simp
      go_wp2_with (go_at_call 42; refine (CC _).mono ?_; rintro e y ⟨⟨b, rfl, hown⟩, hb⟩)
      have sb := hb.size
      refine hK.out _ _ ⟨keepB hS0.1 hb, hS0.2.trans (hb.mono hS0.2.size)⟩ (fun hS1 => ?_)
      clear hK K CC
      try simp only [Act.put, List.getElem_toArray, List.getElem_cons_succ, List.getElem_cons_zero, List.setIfInBounds_toArray, List.set_cons_zero, List.set_cons_succ]
      refine wpAnyH_ready (rs := [3, 5]) (by kernel_rfl) (by simp) ?_
      refine AllReadyH.cons rfl (fun K hK => ?_) (AllReadyH.cons rfl (fun K hK => ?_) AllReadyH.nil)
      · have LL := look_w (hown) op HO.out
        go_simp
        try (rw [LL]; simp only [Result.andThen_ok, Oper.upon_value])
        refine hK.out _ _ hS1 (fun hS2 => ?_)
        clear hK K LL
        try simp only [Act.put, List.getElem_toArray, List.getElem_cons_succ, List.getElem_cons_zero, List.setIfInBounds_toArray, List.set_cons_zero, List.set_cons_succ]
        refine wpAnyH_take (i := 4) (v := .agg #[.bool false, .int .i64 (widthP op), .int .i64 0, .int .u64 0]) rfl (by kernel_rfl) (by kernel_rfl) (by kernel_rfl) (fun _ _ _ h => h) (Or.inl ⟨by rfl, ?_⟩) hS2 ?_
        · intro wq hw
          go_simp
        try simp only [Act.put, List.getElem_toArray, List.getElem_cons_succ, List.getElem_cons_zero, List.setIfInBounds_toArray, List.set_cons_zero, List.set_cons_succ]
        refine wpAnyH_ready (rs := [5]) (by kernel_rfl) (by simp) ?_
        refine AllReadyH.cons rfl (fun K hK => ?_) AllReadyH.nil
        go_simp
        refine hK.out _ _ ⟨keepB hS2.1 (below_box _ _), hS2.2.trans ((below_box _ _).mono hS2.2.size)⟩ (fun hS3 => ?_)
        clear hK K
        try simp only [Act.put, List.getElem_toArray, List.getElem_cons_succ, List.getElem_cons_zero, List.setIfInBounds_toArray, List.set_cons_zero, List.set_cons_succ]
        refine wpAnyH_ready (rs := [6]) (by kernel_rfl) (by simp) ?_
        refine AllReadyH.cons rfl (fun K hK => ?_) AllReadyH.nil
        have zA : (y.alloc (.cells #[.bool false, .int .i64 0, .int .i64 0, .int .u64 0] 49)).heap[y.heap.size]? = some (.cells #[.bool false, .int .i64 0, .int .i64 0, .int .u64 0] 49 (0, 0)) := heap_alloc_at _ _
        have d0 := (cell_at zA 0).trans (c := some (.bool false)) rfl
        have d1 := (cell_at zA 1).trans (c := some (.int .i64 0)) rfl
        have d2 := (cell_at zA 2).trans (c := some (.int .i64 0)) rfl
        have d3 := (cell_at zA 3).trans (c := some (.int .u64 0)) rfl
        have g0 := fz_at zA 0
        have g1 := fz_at zA 1
        have g2 := fz_at zA 2
        have g3 := fz_at zA 3
        have zl := lt_of_heap zA
        go_simp
        have HF : Hid ((y.alloc (.cells #[.bool false, .int .i64 (widthP op), .int .i64 0, .int .u64 0] 49)).heap[y.heap.size]? = some (.cells (accA false (widthP op) 0 0) 49 (0, 0)) ∧ x.heap.size ≤ y.heap.size ∧ Below x.heap.size x (y.alloc (.cells #[.bool false, .int .i64 (widthP op), .int .i64 0, .int .u64 0] 49))) := ⟨heap_alloc_at _ _, hS1.2.size, hS1.2.trans ((below_box _ _).mono hS1.2.size)⟩
        refine hK.out _ _ ⟨keepB hS1.1 (below_box _ _), HF.out.2.2⟩ (fun hS9 => ?_)
        clear hK K hS9 d0 d1 d2 d3 g0 g1 g2 g3 zl zA
        refine wpAnyH_done (by kernel_rfl) ?_ _
        go_wp2_with fail
        go_meet
        case rel => exact ⟨_, rfl, HF⟩
      · go_simp
        refine hK.out _ _ ⟨keepB hS1.1 (below_box _ _), hS1.2.trans ((below_box _ _).mono hS1.2.size)⟩ (fun hS2 => ?_)
        clear hK K
        try simp only [Act.put, List.getElem_toArray, List.getElem_cons_succ, List.getElem_cons_zero, List.setIfInBounds_toArray, List.set_cons_zero, List.set_cons_succ]
        refine wpAnyH_ready (rs := [3]) (by kernel_rfl) (by simp) ?_
        refine AllReadyH.cons rfl (fun K hK => ?_) AllReadyH.nil
        have LL := look_w (hown.alloc (.cells #[.bool false, .int .i64 0, .int .i64 0, .int .u64 0] 49)) op HO.out
        go_simp
        try (rw [LL]; simp only [Result.andThen_ok, Oper.upon_value])
        refine hK.out _ _ hS2 (fun hS3 => ?_)
        clear hK K LL
        try simp only [Act.put, List.getElem_toArray, List.getElem_cons_succ, List.getElem_cons_zero, List.setIfInBounds_toArray, List.set_cons_zero, List.set_cons_succ]
        refine wpAnyH_take (i := 4) (v := .agg #[.bool false, .int .i64 (widthP op), .int .i64 0, .int .u64 0]) rfl (by kernel_rfl) (by kernel_rfl) (by kernel_rfl) (fun _ _ _ h => h) (Or.inl ⟨by rfl, ?_⟩) hS3 ?_
        · intro wq hw
          go_simp
        try simp only [Act.put, List.getElem_toArray, List.getElem_cons_succ, List.getElem_cons_zero, List.setIfInBounds_toArray, List.set_cons_zero, List.set_cons_succ]
        refine wpAnyH_ready (rs := [6]) (by kernel_rfl) (by simp) ?_
        refine AllReadyH.cons rfl (fun K hK => ?_) AllReadyH.nil
        have zA : (y.alloc (.cells #[.bool false, .int .i64 0, .int .i64 0, .int .u64 0] 49)).heap[y.heap.size]? = some (.cells #[.bool false, .int .i64 0, .int .i64 0, .int .u64 0] 49 (0, 0)) := heap_alloc_at _ _
        have d0 := (cell_at zA 0).trans (c := some (.bool false)) rfl
        have d1 := (cell_at zA 1).trans (c := some (.int .i64 0)) rfl
        have d2 := (cell_at zA 2).trans (c := some (.int .i64 0)) rfl
        have d3 := (cell_at zA 3).trans (c := some (.int .u64 0)) rfl
        have g0 := fz_at zA 0
        have g1 := fz_at zA 1
        have g2 := fz_at zA 2
        have g3 := fz_at zA 3
        have zl := lt_of_heap zA
        go_simp
        have HF : Hid ((y.alloc (.cells #[.bool false, .int .i64 (widthP op), .int .i64 0, .int .u64 0] 49)).heap[y.heap.size]? = some (.cells (accA false (widthP op) 0 0) 49 (0, 0)) ∧ x.heap.size ≤ y.heap.size ∧ Below x.heap.size x (y.alloc (.cells #[.bool false, .int .i64 (widthP op), .int .i64 0, .int .u64 0] 49))) := ⟨heap_alloc_at _ _, hS1.2.size, hS1.2.trans ((below_box _ _).mono hS1.2.size)⟩
        refine hK.out _ _ ⟨keepB hS1.1 (below_box _ _), HF.out.2.2⟩ (fun hS9 => ?_)
        clear hK K hS9 d0 d1 d2 d3 g0 g1 g2 g3 zl zA
        refine wpAnyH_done (by kernel_rfl) ?_ _
        go_wp2_with fail
        go_meet
        case rel => exact ⟨_, rfl, HF⟩
    · go_simp
      refine hK.out _ _ ⟨keepB hS0.1 (below_box _ _), hS0.2.trans ((below_box _ _).mono hS0.2.size)⟩ (fun hS1 => ?_)
      clear hK K
      try simp only [Act.put, List.getElem_toArray, List.getElem_cons_succ, List.getElem_cons_zero, List.setIfInBounds_toArray, List.set_cons_zero, List.set_cons_succ]
      refine wpAnyH_ready (rs := [0]) (by kernel_rfl) (by simp) ?_
      refine AllReadyH.cons rfl (fun K hK => ?_) AllReadyH.nil
      have CC := widths_any
      go_simp
      go_wp2_with (go_at_call 42; refine (CC _).mono ?_; rintro e y ⟨⟨b, rfl, hown⟩, hb⟩)
      have sb := hb.size
      refine hK.out _ _ ⟨keepB hS1.1 hb, hS1.2.trans (hb.mono hS1.2.size)⟩ (fun hS2 => ?_)
      clear hK K CC
      try simp only [Act.put, List.getElem_toArray, List.getElem_cons_succ, List.getElem_cons_zero, List.setIfInBounds_toArray, List.set_cons_zero, List.set_cons_succ]
      refine wpAnyH_ready (rs := [3]) (by kernel_rfl) (by simp) ?_
      refine AllReadyH.cons rfl (fun K hK => ?_) AllReadyH.nil
      have LL := look_w (hown) op HO.out
      go_simp
      try (rw [LL]; simp only [Result.andThen_ok, Oper.upon_value])
      refine hK.out _ _ hS2 (fun hS3 => ?_)
      clear hK K LL
      try simp only [Act.put, List.getElem_toArray, List.getElem_cons_succ, List.getElem_cons_zero, List.setIfInBounds_toArray, List.set_cons_zero, List.set_cons_succ]
      refine wpAnyH_take (i := 4) (v := .agg #[.bool false, .int .i64 (widthP op), .int .i64 0, .int .u64 0]) rfl (by kernel_rfl) (by kernel_rfl) (by kernel_rfl) (fun _ _ _ h => h) (Or.inl ⟨by rfl, ?_⟩) hS3 ?_
      · intro wq hw
        go_simp
      try simp only [Act.put, List.getElem_toArray, List.getElem_cons_succ, List.getElem_cons_zero, List.setIfInBounds_toArray, List.set_cons_zero, List.set_cons_succ]
      refine wpAnyH_ready (rs := [6]) (by kernel_rfl) (by simp) ?_
      refine AllReadyH.cons rfl (fun K hK => ?_) AllReadyH.nil
      have zA : (y).heap[x.heap.size]? = some (.cells #[.bool false, .int .i64 0, .int .i64 0, .int .u64 0] 49 (0, 0)) := keepB (heap_alloc_at x.drew _) hb
      have d0 := (cell_at zA 0).trans (c := some (.bool false)) rfl
      have d1 := (cell_at zA 1).trans (c := some (.int .i64 0)) rfl
      have d2 := (cell_at zA 2).trans (c := some (.int .i64 0)) rfl
      have d3 := (cell_at zA 3).trans (c := some (.int .u64 0)) rfl
      have g0 := fz_at zA 0
      have g1 := fz_at zA 1
      have g2 := fz_at zA 2
      have g3 := fz_at zA 3
      have zl := lt_of_heap zA
      go_simp
      have k0 := heap_setCell zA 0 (.bool false)
      have k1 := heap_setCell k0 1 (.int .i64 (widthP op))
      have k2 := heap_setCell k1 2 (.int .i64 0)
      have k3 := heap_setCell k2 3 (.int .u64 0)
      have tt := (((trn_set1 zA 0 (.bool false)).trans (trn_set1 k0 1 (.int .i64 (widthP op)))).trans (trn_set1 k1 2 (.int .i64 0))).trans (trn_set1 k2 3 (.int .u64 0))
      have HF : Hid (((((y.setCell ⟨x.heap.size, 0, none⟩ (.bool false)).setCell ⟨x.heap.size, 1, none⟩ (.int .i64 (widthP op))).setCell ⟨x.heap.size, 2, none⟩ (.int .i64 0)).setCell ⟨x.heap.size, 3, none⟩ (.int .u64 0)).heap[x.heap.size]? = some (.cells (accA false (widthP op) 0 0) 49 (0, 0)) ∧ x.heap.size ≤ x.heap.size ∧ Below x.heap.size x ((((y.setCell ⟨x.heap.size, 0, none⟩ (.bool false)).setCell ⟨x.heap.size, 1, none⟩ (.int .i64 (widthP op))).setCell ⟨x.heap.size, 2, none⟩ (.int .i64 0)).setCell ⟨x.heap.size, 3, none⟩ (.int .u64 0))) := ⟨k3.trans rfl, Nat.le_refl _, hS3.2.trans (tt.below hS3.2.size fun j e => by omega)⟩
      refine hK.out _ _ ⟨(tt.block _ (lt_of_heap hS3.1) (by omega)).trans hS3.1, HF.out.2.2⟩ (fun hS9 => ?_)
      clear hK K hS9 d0 d1 d2 d3 g0 g1 g2 g3 zl zA k0 k1 k2 k3 tt
      refine wpAnyH_done (by kernel_rfl) ?_ _
      go_wp2_with fail
      go_meet
      case rel => exact ⟨_, rfl, HF⟩
  case rest =>
    obtain ⟨B, rfl, HB⟩ := hcut
    obtain ⟨y, rfl⟩ : ∃ y, y = wc := ⟨_, rfl⟩
    have sx : w.heap.size + 1 + 1 < x.heap.size := lt_of_heap HX.out.2.2.1
    have i0 := keepX HX.out.1 HB.out.2.2
    have i1 := keepX HX.out.2.1 HB.out.2.2
    have i2 := keepX HX.out.2.2.1 HB.out.2.2
    have HY : Hid (Below w.heap.size w y) := HX.out.2.2.2.1.trans (HB.out.2.2.mono HX.out.2.2.2.1.size)
    have hBx := HB.out.2.1
    clear HX c0 l0 cA lA zB
    have j0 : y.cell? ⟨w.heap.size, 0, none⟩ = some (.int .i64 op) := (cell_at i0 0).trans rfl
    have j1 : y.cell? ⟨w.heap.size, 1, none⟩ = some (.int .i64 rd) := (cell_at i0 1).trans rfl
    have j3 : y.cell? ⟨w.heap.size, 3, none⟩ = some (.int .i64 k) := (cell_at i0 3).trans rfl
    have jl := lt_of_heap i0
    obtain ⟨wd, hwd⟩ : ∃ wd, widthP op = wd := ⟨_, rfl⟩
    rw [hwd] at HB
    have b0 : y.cell? ⟨B, 0, none⟩ = some (.bool false) := (cell_at HB.out.1 0).trans rfl
    have b1 : y.cell? ⟨B, 1, none⟩ = some (.int .i64 wd) := (cell_at HB.out.1 1).trans rfl
    have b2 : y.cell? ⟨B, 2, none⟩ = some (.int .i64 0) := (cell_at HB.out.1 2).trans rfl
    have b3 : y.cell? ⟨B, 3, none⟩ = some (.int .u64 0) := (cell_at HB.out.1 3).trans rfl
    have f0 := fz_at HB.out.1 0
    have f2 := fz_at HB.out.1 2
    have f3 := fz_at HB.out.1 3
    have bl := lt_of_heap HB.out.1
    have nB : B ≠ w.heap.size + 1 + 1 := by omega
    have HI1 : Hid (_) := i1
    have HI2 : Hid (_) := i2
    clear i0 i1 i2
    unfold wantA at hrc
    rw [hwd] at hrc
    by_cases hs : 26 ≤ op ∧ op ≤ 28
    · rw [if_pos hs] at hrc
      have hw : wd = 8 ∨ wd = 4 ∨ wd = 1 := by
        have : op = 26 ∨ op = 27 ∨ op = 28 := by omega
        rcases this with rfl | rfl | rfl
        · exact .inl hwd.symm
        · exact .inr (.inl hwd.symm)
        · exact .inr (.inr hwd.symm)
      have C1 := stored_any X pc m k wd hk hw hX y
      generalize storedP X k wd = sv at *
      subst hrc
      have hop : op = 26 ∨ op = 27 ∨ op = 28 := by omega
      clear hs hw hwd hX
      rcases hop with rfl | rfl | rfl
      all_goals
        go_wp2_with (first
          | (refine wpList_load_row rfl 25 _ rfl (w.heap.size + 1) rfl 25 (regC X pc m) (0, 0) _ HI1.out Tryz.underlying25 rfl inf25 ?_)
          | fail)
        refine C1.mono ?_
        rintro e z ⟨rfl, hz⟩
        have HB2 := keepB HB.out.1 hz
        have c0 : z.cell? ⟨B, 0, none⟩ = some (.bool false) := (cell_at HB2 0).trans rfl
        have c1 : z.cell? ⟨B, 1, none⟩ = some (.int .i64 wd) := (cell_at HB2 1).trans rfl
        have c2 : z.cell? ⟨B, 2, none⟩ = some (.int .i64 0) := (cell_at HB2 2).trans rfl
        have c3 : z.cell? ⟨B, 3, none⟩ = some (.int .u64 0) := (cell_at HB2 3).trans rfl
        have g0 := fz_at HB2 0
        have g2 := fz_at HB2 2
        have g3 := fz_at HB2 3
        have zl := lt_of_heap HB2
        have k0 := heap_setCell HB2 0 (.bool true)
        have k1 := heap_setCell k0 3 (.int .u64 sv)
        have k2 := heap_setCell k1 2 (.int .i64 k)
        have tt := ((trn_set1 HB2 0 (.bool true)).trans (trn_set1 k0 3 (.int .u64 sv))).trans (trn_set1 k1 2 (.int .i64 k))
        have HS : Hid (_) := (tt.block (w.heap.size + 1 + 1) (lt_of_heap (keepB HI2.out hz)) (Ne.symm nB)).trans (keepB HI2.out hz)
        have HL : Hid ((((z.setCell ⟨B, 0, none⟩ (.bool true)).setCell ⟨B, 3, none⟩ (.int .u64 sv)).setCell ⟨B, 2, none⟩ (.int .i64 k)).heap[B]? = some (.cells (accA true wd k sv) 49 (0, 0))) := k2.trans rfl
        have HE : Hid (Below w.heap.size w (((z.setCell ⟨B, 0, none⟩ (.bool true)).setCell ⟨B, 3, none⟩ (.int .u64 sv)).setCell ⟨B, 2, none⟩ (.int .i64 k))) := (HY.out.trans (hz.mono HY.out.size)).trans (tt.below (Nat.le_trans HY.out.size hz.size) fun j e => by omega)
        clear C1 hz HB2 k0 k1 k2 tt HI1 HI2 HB HY j0 j1 j3 jl b0 b1 b2 b3 f0 f2 f3 bl
        go_wp2_with (first
          | (refine wpList_load_row rfl 49 _ rfl B rfl 49 (accA true wd k sv) (0, 0) _ HL.out Tryz.underlying49 rfl inf28 ?_)
          | (refine wpList_store_row rfl 49 _ _ rfl (w.heap.size + 1 + 1) (accA true wd k sv) rfl rfl 49 (accA false 0 0 0) HS.out inf28 rfl (acc_one _ _ _ _) ?_)
          | fail)
        refine bodyPost_ret (v := _) (results_cell_row Tryz.results20 _ _ _ _ _ _ _ rfl (setRow_heap _ _ _ _ _ _ HS.out) Tryz.underlying49 rfl inf28) rfl ⟨rfl, HE.out.trans (below_setRow' _ _ (by omega) _)⟩
    · rw [if_neg hs] at hrc
      by_cases hl : 23 ≤ op ∧ op ≤ 25
      · rw [if_pos hl] at hrc
        subst hrc
        have k0 := heap_setCell HB.out.1 2 (.int .i64 rd)
        have tt := trn_set1 HB.out.1 2 (.int .i64 rd)
        have HS : Hid (_) := (tt.block (w.heap.size + 1 + 1) (lt_of_heap HI2.out) (Ne.symm nB)).trans HI2.out
        have HL : Hid ((y.setCell ⟨B, 2, none⟩ (.int .i64 rd)).heap[B]? = some (.cells (accA false wd rd 0) 49 (0, 0))) := k0.trans rfl
        have HE : Hid (Below w.heap.size w (y.setCell ⟨B, 2, none⟩ (.int .i64 rd))) := HY.out.trans (tt.below HY.out.size fun j e => by omega)
        have hop : op = 23 ∨ op = 24 ∨ op = 25 := by omega
        clear hs hl hwd hX k0 tt
        rcases hop with rfl | rfl | rfl
        all_goals
          go_wp2_with (first
            | (refine wpList_load_row rfl 49 _ rfl B rfl 49 (accA false wd rd 0) (0, 0) _ HL.out Tryz.underlying49 rfl inf28 ?_)
            | (refine wpList_store_row rfl 49 _ _ rfl (w.heap.size + 1 + 1) (accA false wd rd 0) rfl rfl 49 (accA false 0 0 0) HS.out inf28 rfl (acc_one _ _ _ _) ?_)
            | fail)
          refine bodyPost_ret (v := _) (results_cell_row Tryz.results20 _ _ _ _ _ _ _ rfl (setRow_heap _ _ _ _ _ _ HS.out) Tryz.underlying49 rfl inf28) rfl ⟨rfl, HE.out.trans (below_setRow' _ _ (by omega) _)⟩
      · rw [if_neg hl] at hrc
        subst hrc
        have hw0 : wd = 0 := by
          rw [← hwd]
          unfold widthP
          rw [if_neg (by omega), if_neg (by omega), if_neg (by omega)]
        subst hw0
        have e0 : (op == 26) = false := beq_false_of_ne (by omega)
        have e1 : (op == 27) = false := beq_false_of_ne (by omega)
        have e2 : (op == 28) = false := beq_false_of_ne (by omega)
        have e3 : (op == 23) = false := beq_false_of_ne (by omega)
        have e4 : (op == 24) = false := beq_false_of_ne (by omega)
        have e5 : (op == 25) = false := beq_false_of_ne (by omega)
        clear hs hl hwd hX
        go_wp2_with (first
          | (refine wpList_load_row rfl 49 _ rfl B rfl 49 (accA false 0 0 0) (0, 0) _ HB.out.1 Tryz.underlying49 rfl inf28 ?_)
          | (refine wpList_store_row rfl 49 _ _ rfl (w.heap.size + 1 + 1) (accA false 0 0 0) rfl rfl 49 (accA false 0 0 0) HI2.out inf28 rfl (acc_one _ _ _ _) ?_)
          | fail)
        refine bodyPost_ret (v := _) (results_cell_row Tryz.results20 _ _ _ _ _ _ _ rfl (setRow_heap _ _ _ _ _ _ HI2.out) Tryz.underlying49 rfl inf28) rfl ⟨rfl, HY.out.trans (below_setRow' _ _ (by omega) _)⟩
end Go.Proofs.YtkckobbedpccfaaGreatDoor.K
namespace Go.Proofs.YtkckobbedpccfaaGreatDoor.K
open Go.RowKit Go.Maps
set_option linter.unusedVariables false
set_option maxRecDepth 100000
theorem results_cell_row2 {P : Program} {fn : Func} {p u : Tmp} {ty : TypeId} (h : fn.results = #[.cell p ty, .tmp u]) (tmps : Array Value) (w : World) (g : Nat) (t : TypeId) (cs : Array Value) (fr : Nat × Nat) (d : TypeDesc)
    (hp : tmps.getD p undef = .pointer (some ⟨g, 0, none⟩)) (hg : w.heap[g]? = some (.cells cs t fr))
    (hu : P.underlying ty = some d) (hd : (match d with | .struct _ | .array _ _ => true | _ => false) = true) (hi : (P.info? ty).map (·.size) = some cs.size) :
    (results fn tmps).run P w = .ok (.tuple #[.agg cs, tmps.getD u undef]) w := by
  rw [results_cell_tmp h, hp]
  simp [asAddr, run_loadVar_row w g t ty cs fr d hg hu hd hi]
set_option maxHeartbeats 1600000 in
theorem edec_no (a : Int) (X : Nat → Int) (pc m er : Int) (he : er ≠ 0) (C1 : ∀ w, Calls Tryz.prog 19 #[.int .u32 a] w fun e w' => e = .returned (.tuple #[.agg #[.int .i64 0, .int .i64 0, .int .i64 0, .int .i64 0, .int .i64 0], .int .i64 er]) ∧ Below w.heap.size w w') (w : World) :
    Calls Tryz.prog 8 #[.int .u32 a, .agg (regC X pc m)] w fun e w' => e = .returned (.tuple #[.agg (accA false 0 0 0), .int .i64 er]) ∧ Below w.heap.size w w' := by
  obtain ⟨x, hx⟩ : ∃ x, (w.alloc (.cells (regC X pc m) 25)).alloc (.cells (accA false 0 0 0) 49) = x := ⟨_, rfl⟩
  obtain ⟨b0, a0, a1, zx⟩ := two_at hx
  have HA1 : Hid (_) := a1
  have HB0 : Hid (_) := b0
  have e0 : (er == 0) = false := beq_false_of_ne he
  clear a0 a1 b0 zx
  unfold accA at hx
  go_enter Tryz.func8, Tryz.ntmps8
  go_wp2_with fail
  clear hx
  refine (C1 _).mono ?_
  rintro e y ⟨rfl, b1⟩
  have bx := below_box y (.cells #[.int .i64 0, .int .i64 0, .int .i64 0, .int .i64 0, .int .i64 0] 33)
  have HS : Hid ((y.alloc (.cells #[.int .i64 0, .int .i64 0, .int .i64 0, .int .i64 0, .int .i64 0] 33)).heap[w.heap.size + 1]? = some (.cells (accA false 0 0 0) 49 (0, 0))) := keepB (keepB HA1.out b1) bx
  have HB : Hid (Below w.heap.size w (y.alloc (.cells #[.int .i64 0, .int .i64 0, .int .i64 0, .int .i64 0, .int .i64 0] 33))) := (HB0.out.trans (b1.mono HB0.out.size)).trans (bx.mono (Nat.le_trans HB0.out.size b1.size))
  clear C1 b1 bx HA1 HB0
  go_wp2_with (first
    | (refine wpList_store_row rfl 49 _ _ rfl (w.heap.size + 1) (accA false 0 0 0) rfl rfl 49 (accA false 0 0 0) HS.out inf28 rfl (acc_one _ _ _ _) ?_)
    | fail)
  refine bodyPost_ret (v := _) (results_cell_row2 Tryz.results8 _ _ _ _ _ _ _ rfl (setRow_heap _ _ _ _ _ _ HS.out) Tryz.underlying49 rfl inf28) rfl ⟨rfl, HB.out.trans (below_setRow' _ _ (by omega) _)⟩
set_option maxHeartbeats 3200000 in
theorem edec_in (a op rd rs1 imm : Int) (k : Nat) (X : Nat → Int) (pc m : Int) (wr : Bool) (wd rg vl er : Int) (hc : (wr = true ∨ wr = false ∧ wd ≠ 0) ∧ er = 0 ∨ wr = false ∧ wd = 0 ∧ rg = 0 ∧ vl = 0 ∧ er = 10) (C1 : ∀ w, Calls Tryz.prog 19 #[.int .u32 a] w fun e w' => e = .returned (.tuple #[.agg #[.int .i64 op, .int .i64 rd, .int .i64 rs1, .int .i64 k, .int .i64 imm], .int .i64 0]) ∧ Below w.heap.size w w')
    (C2 : ∀ w, Calls Tryz.prog 20 #[.agg #[.int .i64 op, .int .i64 rd, .int .i64 rs1, .int .i64 k, .int .i64 imm], .agg (regC X pc m)] w fun e w' => e = .returned (.agg (accA wr wd rg vl)) ∧ Below w.heap.size w w') (w : World) :
    Calls Tryz.prog 8 #[.int .u32 a, .agg (regC X pc m)] w fun e w' => e = .returned (.tuple #[.agg (accA wr wd rg vl), .int .i64 er]) ∧ Below w.heap.size w w' := by
  obtain ⟨x, hx⟩ : ∃ x, (w.alloc (.cells (regC X pc m) 25)).alloc (.cells (accA false 0 0 0) 49) = x := ⟨_, rfl⟩
  obtain ⟨b0, a0, a1, zx⟩ := two_at hx
  have HA0 : Hid (_) := a0
  have HA1 : Hid (_) := a1
  have HB0 : Hid (_) := b0
  clear a0 a1 b0 zx
  unfold accA at hx C2
  go_enter Tryz.func8, Tryz.ntmps8
  go_wp2_with fail
  clear hx
  refine (C1 _).mono ?_
  rintro e y ⟨rfl, b1⟩
  have bx := below_box y (.cells #[.int .i64 op, .int .i64 rd, .int .i64 rs1, .int .i64 k, .int .i64 imm] 33)
  have HD0 : Hid ((y.alloc (.cells #[.int .i64 op, .int .i64 rd, .int .i64 rs1, .int .i64 k, .int .i64 imm] 33)).heap[w.heap.size]? = some (.cells (regC X pc m) 25 (0, 0))) := keepB (keepB HA0.out b1) bx
  have HD1 : Hid ((y.alloc (.cells #[.int .i64 op, .int .i64 rd, .int .i64 rs1, .int .i64 k, .int .i64 imm] 33)).heap[w.heap.size + 1]? = some (.cells (accA false 0 0 0) 49 (0, 0))) := keepB (keepB HA1.out b1) bx
  have HB : Hid (Below w.heap.size w (y.alloc (.cells #[.int .i64 op, .int .i64 rd, .int .i64 rs1, .int .i64 k, .int .i64 imm] 33))) := (HB0.out.trans (b1.mono HB0.out.size)).trans (bx.mono (Nat.le_trans HB0.out.size b1.size))
  clear C1 b1 bx HA0 HA1 HB0
  go_wp2_with (first
    | (refine wpList_load_row rfl 25 _ rfl w.heap.size rfl 25 (regC X pc m) (0, 0) _ HD0.out Tryz.underlying25 rfl inf25 ?_)
    | fail)
  refine (C2 _).mono ?_
  rintro e z ⟨rfl, b2⟩
  have bz := below_box z (.cells #[.bool wr, .int .i64 wd, .int .i64 rg, .int .u64 vl] 49)
  have HS : Hid ((z.alloc (.cells #[.bool wr, .int .i64 wd, .int .i64 rg, .int .u64 vl] 49)).heap[w.heap.size + 1]? = some (.cells (accA false 0 0 0) 49 (0, 0))) := keepB (keepB HD1.out b2) bz
  have HE : Hid (Below w.heap.size w (z.alloc (.cells #[.bool wr, .int .i64 wd, .int .i64 rg, .int .u64 vl] 49))) := (HB.out.trans (b2.mono HB.out.size)).trans (bz.mono (Nat.le_trans HB.out.size b2.size))
  clear C2 b2 bz HD0 HD1 HB
  rcases hc with ⟨rfl | ⟨rfl, h2⟩, rfl⟩ | ⟨rfl, rfl, rfl, rfl, rfl⟩
  · go_wp2_with (first
      | (refine wpList_store_row rfl 49 _ _ rfl (w.heap.size + 1) (accA true wd rg vl) rfl rfl 49 (accA false 0 0 0) HS.out inf28 rfl (acc_one _ _ _ _) ?_)
      | fail)
    refine bodyPost_ret (v := _) (results_cell_row2 Tryz.results8 _ _ _ _ _ _ _ rfl (setRow_heap _ _ _ _ _ _ HS.out) Tryz.underlying49 rfl inf28) rfl ⟨rfl, HE.out.trans (below_setRow' _ _ (by omega) _)⟩
  · have e0 : (wd == 0) = false := beq_false_of_ne h2
    go_wp2_with (first
      | (refine wpList_store_row rfl 49 _ _ rfl (w.heap.size + 1) (accA false wd rg vl) rfl rfl 49 (accA false 0 0 0) HS.out inf28 rfl (acc_one _ _ _ _) ?_)
      | fail)
    refine bodyPost_ret (v := _) (results_cell_row2 Tryz.results8 _ _ _ _ _ _ _ rfl (setRow_heap _ _ _ _ _ _ HS.out) Tryz.underlying49 rfl inf28) rfl ⟨rfl, HE.out.trans (below_setRow' _ _ (by omega) _)⟩
  · go_wp2_with (first
      | (refine wpList_store_row rfl 49 _ _ rfl (w.heap.size + 1) (accA false 0 0 0) rfl rfl 49 (accA false 0 0 0) HS.out inf28 rfl (acc_one _ _ _ _) ?_)
      | fail)
    refine bodyPost_ret (v := _) (results_cell_row2 Tryz.results8 _ _ _ _ _ _ _ rfl (setRow_heap _ _ _ _ _ _ HS.out) Tryz.underlying49 rfl inf28) rfl ⟨rfl, HE.out.trans (below_setRow' _ _ (by omega) _)⟩
/-- what a word wants; its error -/
structure Acc where
  wr : Bool
  wd : Int
  rg : Int
  vl : Int
def Acc.arr (a : Acc) : Array Value := accA a.wr a.wd a.rg a.vl
def wantP (op rd : Int) (k : Nat) (X : Nat → Int) : Acc := if 26 ≤ op ∧ op ≤ 28 then ⟨true, widthP op, k, storedP X k (widthP op)⟩ else if 23 ≤ op ∧ op ≤ 25 then ⟨false, widthP op, rd, 0⟩ else ⟨false, 0, 0, 0⟩
theorem want_arr (op rd : Int) (k : Nat) (X : Nat → Int) : wantA op rd k X = (wantP op rd k X).arr := by
  unfold wantA wantP
  by_cases h1 : 26 ≤ op ∧ op ≤ 28
  · rw [if_pos h1, if_pos h1]; rfl
  · rw [if_neg h1, if_neg h1]
    by_cases h2 : 23 ≤ op ∧ op ≤ 25
    · rw [if_pos h2, if_pos h2]; rfl
    · rw [if_neg h2, if_neg h2]; rfl
def decP (a : Int) (X : Nat → Int) : Acc := if I.validW a = true then wantP (I.opW a) (I.rdW a) (I.rs2W a).toNat X else ⟨false, 0, 0, 0⟩
def decE (a : Int) : Int := if I.validW a = true ∧ 23 ≤ I.opW a ∧ I.opW a ≤ 28 then 0 else 10
theorem rs2_range (a : Int) : 0 ≤ I.rs2W a ∧ I.rs2W a ≤ 15 := by
  unfold I.rs2W
  split
  · omega
  · omega
theorem decode_any (a : Int) (ha : 0 ≤ a) (ha' : a ≤ 4294967295) (X : Nat → Int) (pc m : Int) (hX : ∀ n, n < 16 → U (X n)) (w : World) : Calls Tryz.prog 8 #[.int .u32 a, .agg (regC X pc m)] w fun e w' => e = .returned (.tuple #[.agg (decP a X).arr, .int .i64 (decE a)]) ∧ Below w.heap.size w w' := by
  unfold decP decE
  cases hv : I.validW a
  · rw [if_neg (by decide), if_neg (by simp)]
    exact edec_no a X pc m 10 (by decide) (I.decode_no a ha ha' hv) w
  · have C1 := I.decode_yes a ha ha' hv
    rw [if_pos rfl]
    obtain ⟨r0, r1⟩ := rs2_range a
    have ho : (Lit.int .i64 (I.opW a)).wf = true := I.opW_wf a
    obtain ⟨k, hk⟩ : ∃ k : Nat, I.rs2W a = k := ⟨(I.rs2W a).toNat, by omega⟩
    have hk2 : (I.rs2W a).toNat = k := by omega
    unfold I.ins at C1
    rw [hk] at C1
    rw [hk2]
    generalize I.opW a = op at *
    have C2 := wanted_any op (I.rdW a) (I.rs1W a) (I.immW a) k X pc m ho (by omega) hX
    rw [want_arr] at C2
    unfold Acc.arr at *
    refine edec_in a op (I.rdW a) (I.rs1W a) (I.immW a) k X pc m _ _ _ _ _ ?_ C1 C2 w
    unfold wantP
    by_cases h1 : 26 ≤ op ∧ op ≤ 28
    · rw [if_pos h1, if_pos ⟨rfl, by omega, by omega⟩]
      exact .inl ⟨.inl rfl, rfl⟩
    · rw [if_neg h1]
      by_cases h2 : 23 ≤ op ∧ op ≤ 25
      · rw [if_pos h2, if_pos ⟨rfl, by omega, by omega⟩]
        refine .inl ⟨.inr ⟨rfl, ?_⟩, rfl⟩
        show widthP op ≠ 0
        have : op = 23 ∨ op = 24 ∨ op = 25 := by omega
        rcases this with rfl | rfl | rfl <;> decide
      · rw [if_neg h2, if_neg (by omega)]
        exact .inr ⟨rfl, rfl, rfl, rfl, rfl⟩
end Go.Proofs.YtkckobbedpccfaaGreatDoor.K
