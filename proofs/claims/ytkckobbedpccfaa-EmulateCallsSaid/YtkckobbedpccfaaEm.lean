/-
  The calls of emulate that need nothing of other layers: Skip, Fault, Call, Answer; and the document's.
-/
import Derived.Test.YtkckobbedpccfaaRq
import Derived.Laws.CopyOwn
import Derived.Deep.DeepCutAuto
import Derived.Deep.CutRange
import Derived.Deep.RegionWith
import Derived.Deep.RegionHeld2
import Derived.Laws.Rows
import Derived.Laws.Tables
import Derived.Laws.ResultCell
namespace Go.Proofs.Ytkckobbedpccfaa
open Go.RowKit
set_option linter.unusedVariables false
set_option maxRecDepth 100000
theorem regC_one (X : Nat → Int) (pc m : Int) : (regC X pc m).all (·.oneCell') = true := by simp [regC, Value.oneCell']
def zeroRegs : Array Value := #[.int .u64 0, .int .u64 0, .int .u64 0, .int .u64 0, .int .u64 0, .int .u64 0, .int .u64 0, .int .u64 0, .int .u64 0, .int .u64 0, .int .u64 0, .int .u64 0, .int .u64 0, .int .u64 0, .int .u64 0, .int .u64 0, .int .u64 0, .int .i64 0]
theorem two_at {w x : World} {cs ds : Array Value} {t s : TypeId} (h : (w.alloc (.cells cs t)).alloc (.cells ds s) = x) : Below w.heap.size w x ∧ x.heap[w.heap.size]? = some (.cells cs t (0, 0)) ∧ x.heap[w.heap.size + 1]? = some (.cells ds s (0, 0)) ∧ x.heap.size = w.heap.size + 1 + 1 := by
  have z1 : (w.alloc (.cells cs t)).heap.size = w.heap.size + 1 := by simp
  subst h
  refine ⟨((Below.refl _ _).alloc (Nat.le_refl _) _).alloc (by simp) _, ?_, ?_, by simp⟩
  · rw [heap_alloc_past _ _ (by omega)]
    exact heap_alloc_at _ _
  · have := heap_alloc_at (w.alloc (.cells cs t)) (.cells ds s)
    rwa [z1] at this
theorem regC_at (X : Nat → Int) (pc m : Int) (k : Nat) (h : k < 16) : (regC X pc m)[k]? = some (.int .u64 (X k)) := by
  match k, h with
  | 0, _ | 1, _ | 2, _ | 3, _ | 4, _ | 5, _ | 6, _ | 7, _ | 8, _ | 9, _ | 10, _ | 11, _ | 12, _ | 13, _ | 14, _ | 15, _ => rfl
  | k + 16, h => omega
theorem regC_set (X : Nat → Int) (pc m : Int) (k : Nat) (h : k < 16) (v : Int) : (regC X pc m).setIfInBounds k (.int .u64 v) = regC (upd X k v) pc m := by
  match k, h with
  | 0, _ | 1, _ | 2, _ | 3, _ | 4, _ | 5, _ | 6, _ | 7, _ | 8, _ | 9, _ | 10, _ | 11, _ | 12, _ | 13, _ | 14, _ | 15, _ => rfl
  | k + 16, h => omega
theorem regC_pc (X : Nat → Int) (pc m v : Int) : (regC X pc m).setIfInBounds 16 (.int .u64 v) = regC X v m := rfl
/-- the address behind an instruction -/
def nx (pc : Int) : Int := IntKind.u64.wrap (pc + 4)
theorem skip_any (X : Nat → Int) (pc m : Int) (w : World) : Calls Try.prog 10 #[.agg (regC X pc m)] w fun e w' => e = .returned (.agg (regC X (nx pc) m)) ∧ Below w.heap.size w w' := by
  obtain ⟨x, hx⟩ : ∃ x, (w.alloc (.cells (regC X pc m) 27)).alloc (.cells zeroRegs 27) = x := ⟨_, rfl⟩
  obtain ⟨b0, a0, a1, zx⟩ := two_at hx
  have q16 : x.cell? ⟨w.heap.size, 16, none⟩ = some (.int .u64 pc) := (cell_at a0 16).trans rfl
  have f16 := fz_at a0 16
  have k1 := heap_setCell a0 16 (.int .u64 (IntKind.u64.wrap (pc + 4)))
  have t1 := trn_set1 a0 16 (.int .u64 (IntKind.u64.wrap (pc + 4)))
  have HL : Hid ((x.setCell ⟨w.heap.size, 16, none⟩ (.int .u64 (IntKind.u64.wrap (pc + 4)))).heap[w.heap.size]? = some (.cells (regC X (nx pc) m) 27 (0, 0))) := k1.trans rfl
  have HS : Hid (_) := (t1.block (w.heap.size + 1) (lt_of_heap a1) (by omega)).trans a1
  have HB : Hid (Below w.heap.size w (x.setCell ⟨w.heap.size, 16, none⟩ (.int .u64 (IntKind.u64.wrap (pc + 4))))) := b0.setCell (Nat.le_refl _) _
  clear k1 t1 a0 a1 b0
  unfold zeroRegs at hx
  go_enter Try.func10, Try.ntmps10
  go_wp2_with (first
    | (refine wpList_load_row rfl 27 _ rfl w.heap.size rfl 27 (regC X (nx pc) m) (0, 0) _ HL.out Try.underlying27 rfl inf25 ?_)
    | (refine wpList_store_row rfl 27 _ _ rfl (w.heap.size + 1) (regC X (nx pc) m) rfl rfl 27 zeroRegs HS.out inf25 rfl (regC_one _ _ _) ?_)
    | fail)
  refine bodyPost_ret (v := _) (results_cell_row Try.results10 _ _ _ _ _ _ _ rfl (setRow_heap _ _ _ _ _ _ HS.out) Try.underlying27 rfl inf25) rfl ⟨rfl, HB.out.trans (below_setRow' _ _ (by omega) _)⟩
theorem rskip_any (X : Nat → Int) (pc m : Int) (w : World) : Calls Try.prog 12 #[.agg (regC X pc m)] w fun e w' => e = .returned (.agg (regC X (nx pc) m)) ∧ Below w.heap.size w w' := by
  obtain ⟨x, hx⟩ : ∃ x, (w.alloc (.cells (regC X pc m) 27)).alloc (.cells zeroRegs 27) = x := ⟨_, rfl⟩
  obtain ⟨b0, a0, a1, zx⟩ := two_at hx
  have q16 : x.cell? ⟨w.heap.size, 16, none⟩ = some (.int .u64 pc) := (cell_at a0 16).trans rfl
  have f16 := fz_at a0 16
  have k1 := heap_setCell a0 16 (.int .u64 (IntKind.u64.wrap (pc + 4)))
  have t1 := trn_set1 a0 16 (.int .u64 (IntKind.u64.wrap (pc + 4)))
  have HL : Hid ((x.setCell ⟨w.heap.size, 16, none⟩ (.int .u64 (IntKind.u64.wrap (pc + 4)))).heap[w.heap.size]? = some (.cells (regC X (nx pc) m) 27 (0, 0))) := k1.trans rfl
  have HS : Hid (_) := (t1.block (w.heap.size + 1) (lt_of_heap a1) (by omega)).trans a1
  have HB : Hid (Below w.heap.size w (x.setCell ⟨w.heap.size, 16, none⟩ (.int .u64 (IntKind.u64.wrap (pc + 4))))) := b0.setCell (Nat.le_refl _) _
  clear k1 t1 a0 a1 b0
  unfold zeroRegs at hx
  go_enter Try.func12, Try.ntmps12
  go_wp2_with (first
    | (refine wpList_load_row rfl 27 _ rfl w.heap.size rfl 27 (regC X (nx pc) m) (0, 0) _ HL.out Try.underlying27 rfl inf25 ?_)
    | (refine wpList_store_row rfl 27 _ _ rfl (w.heap.size + 1) (regC X (nx pc) m) rfl rfl 27 zeroRegs HS.out inf25 rfl (regC_one _ _ _) ?_)
    | fail)
  refine bodyPost_ret (v := _) (results_cell_row Try.results12 _ _ _ _ _ _ _ rfl (setRow_heap _ _ _ _ _ _ HS.out) Try.underlying27 rfl inf25) rfl ⟨rfl, HB.out.trans (below_setRow' _ _ (by omega) _)⟩
/-- the registers behind an answer -/
def ansX (X : Nat → Int) (e v : Int) : Nat → Int := upd (upd X 10 (IntKind.u64.wrap e)) 11 (if e = 0 then v else 0)
theorem answer_any (X : Nat → Int) (pc m e v : Int) (w : World) : Calls Try.prog 8 #[.agg (regC X pc m), .int .i64 e, .int .u64 v] w fun r w' => r = .returned (.agg (regC (ansX X e v) (nx pc) m)) ∧ Below w.heap.size w w' := by
  obtain ⟨x, hx⟩ : ∃ x, (w.alloc (.cells (regC X pc m) 27)).alloc (.cells zeroRegs 27) = x := ⟨_, rfl⟩
  obtain ⟨b0, a0, a1, zx⟩ := two_at hx
  have xl := lt_of_heap a0
  have q10 : x.cell? ⟨w.heap.size, 10, none⟩ = some (.int .u64 (X 10)) := (cell_at a0 10).trans rfl
  have q11 : x.cell? ⟨w.heap.size, 11, none⟩ = some (.int .u64 (X 11)) := (cell_at a0 11).trans rfl
  have f10 := fz_at a0 10
  have f11 := fz_at a0 11
  unfold ansX
  obtain ⟨u, hu⟩ : ∃ u, (if e = 0 then v else 0) = u := ⟨_, rfl⟩
  rw [hu]
  have k1 := heap_setCell a0 10 (.int .u64 (IntKind.u64.wrap e))
  have k2 := heap_setCell k1 11 (.int .u64 u)
  have t2 := (trn_set1 a0 10 (.int .u64 (IntKind.u64.wrap e))).trans (trn_set1 k1 11 (.int .u64 u))
  rw [regC_set _ _ _ 10 (by decide), regC_set _ _ _ 11 (by decide)] at k2
  have HB : Hid (Below w.heap.size w ((x.setCell ⟨w.heap.size, 10, none⟩ (.int .u64 (IntKind.u64.wrap e))).setCell ⟨w.heap.size, 11, none⟩ (.int .u64 u))) := (b0.setCell (Nat.le_refl _) _).setCell (Nat.le_refl _) _
  have HS : Hid (_) := (t2.block (w.heap.size + 1) (lt_of_heap a1) (by omega)).trans a1
  have HL : Hid (_) := k2
  generalize upd (upd X 10 (IntKind.u64.wrap e)) 11 u = Z at *
  have C1 := skip_any Z pc m ((x.setCell ⟨w.heap.size, 10, none⟩ (.int .u64 (IntKind.u64.wrap e))).setCell ⟨w.heap.size, 11, none⟩ (.int .u64 u))
  clear k1 k2 t2 a0 a1 b0
  unfold zeroRegs at hx
  by_cases he : e = 0
  · rw [if_pos he] at hu
    subst hu
    subst he
    go_enter Try.func8, Try.ntmps8
    go_wp2_with (first
      | (refine wpList_load_row rfl 27 _ rfl w.heap.size rfl 27 (regC Z pc m) (0, 0) _ HL.out Try.underlying27 rfl inf25 ?_)
      | fail)
    refine C1.mono ?_
    rintro r y ⟨rfl, b2⟩
    have HS2 : Hid (_) := (b2.block _ (lt_of_heap HS.out)).trans HS.out
    have HB2 : Hid (_) := HB.out.trans (b2.mono HB.out.size)
    clear C1 b2 HL HB HS zx hx xl f10 f11 q10 q11
    go_wp2_with (first
      | (refine wpList_store_row rfl 27 _ _ rfl (w.heap.size + 1) (regC Z (nx pc) m) rfl rfl 27 zeroRegs HS2.out inf25 rfl (regC_one _ _ _) ?_)
      | fail)
    refine bodyPost_ret (v := _) (results_cell_row Try.results8 _ _ _ _ _ _ _ rfl (setRow_heap _ _ _ _ _ _ HS2.out) Try.underlying27 rfl inf25) rfl ⟨rfl, HB2.out.trans (below_setRow' _ _ (by omega) _)⟩
  · rw [if_neg he] at hu
    subst hu
    have e0 : (e == 0) = false := beq_false_of_ne he
    go_enter Try.func8, Try.ntmps8
    go_wp2_with (first
      | (refine wpList_load_row rfl 27 _ rfl w.heap.size rfl 27 (regC Z pc m) (0, 0) _ HL.out Try.underlying27 rfl inf25 ?_)
      | fail)
    refine C1.mono ?_
    rintro r y ⟨rfl, b2⟩
    have HS2 : Hid (_) := (b2.block _ (lt_of_heap HS.out)).trans HS.out
    have HB2 : Hid (_) := HB.out.trans (b2.mono HB.out.size)
    clear C1 b2 HL HB HS zx hx xl f10 f11 q10 q11
    go_wp2_with (first
      | (refine wpList_store_row rfl 27 _ _ rfl (w.heap.size + 1) (regC Z (nx pc) m) rfl rfl 27 zeroRegs HS2.out inf25 rfl (regC_one _ _ _) ?_)
      | fail)
    refine bodyPost_ret (v := _) (results_cell_row Try.results8 _ _ _ _ _ _ _ rfl (setRow_heap _ _ _ _ _ _ HS2.out) Try.underlying27 rfl inf25) rfl ⟨rfl, HB2.out.trans (below_setRow' _ _ (by omega) _)⟩
def faultF (c : Int) : Int := if c = 20 then 1 else if c = 21 then 5 else if c = 23 then 7 else c
theorem faultOf_any (c : Int) (w : World) : Calls Try.prog 11 #[.int .i64 c] w fun r w' => r = .returned (.int .i64 (faultF c)) ∧ w' = w := by
  unfold faultF
  by_cases h0 : c = 20
  · subst h0
    go_enter Try.func11, Try.ntmps11
    go_wp2_with fail
    go_ret
    exact ⟨rfl, rfl⟩
  · rw [if_neg h0]
    by_cases h1 : c = 21
    · subst h1
      go_enter Try.func11, Try.ntmps11
      go_wp2_with fail
      go_ret
      exact ⟨rfl, rfl⟩
    · rw [if_neg h1]
      by_cases h2 : c = 23
      · subst h2
        go_enter Try.func11, Try.ntmps11
        go_wp2_with fail
        go_ret
        exact ⟨rfl, rfl⟩
      · rw [if_neg h2]
        have c0 : (c == 20) = false := beq_false_of_ne h0
        have c1 : (c == 21) = false := beq_false_of_ne h1
        have c2 : (c == 23) = false := beq_false_of_ne h2
        go_enter Try.func11, Try.ntmps11
        go_wp2_with fail
        go_ret
        exact ⟨rfl, rfl⟩
theorem rfault_any (c v g : Int) (w : World) : Calls Try.prog 7 #[.agg #[.int .i64 c, .int .u64 v, .int .u64 g]] w fun r w' => r = .returned (.agg #[.int .i64 (faultF c), .int .u64 v, .int .u64 0]) ∧ Below w.heap.size w w' := by
  unfold faultF
  have bx := fun n : Int => ((((Below.refl w.heap.size w).alloc (Nat.le_refl _) (.cells #[.int .i64 n, .int .u64 v, .int .u64 0] 24)).alloc (by simp) (.cells #[.int .i64 n, .int .u64 v, .int .u64 0] 24)))
  by_cases h0 : c = 20
  · subst h0
    go_enter Try.func7, Try.ntmps7
    go_wp2_with fail
    exact bodyPost_ret (v := .agg #[.int .i64 1, .int .u64 v, .int .u64 0]) (by simp [results, Try.results7, go_sem]) rfl ⟨rfl, bx _⟩
  · rw [if_neg h0]
    by_cases h1 : c = 21
    · subst h1
      go_enter Try.func7, Try.ntmps7
      go_wp2_with fail
      exact bodyPost_ret (v := .agg #[.int .i64 5, .int .u64 v, .int .u64 0]) (by simp [results, Try.results7, go_sem]) rfl ⟨rfl, bx _⟩
    · rw [if_neg h1]
      by_cases h2 : c = 23
      · subst h2
        go_enter Try.func7, Try.ntmps7
        go_wp2_with fail
        exact bodyPost_ret (v := .agg #[.int .i64 7, .int .u64 v, .int .u64 0]) (by simp [results, Try.results7, go_sem]) rfl ⟨rfl, bx _⟩
      · rw [if_neg h2]
        have c0 : (c == 20) = false := beq_false_of_ne h0
        have c1 : (c == 21) = false := beq_false_of_ne h1
        have c2 : (c == 23) = false := beq_false_of_ne h2
        go_enter Try.func7, Try.ntmps7
        go_wp2_with fail
        exact bodyPost_ret (v := .agg #[.int .i64 c, .int .u64 v, .int .u64 0]) (by simp [results, Try.results7, go_sem]) rfl ⟨rfl, bx _⟩
theorem fault_any (c v g : Int) (w : World) : Calls Try.prog 6 #[.agg #[.int .i64 c, .int .u64 v, .int .u64 g]] w fun r w' => r = .returned (.agg #[.int .i64 (faultF c), .int .u64 v, .int .u64 0]) ∧ Below w.heap.size w w' := by
  have C1 := faultOf_any c
  generalize faultF c = f at *
  go_enter Try.func6, Try.ntmps6
  go_upto_region 1 with fail
  go_region_with ((go_at_call 11; refine (C1 _).mono ?_; rintro e y ⟨rfl, rfl⟩))
  all_goals
    rename_i hK
    refine hK _ _ ?_
    go_wp2_with fail
    exact bodyPost_ret (v := .agg #[.int .i64 f, .int .u64 v, .int .u64 0]) (by simp [results, Try.results6, go_sem]) rfl ⟨rfl, (((Below.refl _ _).alloc (Nat.le_refl _) _).alloc (by simp) _).drew⟩
end Go.Proofs.Ytkckobbedpccfaa
