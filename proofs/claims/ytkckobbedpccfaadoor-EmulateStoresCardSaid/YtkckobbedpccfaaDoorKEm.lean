/-
  The calls of emulate that need nothing of other layers: Skip, Fault, Call, Answer; and the document's.
-/
import Derived.Test.YtkckobbedpccfaaDoorKRq
import Derived.Laws.CopyOwn
import Derived.Deep.DeepCutAuto
import Derived.Deep.CutRange
import Derived.Deep.RegionWith
import Derived.Deep.RegionHeld2
import Derived.Laws.Rows
import Derived.Laws.Tables
import Derived.Laws.ResultCell
namespace Go.Proofs.YtkckobbedpccfaaDoor.K
open Go.RowKit
set_option linter.unusedVariables false
set_option maxRecDepth 100000
theorem regC_one (X : Nat → Int) (pc m : Int) : (regC X pc m).all (·.oneCell') = true := by simp [regC, Value.oneCell']
def zeroRegs : Array Value := #[.int .u64 0, .int .u64 0, .int .u64 0, .int .u64 0, .int .u64 0, .int .u64 0, .int .u64 0, .int .u64 0, .int .u64 0, .int .u64 0, .int .u64 0, .int .u64 0, .int .u64 0, .int .u64 0, .int .u64 0, .int .u64 0, .int .u64 0, .int .i64 0]
theorem two_at {w x : World} {cs ds : Array Value} {t s : TypeId} (h : (w.alloc (.cells cs t)).alloc (.cells ds s) = x) : Below w.heap.size w x ∧ x.heap[w.heap.size]? = some (.cells cs t (0, 0)) ∧ x.heap[w.heap.size + 1]? = some (.cells ds s (0, 0)) ∧ x.heap.size = w.heap.size + 1 + 1 := by
  have z1 : (w.alloc (.cells cs t)).heap.size = w.heap.size + 1 := by simp
  subst h
  refine ⟨((Below.refl _ _).alloc (Nat.le_refl _) _).alloc (by simp) _, ?_, ?_, by simp⟩
  · rw [heap_alloc_past _ _ (by omega)]
    exact heap_alloc_at _ _
  · have := heap_alloc_at (w.alloc (.cells cs t)) (.cells ds s)
    rwa [z1] at this
theorem regC_at (X : Nat → Int) (pc m : Int) (k : Nat) (h : k < 16) : (regC X pc m)[k]? = some (.int .u64 (X k)) := by
  match k, h with
  | 0, _ | 1, _ | 2, _ | 3, _ | 4, _ | 5, _ | 6, _ | 7, _ | 8, _ | 9, _ | 10, _ | 11, _ | 12, _ | 13, _ | 14, _ | 15, _ => rfl
  | k + 16, h => omega
theorem regC_set (X : Nat → Int) (pc m : Int) (k : Nat) (h : k < 16) (v : Int) : (regC X pc m).setIfInBounds k (.int .u64 v) = regC (upd X k v) pc m := by
  match k, h with
  | 0, _ | 1, _ | 2, _ | 3, _ | 4, _ | 5, _ | 6, _ | 7, _ | 8, _ | 9, _ | 10, _ | 11, _ | 12, _ | 13, _ | 14, _ | 15, _ => rfl
  | k + 16, h => omega
theorem regC_pc (X : Nat → Int) (pc m v : Int) : (regC X pc m).setIfInBounds 16 (.int .u64 v) = regC X v m := rfl
/-- the address behind an instruction -/
def nx (pc : Int) : Int := IntKind.u64.wrap (pc + 4)
theorem skip_any (X : Nat → Int) (pc m : Int) (w : World) : Calls Tryd.prog 9 #[.agg (regC X pc m)] w fun e w' => e = .returned (.agg (regC X (nx pc) m)) ∧ Below w.heap.size w w' := by
  obtain ⟨x, hx⟩ : ∃ x, (w.alloc (.cells (regC X pc m) 26)).alloc (.cells zeroRegs 26) = x := ⟨_, rfl⟩
  obtain ⟨b0, a0, a1, zx⟩ := two_at hx
  have q16 : x.cell? ⟨w.heap.size, 16, none⟩ = some (.int .u64 pc) := (cell_at a0 16).trans rfl
  have f16 := fz_at a0 16
  have k1 := heap_setCell a0 16 (.int .u64 (IntKind.u64.wrap (pc + 4)))
  have t1 := trn_set1 a0 16 (.int .u64 (IntKind.u64.wrap (pc + 4)))
  have HL : Hid ((x.setCell ⟨w.heap.size, 16, none⟩ (.int .u64 (IntKind.u64.wrap (pc + 4)))).heap[w.heap.size]? = some (.cells (regC X (nx pc) m) 26 (0, 0))) := k1.trans rfl
  have HS : Hid (_) := (t1.block (w.heap.size + 1) (lt_of_heap a1) (by omega)).trans a1
  have HB : Hid (Below w.heap.size w (x.setCell ⟨w.heap.size, 16, none⟩ (.int .u64 (IntKind.u64.wrap (pc + 4))))) := b0.setCell (Nat.le_refl _) _
  clear k1 t1 a0 a1 b0
  unfold zeroRegs at hx
  go_enter Tryd.func9, Tryd.ntmps9
  go_wp2_with (first
    | (refine wpList_load_row rfl 26 _ rfl w.heap.size rfl 26 (regC X (nx pc) m) (0, 0) _ HL.out Tryd.underlying26 rfl inf25 ?_)
    | (refine wpList_store_row rfl 26 _ _ rfl (w.heap.size + 1) (regC X (nx pc) m) rfl rfl 26 zeroRegs HS.out inf25 rfl (regC_one _ _ _) ?_)
    | fail)
  refine bodyPost_ret (v := _) (results_cell_row Tryd.results9 _ _ _ _ _ _ _ rfl (setRow_heap _ _ _ _ _ _ HS.out) Tryd.underlying26 rfl inf25) rfl ⟨rfl, HB.out.trans (below_setRow' _ _ (by omega) _)⟩
theorem rskip_any (X : Nat → Int) (pc m : Int) (w : World) : Calls Tryd.prog 10 #[.agg (regC X pc m)] w fun e w' => e = .returned (.agg (regC X (nx pc) m)) ∧ Below w.heap.size w w' := by
  obtain ⟨x, hx⟩ : ∃ x, (w.alloc (.cells (regC X pc m) 26)).alloc (.cells zeroRegs 26) = x := ⟨_, rfl⟩
  obtain ⟨b0, a0, a1, zx⟩ := two_at hx
  have q16 : x.cell? ⟨w.heap.size, 16, none⟩ = some (.int .u64 pc) := (cell_at a0 16).trans rfl
  have f16 := fz_at a0 16
  have k1 := heap_setCell a0 16 (.int .u64 (IntKind.u64.wrap (pc + 4)))
  have t1 := trn_set1 a0 16 (.int .u64 (IntKind.u64.wrap (pc + 4)))
  have HL : Hid ((x.setCell ⟨w.heap.size, 16, none⟩ (.int .u64 (IntKind.u64.wrap (pc + 4)))).heap[w.heap.size]? = some (.cells (regC X (nx pc) m) 26 (0, 0))) := k1.trans rfl
  have HS : Hid (_) := (t1.block (w.heap.size + 1) (lt_of_heap a1) (by omega)).trans a1
  have HB : Hid (Below w.heap.size w (x.setCell ⟨w.heap.size, 16, none⟩ (.int .u64 (IntKind.u64.wrap (pc + 4))))) := b0.setCell (Nat.le_refl _) _
  clear k1 t1 a0 a1 b0
  unfold zeroRegs at hx
  go_enter Tryd.func10, Tryd.ntmps10
  go_wp2_with (first
    | (refine wpList_load_row rfl 26 _ rfl w.heap.size rfl 26 (regC X (nx pc) m) (0, 0) _ HL.out Tryd.underlying26 rfl inf25 ?_)
    | (refine wpList_store_row rfl 26 _ _ rfl (w.heap.size + 1) (regC X (nx pc) m) rfl rfl 26 zeroRegs HS.out inf25 rfl (regC_one _ _ _) ?_)
    | fail)
  refine bodyPost_ret (v := _) (results_cell_row Tryd.results10 _ _ _ _ _ _ _ rfl (setRow_heap _ _ _ _ _ _ HS.out) Tryd.underlying26 rfl inf25) rfl ⟨rfl, HB.out.trans (below_setRow' _ _ (by omega) _)⟩
/-- the registers behind an answer -/
def ansX (X : Nat → Int) (e v : Int) : Nat → Int := upd (upd X 10 (IntKind.u64.wrap e)) 11 (if e = 0 then v else 0)
def faultF (c : Int) : Int := if c = 20 then 1 else if c = 21 then 5 else if c = 23 then 7 else c
end Go.Proofs.YtkckobbedpccfaaDoor.K
