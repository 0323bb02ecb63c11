/-
  Machines that no call made: what each call tells of them.
-/
import Derived.Test.YtnfpfepegjiekaaGreatRows
import Derived.WalkKit
import Derived.Deep.RegionHeld2
import Derived.Deep.MidRow
import Derived.Laws.Rows
import Derived.Laws.Tables
import Derived.Laws.ResultCell
namespace Go.Proofs.YtnfpfepegjiekaaGreat
open Go.RowKit
set_option linter.unusedVariables false
set_option maxRecDepth 20000
def Hid (p : Prop) : Prop := p
theorem Hid.out {p : Prop} (h : Hid p) : p := h
/-- no machine: nil, or one that no call made -/
def UN (w : World) (v : Value) : Prop := v = .pointer none ∨ ∃ b, v = .pointer (some ⟨b, 0, none⟩) ∧ b < w.heap.size ∧ w.cell? ⟨b, 1, none⟩ = some (.slice none 0 0)
theorem UN.below {w w' : World} {v : Value} (h : UN w v) (hb : Below w.heap.size w w') : UN w' v := by
  obtain rfl | ⟨b, rfl, h1, h2⟩ := h
  · exact .inl rfl
  · exact .inr ⟨b, rfl, Nat.lt_of_lt_of_le h1 hb.size, (World.cell?_of_block (hb.block b h1)).trans h2⟩
def zeroCtx : Array Value := #[.int .i64 0, .int .u64 0, .int .u64 0, .int .u64 0, .int .u64 0, .int .u64 0, .int .u64 0, .int .u64 0, .int .u64 0, .int .u64 0, .int .u64 0, .int .u64 0, .int .u64 0, .int .u64 0, .int .u64 0, .int .u64 0, .int .u64 0, .int .u64 0, .int .i64 0, .pointer none, .int .i64 0]
theorem isMade_un {w : World} {v : Value} (h : UN w v) : Calls Tryz.prog 18 #[v] w fun e w' => e = .returned (.bool false) ∧ w' = w := by
  obtain rfl | ⟨b, rfl, h1, h2⟩ := h
  · go_enter Tryz.func18, Tryz.ntmps18
    go_wp2_with fail
    go_ret
    exact ⟨rfl, rfl⟩
  · go_enter Tryz.func18, Tryz.ntmps18
    go_wp2_with fail
    go_ret
    exact ⟨rfl, rfl⟩
theorem of_un {w : World} {v : Value} (h : UN w v) (n : Int) : Calls Tryz.prog 17 #[v, .int .i64 n] w fun e w' => e = .returned (.tuple #[.pointer none, .int .i64 1]) ∧ w' = w := by
  have HC := isMade_un h
  clear h
  go_enter Tryz.func17, Tryz.ntmps17
  go_wp2_with fail
  refine HC.mono ?_
  rintro e w ⟨rfl, rfl⟩
  go_wp2_with fail
  refine bodyPost_ret (v := _) ?h1 rfl ⟨rfl, rfl⟩
  case h1 => simp [results, Tryz.results17, go_sem]
theorem running_un {w : World} {v : Value} (h : UN w v) (n : Int) : Calls Tryz.prog 13 #[v, .int .i64 n] w fun e w' => e = .returned (.tuple #[.pointer none, .int .i64 1]) ∧ w' = w := by
  have HC := of_un h n
  clear h
  go_enter Tryz.func13, Tryz.ntmps13
  go_wp2_with fail
  refine HC.mono ?_
  rintro e w ⟨rfl, rfl⟩
  go_wp2_with fail
  refine bodyPost_ret (v := _) ?h1 rfl ⟨rfl, rfl⟩
  case h1 => simp [results, Tryz.results13, go_sem]
theorem cores_un {w : World} {v : Value} (h : UN w v) : Calls Tryz.prog 8 #[v] w fun e w' => e = .returned (.int .i64 0) ∧ w' = w := by
  have HC := isMade_un h
  clear h
  go_enter Tryz.func8, Tryz.ntmps8
  go_wp2_with fail
  refine HC.mono ?_
  rintro e w ⟨rfl, rfl⟩
  go_wp2_with fail
  go_ret
  exact ⟨rfl, rfl⟩
theorem memory_un {w : World} {v : Value} (h : UN w v) : Calls Tryz.prog 9 #[v] w fun e w' => e = .returned (.pointer none) ∧ w' = w := by
  have HC := isMade_un h
  clear h
  go_enter Tryz.func9, Tryz.ntmps9
  go_wp2_with fail
  refine HC.mono ?_
  rintro e w ⟨rfl, rfl⟩
  go_wp2_with fail
  go_ret
  exact ⟨rfl, rfl⟩
theorem flush_un {w : World} {v : Value} (h : UN w v) (n g : Int) : Calls Tryz.prog 7 #[v, .int .i64 n, .int .i64 g] w fun e w' => e = .returned (.tuple #[.int .i64 0, .int .i64 1]) ∧ w' = w := by
  have HC := of_un h n
  clear h
  go_enter Tryz.func7, Tryz.ntmps7
  go_wp2_with fail
  refine HC.mono ?_
  rintro e w ⟨rfl, rfl⟩
  go_wp2_with fail
  refine bodyPost_ret (v := _) ?h1 rfl ⟨rfl, rfl⟩
  case h1 => simp [results, Tryz.results7, go_sem]
theorem kept_un {w : World} {v : Value} (h : UN w v) (n g : Int) : Calls Tryz.prog 12 #[v, .int .i64 n, .int .i64 g] w fun e w' => e = .returned (.slice none 0 0) ∧ w' = w := by
  have HC := of_un h n
  clear h
  go_enter Tryz.func12, Tryz.ntmps12
  go_wp2_with fail
  refine HC.mono ?_
  rintro e w ⟨rfl, rfl⟩
  go_wp2_with fail
  go_ret
  exact ⟨rfl, rfl⟩
theorem step_un {w : World} {v : Value} (h : UN w v) (n : Int) : Calls Tryz.prog 6 #[v, .int .i64 n] w fun e w' => e = .returned (.tuple #[.agg #[.int .i64 0, .int .i64 0, .int .u64 0, .int .u64 0, .bool false, .bool false], .int .i64 1]) ∧ Below w.heap.size w w' := by
  have hb : Below w.heap.size w (w.alloc (.cells #[.int .i64 0, .int .i64 0, .int .u64 0, .int .u64 0, .bool false, .bool false] 45)) := (Below.refl _ _).alloc (Nat.le_refl _) _
  have HC := running_un (h.below hb) n
  clear h
  go_enter Tryz.func6, Tryz.ntmps6
  go_wp2_with fail
  refine HC.mono ?_
  rintro e x ⟨rfl, rfl⟩
  go_wp2_with fail
  refine bodyPost_ret (v := _) ?h1 rfl ⟨rfl, ?h2⟩
  case h1 => simp [results, Tryz.results6, go_sem]
  case h2 => exact hb
theorem und36 : ∃ fs, Tryz.prog.underlying 36 = some (.struct fs) := ⟨_, Tryz.underlying36⟩
theorem inf36 : (Tryz.prog.info? 36).map (·.size) = some zeroCtx.size := by kernel_rfl
theorem zc_one : zeroCtx.all (·.oneCell') = true := by simp [zeroCtx, Value.oneCell']
theorem results_cell_row2 {P : Program} {fn : Func} {p u : Tmp} {ty : TypeId} (h : fn.results = #[.cell p ty, .tmp u]) (tmps : Array Value) (w : World) (g : Nat) (t : TypeId) (cs : Array Value) (fr : Nat × Nat) (d : TypeDesc)
    (hp : tmps.getD p undef = .pointer (some ⟨g, 0, none⟩)) (hg : w.heap[g]? = some (.cells cs t fr))
    (hu : P.underlying ty = some d) (hd : (match d with | .struct _ | .array _ _ => true | _ => false) = true) (hi : (P.info? ty).map (·.size) = some cs.size) :
    (results fn tmps).run P w = .ok (.tuple #[.agg cs, tmps.getD u undef]) w := by
  rw [results_cell_tmp h, hp]
  simp [asAddr, run_loadVar_row w g t ty cs fr d hg hu hd hi]
set_option maxHeartbeats 1600000 in
theorem get_un {w : World} {v : Value} (h : UN w v) (n : Int) : Calls Tryz.prog 4 #[v, .int .i64 n] w fun e w' => e = .returned (.tuple #[.agg zeroCtx, .bool false]) ∧ Below w.heap.size w w' := by
  have hb : Below w.heap.size w (w.alloc (.cells zeroCtx 36)) := (Below.refl _ _).alloc (Nat.le_refl _) _
  have hN : (w.alloc (.cells zeroCtx 36)).heap[w.heap.size]? = some (.cells zeroCtx 36 (0, 0)) := heap_alloc_new w _
  have HC := running_un (h.below hb) n
  clear h
  obtain ⟨fs, hu⟩ := und36
  obtain ⟨x, hx⟩ : ∃ x, w.alloc (.cells zeroCtx 36) = x := ⟨_, rfl⟩
  rw [hx] at hb hN HC
  unfold zeroCtx at hx
  go_enter Tryz.func4, Tryz.ntmps4
  go_wp2_with fail
  clear hx
  refine HC.mono ?_
  rintro e x ⟨rfl, rfl⟩
  go_wp2_with (first
    | (refine wpList_store_row rfl 36 _ _ rfl w.heap.size zeroCtx rfl rfl 36 _ hN inf36 rfl zc_one ?_
       obtain ⟨y, hy⟩ : ∃ y, x.setRow w.heap.size zeroCtx = y := ⟨_, rfl⟩
       have hB : y.heap[w.heap.size]? = some (.cells zeroCtx 36 (0, 0)) ∧ Below w.heap.size w y := by
         rw [← hy]
         exact ⟨setRow_heap _ _ _ _ _ _ hN, hb.trans ⟨rfl, rfl, rfl, by simp [World.setRow], fun k hk => setRow_other _ _ k _ (by omega)⟩⟩
       rw [hy]
       have HB : Hid (y.heap[w.heap.size]? = some (.cells zeroCtx 36 (0, 0)) ∧ Below w.heap.size w y) := hB
       clear hy hB)
    | fail)
  refine bodyPost_ret (v := _) (results_cell_row2 Tryz.results4 _ _ _ _ _ _ _ rfl HB.out.1 hu rfl inf36) rfl ⟨rfl, HB.out.2⟩
set_option maxHeartbeats 1600000 in
theorem take_un {w : World} {v : Value} (h : UN w v) (n : Int) : Calls Tryz.prog 5 #[v, .int .i64 n] w fun e w' => e = .returned (.tuple #[.agg zeroCtx, .int .i64 1]) ∧ Below w.heap.size w w' := by
  have hb : Below w.heap.size w (w.alloc (.cells zeroCtx 36)) := (Below.refl _ _).alloc (Nat.le_refl _) _
  have hN : (w.alloc (.cells zeroCtx 36)).heap[w.heap.size]? = some (.cells zeroCtx 36 (0, 0)) := heap_alloc_new w _
  have HC := running_un (h.below hb) n
  clear h
  obtain ⟨fs, hu⟩ := und36
  obtain ⟨x, hx⟩ : ∃ x, w.alloc (.cells zeroCtx 36) = x := ⟨_, rfl⟩
  rw [hx] at hb hN HC
  unfold zeroCtx at hx
  go_enter Tryz.func5, Tryz.ntmps5
  go_wp2_with fail
  clear hx
  refine HC.mono ?_
  rintro e x ⟨rfl, rfl⟩
  go_wp2_with (first
    | (refine wpList_store_row rfl 36 _ _ rfl w.heap.size zeroCtx rfl rfl 36 _ hN inf36 rfl zc_one ?_
       obtain ⟨y, hy⟩ : ∃ y, x.setRow w.heap.size zeroCtx = y := ⟨_, rfl⟩
       have hB : y.heap[w.heap.size]? = some (.cells zeroCtx 36 (0, 0)) ∧ Below w.heap.size w y := by
         rw [← hy]
         exact ⟨setRow_heap _ _ _ _ _ _ hN, hb.trans ⟨rfl, rfl, rfl, by simp [World.setRow], fun k hk => setRow_other _ _ k _ (by omega)⟩⟩
       rw [hy]
       have HB : Hid (y.heap[w.heap.size]? = some (.cells zeroCtx 36 (0, 0)) ∧ Below w.heap.size w y) := hB
       clear hy hB)
    | fail)
  refine bodyPost_ret (v := _) (results_cell_row2 Tryz.results5 _ _ _ _ _ _ _ rfl HB.out.1 hu rfl inf36) rfl ⟨rfl, HB.out.2⟩
theorem put_un {w : World} {v : Value} (h : UN w v) (n : Int) (c : Array Value) : Calls Tryz.prog 10 #[v, .int .i64 n, .agg c] w fun e w' => e = .returned (.int .i64 1) ∧ Below w.heap.size w w' := by
  have hb : Below w.heap.size w (w.alloc (.cells c 36)) := (Below.refl _ _).alloc (Nat.le_refl _) _
  have HC := of_un (h.below hb) n
  clear h
  go_enter Tryz.func10, Tryz.ntmps10
  go_wp2_with fail
  refine HC.mono ?_
  rintro e x ⟨rfl, rfl⟩
  go_wp2_with fail
  go_ret
  exact ⟨rfl, hb⟩
theorem new_file (n : Int) (w : World) : Calls Tryz.prog 11 #[.int .i64 n] w fun e w' => (∃ b, e = .returned (.pointer (some ⟨b, 0, none⟩))) ∧ Below w.heap.size w w' := by
  go_enter Tryz.func11, Tryz.ntmps11
  go_wp2_with fail
  go_ret
  exact ⟨⟨_, rfl⟩, (Below.refl _ _).alloc (Nat.le_refl _) _⟩
end Go.Proofs.YtnfpfepegjiekaaGreat
