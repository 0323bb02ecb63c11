/-
  Traps compared; the Answer of the document.
-/
import Derived.Test.YtkckobbedpccfaaQt
import Derived.Test.YtkckobbedpccfaaCa
namespace Go.Proofs.Ytkckobbedpccfaa
open Go.RowKit
set_option linter.unusedVariables false
set_option maxRecDepth 100000
theorem eq_ints3 (D : Nat) (xs ys : Array Value) (f0 f1 f2 : Field) (t0 : f0.type = 3) (o0 : f0.offset = 0) (n0 : f0.name ≠ "_") (t1 : f1.type = 22) (o1 : f1.offset = 1) (n1 : f1.name ≠ "_") (t2 : f2.type = 22) (o2 : f2.offset = 2) (n2 : f2.name ≠ "_") (P : Program) (w : World) (x0 x1 x2 y0 y1 y2 : Value) (b0 b1 b2 : Bool)
    (p0 : (part 3 xs 0).run P w = .ok x0 w) (p1 : (part 22 xs 1).run P w = .ok x1 w) (p2 : (part 22 xs 2).run P w = .ok x2 w) (r0 : (part 3 ys 0).run P w = .ok y0 w) (r1 : (part 22 ys 1).run P w = .ok y1 w) (r2 : (part 22 ys 2).run P w = .ok y2 w)
    (q0 : (Op.equalIn D 3 x0 y0).run P w = .ok b0 w) (q1 : (Op.equalIn D 22 x1 y1).run P w = .ok b1 w) (q2 : (Op.equalIn D 22 x2 y2).run P w = .ok b2 w) : (Op.eqFields D xs ys [f0, f1, f2]).run P w = .ok (b0 && b1 && b2) w := by
  cases b0 <;> cases b1 <;> cases b2 <;> simp [Op.eqFields, Sem.run_bind, n0, n1, n2, t0, t1, t2, o0, o1, o2, p0, p1, p2, r0, r1, r2, q0, q1, q2]
theorem trap_fields : ∃ f0 f1 f2 : Field, (Try.prog.fieldsOf 24).toList = [f0, f1, f2] ∧ f0.type = 3 ∧ f0.offset = 0 ∧ f0.name = "Cause" ∧ f1.type = 22 ∧ f1.offset = 1 ∧ f1.name = "Value" ∧ f2.type = 22 ∧ f2.offset = 2 ∧ f2.name = "Guest" := by
  unfold Program.fieldsOf
  rw [Try.underlying24]
  exact ⟨_, _, _, rfl, rfl, rfl, rfl, rfl, rfl, rfl, rfl, rfl, rfl⟩
theorem trap_struct : Try.prog.underlying 24 = some (.struct (Try.prog.fieldsOf 24)) := by unfold Program.fieldsOf; rw [Try.underlying24]
theorem eq_trap_at (d : Nat) (a b c a' b' c' : Int) (w : World) : (Op.equalIn (d + 1 + 1) 24 (.agg #[.int .i64 a, .int .u64 b, .int .u64 c]) (.agg #[.int .i64 a', .int .u64 b', .int .u64 c'])).run Try.prog w = .ok ((a == a') && (b == b') && (c == c')) w := by
  have e3 : ∀ (xs : Array Value) (v : Value), xs[0]? = some v → (part 3 xs 0).run Try.prog w = .ok v w := fun xs v h => by simp [part, Try.isAgg3, h]
  have e22 : ∀ (xs : Array Value) (j : Nat) (v : Value), xs[j]? = some v → (part 22 xs j).run Try.prog w = .ok v w := fun xs j v h => by simp [part, Try.isAgg22, h]
  obtain ⟨f0, f1, f2, hl3, t0, o0, n0, t1, o1, n1, t2, o2, n2⟩ := trap_fields
  have h := eq_ints3 (d + 1) #[.int .i64 a, .int .u64 b, .int .u64 c] #[.int .i64 a', .int .u64 b', .int .u64 c'] f0 f1 f2 t0 o0 (by rw [n0]; decide) t1 o1 (by rw [n1]; decide) t2 o2 (by rw [n2]; decide) Try.prog w _ _ _ _ _ _ _ _ _ (e3 _ _ rfl) (e22 _ _ _ rfl) (e22 _ _ _ rfl) (e3 _ _ rfl) (e22 _ _ _ rfl) (e22 _ _ _ rfl)
    (run_equalIn_int (P := Try.prog) w d 3 .i64 .i64 a a' Try.underlying3) (run_equalIn_int (P := Try.prog) w d 22 .u64 .u64 b b' Try.underlying22) (run_equalIn_int (P := Try.prog) w d 22 .u64 .u64 c c' Try.underlying22)
  rw [run_equalIn_struct w (d + 1) 24 _ _ trap_struct Try.stoodInHeld24, hl3]
  exact h
theorem eq_trap (a b c a' b' c' : Int) (w : World) : (Op.equalIn 10000 24 (.agg #[.int .i64 a, .int .u64 b, .int .u64 c]) (.agg #[.int .i64 a', .int .u64 b', .int .u64 c'])).run Try.prog w = .ok ((a == a') && (b == b') && (c == c')) w := by
  have h := eq_trap_at 9998 a b c a' b' c' w
  have e : (9998 + 1 + 1 : Nat) = 10000 := rfl
  rwa [e] at h
theorem upd_twice (X : Nat → Int) (k : Nat) (a b : Int) : upd (upd X k a) k b = upd X k b := by
  funext n
  unfold upd
  split <;> rfl
set_option maxHeartbeats 1600000 in
theorem ranswer_zero (X : Nat → Int) (pc m v : Int) (w : World) : Calls Try.prog 9 #[.agg (regC X pc m), .int .i64 0, .int .u64 v] w fun r w' => r = .returned (.agg (regC (upd (upd X 10 (IntKind.u64.wrap 0)) 11 v) (nx pc) m)) ∧ Below w.heap.size w w' := by
  obtain ⟨x, hx⟩ : ∃ x, (w.alloc (.cells (regC X pc m) 27)).alloc (.cells zeroRegs 27) = x := ⟨_, rfl⟩
  obtain ⟨b0, a0, a1, zx⟩ := two_at hx
  have C1 := rskip_any X pc m x
  have HA0 : Hid (_) := a0
  have HA1 : Hid (_) := a1
  have HB0 : Hid (_) := b0
  clear a0 a1 b0 zx
  unfold zeroRegs at hx
  obtain ⟨Z, hZ⟩ : ∃ Z, upd (upd X 10 (IntKind.u64.wrap 0)) 11 v = Z := ⟨_, rfl⟩
  rw [hZ]
  go_enter Try.func9, Try.ntmps9
  go_wp2_with (first
    | (refine wpList_load_row rfl 27 _ rfl w.heap.size rfl 27 (regC X pc m) (0, 0) _ HA0.out Try.underlying27 rfl inf25 ?_)
    | fail)
  clear hx
  refine C1.mono ?_
  rintro r y ⟨rfl, b1⟩
  have c0 := (b1.block _ (lt_of_heap HA0.out)).trans HA0.out
  have c1 := (b1.block _ (lt_of_heap HA1.out)).trans HA1.out
  have HC0 : Hid (_) := c0
  obtain ⟨z, hz⟩ : ∃ z, y.setRow w.heap.size (regC X (nx pc) m) = z := ⟨_, rfl⟩
  have t1 : Trn (fun k => k = w.heap.size) y z := by rw [← hz]; exact trn_setRow (S := fun k => k = w.heap.size) _ _ rfl _
  have d0 : z.heap[w.heap.size]? = some (.cells (regC X (nx pc) m) 27 (0, 0)) := by rw [← hz]; exact setRow_heap _ _ _ _ _ _ c0
  have d1 := (t1.block (w.heap.size + 1) (lt_of_heap c1) (by omega)).trans c1
  have HB : Hid (Below w.heap.size w z) := (HB0.out.trans (b1.mono HB0.out.size)).trans (t1.below (Nat.le_trans HB0.out.size b1.size) fun k e => by omega)
  have q10 : z.cell? ⟨w.heap.size, 10, none⟩ = some (.int .u64 (X 10)) := (cell_at d0 10).trans rfl
  have q11 : z.cell? ⟨w.heap.size, 11, none⟩ = some (.int .u64 (X 11)) := (cell_at d0 11).trans rfl
  have f10 := fz_at d0 10
  have f11 := fz_at d0 11
  have zl := lt_of_heap d0
  have k1 := heap_setCell d0 10 (.int .u64 (IntKind.u64.wrap 0))
  have k2 := heap_setCell k1 11 (.int .u64 0)
  have t2 := (trn_set1 d0 10 (.int .u64 (IntKind.u64.wrap 0))).trans (trn_set1 k1 11 (.int .u64 0))
  have k3 := heap_setCell k2 11 (.int .u64 v)
  have t3 := t2.trans (trn_set1 k2 11 (.int .u64 v))
  rw [regC_set _ _ _ 10 (by decide), regC_set _ _ _ 11 (by decide), regC_set _ _ _ 11 (by decide), upd_twice, hZ] at k3
  have HL : Hid (_) := k3
  have HS : Hid (_) := (t3.block _ (lt_of_heap d1) (by omega)).trans d1
  clear k3 t3
  have HE : Hid (Below w.heap.size w (((z.setCell ⟨w.heap.size, 10, none⟩ (.int .u64 (IntKind.u64.wrap 0))).setCell ⟨w.heap.size, 11, none⟩ (.int .u64 0)).setCell ⟨w.heap.size, 11, none⟩ (.int .u64 v))) := (((HB.out.setCell (Nat.le_refl _) _).setCell (Nat.le_refl _) _).setCell (Nat.le_refl _) _)
  clear C1 b1 c0 c1 t1 d0 d1 k1 k2 t2 HB HB0 HA0 HA1 hZ
  go_wp2_with (first
    | (refine wpList_store_row rfl 27 _ _ rfl w.heap.size (regC X (nx pc) m) rfl rfl 27 (regC X pc m) HC0.out inf25 rfl (regC_one _ _ _) ?_
       rw [hz]
       clear hz HC0)
    | (refine wpList_load_row rfl 27 _ rfl w.heap.size rfl 27 (regC Z (nx pc) m) (0, 0) _ HL.out Try.underlying27 rfl inf25 ?_)
    | (refine wpList_store_row rfl 27 _ _ rfl (w.heap.size + 1) (regC Z (nx pc) m) rfl rfl 27 zeroRegs HS.out inf25 rfl (regC_one _ _ _) ?_)
    | fail)
  refine bodyPost_ret (v := _) (results_cell_row Try.results9 _ _ _ _ _ _ _ rfl (setRow_heap _ _ _ _ _ _ HS.out) Try.underlying27 rfl inf25) rfl ⟨rfl, HE.out.trans (below_setRow' _ _ (by omega) _)⟩
set_option maxHeartbeats 1600000 in
theorem ranswer_bad (X : Nat → Int) (pc m e v : Int) (he : e ≠ 0) (w : World) : Calls Try.prog 9 #[.agg (regC X pc m), .int .i64 e, .int .u64 v] w fun r w' => r = .returned (.agg (regC (upd (upd X 10 (IntKind.u64.wrap e)) 11 0) (nx pc) m)) ∧ Below w.heap.size w w' := by
  obtain ⟨x, hx⟩ : ∃ x, (w.alloc (.cells (regC X pc m) 27)).alloc (.cells zeroRegs 27) = x := ⟨_, rfl⟩
  obtain ⟨b0, a0, a1, zx⟩ := two_at hx
  have C1 := rskip_any X pc m x
  have HA0 : Hid (_) := a0
  have HA1 : Hid (_) := a1
  have HB0 : Hid (_) := b0
  clear a0 a1 b0 zx
  unfold zeroRegs at hx
  obtain ⟨Z, hZ⟩ : ∃ Z, upd (upd X 10 (IntKind.u64.wrap e)) 11 0 = Z := ⟨_, rfl⟩
  rw [hZ]
  have e0 : (e == 0) = false := beq_false_of_ne he
  go_enter Try.func9, Try.ntmps9
  go_wp2_with (first
    | (refine wpList_load_row rfl 27 _ rfl w.heap.size rfl 27 (regC X pc m) (0, 0) _ HA0.out Try.underlying27 rfl inf25 ?_)
    | fail)
  clear hx
  refine C1.mono ?_
  rintro r y ⟨rfl, b1⟩
  have c0 := (b1.block _ (lt_of_heap HA0.out)).trans HA0.out
  have c1 := (b1.block _ (lt_of_heap HA1.out)).trans HA1.out
  have HC0 : Hid (_) := c0
  obtain ⟨z, hz⟩ : ∃ z, y.setRow w.heap.size (regC X (nx pc) m) = z := ⟨_, rfl⟩
  have t1 : Trn (fun k => k = w.heap.size) y z := by rw [← hz]; exact trn_setRow (S := fun k => k = w.heap.size) _ _ rfl _
  have d0 : z.heap[w.heap.size]? = some (.cells (regC X (nx pc) m) 27 (0, 0)) := by rw [← hz]; exact setRow_heap _ _ _ _ _ _ c0
  have d1 := (t1.block (w.heap.size + 1) (lt_of_heap c1) (by omega)).trans c1
  have HB : Hid (Below w.heap.size w z) := (HB0.out.trans (b1.mono HB0.out.size)).trans (t1.below (Nat.le_trans HB0.out.size b1.size) fun k e => by omega)
  have q10 : z.cell? ⟨w.heap.size, 10, none⟩ = some (.int .u64 (X 10)) := (cell_at d0 10).trans rfl
  have q11 : z.cell? ⟨w.heap.size, 11, none⟩ = some (.int .u64 (X 11)) := (cell_at d0 11).trans rfl
  have f10 := fz_at d0 10
  have f11 := fz_at d0 11
  have zl := lt_of_heap d0
  have k1 := heap_setCell d0 10 (.int .u64 (IntKind.u64.wrap e))
  have k2 := heap_setCell k1 11 (.int .u64 0)
  have t2 := (trn_set1 d0 10 (.int .u64 (IntKind.u64.wrap e))).trans (trn_set1 k1 11 (.int .u64 0))
  rw [regC_set _ _ _ 10 (by decide), regC_set _ _ _ 11 (by decide), hZ] at k2
  have HL : Hid (_) := k2
  have HS : Hid (_) := (t2.block _ (lt_of_heap d1) (by omega)).trans d1
  have HE : Hid (Below w.heap.size w ((z.setCell ⟨w.heap.size, 10, none⟩ (.int .u64 (IntKind.u64.wrap e))).setCell ⟨w.heap.size, 11, none⟩ (.int .u64 0))) := ((HB.out.setCell (Nat.le_refl _) _).setCell (Nat.le_refl _) _)
  clear C1 b1 c0 c1 t1 d0 d1 k1 k2 t2 HB HB0 HA0 HA1 hZ
  go_wp2_with (first
    | (refine wpList_store_row rfl 27 _ _ rfl w.heap.size (regC X (nx pc) m) rfl rfl 27 (regC X pc m) HC0.out inf25 rfl (regC_one _ _ _) ?_
       rw [hz]
       clear hz HC0)
    | (refine wpList_load_row rfl 27 _ rfl w.heap.size rfl 27 (regC Z (nx pc) m) (0, 0) _ HL.out Try.underlying27 rfl inf25 ?_)
    | (refine wpList_store_row rfl 27 _ _ rfl (w.heap.size + 1) (regC Z (nx pc) m) rfl rfl 27 zeroRegs HS.out inf25 rfl (regC_one _ _ _) ?_)
    | fail)
  refine bodyPost_ret (v := _) (results_cell_row Try.results9 _ _ _ _ _ _ _ rfl (setRow_heap _ _ _ _ _ _ HS.out) Try.underlying27 rfl inf25) rfl ⟨rfl, HE.out.trans (below_setRow' _ _ (by omega) _)⟩
theorem ranswer_any (X : Nat → Int) (pc m e v : Int) (w : World) : Calls Try.prog 9 #[.agg (regC X pc m), .int .i64 e, .int .u64 v] w fun r w' => r = .returned (.agg (regC (ansX X e v) (nx pc) m)) ∧ Below w.heap.size w w' := by
  unfold ansX
  by_cases he : e = 0
  · subst he
    exact ranswer_zero X pc m v w
  · rw [if_neg he]
    exact ranswer_bad X pc m e v he w
end Go.Proofs.Ytkckobbedpccfaa
