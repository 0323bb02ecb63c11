/-
  Whole structs loaded and compared: registers, results.
-/
import Derived.Test.YtkckobbedpccfaaDoorKBase
import Derived.Deep.MidRow
import Derived.ChangeKeysEq
namespace Go.Proofs.YtkckobbedpccfaaDoor.K
open Go.RowKit
set_option linter.unusedVariables false
set_option maxRecDepth 100000

theorem keepB {w w' : World} {k : Nat} {o : Obj} (h : w.heap[k]? = some o) (hb : Below w.heap.size w w') : w'.heap[k]? = some o := (hb.block k (lt_of_heap h)).trans h
/-- registers, as eighteen cells -/
def regC (X : Nat → Int) (pc mode : Int) : Array Value := #[.int .u64 (X 0), .int .u64 (X 1), .int .u64 (X 2), .int .u64 (X 3), .int .u64 (X 4), .int .u64 (X 5), .int .u64 (X 6), .int .u64 (X 7), .int .u64 (X 8), .int .u64 (X 9), .int .u64 (X 10), .int .u64 (X 11), .int .u64 (X 12), .int .u64 (X 13), .int .u64 (X 14), .int .u64 (X 15), .int .u64 pc, .int .i64 mode]
theorem und25 : ∃ fs, Tryd.prog.underlying 26 = some (.struct fs) := by
  have h2 : (match Tryd.prog.underlying 26 with | some (.struct _) => true | _ => false) = true := by kernel_rfl
  generalize Tryd.prog.underlying 26 = o at *
  match o, h2 with
  | some (.struct fs), _ => exact ⟨fs, rfl⟩
theorem inf25 : (Tryd.prog.info? 26).map (·.size) = some 18 := by kernel_rfl
/-- an array of words is the same as itself -/
theorem eq_items (d : Nat) (xs : Array Value) : ∀ (is : List Nat) (w : World), (∀ j, j ∈ is → ∃ z, xs[j]? = some (.int .u64 z)) → (Op.eqItems (d + 1) 23 1 xs xs is).run Tryd.prog w = .ok true w
  | [], w, _ => by simp [Op.eqItems]
  | j :: is, w, h => by
    obtain ⟨z, hz⟩ := h j (by simp)
    have ih := eq_items d xs is w (fun k hk => h k (by simp [hk]))
    have hp : (part 23 xs j).run Tryd.prog w = .ok (.int .u64 z) w := by simp [part, Tryd.isAgg23, hz]
    simp only [Op.eqItems, Sem.run_bind, Nat.mul_one, hp, Result.andThen_ok, run_equalIn_int _ _ _ _ _ _ _ Tryd.underlying23, beq_self_eq_true, Bool.not_true, Bool.false_eq_true, if_false, Sem.run_ite]
    exact ih
theorem eq_three (D : Nat) (rc : Array Value) (f0 f1 f2 : Field) (t0 : f0.type = 24) (o0 : f0.offset = 0) (n0 : f0.name ≠ "_") (t1 : f1.type = 23) (o1 : f1.offset = 16) (n1 : f1.name ≠ "_") (t2 : f2.type = 3) (o2 : f2.offset = 17) (n2 : f2.name ≠ "_") (P : Program) (w : World) (v0 v1 v2 : Value)
    (p0 : (part 24 rc 0).run P w = .ok v0 w) (p1 : (part 23 rc 16).run P w = .ok v1 w) (p2 : (part 3 rc 17).run P w = .ok v2 w) (q0 : (Op.equalIn D 24 v0 v0).run P w = .ok true w)
    (q1 : (Op.equalIn D 23 v1 v1).run P w = .ok true w) (q2 : (Op.equalIn D 3 v2 v2).run P w = .ok true w) : (Op.eqFields D rc rc [f0, f1, f2]).run P w = .ok true w := by
  simp [Op.eqFields, Sem.run_bind, n0, n1, n2, t0, t1, t2, o0, o1, o2, p0, p1, p2, q0, q1, q2]
theorem regs_fields : ∃ f0 f1 f2 : Field, (Tryd.prog.fieldsOf 26).toList = [f0, f1, f2] ∧ f0.type = 24 ∧ f0.offset = 0 ∧ f0.name = "X" ∧ f1.type = 23 ∧ f1.offset = 16 ∧ f1.name = "Pc" ∧ f2.type = 3 ∧ f2.offset = 17 ∧ f2.name = "Mode" := by
  unfold Program.fieldsOf
  rw [Tryd.underlying26]
  exact ⟨_, _, _, rfl, rfl, rfl, rfl, rfl, rfl, rfl, rfl, rfl, rfl⟩
theorem regs_struct : Tryd.prog.underlying 26 = some (.struct (Tryd.prog.fieldsOf 26)) := by unfold Program.fieldsOf; rw [Tryd.underlying26]
theorem eq_regs_at (d : Nat) (rc : Array Value) (X : Nat → Int) (pc mode : Int) (hX : ∀ n, n < 16 → rc[n]? = some (.int .u64 (X n))) (h16 : rc[16]? = some (.int .u64 pc)) (h17 : rc[17]? = some (.int .i64 mode)) (w : World) : (Op.equalIn (d + 1 + 1 + 1) 26 (.agg rc) (.agg rc)).run Tryd.prog w = .ok true w := by
  have hi : ∃ i, Tryd.prog.info? 23 = some i := Option.isSome_iff_exists.1 (by kernel_rfl)
  obtain ⟨i, hi⟩ := hi
  have hc : Tryd.prog.cellsOf 23 = 1 := by kernel_rfl
  have hl : 18 ≤ rc.size := by
    have := (Array.getElem?_eq_some_iff.1 h17).1
    omega
  have p0 : (part 24 rc 0).run Tryd.prog w = .ok (.agg (rc.extract 0 16)) w := by simp [part, Tryd.isAgg24, Tryd.sizeOf24]
  have p1 : (part 23 rc 16).run Tryd.prog w = .ok (.int .u64 pc) w := by simp [part, Tryd.isAgg23, h16]
  have p2 : (part 3 rc 17).run Tryd.prog w = .ok (.int .i64 mode) w := by simp [part, Tryd.isAgg3, h17]
  have q0 : (Op.equalIn (d + 1 + 1) 24 (.agg (rc.extract 0 16)) (.agg (rc.extract 0 16))).run Tryd.prog w = .ok true w := by
    rw [run_equalIn_array w (d + 1) _ _ Tryd.underlying24 hi, hc]
    exact eq_items d _ _ w (fun j hj => ⟨X j, by
      have hj' : j < 16 := by simpa using hj
      rw [Array.getElem?_extract]
      simp [show j < min 16 rc.size by omega, hX j hj']⟩)
  have q1 : (Op.equalIn (d + 1 + 1) 23 (.int .u64 pc) (.int .u64 pc)).run Tryd.prog w = .ok true w := by
    rw [run_equalIn_int (P := Tryd.prog) w (d + 1) 23 .u64 .u64 pc pc Tryd.underlying23, beq_self_eq_true]
  have q2 : (Op.equalIn (d + 1 + 1) 3 (.int .i64 mode) (.int .i64 mode)).run Tryd.prog w = .ok true w := by
    rw [run_equalIn_int (P := Tryd.prog) w (d + 1) 3 .i64 .i64 mode mode Tryd.underlying3, beq_self_eq_true]
  obtain ⟨f0, f1, f2, hl3, t0, o0, n0, t1, o1, n1, t2, o2, n2⟩ := regs_fields
  have h := eq_three (d + 1 + 1) rc f0 f1 f2 t0 o0 (by rw [n0]; decide) t1 o1 (by rw [n1]; decide) t2 o2 (by rw [n2]; decide) Tryd.prog w _ _ _ p0 p1 p2 q0 q1 q2
  rw [run_equalIn_struct w (d + 1 + 1) 26 _ _ regs_struct Tryd.stoodInHeld26, hl3]
  exact h
theorem eq_regs (rc : Array Value) (X : Nat → Int) (pc mode : Int) (hX : ∀ n, n < 16 → rc[n]? = some (.int .u64 (X n))) (h16 : rc[16]? = some (.int .u64 pc)) (h17 : rc[17]? = some (.int .i64 mode)) (w : World) : (Op.equalIn 10000 26 (.agg rc) (.agg rc)).run Tryd.prog w = .ok true w := by
  have h := eq_regs_at 9997 rc X pc mode hX h16 h17 w
  have e : (9997 + 1 + 1 + 1 : Nat) = 10000 := rfl
  rwa [e] at h

theorem wpList_eql_agg {P : Program} {ops : Array Oper} {rest : List Oper} {o : Oper} {a : Act} {w : World} {Q : Exit → Act → World → Prop} (hw : Region.wanted o (yielded ops a.tmps) = true) (t : TypeId) (x y : Operand) (ho : o.op = .binOp .eql t x y t)
    (xs ys : Array Value) (hx : a.eval x = .agg xs) (hy : a.eval y = .agg ys) (hm : P.eqGuardType P.depth t = false) (b : Bool) (he : (Op.equalIn 10000 t (.agg xs) (.agg ys)).run P w = .ok b w)
    (h : wpList P ops Q rest (a.put o.dst (.bool b)) w) : wpList P ops Q (o :: rest) a w := by
  refine wpList_step fun K hK => ?_
  rw [if_pos hw]
  unfold Oper.wp
  simp only [execOp, ho, hx, hy, Sem.run_bind, run_eqGuard_agg w .eql t x y xs ys hm, Result.andThen_ok, run_eql_struct, he, Sem.run_pure]
  exact hK _ _ h
theorem wpList_neq_agg {P : Program} {ops : Array Oper} {rest : List Oper} {o : Oper} {a : Act} {w : World} {Q : Exit → Act → World → Prop} (hw : Region.wanted o (yielded ops a.tmps) = true) (t : TypeId) (x y : Operand) (ho : o.op = .binOp .neq t x y t)
    (xs ys : Array Value) (hx : a.eval x = .agg xs) (hy : a.eval y = .agg ys) (hm : P.eqGuardType P.depth t = false) (b : Bool) (he : (Op.equalIn 10000 t (.agg xs) (.agg ys)).run P w = .ok b w)
    (h : wpList P ops Q rest (a.put o.dst (.bool (!b))) w) : wpList P ops Q (o :: rest) a w := by
  refine wpList_step fun K hK => ?_
  rw [if_pos hw]
  unfold Oper.wp
  simp only [execOp, ho, hx, hy, Sem.run_bind, run_eqGuard_agg w .neq t x y xs ys hm, Result.andThen_ok, run_neq_struct, he, Sem.run_pure]
  exact hK _ _ h
/-- a whole struct loaded, behind a guard or none -/
theorem wpList_load_at {P : Program} {ops : Array Oper} {rest : List Oper} {o : Oper} {a : Act} {w : World} {Q : Exit → Act → World → Prop} (hw : Region.wanted o (yielded ops a.tmps) = true) (ty : TypeId) (x : Operand) (ho : o.op = .load ty x)
    (b off : Nat) (hx : a.eval x = .pointer (some ⟨b, off, none⟩)) (cs : List Value) (d : TypeDesc) (hc : w.rangeAt b off cs)
    (hu : P.underlying ty = some d) (hd : d.isRow = true) (hi : (P.info? ty).map (·.size) = some cs.length)
    (h : wpList P ops Q rest (a.put o.dst (.agg cs.toArray)) w) : wpList P ops Q (o :: rest) a w := by
  refine wpList_step fun K hK => ?_
  rw [if_pos hw]
  exact wp_load_mid ty x ho b off hx cs d hc hu hd hi (hK _ _ h)
theorem range_of {w : World} {b : Nat} {cs : Array Value} {t : TypeId} (h : w.heap[b]? = some (.cells cs t (0, 0))) : w.rangeAt b 0 cs.toList := fun j v hv => by
  rw [Nat.zero_add, cell_at h]; simpa using hv
end Go.Proofs.YtkckobbedpccfaaDoor.K
