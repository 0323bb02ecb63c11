/-
  The control registers as a block of thirteen cells: the small functions' contracts.
  Whole structs loaded and compared: registers, results.
  The calls of emulate that need nothing of other layers: Skip, Fault, Call, Answer; and the document's.
  Finish of emulate: its contract.
  Regions that leave their order open, walked once in every world that has what was there.
-/
import Derived.Test.YtkckobbedpccfaaGreatDoorRows
import Derived.WalkKit
import Derived.ProofKit
import Derived.OpenShut
import Derived.Deep.QuietTactic
import Derived.BigQuiet
import Derived.Deep.RegionLaw
import Derived.Deep.MidRow
import Derived.ChangeKeysEq
import Derived.Laws.CopyOwn
import Derived.Deep.DeepCutAuto
import Derived.Deep.CutRange
import Derived.Deep.RegionWith
import Derived.Deep.RegionHeld2
import Derived.Laws.Rows
import Derived.Laws.Tables
import Derived.Laws.ResultCell
import Derived.Test.YtkckobbedpccfaaGreatDoorQD
import Derived.Test.YtkckobbedpccfaaGreatDoorQE
namespace Go.Proofs.YtkckobbedpccfaaGreatDoor.K
open Go.RowKit
set_option linter.unusedVariables false
set_option maxRecDepth 100000

theorem ret_bool {a b : Bool} (h : a = b) : Ending.returned (.bool a) = .returned (.bool b) := by rw [h]
theorem ret_int {k : IntKind} {a b : Int} (h : a = b) : Ending.returned (.int k a) = .returned (.int k b) := by rw [h]
theorem bcell {B : Nat} {W w1 : World} (hb : Below B W w1) : (∀ b o, b < B → w1.cell? ⟨b, o, none⟩ = W.cell? ⟨b, o, none⟩) ∧ (∀ b o, b < B → w1.frozen? ⟨b, o, none⟩ = W.frozen? ⟨b, o, none⟩) :=
  ⟨fun b o h => hb.cell (p := ⟨b, o, none⟩) h, fun b o h => hb.frozen (p := ⟨b, o, none⟩) h⟩
theorem lt_of_heap {w : World} {b : Nat} {o : Obj} (h : w.heap[b]? = some o) : b < w.heap.size := (Array.getElem?_eq_some_iff.1 h).1
theorem cell_at {w : World} {b : Nat} {cs : Array Value} {t : TypeId} (h : w.heap[b]? = some (.cells cs t (0, 0))) (o : Nat) : w.cell? ⟨b, o, none⟩ = cs[o]? := by simp [World.cell?, h]
theorem heap_alloc_at (w : World) (o : Obj) : (w.alloc o).heap[w.heap.size]? = some o := by show (w.heap.push o)[w.heap.size]? = _; simp
theorem heap_alloc_past (w : World) (o : Obj) {k : Nat} (h : k < w.heap.size) : (w.alloc o).heap[k]? = w.heap[k]? := by show (w.heap.push o)[k]? = _; simp [Array.getElem?_push, Nat.ne_of_lt h]
theorem gr_keep {w w' : World} {m : Nat} (h : w.grownBy w' (some m)) {k : Nat} (hk : k < w.heap.size) (hm : k ≠ m) : w'.heap[k]? = w.heap[k]? :=
  h.block k hk (fun e => hm (by cases e; rfl))
theorem grown_trans {a b c : World} {r : Option Nat} (h : a.grownBy b r) (k : b.grownBy c r) : a.grownBy c r :=
  ⟨k.os.trans h.os, k.tape.trans h.tape, k.output.trans h.output, Nat.le_trans h.size k.size, fun i hi hr => (k.block i (Nat.lt_of_lt_of_le hi h.size) hr).trans (h.block i hi hr)⟩
theorem grown_of_below {w w' : World} {m : Option Nat} (h : Below w.heap.size w w') : w.grownBy w' m := ⟨h.os, h.tape, h.output, h.size, fun k hk _ => h.block k hk⟩
theorem grown_refl (w : World) (m : Option Nat) : w.grownBy w m := ⟨rfl, rfl, rfl, Nat.le_refl _, fun _ _ _ => rfl⟩
theorem gr_below {B : Nat} {w w' : World} {m : Nat} (h : w.grownBy w' (some m)) (hB : B ≤ m) (hw : B ≤ w.heap.size) : Below B w w' :=
  ⟨h.os, h.tape, h.output, h.size, fun k hk => h.block k (by omega) (fun e => by cases e; omega)⟩

/-- a register is a word -/
def U (x : Int) : Prop := 0 ≤ x ∧ x < 18446744073709551616
/-- one register turned -/
def upd (R : Nat → Int) (n : Nat) (v : Int) : Nat → Int := fun k => if k = n then v else R k
/-- blocks outside S are as they were -/
structure Trn (S : Nat → Prop) (w w' : World) : Prop where
  os : w'.os = w.os
  tape : w'.tape = w.tape
  output : w'.output = w.output
  size : w.heap.size ≤ w'.heap.size
  block : ∀ k, k < w.heap.size → ¬ S k → w'.heap[k]? = w.heap[k]?
theorem Trn.refl (S : Nat → Prop) (w : World) : Trn S w w := ⟨rfl, rfl, rfl, Nat.le_refl _, fun _ _ _ => rfl⟩
theorem Trn.trans {S : Nat → Prop} {a b c : World} (h : Trn S a b) (k : Trn S b c) : Trn S a c :=
  ⟨k.os.trans h.os, k.tape.trans h.tape, k.output.trans h.output, Nat.le_trans h.size k.size, fun i hi hr => (k.block i (Nat.lt_of_lt_of_le hi h.size) hr).trans (h.block i hi hr)⟩
theorem Trn.of_grown {S : Nat → Prop} {a b : World} {m : Nat} (h : a.grownBy b (some m)) (hm : S m) : Trn S a b :=
  ⟨h.os, h.tape, h.output, h.size, fun k hk hs => h.block k hk (fun e => hs (by cases e; exact hm))⟩
theorem Trn.of_below {S : Nat → Prop} {a b : World} (h : Below a.heap.size a b) : Trn S a b :=
  ⟨h.os, h.tape, h.output, h.size, fun k hk hs => h.block k hk⟩
theorem Trn.mono {S T : Nat → Prop} {a b : World} (h : Trn S a b) (hs : ∀ k, k < a.heap.size → S k → T k) : Trn T a b :=
  ⟨h.os, h.tape, h.output, h.size, fun k hk ht => h.block k hk fun e => ht (hs k hk e)⟩
theorem Trn.below {B : Nat} {S : Nat → Prop} {a b : World} (h : Trn S a b) (hB : B ≤ a.heap.size) (hs : ∀ k, S k → B ≤ k) : Below B a b :=
  ⟨h.os, h.tape, h.output, h.size, fun k hk => h.block k (by omega) fun e => by have := hs k e; omega⟩
theorem Trn.drew {S : Nat → Prop} {a b : World} (h : Trn S a b) : Trn S a b.drew := ⟨h.os, h.tape, h.output, h.size, h.block⟩
theorem ne_typ {w : World} {a b : Nat} {c d : Array Value} {s t : TypeId} (h : w.heap[a]? = some (.cells c s (0, 0))) (k : w.heap[b]? = some (.cells d t (0, 0))) (hn : s ≠ t) : a ≠ b := fun e => by
  subst e
  rw [h] at k
  cases k
  exact hn rfl
theorem heap_setCell {w : World} {b : Nat} {cs : Array Value} {t : TypeId} (h : w.heap[b]? = some (.cells cs t (0, 0))) (o : Nat) (v : Value) : (w.setCell ⟨b, o, none⟩ v).heap[b]? = some (.cells (cs.setIfInBounds o v) t (0, 0)) := by
  rw [setCell_eq_setRow w b o cs t (0, 0) v h]
  exact setRow_heap w b cs _ t _ h
theorem trn_setCell {S : Nat → Prop} {w : World} {b : Nat} {cs : Array Value} {t : TypeId} (h : w.heap[b]? = some (.cells cs t (0, 0))) (hS : S b) (o : Nat) (v : Value) : Trn S w (w.setCell ⟨b, o, none⟩ v) := by
  rw [setCell_eq_setRow w b o cs t (0, 0) v h]
  exact ⟨rfl, rfl, rfl, by simp [World.setRow], fun k hk hne => setRow_other w b k _ (fun e => hne (by rw [e]; exact hS))⟩
theorem trn_setRow {S : Nat → Prop} (w : World) (b : Nat) (hS : S b) (cs : Array Value) : Trn S w (w.setRow b cs) :=
  ⟨rfl, rfl, rfl, by simp [World.setRow], fun k hk hne => setRow_other w b k _ (fun e => hne (by rw [e]; exact hS))⟩
theorem below_setRow' {B : Nat} (w : World) (b : Nat) (hB : B ≤ b) (cs : Array Value) : Below B w (w.setRow b cs) :=
  ⟨rfl, rfl, rfl, by simp [World.setRow], fun k hk => setRow_other w b k _ (by omega)⟩
theorem below_box (w : World) (o : Obj) : Below w.heap.size w (w.alloc o) := (Below.refl _ _).alloc (Nat.le_refl _) _
theorem fz_at {w : World} {b : Nat} {cs : Array Value} {t : TypeId} (h : w.heap[b]? = some (.cells cs t (0, 0))) (o : Nat) : w.frozen? ⟨b, o, none⟩ = false := by simp [World.frozen?, h]
theorem lt_cell {w : World} {b o : Nat} {v : Value} (h : w.cell? ⟨b, o, none⟩ = some v) : b < w.heap.size := World.block_lt_of_cell? w ⟨b, o, none⟩ h
theorem trn_set1 {w : World} {b : Nat} {cs : Array Value} {t : TypeId} (h : w.heap[b]? = some (.cells cs t (0, 0))) (o : Nat) (v : Value) : Trn (fun k => k = b) w (w.setCell ⟨b, o, none⟩ v) := trn_setCell (S := fun k => k = b) h rfl o v
end Go.Proofs.YtkckobbedpccfaaGreatDoor.K
namespace Go.Proofs.YtkckobbedpccfaaGreatDoor.K
open Go.RowKit
set_option linter.unusedVariables false
set_option maxRecDepth 100000

theorem keepB {w w' : World} {k : Nat} {o : Obj} (h : w.heap[k]? = some o) (hb : Below w.heap.size w w') : w'.heap[k]? = some o := (hb.block k (lt_of_heap h)).trans h
/-- registers, as eighteen cells -/
def regC (X : Nat → Int) (pc mode : Int) : Array Value := #[.int .u64 (X 0), .int .u64 (X 1), .int .u64 (X 2), .int .u64 (X 3), .int .u64 (X 4), .int .u64 (X 5), .int .u64 (X 6), .int .u64 (X 7), .int .u64 (X 8), .int .u64 (X 9), .int .u64 (X 10), .int .u64 (X 11), .int .u64 (X 12), .int .u64 (X 13), .int .u64 (X 14), .int .u64 (X 15), .int .u64 pc, .int .i64 mode]
theorem und25 : ∃ fs, Tryz.prog.underlying 25 = some (.struct fs) := by
  have h2 : (match Tryz.prog.underlying 25 with | some (.struct _) => true | _ => false) = true := by kernel_rfl
  generalize Tryz.prog.underlying 25 = o at *
  match o, h2 with
  | some (.struct fs), _ => exact ⟨fs, rfl⟩
theorem inf25 : (Tryz.prog.info? 25).map (·.size) = some 18 := by kernel_rfl
/-- an array of words is the same as itself -/
theorem eq_items (d : Nat) (xs : Array Value) : ∀ (is : List Nat) (w : World), (∀ j, j ∈ is → ∃ z, xs[j]? = some (.int .u64 z)) → (Op.eqItems (d + 1) 22 1 xs xs is).run Tryz.prog w = .ok true w
  | [], w, _ => by simp [Op.eqItems]
  | j :: is, w, h => by
    obtain ⟨z, hz⟩ := h j (by simp)
    have ih := eq_items d xs is w (fun k hk => h k (by simp [hk]))
    have hp : (part 22 xs j).run Tryz.prog w = .ok (.int .u64 z) w := by simp [part, Tryz.isAgg22, hz]
    simp only [Op.eqItems, Sem.run_bind, Nat.mul_one, hp, Result.andThen_ok, run_equalIn_int _ _ _ _ _ _ _ Tryz.underlying22, beq_self_eq_true, Bool.not_true, Bool.false_eq_true, if_false, Sem.run_ite]
    exact ih
theorem eq_three (D : Nat) (rc : Array Value) (f0 f1 f2 : Field) (t0 : f0.type = 23) (o0 : f0.offset = 0) (n0 : f0.name ≠ "_") (t1 : f1.type = 22) (o1 : f1.offset = 16) (n1 : f1.name ≠ "_") (t2 : f2.type = 3) (o2 : f2.offset = 17) (n2 : f2.name ≠ "_") (P : Program) (w : World) (v0 v1 v2 : Value)
    (p0 : (part 23 rc 0).run P w = .ok v0 w) (p1 : (part 22 rc 16).run P w = .ok v1 w) (p2 : (part 3 rc 17).run P w = .ok v2 w) (q0 : (Op.equalIn D 23 v0 v0).run P w = .ok true w)
    (q1 : (Op.equalIn D 22 v1 v1).run P w = .ok true w) (q2 : (Op.equalIn D 3 v2 v2).run P w = .ok true w) : (Op.eqFields D rc rc [f0, f1, f2]).run P w = .ok true w := by
  simp [Op.eqFields, Sem.run_bind, n0, n1, n2, t0, t1, t2, o0, o1, o2, p0, p1, p2, q0, q1, q2]
theorem regs_fields : ∃ f0 f1 f2 : Field, (Tryz.prog.fieldsOf 25).toList = [f0, f1, f2] ∧ f0.type = 23 ∧ f0.offset = 0 ∧ f0.name = "X" ∧ f1.type = 22 ∧ f1.offset = 16 ∧ f1.name = "Pc" ∧ f2.type = 3 ∧ f2.offset = 17 ∧ f2.name = "Mode" := by
  unfold Program.fieldsOf
  rw [Tryz.underlying25]
  exact ⟨_, _, _, rfl, rfl, rfl, rfl, rfl, rfl, rfl, rfl, rfl, rfl⟩
theorem regs_struct : Tryz.prog.underlying 25 = some (.struct (Tryz.prog.fieldsOf 25)) := by unfold Program.fieldsOf; rw [Tryz.underlying25]
theorem eq_regs_at (d : Nat) (rc : Array Value) (X : Nat → Int) (pc mode : Int) (hX : ∀ n, n < 16 → rc[n]? = some (.int .u64 (X n))) (h16 : rc[16]? = some (.int .u64 pc)) (h17 : rc[17]? = some (.int .i64 mode)) (w : World) : (Op.equalIn (d + 1 + 1 + 1) 25 (.agg rc) (.agg rc)).run Tryz.prog w = .ok true w := by
  have hi : ∃ i, Tryz.prog.info? 22 = some i := Option.isSome_iff_exists.1 (by kernel_rfl)
  obtain ⟨i, hi⟩ := hi
  have hc : Tryz.prog.cellsOf 22 = 1 := by kernel_rfl
  have hl : 18 ≤ rc.size := by
    have := (Array.getElem?_eq_some_iff.1 h17).1
    omega
  have p0 : (part 23 rc 0).run Tryz.prog w = .ok (.agg (rc.extract 0 16)) w := by simp [part, Tryz.isAgg23, Tryz.sizeOf23]
  have p1 : (part 22 rc 16).run Tryz.prog w = .ok (.int .u64 pc) w := by simp [part, Tryz.isAgg22, h16]
  have p2 : (part 3 rc 17).run Tryz.prog w = .ok (.int .i64 mode) w := by simp [part, Tryz.isAgg3, h17]
  have q0 : (Op.equalIn (d + 1 + 1) 23 (.agg (rc.extract 0 16)) (.agg (rc.extract 0 16))).run Tryz.prog w = .ok true w := by
    rw [run_equalIn_array w (d + 1) _ _ Tryz.underlying23 hi, hc]
    exact eq_items d _ _ w (fun j hj => ⟨X j, by
      have hj' : j < 16 := by simpa using hj
      rw [Array.getElem?_extract]
      simp [show j < min 16 rc.size by omega, hX j hj']⟩)
  have q1 : (Op.equalIn (d + 1 + 1) 22 (.int .u64 pc) (.int .u64 pc)).run Tryz.prog w = .ok true w := by
    rw [run_equalIn_int (P := Tryz.prog) w (d + 1) 22 .u64 .u64 pc pc Tryz.underlying22, beq_self_eq_true]
  have q2 : (Op.equalIn (d + 1 + 1) 3 (.int .i64 mode) (.int .i64 mode)).run Tryz.prog w = .ok true w := by
    rw [run_equalIn_int (P := Tryz.prog) w (d + 1) 3 .i64 .i64 mode mode Tryz.underlying3, beq_self_eq_true]
  obtain ⟨f0, f1, f2, hl3, t0, o0, n0, t1, o1, n1, t2, o2, n2⟩ := regs_fields
  have h := eq_three (d + 1 + 1) rc f0 f1 f2 t0 o0 (by rw [n0]; decide) t1 o1 (by rw [n1]; decide) t2 o2 (by rw [n2]; decide) Tryz.prog w _ _ _ p0 p1 p2 q0 q1 q2
  rw [run_equalIn_struct w (d + 1 + 1) 25 _ _ regs_struct Tryz.stoodInHeld25, hl3]
  exact h
theorem eq_regs (rc : Array Value) (X : Nat → Int) (pc mode : Int) (hX : ∀ n, n < 16 → rc[n]? = some (.int .u64 (X n))) (h16 : rc[16]? = some (.int .u64 pc)) (h17 : rc[17]? = some (.int .i64 mode)) (w : World) : (Op.equalIn 10000 25 (.agg rc) (.agg rc)).run Tryz.prog w = .ok true w := by
  have h := eq_regs_at 9997 rc X pc mode hX h16 h17 w
  have e : (9997 + 1 + 1 + 1 : Nat) = 10000 := rfl
  rwa [e] at h

theorem wpList_eql_agg {P : Program} {ops : Array Oper} {rest : List Oper} {o : Oper} {a : Act} {w : World} {Q : Exit → Act → World → Prop} (hw : Region.wanted o (yielded ops a.tmps) = true) (t : TypeId) (x y : Operand) (ho : o.op = .binOp .eql t x y t)
    (xs ys : Array Value) (hx : a.eval x = .agg xs) (hy : a.eval y = .agg ys) (hm : P.eqGuardType P.depth t = false) (b : Bool) (he : (Op.equalIn 10000 t (.agg xs) (.agg ys)).run P w = .ok b w)
    (h : wpList P ops Q rest (a.put o.dst (.bool b)) w) : wpList P ops Q (o :: rest) a w := by
  refine wpList_step fun K hK => ?_
  rw [if_pos hw]
  unfold Oper.wp
  simp only [execOp, ho, hx, hy, Sem.run_bind, run_eqGuard_agg w .eql t x y xs ys hm, Result.andThen_ok, run_eql_struct, he, Sem.run_pure]
  exact hK _ _ h
theorem wpList_neq_agg {P : Program} {ops : Array Oper} {rest : List Oper} {o : Oper} {a : Act} {w : World} {Q : Exit → Act → World → Prop} (hw : Region.wanted o (yielded ops a.tmps) = true) (t : TypeId) (x y : Operand) (ho : o.op = .binOp .neq t x y t)
    (xs ys : Array Value) (hx : a.eval x = .agg xs) (hy : a.eval y = .agg ys) (hm : P.eqGuardType P.depth t = false) (b : Bool) (he : (Op.equalIn 10000 t (.agg xs) (.agg ys)).run P w = .ok b w)
    (h : wpList P ops Q rest (a.put o.dst (.bool (!b))) w) : wpList P ops Q (o :: rest) a w := by
  refine wpList_step fun K hK => ?_
  rw [if_pos hw]
  unfold Oper.wp
  simp only [execOp, ho, hx, hy, Sem.run_bind, run_eqGuard_agg w .neq t x y xs ys hm, Result.andThen_ok, run_neq_struct, he, Sem.run_pure]
  exact hK _ _ h
/-- a whole struct loaded, behind a guard or none -/
theorem wpList_load_at {P : Program} {ops : Array Oper} {rest : List Oper} {o : Oper} {a : Act} {w : World} {Q : Exit → Act → World → Prop} (hw : Region.wanted o (yielded ops a.tmps) = true) (ty : TypeId) (x : Operand) (ho : o.op = .load ty x)
    (b off : Nat) (hx : a.eval x = .pointer (some ⟨b, off, none⟩)) (cs : List Value) (d : TypeDesc) (hc : w.rangeAt b off cs)
    (hu : P.underlying ty = some d) (hd : d.isRow = true) (hi : (P.info? ty).map (·.size) = some cs.length)
    (h : wpList P ops Q rest (a.put o.dst (.agg cs.toArray)) w) : wpList P ops Q (o :: rest) a w := by
  refine wpList_step fun K hK => ?_
  rw [if_pos hw]
  exact wp_load_mid ty x ho b off hx cs d hc hu hd hi (hK _ _ h)
theorem range_of {w : World} {b : Nat} {cs : Array Value} {t : TypeId} (h : w.heap[b]? = some (.cells cs t (0, 0))) : w.rangeAt b 0 cs.toList := fun j v hv => by
  rw [Nat.zero_add, cell_at h]; simpa using hv
end Go.Proofs.YtkckobbedpccfaaGreatDoor.K
namespace Go.Proofs.YtkckobbedpccfaaGreatDoor.K
open Go.RowKit
set_option linter.unusedVariables false
set_option maxRecDepth 100000
theorem regC_one (X : Nat → Int) (pc m : Int) : (regC X pc m).all (·.oneCell') = true := by simp [regC, Value.oneCell']
def zeroRegs : Array Value := #[.int .u64 0, .int .u64 0, .int .u64 0, .int .u64 0, .int .u64 0, .int .u64 0, .int .u64 0, .int .u64 0, .int .u64 0, .int .u64 0, .int .u64 0, .int .u64 0, .int .u64 0, .int .u64 0, .int .u64 0, .int .u64 0, .int .u64 0, .int .i64 0]
theorem two_at {w x : World} {cs ds : Array Value} {t s : TypeId} (h : (w.alloc (.cells cs t)).alloc (.cells ds s) = x) : Below w.heap.size w x ∧ x.heap[w.heap.size]? = some (.cells cs t (0, 0)) ∧ x.heap[w.heap.size + 1]? = some (.cells ds s (0, 0)) ∧ x.heap.size = w.heap.size + 1 + 1 := by
  have z1 : (w.alloc (.cells cs t)).heap.size = w.heap.size + 1 := by simp
  subst h
  refine ⟨((Below.refl _ _).alloc (Nat.le_refl _) _).alloc (by simp) _, ?_, ?_, by simp⟩
  · rw [heap_alloc_past _ _ (by omega)]
    exact heap_alloc_at _ _
  · have := heap_alloc_at (w.alloc (.cells cs t)) (.cells ds s)
    rwa [z1] at this
theorem regC_at (X : Nat → Int) (pc m : Int) (k : Nat) (h : k < 16) : (regC X pc m)[k]? = some (.int .u64 (X k)) := by
  match k, h with
  | 0, _ | 1, _ | 2, _ | 3, _ | 4, _ | 5, _ | 6, _ | 7, _ | 8, _ | 9, _ | 10, _ | 11, _ | 12, _ | 13, _ | 14, _ | 15, _ => rfl
  | k + 16, h => omega
theorem regC_set (X : Nat → Int) (pc m : Int) (k : Nat) (h : k < 16) (v : Int) : (regC X pc m).setIfInBounds k (.int .u64 v) = regC (upd X k v) pc m := by
  match k, h with
  | 0, _ | 1, _ | 2, _ | 3, _ | 4, _ | 5, _ | 6, _ | 7, _ | 8, _ | 9, _ | 10, _ | 11, _ | 12, _ | 13, _ | 14, _ | 15, _ => rfl
  | k + 16, h => omega
theorem regC_pc (X : Nat → Int) (pc m v : Int) : (regC X pc m).setIfInBounds 16 (.int .u64 v) = regC X v m := rfl
/-- the address behind an instruction -/
def nx (pc : Int) : Int := IntKind.u64.wrap (pc + 4)
theorem skip_any (X : Nat → Int) (pc m : Int) (w : World) : Calls Tryz.prog 4 #[.agg (regC X pc m)] w fun e w' => e = .returned (.agg (regC X (nx pc) m)) ∧ Below w.heap.size w w' := by
  obtain ⟨x, hx⟩ : ∃ x, (w.alloc (.cells (regC X pc m) 25)).alloc (.cells zeroRegs 25) = x := ⟨_, rfl⟩
  obtain ⟨b0, a0, a1, zx⟩ := two_at hx
  have q16 : x.cell? ⟨w.heap.size, 16, none⟩ = some (.int .u64 pc) := (cell_at a0 16).trans rfl
  have f16 := fz_at a0 16
  have k1 := heap_setCell a0 16 (.int .u64 (IntKind.u64.wrap (pc + 4)))
  have t1 := trn_set1 a0 16 (.int .u64 (IntKind.u64.wrap (pc + 4)))
  have HL : Hid ((x.setCell ⟨w.heap.size, 16, none⟩ (.int .u64 (IntKind.u64.wrap (pc + 4)))).heap[w.heap.size]? = some (.cells (regC X (nx pc) m) 25 (0, 0))) := k1.trans rfl
  have HS : Hid (_) := (t1.block (w.heap.size + 1) (lt_of_heap a1) (by omega)).trans a1
  have HB : Hid (Below w.heap.size w (x.setCell ⟨w.heap.size, 16, none⟩ (.int .u64 (IntKind.u64.wrap (pc + 4))))) := b0.setCell (Nat.le_refl _) _
  clear k1 t1 a0 a1 b0
  unfold zeroRegs at hx
  go_enter Tryz.func4, Tryz.ntmps4
  go_wp2_with (first
    | (refine wpList_load_row rfl 25 _ rfl w.heap.size rfl 25 (regC X (nx pc) m) (0, 0) _ HL.out Tryz.underlying25 rfl inf25 ?_)
    | (refine wpList_store_row rfl 25 _ _ rfl (w.heap.size + 1) (regC X (nx pc) m) rfl rfl 25 zeroRegs HS.out inf25 rfl (regC_one _ _ _) ?_)
    | fail)
  refine bodyPost_ret (v := _) (results_cell_row Tryz.results4 _ _ _ _ _ _ _ rfl (setRow_heap _ _ _ _ _ _ HS.out) Tryz.underlying25 rfl inf25) rfl ⟨rfl, HB.out.trans (below_setRow' _ _ (by omega) _)⟩
/-- the registers behind an answer -/
def ansX (X : Nat → Int) (e v : Int) : Nat → Int := upd (upd X 10 (IntKind.u64.wrap e)) 11 (if e = 0 then v else 0)
def faultF (c : Int) : Int := if c = 20 then 1 else if c = 21 then 5 else if c = 23 then 7 else c
end Go.Proofs.YtkckobbedpccfaaGreatDoor.K
namespace Go.Proofs.YtkckobbedpccfaaGreatDoor.K
open Go.RowKit
set_option linter.unusedVariables false
set_option maxRecDepth 100000
/-- what a load of a number's lowest bytes brings -/
def ldV (v n : Int) : Int := if n = 1 ∨ n = 4 ∨ n = 8 then extW n (v % 2 ^ (8 * n.toNat)) else 0
/-- bytes that a load of this width reads so -/
def BS (w : World) (ad : Option Addr) (len : Nat) (v n : Int) : Prop := ∃ zs, SL w ad len zs ∧ valW zs len 0 n = ldV v n ∧ len ≤ maxLen
theorem bs_yes {w : World} {base g cap : Nat} {v : Int} {N : Nat} (hN : (N : Int) = 1 ∨ (N : Int) = 4 ∨ (N : Int) = 8) (h : w.ownsRow base 5 1 (.slice (some ⟨g, 0, none⟩) N cap) N ((bytesOf v N).map (Value.int .u8))) : BS w (some ⟨g, 0, none⟩) N v N := by
  refine ⟨bytesOf v N, SL.own h (bytesOf_bytes v N), ?_, by unfold maxLen; omega⟩
  unfold valW ldV okW
  rw [if_pos (by simpa using hN), if_pos hN]
  have : leFrom (bytesOf v N) (0 : Int).toNat (N : Int).toNat = v % 2 ^ (8 * (N : Int).toNat) := by
    rw [Int.toNat_natCast]
    exact le_bytes v N N (Nat.le_refl _)
  rw [this]
theorem bs_no (w : World) {v n : Int} (hn : ¬ (n = 1 ∨ n = 4 ∨ n = 8)) : BS w none 0 v n := by
  refine ⟨[], ⟨rfl, fun i => by simp, .inl rfl⟩, ?_, by decide⟩
  unfold valW ldV okW
  rw [if_neg hn, if_neg (by simpa using fun h => absurd h hn)]
theorem store_any (v n : Int) (w : World) (hz : SZ w) (h0 : 0 ≤ v) (h1 : v < 18446744073709551616) : Calls Tryz.prog 18 #[.int .u64 v, .int .i64 n] w fun e w' => (∃ ad len cap, e = .returned (.slice ad len cap) ∧ BS w' ad len v n) ∧ Below w.heap.size w w' := by
  by_cases hn : n = 1 ∨ n = 4 ∨ n = 8
  · obtain ⟨N, rfl⟩ := Int.eq_ofNat_of_zero_le (show 0 ≤ n by omega)
    exact (store_yes v N w hz hn h0 h1).mono fun e w' ⟨g, h, ho, hb⟩ => ⟨⟨_, _, _, h, bs_yes hn ho⟩, hb⟩
  · exact (store_no v n w hz hn).mono fun e w' ⟨h, hb⟩ => ⟨⟨_, _, _, h, bs_no w' hn⟩, hb⟩
theorem rstore_any (v n : Int) (w : World) (h0 : 0 ≤ v) (h1 : v < 18446744073709551616) : Calls Tryz.prog 57 #[.int .u64 v, .int .i64 n] w fun e w' => (∃ ad len cap, e = .returned (.slice ad len cap) ∧ BS w' ad len v n) ∧ Below w.heap.size w w' := by
  by_cases hn : n = 1 ∨ n = 4 ∨ n = 8
  · obtain ⟨N, rfl⟩ := Int.eq_ofNat_of_zero_le (show 0 ≤ n by omega)
    exact (rstore_yes v N w hn h0 h1).mono fun e w' ⟨g, cap, h, ho, hb⟩ => ⟨⟨_, _, _, h, bs_yes hn ho⟩, hb⟩
  · exact (rstore_no v n w hn).mono fun e w' ⟨h, hb⟩ => ⟨⟨_, _, _, h, bs_no w' hn⟩, by rw [hb]; exact Below.refl _ _⟩
theorem load_bs {w : World} {ad : Option Addr} {len : Nat} {v n : Int} (h : BS w ad len v n) (hz : SZ w) (cap : Nat) : Calls Tryz.prog 21 #[.slice ad len cap, .int .i64 0, .int .i64 n] w fun e w' => (∃ ok, e = .returned (.tuple #[.int .u64 (ldV v n), .bool ok])) ∧ Below w.heap.size w w' := by
  obtain ⟨zs, hs, hv, hl⟩ := h
  exact (load_any ad len cap zs 0 n w hz hs hl).mono fun e w' ⟨he, hb⟩ => ⟨⟨okW len 0 n, he.trans (by rw [hv])⟩, hb⟩
theorem rload_bs {w : World} {ad : Option Addr} {len : Nat} {v n : Int} (h : BS w ad len v n) (cap : Nat) : Calls Tryz.prog 213 #[.slice ad len cap, .int .i64 0, .int .i64 n] w fun e w' => (∃ ok, e = .returned (.tuple #[.int .u64 (ldV v n), .bool ok])) ∧ Below w.heap.size w w' := by
  obtain ⟨zs, hs, hv, hl⟩ := h
  exact (rload_any ad len cap zs 0 n w hs hl).mono fun e w' ⟨he, hb⟩ => ⟨⟨okW len 0 n, he.trans (by rw [hv])⟩, by rw [hb]; exact Below.refl _ _⟩
/-- an access -/
def accA (wr : Bool) (wd rg vl : Int) : Array Value := #[.bool wr, .int .i64 wd, .int .i64 rg, .int .u64 vl]
/-- the registers behind it -/
def finX (X : Nat → Int) (wr : Bool) (wd rg v : Int) : Nat → Int := if wr = false ∧ 1 ≤ rg ∧ rg ≤ 15 then upd X rg.toNat (ldV v wd) else X
theorem three_at {w x : World} {cs ds es : Array Value} {t s r : TypeId} (h : ((w.alloc (.cells cs t)).alloc (.cells ds s)).alloc (.cells es r) = x) : Below w.heap.size w x ∧ x.heap[w.heap.size]? = some (.cells cs t (0, 0)) ∧ x.heap[w.heap.size + 1]? = some (.cells ds s (0, 0)) ∧ x.heap[w.heap.size + 1 + 1]? = some (.cells es r (0, 0)) := by
  obtain ⟨y, hy⟩ : ∃ y, (w.alloc (.cells cs t)).alloc (.cells ds s) = y := ⟨_, rfl⟩
  obtain ⟨b, a0, a1, z⟩ := two_at hy
  rw [hy] at h
  subst h
  refine ⟨b.trans ((below_box y _).mono (by omega)), keepB a0 (below_box y _), keepB a1 (below_box y _), ?_⟩
  rw [← z]
  exact heap_alloc_at _ _
theorem below_drew' (w : World) : Below w.heap.size w w.drew := (Below.refl _ _).drew
/-- what stands while the bytes are made and read -/
structure FS (w W : World) (acc : Array Value) (t : TypeId) : Prop where
  a0 : ∃ Z pc m, W.heap[w.heap.size]? = some (.cells (regC Z pc m) 25 (0, 0))
  a1 : W.heap[w.heap.size + 1]? = some (.cells acc t (0, 0))
  a2 : W.heap[w.heap.size + 1 + 1]? = some (.cells zeroRegs 25 (0, 0))
  bl : Below w.heap.size w W
  sz : SZ W
theorem FS.below {w W W' : World} {acc : Array Value} {t : TypeId} (h : FS w W acc t) (hb : Below W.heap.size W W') : FS w W' acc t :=
  ⟨let ⟨Z, pc, m, h0⟩ := h.a0; ⟨Z, pc, m, keepB h0 hb⟩, keepB h.a1 hb, keepB h.a2 hb, h.bl.trans (hb.mono h.bl.size), h.sz.below hb⟩
theorem FS.set {w W W' : World} {acc : Array Value} {t : TypeId} (h : FS w W acc t) (ht : Trn (fun k => k = w.heap.size) W W') {Z : Nat → Int} {pc m : Int} (h0 : W'.heap[w.heap.size]? = some (.cells (regC Z pc m) 25 (0, 0))) (hw : 0 < w.heap.size) : FS w W' acc t := by
  have e0 : W'.heap[0]? = W.heap[0]? := ht.block 0 h.sz.pos (by omega)
  have ec : ∀ o, W'.cell? ⟨0, o, none⟩ = W.cell? ⟨0, o, none⟩ := fun o => World.cell?_of_block e0
  exact ⟨⟨_, _, _, h0⟩, (ht.block _ (lt_of_heap h.a1) (by omega)).trans h.a1, (ht.block _ (lt_of_heap h.a2) (by omega)).trans h.a2, h.bl.trans (ht.below h.bl.size fun k e => by omega), ⟨(ec 0).trans h.sz.c0, (ec 1).trans h.sz.c1, (ec 2).trans h.sz.c2, (ec 3).trans h.sz.c3, (ec 4).trans h.sz.c4, (ec 5).trans h.sz.c5, by have := h.sz.pos; have := ht.size; omega⟩⟩
theorem finish_no (X : Nat → Int) (pc m : Int) (wr : Bool) (wd rg vl v : Int) (hn : wr = true ∨ rg < 1 ∨ 15 < rg) (w : World) : Calls Tryz.prog 11 #[.agg (regC X pc m), .agg (accA wr wd rg vl), .int .u64 v] w fun r w' => r = .returned (.agg (regC X (nx pc) m)) ∧ Below w.heap.size w w' := by
  obtain ⟨x, hx⟩ : ∃ x, ((w.alloc (.cells (regC X pc m) 25)).alloc (.cells (accA wr wd rg vl) 49)).alloc (.cells zeroRegs 25) = x := ⟨_, rfl⟩
  obtain ⟨b0, a0, a1, a2⟩ := three_at hx
  have q0 : x.cell? ⟨w.heap.size + 1, 0, none⟩ = some (.bool wr) := (cell_at a1 0).trans rfl
  have q2 : x.cell? ⟨w.heap.size + 1, 2, none⟩ = some (.int .i64 rg) := (cell_at a1 2).trans rfl
  have l1 := lt_of_heap a1
  have C1 := skip_any X pc m x
  have HA0 : Hid (_) := a0
  have HA2 : Hid (_) := a2
  have HB0 : Hid (_) := b0
  clear a0 a1 a2 b0
  unfold zeroRegs accA at hx
  unfold accA
  have hn' : wr = true ∨ wr = false ∧ rg < 1 ∨ wr = false ∧ 1 ≤ rg ∧ 15 < rg := by
    cases wr
    · rcases hn with h | h | h
      · cases h
      · exact .inr (.inl ⟨rfl, h⟩)
      · by_cases h1 : rg < 1
        · exact .inr (.inl ⟨rfl, h1⟩)
        · exact .inr (.inr ⟨rfl, by omega, h⟩)
    · exact .inl rfl
  clear hn
  rcases hn' with rfl | ⟨rfl, h1⟩ | ⟨rfl, h1, h2⟩
  all_goals
    go_enter Tryz.func11, Tryz.ntmps11
    go_wp2_with (first
      | (refine wpList_load_row rfl 25 _ rfl w.heap.size rfl 25 (regC X pc m) (0, 0) _ HA0.out Tryz.underlying25 rfl inf25 ?_)
      | fail)
    clear hx q0 q2 l1
    refine C1.mono ?_
    rintro r y ⟨rfl, b1⟩
    have HS : Hid (_) := (b1.block _ (lt_of_heap HA2.out)).trans HA2.out
    have HB : Hid (_) := HB0.out.trans (b1.mono HB0.out.size)
    clear C1 b1 HA0 HA2 HB0
    go_wp2_with (first
      | (refine wpList_store_row rfl 25 _ _ rfl (w.heap.size + 1 + 1) (regC X (nx pc) m) rfl rfl 25 zeroRegs HS.out inf25 rfl (regC_one _ _ _) ?_)
      | fail)
    refine bodyPost_ret (v := _) (results_cell_row Tryz.results11 _ _ _ _ _ _ _ rfl (setRow_heap _ _ _ _ _ _ HS.out) Tryz.underlying25 rfl inf25) rfl ⟨rfl, HB.out.trans (below_setRow' _ _ (by omega) _)⟩
set_option maxHeartbeats 1600000 in
theorem finish_yes (X : Nat → Int) (pc m : Int) (wd : Int) (k : Nat) (vl v : Int) (hk1 : 1 ≤ k) (hk2 : k ≤ 15) (h0 : 0 ≤ v) (h1 : v < 18446744073709551616) (w : World) (hz : SZ w) : Calls Tryz.prog 11 #[.agg (regC X pc m), .agg (accA false wd k vl), .int .u64 v] w fun r w' => r = .returned (.agg (regC (upd X k (ldV v wd)) (nx pc) m)) ∧ Below w.heap.size w w' := by
  obtain ⟨x, hx⟩ : ∃ x, ((w.alloc (.cells (regC X pc m) 25)).alloc (.cells (accA false wd k vl) 49)).alloc (.cells zeroRegs 25) = x := ⟨_, rfl⟩
  obtain ⟨b0, a0, a1, a2⟩ := three_at hx
  have hw0 := hz.pos
  have k0 : (0 : Int) ≤ k := by omega
  have k1 : (1 : Int) ≤ k := by omega
  have k2 : (k : Int) < 16 := by omega
  have k3 : (k : Int) ≤ 15 := by omega
  have q0 : x.cell? ⟨w.heap.size + 1, 0, none⟩ = some (.bool false) := (cell_at a1 0).trans rfl
  have q2 : x.cell? ⟨w.heap.size + 1, 2, none⟩ = some (.int .i64 k) := (cell_at a1 2).trans rfl
  have l1 := lt_of_heap a1
  have hS0 : FS w x.drew (accA false wd k vl) 49 := ⟨⟨_, _, _, a0⟩, a1, a2, b0.drew, (hz.below b0).below (below_drew' _)⟩
  have HX0 : Hid (x.drew.heap[w.heap.size]? = some (.cells (regC X pc m) 25 (0, 0))) := a0
  clear a0 a1 a2 b0 hz
  unfold zeroRegs accA at hx
  unfold accA
  go_enter Tryz.func11, Tryz.ntmps11
  go_upto_region 2 with fail
  clear hx q0 q2 l1
  have hS0 := hS0
  refine wp_region_held_drew (S := (fun W : World => FS w W (accA false wd k vl) 49)) (by kernel_rfl) hS0 (fun _ => ?_)
  refine wpAnyH_take (i := 0) (v := .pointer (some ⟨w.heap.size + 1, 2, none⟩)) rfl (by kernel_rfl) (by kernel_rfl) (by kernel_rfl) (fun _ _ _ h => h) (Or.inl ⟨by rfl, ?_⟩) hS0 ?_
  · intro wq hw
    go_simp
  try simp only [Act.put, List.getElem_toArray, List.getElem_cons_zero, List.setIfInBounds_toArray, List.set_cons_zero, List.set_cons_succ]
  refine wpAnyH_take (i := 1) (v := .int .i64 k) rfl (by kernel_rfl) (by kernel_rfl) (by kernel_rfl) (fun _ _ _ h => h) (Or.inl ⟨by rfl, ?_⟩) hS0 ?_
  · intro wq hw
    have hc : wq.cell? ⟨w.heap.size + 1, 2, none⟩ = some (.int .i64 k) := (cell_at hw.a1 2).trans rfl
    have hl := lt_cell hc
    go_simp
  try simp only [Act.put, List.getElem_toArray, List.getElem_cons_succ, List.getElem_cons_zero, List.setIfInBounds_toArray, List.set_cons_zero, List.set_cons_succ]
  refine wpAnyH_take (i := 2) (v := .int .u64 v) rfl (by kernel_rfl) (by kernel_rfl) (by kernel_rfl) (fun _ _ _ h => h) (Or.inl ⟨by rfl, ?_⟩) hS0 ?_
  · intro wq hw
    go_simp
  try simp only [Act.put, List.getElem_toArray, List.getElem_cons_succ, List.getElem_cons_zero, List.setIfInBounds_toArray, List.set_cons_zero, List.set_cons_succ]
  refine wpAnyH_take (i := 3) (v := .pointer (some ⟨w.heap.size + 1, 1, none⟩)) rfl (by kernel_rfl) (by kernel_rfl) (by kernel_rfl) (fun _ _ _ h => h) (Or.inl ⟨by rfl, ?_⟩) hS0 ?_
  · intro wq hw
    go_simp
  try simp only [Act.put, List.getElem_toArray, List.getElem_cons_succ, List.getElem_cons_zero, List.setIfInBounds_toArray, List.set_cons_zero, List.set_cons_succ]
  refine wpAnyH_take (i := 4) (v := .int .i64 wd) rfl (by kernel_rfl) (by kernel_rfl) (by kernel_rfl) (fun _ _ _ h => h) (Or.inl ⟨by rfl, ?_⟩) hS0 ?_
  · intro wq hw
    have hc : wq.cell? ⟨w.heap.size + 1, 1, none⟩ = some (.int .i64 wd) := (cell_at hw.a1 1).trans rfl
    have hl := lt_cell hc
    go_simp
  try simp only [Act.put, List.getElem_toArray, List.getElem_cons_succ, List.getElem_cons_zero, List.setIfInBounds_toArray, List.set_cons_zero, List.set_cons_succ]
  refine wpAnyH_take (i := 6) (v := .pointer (some ⟨w.heap.size + 1, 1, none⟩)) rfl (by kernel_rfl) (by kernel_rfl) (by kernel_rfl) (fun _ _ _ h => h) (Or.inl ⟨by rfl, ?_⟩) hS0 ?_
  · intro wq hw
    go_simp
  try simp only [Act.put, List.getElem_toArray, List.getElem_cons_succ, List.getElem_cons_zero, List.setIfInBounds_toArray, List.set_cons_zero, List.set_cons_succ]
  refine wpAnyH_take (i := 7) (v := .int .i64 wd) rfl (by kernel_rfl) (by kernel_rfl) (by kernel_rfl) (fun _ _ _ h => h) (Or.inl ⟨by rfl, ?_⟩) hS0 ?_
  · intro wq hw
    have hc : wq.cell? ⟨w.heap.size + 1, 1, none⟩ = some (.int .i64 wd) := (cell_at hw.a1 1).trans rfl
    have hl := lt_cell hc
    go_simp
  try simp only [Act.put, List.getElem_toArray, List.getElem_cons_succ, List.getElem_cons_zero, List.setIfInBounds_toArray, List.set_cons_zero, List.set_cons_succ]
  refine wpAnyH_take (i := 12) (v := .pointer (some ⟨w.heap.size, 0, none⟩)) rfl (by kernel_rfl) (by kernel_rfl) (by kernel_rfl) (fun _ _ _ h => h) (Or.inl ⟨by rfl, ?_⟩) hS0 ?_
  · intro wq hw
    go_simp
  try simp only [Act.put, List.getElem_toArray, List.getElem_cons_succ, List.getElem_cons_zero, List.setIfInBounds_toArray, List.set_cons_zero, List.set_cons_succ]
  refine wpAnyH_ready (rs := [5]) (by kernel_rfl) (by simp) ?_
  refine AllReadyH.cons rfl (fun K hK => ?_) AllReadyH.nil
  have CC := store_any v wd _ hS0.sz h0 h1
  go_simp
  go_wp2_with (go_at_call 18; refine CC.mono ?_; rintro e y1 ⟨⟨ad, len, cap, rfl, hbs⟩, b1⟩)
  have HY1 : Hid (_) := keepB HX0.out b1
  refine hK.out _ _ (hS0.below b1) (fun hS1 => ?_)
  clear hK K CC hS0 b1 HX0
  try simp only [Act.put, List.getElem_toArray, List.getElem_cons_succ, List.getElem_cons_zero, List.setIfInBounds_toArray, List.set_cons_zero, List.set_cons_succ]
  refine wpAnyH_ready (rs := [8]) (by kernel_rfl) (by simp) ?_
  refine AllReadyH.cons rfl (fun K hK => ?_) AllReadyH.nil
  have CC := load_bs hbs hS1.sz cap
  go_simp
  go_wp2_with (go_at_call 21; refine CC.mono ?_; rintro e y2 ⟨⟨ok, rfl⟩, b2⟩)
  have HY2 : Hid (_) := keepB HY1.out b2
  refine hK.out _ _ (hS1.below b2) (fun hS2 => ?_)
  clear hK K CC hS1 b2 hbs HY1
  try simp only [Act.put, List.getElem_toArray, List.getElem_cons_succ, List.getElem_cons_zero, List.setIfInBounds_toArray, List.set_cons_zero, List.set_cons_succ]
  refine wpAnyH_take (i := 9) (v := .tuple #[.int .u64 (ldV v wd), .bool ok]) rfl (by kernel_rfl) (by kernel_rfl) (by kernel_rfl) (fun _ _ _ h => h) (Or.inl ⟨by rfl, ?_⟩) hS2 ?_
  · intro wq hw
    go_simp
  try simp only [Act.put, List.getElem_toArray, List.getElem_cons_succ, List.getElem_cons_zero, List.setIfInBounds_toArray, List.set_cons_zero, List.set_cons_succ]
  refine wpAnyH_take (i := 10) (v := .int .u64 (ldV v wd)) rfl (by kernel_rfl) (by kernel_rfl) (by kernel_rfl) (fun _ _ _ h => h) (Or.inl ⟨by rfl, ?_⟩) hS2 ?_
  · intro wq hw
    go_simp
  try simp only [Act.put, List.getElem_toArray, List.getElem_cons_succ, List.getElem_cons_zero, List.setIfInBounds_toArray, List.set_cons_zero, List.set_cons_succ]
  refine wpAnyH_take (i := 11) (v := .bool ok) rfl (by kernel_rfl) (by kernel_rfl) (by kernel_rfl) (fun _ _ _ h => h) (Or.inl ⟨by rfl, ?_⟩) hS2 ?_
  · intro wq hw
    go_simp
  try simp only [Act.put, List.getElem_toArray, List.getElem_cons_succ, List.getElem_cons_zero, List.setIfInBounds_toArray, List.set_cons_zero, List.set_cons_succ]
  refine wpAnyH_take (i := 13) (v := .pointer (some ⟨w.heap.size, k, none⟩)) rfl (by kernel_rfl) (by kernel_rfl) (by kernel_rfl) (fun _ _ _ h => h) (Or.inl ⟨by rfl, ?_⟩) hS2 ?_
  · intro wq hw
    go_simp
  try simp only [Act.put, List.getElem_toArray, List.getElem_cons_succ, List.getElem_cons_zero, List.setIfInBounds_toArray, List.set_cons_zero, List.set_cons_succ]
  refine wpAnyH_ready (rs := [14]) (by kernel_rfl) (by simp) ?_
  refine AllReadyH.cons rfl (fun K hK => ?_) AllReadyH.nil
  have ck : y2.cell? ⟨w.heap.size, k, none⟩ = some (.int .u64 (X k)) := (cell_at HY2.out k).trans (regC_at X pc m k (by omega))
  have cf := fz_at HY2.out k
  have cl := lt_of_heap HY2.out
  have z0 := heap_setCell HY2.out k (.int .u64 (ldV v wd))
  rw [regC_set _ _ _ k (by omega)] at z0
  have HZ : Hid (_) := z0
  have zt := trn_set1 HY2.out k (.int .u64 (ldV v wd))
  have hS3 := hS2.set zt z0 hw0
  clear z0 zt HY2 hS2
  go_simp
  go_wp2_with fail
  refine hK.out _ _ hS3 (fun hS4 => ?_)
  clear hK K ck cf cl hS4
  refine wpAnyH_done (by kernel_rfl) ?_ _
  generalize hZ9 : upd X k (ldV v wd) = Z at *
  have C1 := skip_any Z pc m (y2.setCell ⟨w.heap.size, k, none⟩ (.int .u64 (ldV v wd)))
  have HB0 : Hid (_) := hS3.bl
  have HA2 : Hid (_) := hS3.a2
  clear hS3
  go_wp2_with (first
    | (refine wpList_load_row rfl 25 _ rfl w.heap.size rfl 25 (regC Z pc m) (0, 0) _ HZ.out Tryz.underlying25 rfl inf25 ?_)
    | fail)
  refine C1.mono ?_
  rintro r y ⟨rfl, b1⟩
  have HS : Hid (_) := (b1.block _ (lt_of_heap HA2.out)).trans HA2.out
  have HB : Hid (_) := HB0.out.trans (b1.mono HB0.out.size)
  clear C1 b1 HA2 HB0 HZ
  go_wp2_with (first
    | (refine wpList_store_row rfl 25 _ _ rfl (w.heap.size + 1 + 1) (regC Z (nx pc) m) rfl rfl 25 zeroRegs HS.out inf25 rfl (regC_one _ _ _) ?_)
    | fail)
  refine bodyPost_ret (v := _) (results_cell_row Tryz.results11 _ _ _ _ _ _ _ rfl (setRow_heap _ _ _ _ _ _ HS.out) Tryz.underlying25 rfl inf25) rfl ⟨by rw [hZ9], HB.out.trans (below_setRow' _ _ (by omega) _)⟩
theorem finish_any (X : Nat → Int) (pc m : Int) (wr : Bool) (wd rg vl v : Int) (h0 : 0 ≤ v) (h1 : v < 18446744073709551616) (w : World) (hz : SZ w) : Calls Tryz.prog 11 #[.agg (regC X pc m), .agg (accA wr wd rg vl), .int .u64 v] w fun r w' => r = .returned (.agg (regC (finX X wr wd rg v) (nx pc) m)) ∧ Below w.heap.size w w' := by
  unfold finX
  by_cases h : wr = false ∧ 1 ≤ rg ∧ rg ≤ 15
  · rw [if_pos h]
    obtain ⟨rfl, h2, h3⟩ := h
    obtain ⟨k, rfl⟩ := Int.eq_ofNat_of_zero_le (show 0 ≤ rg by omega)
    exact finish_yes X pc m wd k vl v (by omega) (by omega) h0 h1 w hz
  · rw [if_neg h]
    exact finish_no X pc m wr wd rg vl v (by cases wr; · simp at h; omega
                                             · exact .inl rfl) w
end Go.Proofs.YtkckobbedpccfaaGreatDoor.K
namespace Go.Proofs.YtkckobbedpccfaaGreatDoor.K
open Go.RowKit
set_option linter.unusedVariables false
set_option maxRecDepth 100000
/-- a world that has all blocks of another one as they were -/
structure Above (W : World) where
  wld : World
  bel : Below W.heap.size W wld
theorem above_here (W : World) : Nonempty (Above W) := ⟨⟨W, Below.refl _ _⟩⟩
theorem wp_region_above {P : Program} {id : Nat} {Q : Exit → Act → World → Prop} {a : Act} {w : World} {l : List Oper} (hm : P.follows .mixedOrders = true) (hB : Region.lexB .any l.toArray = true)
    (h : wpQuiet P l.toArray (fun w' => ∃ s : Above w, w' = s.wld) (fun a' => ∀ w', (∃ s : Above w, w' = s.wld) → Q .normal a' w') l a) : (Code.region id l.toArray true).wp P Q a w :=
  wp_region_quiet (C := fun w' => ∃ s : Above w, w' = s.wld) hm hB ⟨⟨_, (Below.refl _ _).drew⟩, rfl⟩ (by simpa using h)
theorem above_call {P : Program} {f : FuncId} {args : Array Value} {W : World} {v : Value} (s : Above W)
    (h : Calls P f args s.wld fun e w' => e = .returned v ∧ Below s.wld.heap.size s.wld w') : Calls P f args s.wld fun e w'' => e = .returned v ∧ ∃ s' : Above W, w'' = s'.wld :=
  h.mono fun _ w' ⟨he, hb⟩ => ⟨he, ⟨w', s.bel.trans (hb.mono s.bel.size)⟩, rfl⟩
section
variable {P : Program} {C : World → Prop} {a : Act} {o : Oper}
/-- a whole row loaded -/
theorem quiet_load {K : Act → Prop} (ty : TypeId) (x : Operand) (ho : o.op = .load ty x) (b off : Nat) (hx : a.eval x = .pointer (some ⟨b, off, none⟩)) (cs : List Value) (d : TypeDesc) (hC : ∀ w, C w → w.rangeAt b off cs)
    (hu : P.underlying ty = some d) (hd : d.isRow = true) (hi : (P.info? ty).map (·.size) = some cs.length) (hk : K (a.put o.dst (.agg cs.toArray))) : o.quiet P a C K :=
  ⟨_, fun w hw => by
    unfold Oper.quietAt execOp
    simp only [ho, hx, Instr.loadAt, Instr.sureAddr, Sem.run_bind, Sem.run_pure, Result.andThen_ok, run_loadVar_mid w b off ty cs d (hC w hw) hu hd hi]
    exact ⟨rfl, rfl⟩, hk⟩
/-- rows compared -/
theorem quiet_eql {K : Act → Prop} (t : TypeId) (x y : Operand) (ho : o.op = .binOp .eql t x y t) (xs ys : Array Value) (hx : a.eval x = .agg xs) (hy : a.eval y = .agg ys) (hm : P.eqGuardType P.depth t = false) (b : Bool)
    (he : ∀ w, (Op.equalIn 10000 t (.agg xs) (.agg ys)).run P w = .ok b w) (hk : K (a.put o.dst (.bool b))) : o.quiet P a C K :=
  ⟨_, fun w hw => by
    unfold Oper.quietAt
    simp only [execOp, ho, hx, hy, Sem.run_bind, run_eqGuard_agg w .eql t x y xs ys hm, Result.andThen_ok, run_eql_struct, he, Sem.run_pure]
    exact ⟨rfl, rfl⟩, hk⟩
theorem quiet_neq {K : Act → Prop} (t : TypeId) (x y : Operand) (ho : o.op = .binOp .neq t x y t) (xs ys : Array Value) (hx : a.eval x = .agg xs) (hy : a.eval y = .agg ys) (hm : P.eqGuardType P.depth t = false) (b : Bool)
    (he : ∀ w, (Op.equalIn 10000 t (.agg xs) (.agg ys)).run P w = .ok b w) (hk : K (a.put o.dst (.bool (!b)))) : o.quiet P a C K :=
  ⟨_, fun w hw => by
    unfold Oper.quietAt
    simp only [execOp, ho, hx, hy, Sem.run_bind, run_eqGuard_agg w .neq t x y xs ys hm, Result.andThen_ok, run_neq_struct, he, Sem.run_pure]
    exact ⟨rfl, rfl⟩, hk⟩
end
end Go.Proofs.YtkckobbedpccfaaGreatDoor.K
