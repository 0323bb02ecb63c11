/-
  What Read and Step tell of nobody, and the law HartNobody.
  Whole structs loaded and compared: registers, results.
-/
import Derived.Test.YtkckobbedpccfaaGreatDoorQBo2
import Derived.Deep.MidRow
import Derived.ChangeKeysEq
namespace Go.Proofs.YtkckobbedpccfaaGreatDoor
open Go.RowKit
set_option linter.unusedVariables false
set_option maxRecDepth 100000

/-- a file that no call made: nil, or a plain one -/
def NoF (w : World) (v : Value) : Prop := v = .pointer none ∨ ∃ F, v = .pointer (some ⟨F, 0, none⟩) ∧ w.cell? ⟨F, 0, none⟩ = some (.bool false)
theorem made_no (v : Value) (w : World) (h : NoF w v) : Calls Tryz.prog 25 #[v] w fun e w' => e = .returned (.bool false) ∧ w' = w := by
  rcases h with rfl | ⟨F, rfl, hc⟩
  · go_enter Tryz.func25, Tryz.ntmps25
    go_wp2
    go_ret
    exact ⟨rfl, rfl⟩
  · have hl := World.block_lt_of_cell? w ⟨F, 0, none⟩ hc
    go_enter Tryz.func25, Tryz.ntmps25
    go_wp2
    go_ret
    exact ⟨rfl, rfl⟩
theorem reach_no (v : Value) (n m : Int) (w : World) (h : NoF w v) : Calls Tryz.prog 68 #[v, .int .i64 n, .int .i64 m] w fun e w' => e = .returned (.int .i64 1) ∧ w' = w := by
  have C := made_no v w h
  clear h
  go_enter Tryz.func68, Tryz.ntmps68
  go_wp2_with fail
  refine C.mono ?_
  rintro e w ⟨rfl, rfl⟩
  go_wp2_with fail
  go_ret
  exact ⟨rfl, rfl⟩
theorem read_no (v : Value) (n m : Int) (w : World) (h : NoF w v) : Calls Tryz.prog 46 #[v, .int .i64 n, .int .i64 m] w fun e w' => e = .returned (.tuple #[.int .u64 0, .int .i64 1]) ∧ w' = w := by
  have C := reach_no v n m w h
  clear h
  go_enter Tryz.func46, Tryz.ntmps46
  go_wp2_with fail
  refine C.mono ?_
  rintro e w ⟨rfl, rfl⟩
  go_wp2_with fail
  go_ret2
  exact ⟨rfl, rfl⟩
/-- what a read tells -/
def readN (R : Nat → Int) (n m : Int) : Int := if C.reachP n m = 0 then R n.toNat else 0
theorem read_ff (F : Nat) (R : Nat → Int) (n m : Int) (w : World) (h : C.FF w F R) : Calls Tryz.prog 46 #[.pointer (some ⟨F, 0, none⟩), .int .i64 n, .int .i64 m] w fun e w' => e = .returned (.tuple #[.int .u64 (readN R n m), .int .i64 (C.reachP n m)]) ∧ w' = w := by
  have CR := C.reach_ff F R n m w h
  have hl := h.lt
  by_cases hr : C.reachP n m = 0
  · have hn : 0 ≤ n ∧ n < 12 := by
      unfold C.reachP C.regP at hr
      split at hr
      · split at hr
        · rename_i h; simpa using h
        · omega
      · omega
    obtain ⟨N, rfl⟩ : ∃ N : Nat, n = N := ⟨n.toNat, by omega⟩
    have c := h.c N (by omega)
    have e1 : readN R N m = R N := by unfold readN; rw [if_pos hr]; simp
    rw [e1, hr]
    rw [hr] at CR
    clear h hr e1
    go_enter Tryz.func46, Tryz.ntmps46
    go_wp2_with fail
    refine CR.mono ?_
    rintro e w ⟨rfl, rfl⟩
    go_wp2_with fail
    go_ret2
    exact ⟨rfl, rfl⟩
  · have e1 : readN R n m = 0 := by unfold readN; rw [if_neg hr]
    rw [e1]
    generalize C.reachP n m = z at *
    clear h e1
    go_enter Tryz.func46, Tryz.ntmps46
    go_wp2_with fail
    refine CR.mono ?_
    rintro e w ⟨rfl, rfl⟩
    go_wp2_with fail
    go_ret2
    exact ⟨rfl, rfl⟩
theorem isMade_no (v : Value) (w : World) (h : NoF w v) : Calls Tryz.prog 22 #[v] w fun e w' => e = .returned (.bool false) ∧ w' = w := by
  have C := read_no v 0 1 w h
  clear h
  go_enter Tryz.func22, Tryz.ntmps22
  go_wp2_with fail
  refine C.mono ?_
  rintro e w ⟨rfl, rfl⟩
  go_wp2_with fail
  go_ret
  exact ⟨rfl, rfl⟩
theorem isMade_ff (F : Nat) (R : Nat → Int) (w : World) (h : C.FF w F R) : Calls Tryz.prog 22 #[.pointer (some ⟨F, 0, none⟩)] w fun e w' => e = .returned (.bool true) ∧ w' = w := by
  have CR := read_ff F R 0 1 w h
  have e1 : C.reachP 0 1 = 0 := by decide
  rw [e1] at CR
  clear h
  go_enter Tryz.func22, Tryz.ntmps22
  go_wp2_with fail
  refine CR.mono ?_
  rintro e w ⟨rfl, rfl⟩
  go_wp2_with fail
  go_ret
  exact ⟨rfl, rfl⟩

/-- a result -/
def resV (k c v g : Int) (fe ti : Bool) : Value := .agg #[.int .i64 k, .int .i64 c, .int .u64 v, .int .u64 g, .bool fe, .bool ti]
theorem below_res {B : Nat} {W w : World} (h : Below B W w) (hB : B ≤ w.heap.size) (o1 o2 : Obj) : Below B W ((w.alloc o1).alloc o2) := (h.alloc hB o1).alloc (by simp; omega) o2
theorem step_no_regs (f b : Value) (w : World) : Calls Tryz.prog 10 #[.pointer none, f, b] w fun e w' => e = .returned (.tuple #[resV 0 0 0 0 false false, .int .i64 1]) ∧ Below w.heap.size w w' := by
  unfold resV
  go_enter Tryz.func10, Tryz.ntmps10
  go_wp2
  refine bodyPost_ret (v := _) ?h1 rfl ⟨rfl, ?_⟩
  case h1 => simp [results, Tryz.results10, go_sem]
  exact below_res (Below.refl _ _) (Nat.le_refl _) _ _
theorem step_no_file (r : Nat) (f b : Value) (w : World) (h : NoF w f) : Calls Tryz.prog 10 #[.pointer (some ⟨r, 0, none⟩), f, b] w fun e w' => e = .returned (.tuple #[resV 0 0 0 0 false false, .int .i64 1]) ∧ Below w.heap.size w w' := by
  have hb : Below w.heap.size w ((w.alloc (.cells #[.int .i64 0, .int .i64 0, .int .u64 0, .int .u64 0, .bool false, .bool false] 57)).alloc (.cells #[.int .i64 0] 43)) := below_res (Below.refl _ _) (Nat.le_refl _) _ _
  have h' : NoF ((w.alloc (.cells #[.int .i64 0, .int .i64 0, .int .u64 0, .int .u64 0, .bool false, .bool false] 57)).alloc (.cells #[.int .i64 0] 43)) f := by
    rcases h with h | ⟨F, e, hc⟩
    · exact .inl h
    · exact .inr ⟨F, e, ((bcell hb).1 F 0 (World.block_lt_of_cell? w ⟨F, 0, none⟩ hc)).trans hc⟩
  have C1 := isMade_no f _ h'
  clear h h' hb
  unfold resV
  go_enter Tryz.func10, Tryz.ntmps10
  go_wp2_with fail
  refine C1.mono ?_
  rintro e w' ⟨rfl, hw⟩
  subst hw
  go_wp2_with fail
  refine bodyPost_ret (v := _) ?h1 rfl ⟨rfl, ?_⟩
  case h1 => simp [results, Tryz.results10, go_sem]
  exact below_res (Below.refl _ _) (Nat.le_refl _) _ _
theorem step_no_bus (r F : Nat) (R : Nat → Int) (w : World) (h : C.FF w F R) : Calls Tryz.prog 10 #[.pointer (some ⟨r, 0, none⟩), .pointer (some ⟨F, 0, none⟩), .nilIface] w fun e w' => e = .returned (.tuple #[resV 0 0 0 0 false false, .int .i64 1]) ∧ Below w.heap.size w w' := by
  have hb : Below w.heap.size w ((w.alloc (.cells #[.int .i64 0, .int .i64 0, .int .u64 0, .int .u64 0, .bool false, .bool false] 57)).alloc (.cells #[.int .i64 0] 43)) := below_res (Below.refl _ _) (Nat.le_refl _) _ _
  have C1 := isMade_ff F R _ (h.below hb)
  clear h hb
  unfold resV
  go_enter Tryz.func10, Tryz.ntmps10
  go_wp2_with fail
  refine C1.mono ?_
  rintro e w' ⟨rfl, hw⟩
  subst hw
  go_wp2_with fail
  refine bodyPost_ret (v := _) ?h1 rfl ⟨rfl, ?_⟩
  case h1 => simp [results, Tryz.results10, go_sem]
  exact below_res (Below.refl _ _) (Nat.le_refl _) _ _
end Go.Proofs.YtkckobbedpccfaaGreatDoor
namespace Go.Proofs.YtkckobbedpccfaaGreatDoor
open Go.RowKit
set_option linter.unusedVariables false
set_option maxRecDepth 100000

theorem keepB {w w' : World} {k : Nat} {o : Obj} (h : w.heap[k]? = some o) (hb : Below w.heap.size w w') : w'.heap[k]? = some o := (hb.block k (lt_of_heap h)).trans h
/-- six cells of a result -/
theorem cells6 {w : World} {k : Nat} (h : w.heap[k]? = some (.cells #[.int .i64 0, .int .i64 0, .int .u64 0, .int .u64 0, .bool false, .bool false] 57 (0, 0))) :
    w.cell? ⟨k, 0, none⟩ = some (.int .i64 0) ∧ w.cell? ⟨k, 1, none⟩ = some (.int .i64 0) ∧ w.cell? ⟨k, 2, none⟩ = some (.int .u64 0) ∧ w.cell? ⟨k, 3, none⟩ = some (.int .u64 0) ∧ w.cell? ⟨k, 4, none⟩ = some (.bool false) ∧ w.cell? ⟨k, 5, none⟩ = some (.bool false) ∧ k < w.heap.size := by
  refine ⟨?_, ?_, ?_, ?_, ?_, ?_, lt_of_heap h⟩ <;> rw [C.cell_at h] <;> rfl
/-- registers, as eighteen cells -/
def regC (X : Nat → Int) (pc mode : Int) : Array Value := #[.int .u64 (X 0), .int .u64 (X 1), .int .u64 (X 2), .int .u64 (X 3), .int .u64 (X 4), .int .u64 (X 5), .int .u64 (X 6), .int .u64 (X 7), .int .u64 (X 8), .int .u64 (X 9), .int .u64 (X 10), .int .u64 (X 11), .int .u64 (X 12), .int .u64 (X 13), .int .u64 (X 14), .int .u64 (X 15), .int .u64 pc, .int .i64 mode]
theorem und31 : ∃ fs, Tryz.prog.underlying 31 = some (.struct fs) := by
  have h : (Tryz.prog.underlying 31).isSome = true := by kernel_rfl
  have h2 : (match Tryz.prog.underlying 31 with | some (.struct _) => true | _ => false) = true := by kernel_rfl
  generalize Tryz.prog.underlying 31 = o at *
  match o, h2 with
  | some (.struct fs), _ => exact ⟨fs, rfl⟩
theorem und25 : ∃ fs, Tryz.prog.underlying 25 = some (.struct fs) := by
  have h2 : (match Tryz.prog.underlying 25 with | some (.struct _) => true | _ => false) = true := by kernel_rfl
  generalize Tryz.prog.underlying 25 = o at *
  match o, h2 with
  | some (.struct fs), _ => exact ⟨fs, rfl⟩
theorem inf31 : (Tryz.prog.info? 31).map (·.size) = some 34 := by kernel_rfl
theorem inf25 : (Tryz.prog.info? 25).map (·.size) = some 18 := by kernel_rfl
/-- an array of words is the same as itself -/
theorem eq_items (d : Nat) (xs : Array Value) : ∀ (is : List Nat) (w : World), (∀ j, j ∈ is → ∃ z, xs[j]? = some (.int .u64 z)) → (Op.eqItems (d + 1) 22 1 xs xs is).run Tryz.prog w = .ok true w
  | [], w, _ => by simp [Op.eqItems]
  | j :: is, w, h => by
    obtain ⟨z, hz⟩ := h j (by simp)
    have ih := eq_items d xs is w (fun k hk => h k (by simp [hk]))
    have hp : (part 22 xs j).run Tryz.prog w = .ok (.int .u64 z) w := by simp [part, Tryz.isAgg22, hz]
    simp only [Op.eqItems, Sem.run_bind, Nat.mul_one, hp, Result.andThen_ok, run_equalIn_int _ _ _ _ _ _ _ Tryz.underlying22, beq_self_eq_true, Bool.not_true, Bool.false_eq_true, if_false, Sem.run_ite]
    exact ih
theorem eq_three (D : Nat) (rc : Array Value) (f0 f1 f2 : Field) (t0 : f0.type = 23) (o0 : f0.offset = 0) (n0 : f0.name ≠ "_") (t1 : f1.type = 22) (o1 : f1.offset = 16) (n1 : f1.name ≠ "_") (t2 : f2.type = 3) (o2 : f2.offset = 17) (n2 : f2.name ≠ "_") (P : Program) (w : World) (v0 v1 v2 : Value)
    (p0 : (part 23 rc 0).run P w = .ok v0 w) (p1 : (part 22 rc 16).run P w = .ok v1 w) (p2 : (part 3 rc 17).run P w = .ok v2 w) (q0 : (Op.equalIn D 23 v0 v0).run P w = .ok true w)
    (q1 : (Op.equalIn D 22 v1 v1).run P w = .ok true w) (q2 : (Op.equalIn D 3 v2 v2).run P w = .ok true w) : (Op.eqFields D rc rc [f0, f1, f2]).run P w = .ok true w := by
  simp [Op.eqFields, Sem.run_bind, n0, n1, n2, t0, t1, t2, o0, o1, o2, p0, p1, p2, q0, q1, q2]
theorem regs_fields : ∃ f0 f1 f2 : Field, (Tryz.prog.fieldsOf 25).toList = [f0, f1, f2] ∧ f0.type = 23 ∧ f0.offset = 0 ∧ f0.name = "X" ∧ f1.type = 22 ∧ f1.offset = 16 ∧ f1.name = "Pc" ∧ f2.type = 3 ∧ f2.offset = 17 ∧ f2.name = "Mode" := by
  unfold Program.fieldsOf
  rw [Tryz.underlying25]
  exact ⟨_, _, _, rfl, rfl, rfl, rfl, rfl, rfl, rfl, rfl, rfl, rfl⟩
theorem regs_struct : Tryz.prog.underlying 25 = some (.struct (Tryz.prog.fieldsOf 25)) := by unfold Program.fieldsOf; rw [Tryz.underlying25]
theorem eq_regs_at (d : Nat) (rc : Array Value) (X : Nat → Int) (pc mode : Int) (hX : ∀ n, n < 16 → rc[n]? = some (.int .u64 (X n))) (h16 : rc[16]? = some (.int .u64 pc)) (h17 : rc[17]? = some (.int .i64 mode)) (w : World) : (Op.equalIn (d + 1 + 1 + 1) 25 (.agg rc) (.agg rc)).run Tryz.prog w = .ok true w := by
  have hi : ∃ i, Tryz.prog.info? 22 = some i := Option.isSome_iff_exists.1 (by kernel_rfl)
  obtain ⟨i, hi⟩ := hi
  have hc : Tryz.prog.cellsOf 22 = 1 := by kernel_rfl
  have hl : 18 ≤ rc.size := by
    have := (Array.getElem?_eq_some_iff.1 h17).1
    omega
  have p0 : (part 23 rc 0).run Tryz.prog w = .ok (.agg (rc.extract 0 16)) w := by simp [part, Tryz.isAgg23, Tryz.sizeOf23]
  have p1 : (part 22 rc 16).run Tryz.prog w = .ok (.int .u64 pc) w := by simp [part, Tryz.isAgg22, h16]
  have p2 : (part 3 rc 17).run Tryz.prog w = .ok (.int .i64 mode) w := by simp [part, Tryz.isAgg3, h17]
  have q0 : (Op.equalIn (d + 1 + 1) 23 (.agg (rc.extract 0 16)) (.agg (rc.extract 0 16))).run Tryz.prog w = .ok true w := by
    rw [run_equalIn_array w (d + 1) _ _ Tryz.underlying23 hi, hc]
    exact eq_items d _ _ w (fun j hj => ⟨X j, by
      have hj' : j < 16 := by simpa using hj
      rw [Array.getElem?_extract]
      simp [show j < min 16 rc.size by omega, hX j hj']⟩)
  have q1 : (Op.equalIn (d + 1 + 1) 22 (.int .u64 pc) (.int .u64 pc)).run Tryz.prog w = .ok true w := by
    rw [run_equalIn_int (P := Tryz.prog) w (d + 1) 22 .u64 .u64 pc pc Tryz.underlying22, beq_self_eq_true]
  have q2 : (Op.equalIn (d + 1 + 1) 3 (.int .i64 mode) (.int .i64 mode)).run Tryz.prog w = .ok true w := by
    rw [run_equalIn_int (P := Tryz.prog) w (d + 1) 3 .i64 .i64 mode mode Tryz.underlying3, beq_self_eq_true]
  obtain ⟨f0, f1, f2, hl3, t0, o0, n0, t1, o1, n1, t2, o2, n2⟩ := regs_fields
  have h := eq_three (d + 1 + 1) rc f0 f1 f2 t0 o0 (by rw [n0]; decide) t1 o1 (by rw [n1]; decide) t2 o2 (by rw [n2]; decide) Tryz.prog w _ _ _ p0 p1 p2 q0 q1 q2
  rw [run_equalIn_struct w (d + 1 + 1) 25 _ _ regs_struct Tryz.stoodInHeld25, hl3]
  exact h
theorem eq_regs (rc : Array Value) (X : Nat → Int) (pc mode : Int) (hX : ∀ n, n < 16 → rc[n]? = some (.int .u64 (X n))) (h16 : rc[16]? = some (.int .u64 pc)) (h17 : rc[17]? = some (.int .i64 mode)) (w : World) : (Op.equalIn 10000 25 (.agg rc) (.agg rc)).run Tryz.prog w = .ok true w := by
  have h := eq_regs_at 9997 rc X pc mode hX h16 h17 w
  have e : (9997 + 1 + 1 + 1 : Nat) = 10000 := rfl
  rwa [e] at h

theorem wpList_eql_agg {P : Program} {ops : Array Oper} {rest : List Oper} {o : Oper} {a : Act} {w : World} {Q : Exit → Act → World → Prop} (hw : Region.wanted o (yielded ops a.tmps) = true) (t : TypeId) (x y : Operand) (ho : o.op = .binOp .eql t x y t)
    (xs ys : Array Value) (hx : a.eval x = .agg xs) (hy : a.eval y = .agg ys) (hm : P.eqGuardType P.depth t = false) (b : Bool) (he : (Op.equalIn 10000 t (.agg xs) (.agg ys)).run P w = .ok b w)
    (h : wpList P ops Q rest (a.put o.dst (.bool b)) w) : wpList P ops Q (o :: rest) a w := by
  refine wpList_step fun K hK => ?_
  rw [if_pos hw]
  unfold Oper.wp
  simp only [execOp, ho, hx, hy, Sem.run_bind, run_eqGuard_agg w .eql t x y xs ys hm, Result.andThen_ok, run_eql_struct, he, Sem.run_pure]
  exact hK _ _ h
theorem wpList_neq_agg {P : Program} {ops : Array Oper} {rest : List Oper} {o : Oper} {a : Act} {w : World} {Q : Exit → Act → World → Prop} (hw : Region.wanted o (yielded ops a.tmps) = true) (t : TypeId) (x y : Operand) (ho : o.op = .binOp .neq t x y t)
    (xs ys : Array Value) (hx : a.eval x = .agg xs) (hy : a.eval y = .agg ys) (hm : P.eqGuardType P.depth t = false) (b : Bool) (he : (Op.equalIn 10000 t (.agg xs) (.agg ys)).run P w = .ok b w)
    (h : wpList P ops Q rest (a.put o.dst (.bool (!b))) w) : wpList P ops Q (o :: rest) a w := by
  refine wpList_step fun K hK => ?_
  rw [if_pos hw]
  unfold Oper.wp
  simp only [execOp, ho, hx, hy, Sem.run_bind, run_eqGuard_agg w .neq t x y xs ys hm, Result.andThen_ok, run_neq_struct, he, Sem.run_pure]
  exact hK _ _ h
/-- a whole struct loaded, behind a guard or none -/
theorem wpList_load_at {P : Program} {ops : Array Oper} {rest : List Oper} {o : Oper} {a : Act} {w : World} {Q : Exit → Act → World → Prop} (hw : Region.wanted o (yielded ops a.tmps) = true) (ty : TypeId) (x : Operand) (ho : o.op = .load ty x)
    (b off : Nat) (hx : a.eval x = .pointer (some ⟨b, off, none⟩)) (cs : List Value) (d : TypeDesc) (hc : w.rangeAt b off cs)
    (hu : P.underlying ty = some d) (hd : d.isRow = true) (hi : (P.info? ty).map (·.size) = some cs.length)
    (h : wpList P ops Q rest (a.put o.dst (.agg cs.toArray)) w) : wpList P ops Q (o :: rest) a w := by
  refine wpList_step fun K hK => ?_
  rw [if_pos hw]
  exact wp_load_mid ty x ho b off hx cs d hc hu hd hi (hK _ _ h)
theorem range_of {w : World} {b : Nat} {cs : Array Value} {t : TypeId} (h : w.heap[b]? = some (.cells cs t (0, 0))) : w.rangeAt b 0 cs.toList := fun j v hv => by
  rw [Nat.zero_add, C.cell_at h]; simpa using hv
end Go.Proofs.YtkckobbedpccfaaGreatDoor
