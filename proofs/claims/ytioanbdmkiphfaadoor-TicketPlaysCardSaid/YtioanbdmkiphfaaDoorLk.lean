/-
  A lock in the heap: a block of nineteen cells; the tables of sizes and of steps; isMade, check.
-/
import Derived.Test.YtioanbdmkiphfaaDoorMem5
import Derived.Test.YtioanbdmkiphfaaDoorRef2
import Derived.Deep.MidRow
import Derived.ChangeKeysEq
import Derived.Deep.RegionLaw
import Derived.Deep.QuietTactic
import Derived.BigQuiet
namespace Go.Proofs.YtioanbdmkiphfaaDoor
open Go.RowKit
set_option linter.unusedVariables false
set_option maxRecDepth 20000

theorem cell_at {w : World} {b : Nat} {cs : Array Value} {t : TypeId} (h : w.heap[b]? = some (.cells cs t (0, 0))) (o : Nat) : w.cell? ⟨b, o, none⟩ = cs[o]? := by simp [World.cell?, h]
theorem frozen_at {w : World} {b : Nat} {cs : Array Value} {t : TypeId} (h : w.heap[b]? = some (.cells cs t (0, 0))) (o : Nat) : w.frozen? ⟨b, o, none⟩ = false := by simp [World.frozen?, h]
theorem ne_typ {w : World} {a b : Nat} {c d : Array Value} {s t : TypeId} (h : w.heap[a]? = some (.cells c s (0, 0))) (k : w.heap[b]? = some (.cells d t (0, 0))) (hn : s ≠ t) : a ≠ b := fun e => by
  rw [e, k] at h
  simp at h
  exact hn h.2.symm
theorem range_of {w : World} {b : Nat} {cs : Array Value} {t : TypeId} (h : w.heap[b]? = some (.cells cs t (0, 0))) : w.rangeAt b 0 cs.toList := fun j v hv => by
  rw [Nat.zero_add, cell_at h]; simpa using hv
/-- what has turned between two worlds: blocks of S, and new ones -/
structure Trn (S : Nat → Prop) (w w' : World) : Prop where
  os : w'.os = w.os
  tape : w'.tape = w.tape
  output : w'.output = w.output
  size : w.heap.size ≤ w'.heap.size
  block : ∀ k, k < w.heap.size → ¬ S k → w'.heap[k]? = w.heap[k]?
theorem Trn.refl (S : Nat → Prop) (w : World) : Trn S w w := ⟨rfl, rfl, rfl, Nat.le_refl _, fun _ _ _ => rfl⟩
theorem Trn.trans {S : Nat → Prop} {a b c : World} (h : Trn S a b) (k : Trn S b c) : Trn S a c :=
  ⟨k.os.trans h.os, k.tape.trans h.tape, k.output.trans h.output, Nat.le_trans h.size k.size, fun i hi hr => (k.block i (Nat.lt_of_lt_of_le hi h.size) hr).trans (h.block i hi hr)⟩
theorem Trn.below {S : Nat → Prop} {a b : World} (h : Trn S a b) {B : Nat} (hB : ∀ k, S k → B ≤ k) (hs : B ≤ a.heap.size) : Below B a b :=
  ⟨h.os, h.tape, h.output, h.size, fun k hk => h.block k (by omega) (fun hk' => by have := hB k hk'; omega)⟩
theorem Trn.drew {S : Nat → Prop} {a b : World} (h : Trn S a b) : Trn S a b.drew := ⟨h.os, h.tape, h.output, h.size, h.block⟩
theorem Trn.of_below {S : Nat → Prop} {a b : World} (h : Below a.heap.size a b) : Trn S a b := ⟨h.os, h.tape, h.output, h.size, fun k hk _ => h.block k hk⟩
theorem Trn.mono {S S' : Nat → Prop} {a b : World} (h : Trn S a b) (hs : ∀ k, k < a.heap.size → S k → S' k) : Trn S' a b := ⟨h.os, h.tape, h.output, h.size, fun k hk hn => h.block k hk fun e => hn (hs k hk e)⟩
theorem Trn.of_grown {S : Nat → Prop} {a b : World} {row : Option Nat} (h : a.grownBy b row) (hs : ∀ k, row = some k → S k) : Trn S a b :=
  ⟨h.os, h.tape, h.output, h.size, fun k hk hn => h.block k hk fun e => hn (hs k e.symm)⟩

/-- a whole struct loaded, behind a guard or none -/
theorem wpList_load_at {P : Program} {ops : Array Oper} {rest : List Oper} {o : Oper} {a : Act} {w : World} {Q : Exit → Act → World → Prop} (hw : Region.wanted o (yielded ops a.tmps) = true) (ty : TypeId) (x : Operand) (ho : o.op = .load ty x)
    (b off : Nat) (hx : a.eval x = .pointer (some ⟨b, off, none⟩)) (cs : List Value) (d : TypeDesc) (hc : w.rangeAt b off cs)
    (hu : P.underlying ty = some d) (hd : d.isRow = true) (hi : (P.info? ty).map (·.size) = some cs.length)
    (h : wpList P ops Q rest (a.put o.dst (.agg cs.toArray)) w) : wpList P ops Q (o :: rest) a w := by
  refine wpList_step fun K hK => ?_
  rw [if_pos hw]
  exact wp_load_mid ty x ho b off hx cs d hc hu hd hi (hK _ _ h)
theorem wpList_neq_agg {P : Program} {ops : Array Oper} {rest : List Oper} {o : Oper} {a : Act} {w : World} {Q : Exit → Act → World → Prop} (hw : Region.wanted o (yielded ops a.tmps) = true) (t : TypeId) (x y : Operand) (ho : o.op = .binOp .neq t x y t)
    (xs ys : Array Value) (hx : a.eval x = .agg xs) (hy : a.eval y = .agg ys) (hm : P.eqGuardType P.depth t = false) (b : Bool) (he : (Op.equalIn 10000 t (.agg xs) (.agg ys)).run P w = .ok b w)
    (h : wpList P ops Q rest (a.put o.dst (.bool (!b))) w) : wpList P ops Q (o :: rest) a w := by
  refine wpList_step fun K hK => ?_
  rw [if_pos hw]
  unfold Oper.wp
  simp only [execOp, ho, hx, hy, Sem.run_bind, run_eqGuard_agg w .neq t x y xs ys hm, Result.andThen_ok, run_neq_struct, he, Sem.run_pure]
  exact hK _ _ h

/-- the table of steps -/
def stepsL : List Value := [.int .u64 0, .int .i64 0, .int .u64 0, .int .i64 2, .int .u64 8, .int .i64 3, .int .u64 0, .int .i64 3, .int .u64 8, .int .i64 0]
/-- both tables -/
structure TB (w : World) : Prop where
  sz : SZ w
  st : w.rangeAt 0 0 stepsL
theorem TB.pos {w : World} (h : TB w) : 1 < w.heap.size := h.sz.pos
theorem TB.below {w w' : World} (h : TB w) (hb : Below w.heap.size w w') : TB w' :=
  ⟨h.sz.below hb, fun j v hv => ((bcell hb).1 0 _ (by have := h.pos; omega)).trans (h.st j v hv)⟩
theorem TB.turn {S : Nat → Prop} {w w' : World} (h : TB w) (ht : Trn S w w') (hS : ∀ k, S k → 1 < k) : TB w' := by
  have hp := h.pos
  have h0 : w'.heap[0]? = w.heap[0]? := ht.block 0 (by omega) (fun e => by have := hS 0 e; omega)
  have h1 : w'.heap[1]? = w.heap[1]? := ht.block 1 (by omega) (fun e => by have := hS 1 e; omega)
  have c0 : ∀ o, w'.cell? ⟨0, o, none⟩ = w.cell? ⟨0, o, none⟩ := fun o => World.cell?_of_block (a := ⟨0, o, none⟩) h0
  have c1 : ∀ o, w'.cell? ⟨1, o, none⟩ = w.cell? ⟨1, o, none⟩ := fun o => World.cell?_of_block (a := ⟨1, o, none⟩) h1
  obtain ⟨⟨k0, k1, k2, k3, k4, k5, hq⟩, st⟩ := h
  exact ⟨⟨(c1 _).trans k0, (c1 _).trans k1, (c1 _).trans k2, (c1 _).trans k3, (c1 _).trans k4, (c1 _).trans k5, by have := ht.size; omega⟩, fun j v hv => (c0 _).trans (st j v hv)⟩

def U (x : Int) : Prop := 0 ≤ x ∧ x < 18446744073709551616
/-- one turned -/
def upd (R : Nat → Int) (n : Nat) (v : Int) : Nat → Int := fun k => if k = n then v else R k
/-- a lock of block k: its memory's block b, its address, how many cores, their states and tickets -/
structure LK (w : World) (k b : Nat) (t : Int) (n : Nat) (S T : Nat → Int) : Prop where
  blk : ∃ cs : Array Value, w.heap[k]? = some (.cells cs 65 (0, 0)) ∧ cs.size = 19 ∧ cs[0]? = some (.pointer (some ⟨b, 0, none⟩)) ∧ cs[1]? = some (.int .u64 t) ∧ cs[2]? = some (.int .i64 n) ∧
    ∀ c, c < 8 → cs[3 + c * 2]? = some (.int .i64 (S c)) ∧ cs[3 + c * 2 + 1]? = some (.int .u64 (T c))
  n1 : 1 ≤ n
  n8 : n ≤ 8
  st : ∀ c, 0 ≤ S c ∧ S c ≤ 4
  tk : ∀ c, U (T c)
section
variable {w w' : World} {k b n : Nat} {t : Int} {S T : Nat → Int}
theorem LK.lt (h : LK w k b t n S T) : k < w.heap.size := by
  obtain ⟨⟨cs, h, _⟩, _⟩ := h
  exact lt_of_heap h
theorem LK.keep (h : LK w k b t n S T) (hk : w'.heap[k]? = w.heap[k]?) : LK w' k b t n S T := by
  obtain ⟨⟨cs, h, r⟩, q1, q2, q3, q4⟩ := h
  exact ⟨⟨cs, hk.trans h, r⟩, q1, q2, q3, q4⟩
theorem LK.below (h : LK w k b t n S T) (hk : Below w.heap.size w w') : LK w' k b t n S T := h.keep (hk.block k h.lt)
theorem LK.c0 (h : LK w k b t n S T) : w.cell? ⟨k, 0, none⟩ = some (.pointer (some ⟨b, 0, none⟩)) := by
  obtain ⟨⟨cs, h, h1, h2, h3⟩, _⟩ := h
  rw [cell_at h, h2]
theorem LK.c1 (h : LK w k b t n S T) : w.cell? ⟨k, 1, none⟩ = some (.int .u64 t) := by
  obtain ⟨⟨cs, h, h1, h2, h3, _⟩, _⟩ := h
  rw [cell_at h, h3]
theorem LK.c2 (h : LK w k b t n S T) : w.cell? ⟨k, 2, none⟩ = some (.int .i64 n) := by
  obtain ⟨⟨cs, h, h1, h2, h3, h4, _⟩, _⟩ := h
  rw [cell_at h, h4]
theorem LK.cs (h : LK w k b t n S T) (c : Nat) (hc : c < n) : w.cell? ⟨k, 3 + c * 2, none⟩ = some (.int .i64 (S c)) := by
  have := h.n8
  obtain ⟨⟨cs, h, h1, h2, h3, h4, h5⟩, _⟩ := h
  rw [cell_at h, (h5 c (by omega)).1]
theorem LK.ct (h : LK w k b t n S T) (c : Nat) (hc : c < n) : w.cell? ⟨k, 3 + c * 2 + 1, none⟩ = some (.int .u64 (T c)) := by
  have := h.n8
  obtain ⟨⟨cs, h, h1, h2, h3, h4, h5⟩, _⟩ := h
  rw [cell_at h, (h5 c (by omega)).2]
theorem LK.f (h : LK w k b t n S T) (o : Nat) : w.frozen? ⟨k, o, none⟩ = false := by
  obtain ⟨⟨cs, h, _⟩, _⟩ := h
  exact frozen_at h o
end

theorem flds65 : ∃ f0 fr, (Tryd.prog.fieldsOf 65).toList = f0 :: fr ∧ f0.type = 24 ∧ f0.offset = 0 ∧ f0.name = "memory" := by
  unfold Program.fieldsOf
  rw [Tryd.underlying65]
  exact ⟨_, _, rfl, rfl, rfl, rfl⟩
theorem str65 : Tryd.prog.underlying 65 = some (.struct (Tryd.prog.fieldsOf 65)) := by unfold Program.fieldsOf; rw [Tryd.underlying65]
/-- a lock that New made is not the zero one -/
theorem eq_zero (cs zs : Array Value) (b : Nat) (h0 : cs[0]? = some (.pointer (some ⟨b, 0, none⟩))) (hz : zs[0]? = some (.pointer none)) (w : World) : (Op.equalIn 10000 65 (.agg cs) (.agg zs)).run Tryd.prog w = .ok false w := by
  obtain ⟨f0, fr, hl, t0, o0, n0⟩ := flds65
  have p0 : (part 24 cs 0).run Tryd.prog w = .ok (.pointer (some ⟨b, 0, none⟩)) w := by simp [part, Tryd.isAgg24, h0]
  have p1 : (part 24 zs 0).run Tryd.prog w = .ok (.pointer none) w := by simp [part, Tryd.isAgg24, hz]
  have q0 : (Op.equalIn 9999 24 (.pointer (some ⟨b, 0, none⟩)) (.pointer none)).run Tryd.prog w = .ok false w := by kernel_rfl
  rw [show (10000 : Nat) = 9999 + 1 from rfl, run_equalIn_struct w 9999 65 _ _ str65 Tryd.stoodInHeld65, hl]
  simp [Op.eqFields, Sem.run_bind, n0, t0, o0, p0, p1, q0]
theorem isMade_lk (k b : Nat) (t : Int) (n : Nat) (S T : Nat → Int) (w : World) (h : LK w k b t n S T) : Calls Tryd.prog 38 #[.pointer (some ⟨k, 0, none⟩)] w fun e w' => e = .returned (.bool true) ∧ w' = w := by
  obtain ⟨⟨cs, hb, h1, h2, h3⟩, _⟩ := h
  have hr := range_of hb
  have hl := lt_of_heap hb
  have hi : (Tryd.prog.info? 65).map (·.size) = some cs.toList.length := by rw [show cs.toList.length = 19 by simpa using h1]; kernel_rfl
  go_enter Tryd.func38, Tryd.ntmps38
  go_wp2_with (first
    | (refine wpList_load_at rfl 65 (.tmp 7) rfl k 0 rfl cs.toList _ hr Tryd.underlying65 rfl hi ?_)
    | (refine wpList_neq_agg rfl 65 (.tmp 8) (.tmp 9) rfl _ _ rfl rfl (by kernel_rfl) false (eq_zero _ _ b (by simpa using h2) rfl _) ?_))
  go_ret
  exact ⟨rfl, rfl⟩
end Go.Proofs.YtioanbdmkiphfaaDoor
