/-
  Entries compared as structs.
-/
import Derived.Test.YteghkhdpdeiocaaDoorRows
import Derived.Laws.StructEq
import Derived.ProofKit
namespace Go.Proofs.YteghkhdpdeiocaaDoor
open Go.RowKit
set_option linter.unusedVariables false
set_option maxRecDepth 20000

theorem eqF_nil (D : Nat) (xs ys : Array Value) (P : Program) (w : World) : (Op.eqFields D xs ys []).run P w = .ok true w := by simp [Op.eqFields]
theorem eqF_cons (D : Nat) (xs ys : Array Value) (f : Field) (fs : List Field) (P : Program) (w : World) (t : TypeId) (o : Nat) (ht : f.type = t) (ho : f.offset = o) (x y : Value) (b c : Bool) (n : f.name ≠ "_") (p : (part t xs o).run P w = .ok x w) (r : (part t ys o).run P w = .ok y w)
    (q : (Op.equalIn D t x y).run P w = .ok b w) (rest : (Op.eqFields D xs ys fs).run P w = .ok c w) : (Op.eqFields D xs ys (f :: fs)).run P w = .ok (b && c) w := by
  subst ht
  subst ho
  cases b <;> simp [Op.eqFields, Sem.run_bind, n, p, r, q, rest]
theorem ent_fields : ∃ f0 f1 f2 f3 f4 f5 f6 f7 : Field, (Tryd.prog.fieldsOf 78).toList = [f0, f1, f2, f3, f4, f5, f6, f7] ∧ f0.type = 4 ∧ f0.offset = 0 ∧ f0.name ≠ "_" ∧ f1.type = 4 ∧ f1.offset = 1 ∧ f1.name ≠ "_" ∧ f2.type = 4 ∧ f2.offset = 2 ∧ f2.name ≠ "_" ∧ f3.type = 4 ∧ f3.offset = 3 ∧ f3.name ≠ "_" ∧ f4.type = 4 ∧ f4.offset = 4 ∧ f4.name ≠ "_" ∧ f5.type = 4 ∧ f5.offset = 5 ∧ f5.name ≠ "_" ∧ f6.type = 4 ∧ f6.offset = 6 ∧ f6.name ≠ "_" ∧ f7.type = 3 ∧ f7.offset = 7 ∧ f7.name ≠ "_" := by
  unfold Program.fieldsOf
  rw [Tryd.underlying78]
  exact ⟨_, _, _, _, _, _, _, _, rfl, rfl, rfl, by decide, rfl, rfl, by decide, rfl, rfl, by decide, rfl, rfl, by decide, rfl, rfl, by decide, rfl, rfl, by decide, rfl, rfl, by decide, rfl, rfl, by decide⟩
theorem ent_struct : Tryd.prog.underlying 78 = some (.struct (Tryd.prog.fieldsOf 78)) := by unfold Program.fieldsOf; rw [Tryd.underlying78]
theorem eq_ent (a0 a1 a2 a3 a4 a5 a6 b0 b1 b2 b3 b4 b5 b6 : Bool) (a7 b7 : Int) (w : World) : (Op.equalIn 10000 78 (.agg #[.bool a0, .bool a1, .bool a2, .bool a3, .bool a4, .bool a5, .bool a6, .int .i64 a7]) (.agg #[.bool b0, .bool b1, .bool b2, .bool b3, .bool b4, .bool b5, .bool b6, .int .i64 b7])).run Tryd.prog w = .ok ((a0 == b0) && ((a1 == b1) && ((a2 == b2) && ((a3 == b3) && ((a4 == b4) && ((a5 == b5) && ((a6 == b6) && ((a7 == b7) && true)))))))) w := by
  have e3 : ∀ (xs : Array Value) (j : Nat) (v : Value), xs[j]? = some v → (part 3 xs j).run Tryd.prog w = .ok v w := fun xs j v h => by simp [part, Tryd.isAgg3, h]
  have e4 : ∀ (xs : Array Value) (j : Nat) (v : Value), xs[j]? = some v → (part 4 xs j).run Tryd.prog w = .ok v w := fun xs j v h => by simp [part, Tryd.isAgg4, h]
  obtain ⟨f0, f1, f2, f3, f4, f5, f6, f7, hl, t0, o0, n0, t1, o1, n1, t2, o2, n2, t3, o3, n3, t4, o4, n4, t5, o5, n5, t6, o6, n6, t7, o7, n7⟩ := ent_fields
  have key : (Op.eqFields 9999 #[.bool a0, .bool a1, .bool a2, .bool a3, .bool a4, .bool a5, .bool a6, .int .i64 a7] #[.bool b0, .bool b1, .bool b2, .bool b3, .bool b4, .bool b5, .bool b6, .int .i64 b7] [f0, f1, f2, f3, f4, f5, f6, f7]).run Tryd.prog w = .ok ((a0 == b0) && ((a1 == b1) && ((a2 == b2) && ((a3 == b3) && ((a4 == b4) && ((a5 == b5) && ((a6 == b6) && ((a7 == b7) && true)))))))) w := by
    exact (eqF_cons _ _ _ f0 _ _ _ 4 0 t0 o0 _ _ _ _ n0 (e4 _ _ _ rfl) (e4 _ _ _ rfl) (run_equalIn_bool w 9998 4 a0 b0 Tryd.underlying4) (eqF_cons _ _ _ f1 _ _ _ 4 1 t1 o1 _ _ _ _ n1 (e4 _ _ _ rfl) (e4 _ _ _ rfl) (run_equalIn_bool w 9998 4 a1 b1 Tryd.underlying4) (eqF_cons _ _ _ f2 _ _ _ 4 2 t2 o2 _ _ _ _ n2 (e4 _ _ _ rfl) (e4 _ _ _ rfl) (run_equalIn_bool w 9998 4 a2 b2 Tryd.underlying4) (eqF_cons _ _ _ f3 _ _ _ 4 3 t3 o3 _ _ _ _ n3 (e4 _ _ _ rfl) (e4 _ _ _ rfl) (run_equalIn_bool w 9998 4 a3 b3 Tryd.underlying4) (eqF_cons _ _ _ f4 _ _ _ 4 4 t4 o4 _ _ _ _ n4 (e4 _ _ _ rfl) (e4 _ _ _ rfl) (run_equalIn_bool w 9998 4 a4 b4 Tryd.underlying4) (eqF_cons _ _ _ f5 _ _ _ 4 5 t5 o5 _ _ _ _ n5 (e4 _ _ _ rfl) (e4 _ _ _ rfl) (run_equalIn_bool w 9998 4 a5 b5 Tryd.underlying4) (eqF_cons _ _ _ f6 _ _ _ 4 6 t6 o6 _ _ _ _ n6 (e4 _ _ _ rfl) (e4 _ _ _ rfl) (run_equalIn_bool w 9998 4 a6 b6 Tryd.underlying4) (eqF_cons _ _ _ f7 _ _ _ 3 7 t7 o7 _ _ _ _ n7 (e3 _ _ _ rfl) (e3 _ _ _ rfl) (run_equalIn_int w 9998 3 .i64 .i64 a7 b7 Tryd.underlying3) (eqF_nil _ _ _ _ _)))))))))
  rw [← hl] at key
  rw [show (10000 : Nat) = 9999 + 1 from rfl, run_equalIn_struct w 9999 78 _ _ ent_struct Tryd.stoodInHeld78]
  exact key
end Go.Proofs.YteghkhdpdeiocaaDoor
