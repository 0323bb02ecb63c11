/-
  What set, find and mapped do: their contracts.
  Entries compared as structs.
-/
import Derived.Test.YteghkhdpdeiocaaGreatDoorTs
import Derived.Test.YteghkhdpdeiocaaGreatDoorRows
import Derived.Laws.StructEq
import Derived.ProofKit
namespace Go.Proofs.YteghkhdpdeiocaaGreatDoor
open Go.RowKit Go.Maps
set_option linter.unusedVariables false
set_option maxRecDepth 100000

/-- a page's places, as they are reckoned -/
theorem quo_w (p : Nat) (hp : p < 1024) : IntKind.i64.wrap ((p : Int) / 32) = (p : Int) / 32 := by rw [IntKind.wrap_i64]; omega
theorem rem_w (p : Nat) : (p : Int).tmod 32 = (p : Int) % 32 := by rw [Int.tmod_eq_emod_of_nonneg (by omega)]
/-- an entry in a block of its own -/
def EB (W : World) (q : Nat) (v r w' x u s d : Bool) (fr : Int) : Prop := W.heap[q]? = some (.cells #[.bool v, .bool r, .bool w', .bool x, .bool u, .bool s, .bool d, .int .i64 fr] 93 (0, 0))
theorem EB.cs {W : World} {q : Nat} {v r w' x u s d : Bool} {fr : Int} (h : EB W q v r w' x u s d fr) : W.cell? ⟨q, 0, none⟩ = some (.bool v) ∧ W.cell? ⟨q, 1, none⟩ = some (.bool r) ∧ W.cell? ⟨q, 2, none⟩ = some (.bool w') ∧ W.cell? ⟨q, 3, none⟩ = some (.bool x) ∧ W.cell? ⟨q, 4, none⟩ = some (.bool u) ∧ W.cell? ⟨q, 5, none⟩ = some (.bool s) ∧ W.cell? ⟨q, 6, none⟩ = some (.bool d) ∧ W.cell? ⟨q, 7, none⟩ = some (.int .i64 fr) := by
  unfold EB at h
  refine ⟨?_, ?_, ?_, ?_, ?_, ?_, ?_, ?_⟩ <;> rw [cell_at h] <;> rfl
theorem EB.fs {W : World} {q : Nat} {v r w' x u s d : Bool} {fr : Int} (h : EB W q v r w' x u s d fr) : W.frozen? ⟨q, 0, none⟩ = false ∧ W.frozen? ⟨q, 1, none⟩ = false ∧ W.frozen? ⟨q, 2, none⟩ = false ∧ W.frozen? ⟨q, 3, none⟩ = false ∧ W.frozen? ⟨q, 4, none⟩ = false ∧ W.frozen? ⟨q, 5, none⟩ = false ∧ W.frozen? ⟨q, 6, none⟩ = false ∧ W.frozen? ⟨q, 7, none⟩ = false := by
  unfold EB at h
  refine ⟨?_, ?_, ?_, ?_, ?_, ?_, ?_, ?_⟩ <;> exact froz_at h _
section
variable {B : Nat → Prop} {w w' : World} {b g D T L gu : Nat} {z : Zs}
set_option maxHeartbeats 1600000 in
/-- a page's entry written -/
theorem set_sx (h : SX B w b g D T L gu z) {p F : Nat} (hp : p < 1024) (hl : z.x.lo (p / 32) = F) (hf : F * 256 + 256 ≤ z.m.length) (v r w' x u s d : Bool) (fr : Int) : Calls Tryz.prog 57 #[.pointer (some ⟨T, 0, none⟩), .int .i64 p, E.ent v r w' x u s d fr] w fun e w1 => e = .returned (.tuple #[]) ∧ SX B w1 b g D T L gu ⟨set8 z.m F (p % 32) (E.packN v r w' x u s d fr), z.S, z.x⟩ ∧ Tn (fun k => k = g) B w w1 := by
  have HB : Hid (Below w.heap.size w (w.alloc (.cells #[.bool v, .bool r, .bool w', .bool x, .bool u, .bool s, .bool d, .int .i64 fr] 93))) := (Below.refl _ _).alloc (Nat.le_refl _) _
  have HS : Hid (SX B (w.alloc (.cells #[.bool v, .bool r, .bool w', .bool x, .bool u, .bool s, .bool d, .int .i64 fr] 93)) b g D T L gu z) := h.below HB.out
  have hz := h.tb.lt
  have HG : Hid (w.heap.size ≠ g) := fun e => by have := h.mm.glt; omega
  clear h
  have C2 := write_sx HS.out.drew F (p % 32) hf (by omega) v r w' x u s d fr
  have hp1 : (p : Int) < 1024 := by omega
  have hq : (p : Int) / 32 = ((p / 32 : Nat) : Int) := by omega
  have hr : (p : Int) % 32 = ((p % 32 : Nat) : Int) := by omega
  have hw := quo_w p hp
  have hm := rem_w p
  have hlk : ∀ W m' S', SX B W b g D T L gu ⟨m', S', z.x⟩ → (Instr.lookup 108 (.map (some L)) (.int .i64 ((p : Int) / 32)) false).run Tryz.prog W = .ok (.int .i64 F) W := fun W m' S' hW => by
    have lr : (Instr.lookup 108 (.map (some L)) (.int .i64 ((p / 32 : Nat) : Int)) false).run Tryz.prog W = .ok ((loM z.x.lo (p / 32)).getD zv) W := look_run hW.mp (p / 32) (by omega)
    rw [hq, lr, loM_some (by omega) (by rw [hl]; omega), hl]
    rfl
  have HQ : Hid (EB (w.alloc (.cells #[.bool v, .bool r, .bool w', .bool x, .bool u, .bool s, .bool d, .int .i64 fr] 93)).drew w.heap.size v r w' x u s d fr) := heap_alloc_at _ _
  rw [← hr] at C2
  have HK : Hid (_) := hlk
  have hc1 := And.intro HS.out.drew.tb.c4 (And.intro (hlk _ z.m z.S HS.out.drew) HQ.out.cs)
  clear hq hr hlk
  unfold E.ent at *
  go_enter Tryz.func57, Tryz.ntmps57
  go_wp2_with fail
  go_region_held2 (fun W => W.cell? ⟨T, 4, none⟩ = some (.map (some L)) ∧ (Instr.lookup 108 (.map (some L)) (.int .i64 ((p : Int) / 32)) false).run Tryz.prog W = .ok (.int .i64 F) W ∧ W.cell? ⟨w.heap.size, 0, none⟩ = some (.bool v) ∧ W.cell? ⟨w.heap.size, 1, none⟩ = some (.bool r) ∧ W.cell? ⟨w.heap.size, 2, none⟩ = some (.bool w') ∧ W.cell? ⟨w.heap.size, 3, none⟩ = some (.bool x) ∧ W.cell? ⟨w.heap.size, 4, none⟩ = some (.bool u) ∧ W.cell? ⟨w.heap.size, 5, none⟩ = some (.bool s) ∧ W.cell? ⟨w.heap.size, 6, none⟩ = some (.bool d) ∧ W.cell? ⟨w.heap.size, 7, none⟩ = some (.int .i64 fr))
    (first | exact hc1 | exact hc2)
    (first
      | (go_at_call 85; refine C2.mono ?_; rintro q y2 ⟨rfl, hY, hT⟩; (have H2 : Hid (SX B y2 b g D T L gu ⟨set8 z.m F (p % 32) (E.packN v r w' x u s d fr), z.S, z.x⟩ ∧ Tn (fun k => k = g) B (w.alloc (.cells #[.bool v, .bool r, .bool w', .bool x, .bool u, .bool s, .bool d, .int .i64 fr] 93)).drew y2) := ⟨hY, hT⟩); (have hc2 := And.intro hY.tb.c4 (And.intro (HK.out _ _ _ hY) (EB.cs (hT.keep _ _ HQ.out HG.out (.inr (not_of (by decide)))))))))
  go_wp2_with fail
  go_end0
  exact ⟨rfl, H2.out.1, (Tn.of_below HB.out).drew.trans H2.out.2⟩
end
end Go.Proofs.YteghkhdpdeiocaaGreatDoor
namespace Go.Proofs.YteghkhdpdeiocaaGreatDoor
open Go.RowKit
set_option linter.unusedVariables false
set_option maxRecDepth 100000

theorem eqF_nil (D : Nat) (xs ys : Array Value) (P : Program) (w : World) : (Op.eqFields D xs ys []).run P w = .ok true w := by simp [Op.eqFields]
theorem eqF_cons (D : Nat) (xs ys : Array Value) (f : Field) (fs : List Field) (P : Program) (w : World) (t : TypeId) (o : Nat) (ht : f.type = t) (ho : f.offset = o) (x y : Value) (b c : Bool) (n : f.name ≠ "_") (p : (part t xs o).run P w = .ok x w) (r : (part t ys o).run P w = .ok y w)
    (q : (Op.equalIn D t x y).run P w = .ok b w) (rest : (Op.eqFields D xs ys fs).run P w = .ok c w) : (Op.eqFields D xs ys (f :: fs)).run P w = .ok (b && c) w := by
  subst ht
  subst ho
  cases b <;> simp [Op.eqFields, Sem.run_bind, n, p, r, q, rest]
theorem ent_fields : ∃ f0 f1 f2 f3 f4 f5 f6 f7 : Field, (Tryz.prog.fieldsOf 93).toList = [f0, f1, f2, f3, f4, f5, f6, f7] ∧ f0.type = 4 ∧ f0.offset = 0 ∧ f0.name ≠ "_" ∧ f1.type = 4 ∧ f1.offset = 1 ∧ f1.name ≠ "_" ∧ f2.type = 4 ∧ f2.offset = 2 ∧ f2.name ≠ "_" ∧ f3.type = 4 ∧ f3.offset = 3 ∧ f3.name ≠ "_" ∧ f4.type = 4 ∧ f4.offset = 4 ∧ f4.name ≠ "_" ∧ f5.type = 4 ∧ f5.offset = 5 ∧ f5.name ≠ "_" ∧ f6.type = 4 ∧ f6.offset = 6 ∧ f6.name ≠ "_" ∧ f7.type = 3 ∧ f7.offset = 7 ∧ f7.name ≠ "_" := by
  unfold Program.fieldsOf
  rw [Tryz.underlying93]
  exact ⟨_, _, _, _, _, _, _, _, rfl, rfl, rfl, by decide, rfl, rfl, by decide, rfl, rfl, by decide, rfl, rfl, by decide, rfl, rfl, by decide, rfl, rfl, by decide, rfl, rfl, by decide, rfl, rfl, by decide⟩
theorem ent_struct : Tryz.prog.underlying 93 = some (.struct (Tryz.prog.fieldsOf 93)) := by unfold Program.fieldsOf; rw [Tryz.underlying93]
theorem eq_ent (a0 a1 a2 a3 a4 a5 a6 b0 b1 b2 b3 b4 b5 b6 : Bool) (a7 b7 : Int) (w : World) : (Op.equalIn 10000 93 (.agg #[.bool a0, .bool a1, .bool a2, .bool a3, .bool a4, .bool a5, .bool a6, .int .i64 a7]) (.agg #[.bool b0, .bool b1, .bool b2, .bool b3, .bool b4, .bool b5, .bool b6, .int .i64 b7])).run Tryz.prog w = .ok ((a0 == b0) && ((a1 == b1) && ((a2 == b2) && ((a3 == b3) && ((a4 == b4) && ((a5 == b5) && ((a6 == b6) && ((a7 == b7) && true)))))))) w := by
  have e3 : ∀ (xs : Array Value) (j : Nat) (v : Value), xs[j]? = some v → (part 3 xs j).run Tryz.prog w = .ok v w := fun xs j v h => by simp [part, Tryz.isAgg3, h]
  have e4 : ∀ (xs : Array Value) (j : Nat) (v : Value), xs[j]? = some v → (part 4 xs j).run Tryz.prog w = .ok v w := fun xs j v h => by simp [part, Tryz.isAgg4, h]
  obtain ⟨f0, f1, f2, f3, f4, f5, f6, f7, hl, t0, o0, n0, t1, o1, n1, t2, o2, n2, t3, o3, n3, t4, o4, n4, t5, o5, n5, t6, o6, n6, t7, o7, n7⟩ := ent_fields
  have key : (Op.eqFields 9999 #[.bool a0, .bool a1, .bool a2, .bool a3, .bool a4, .bool a5, .bool a6, .int .i64 a7] #[.bool b0, .bool b1, .bool b2, .bool b3, .bool b4, .bool b5, .bool b6, .int .i64 b7] [f0, f1, f2, f3, f4, f5, f6, f7]).run Tryz.prog w = .ok ((a0 == b0) && ((a1 == b1) && ((a2 == b2) && ((a3 == b3) && ((a4 == b4) && ((a5 == b5) && ((a6 == b6) && ((a7 == b7) && true)))))))) w := by
    exact (eqF_cons _ _ _ f0 _ _ _ 4 0 t0 o0 _ _ _ _ n0 (e4 _ _ _ rfl) (e4 _ _ _ rfl) (run_equalIn_bool w 9998 4 a0 b0 Tryz.underlying4) (eqF_cons _ _ _ f1 _ _ _ 4 1 t1 o1 _ _ _ _ n1 (e4 _ _ _ rfl) (e4 _ _ _ rfl) (run_equalIn_bool w 9998 4 a1 b1 Tryz.underlying4) (eqF_cons _ _ _ f2 _ _ _ 4 2 t2 o2 _ _ _ _ n2 (e4 _ _ _ rfl) (e4 _ _ _ rfl) (run_equalIn_bool w 9998 4 a2 b2 Tryz.underlying4) (eqF_cons _ _ _ f3 _ _ _ 4 3 t3 o3 _ _ _ _ n3 (e4 _ _ _ rfl) (e4 _ _ _ rfl) (run_equalIn_bool w 9998 4 a3 b3 Tryz.underlying4) (eqF_cons _ _ _ f4 _ _ _ 4 4 t4 o4 _ _ _ _ n4 (e4 _ _ _ rfl) (e4 _ _ _ rfl) (run_equalIn_bool w 9998 4 a4 b4 Tryz.underlying4) (eqF_cons _ _ _ f5 _ _ _ 4 5 t5 o5 _ _ _ _ n5 (e4 _ _ _ rfl) (e4 _ _ _ rfl) (run_equalIn_bool w 9998 4 a5 b5 Tryz.underlying4) (eqF_cons _ _ _ f6 _ _ _ 4 6 t6 o6 _ _ _ _ n6 (e4 _ _ _ rfl) (e4 _ _ _ rfl) (run_equalIn_bool w 9998 4 a6 b6 Tryz.underlying4) (eqF_cons _ _ _ f7 _ _ _ 3 7 t7 o7 _ _ _ _ n7 (e3 _ _ _ rfl) (e3 _ _ _ rfl) (run_equalIn_int w 9998 3 .i64 .i64 a7 b7 Tryz.underlying3) (eqF_nil _ _ _ _ _)))))))))
  rw [← hl] at key
  rw [show (10000 : Nat) = 9999 + 1 from rfl, run_equalIn_struct w 9999 93 _ _ ent_struct Tryz.stoodInHeld93]
  exact key
end Go.Proofs.YteghkhdpdeiocaaGreatDoor
