/-
  A cache in the heap; what made and find tell of it.
-/
import Derived.Test.YtgafdbamlmaifaaGa
import Derived.Defers
import Derived.Recover
namespace Go.Proofs.Ytgafdbamlmaifaa.G
open Go.RowKit Go.Maps
set_option linter.unusedVariables false
set_option maxRecDepth 20000

/-- the cache's own block: its room, its map, its order -/
def Ob (w : World) (b room m : Nat) (v : Value) : Prop := w.heap[b]? = some (.cells #[.int .i64 room, .map (some m), v] 90 (0, 0))
theorem Ob.lt {w : World} {b room m : Nat} {v : Value} (h : Ob w b room m v) : b < w.heap.size := lt_of_heap h
theorem Ob.c0 {w : World} {b room m : Nat} {v : Value} (h : Ob w b room m v) : w.cell? ⟨b, 0, none⟩ = some (.int .i64 room) := by
  unfold Ob at h
  simp [World.cell?, h]
theorem Ob.c1 {w : World} {b room m : Nat} {v : Value} (h : Ob w b room m v) : w.cell? ⟨b, 1, none⟩ = some (.map (some m)) := by
  unfold Ob at h
  simp [World.cell?, h]
theorem Ob.c2 {w : World} {b room m : Nat} {v : Value} (h : Ob w b room m v) : w.cell? ⟨b, 2, none⟩ = some v := by
  unfold Ob at h
  simp [World.cell?, h]
theorem Ob.f {w : World} {b room m : Nat} {v : Value} (h : Ob w b room m v) (o : Nat) : w.frozen? ⟨b, o, none⟩ = false := by
  unfold Ob at h
  simp [World.frozen?, h]
theorem Ob.keep {w w' : World} {b room m : Nat} {v : Value} (h : Ob w b room m v) (hk : w'.heap[b]? = w.heap[b]?) : Ob w' b room m v := hk.trans h
theorem Ob.below {w w' : World} {b room m : Nat} {v : Value} (h : Ob w b room m v) (hk : Below w.heap.size w w') : Ob w' b room m v := h.keep (hk.block b h.lt)

theorem neq_some (m : Nat) (w : World) : (binOp .neq 88 (.map (some m)) (.map none)).run Try.prog w = .ok (.bool true) w := by kernel_rfl
theorem made_ob (b room m : Nat) (v : Value) (w : World) (h : Ob w b room m v) : Calls Try.prog 41 #[.pointer (some ⟨b, 0, none⟩)] w fun e w' => e = .returned (.bool true) ∧ w' = w := by
  have hm := neq_some m
  have c1 := h.c1
  have hlt := h.lt
  clear h
  go_enter Try.func41, Try.ntmps41
  go_wp2
  go_ret
  exact ⟨rfl, rfl⟩

theorem catch_idle (e : Nat) (W : World) : CallsD Try.prog 54 #[.pointer (some ⟨e, 0, none⟩)] .returning W fun e u' w' => e = .returned (.tuple #[]) ∧ u' = .returning ∧ w' = W := by
  refine callsD_of_wpS Try.func54 rfl fun c₀ cs hu => ?_
  apply wpS_seq
  apply wpS_region
  simp [wpOpsS, go_sem, recoverD, hu, Try.ntmps54, Exit.thenS]
  refine wpS_cond (t := false) (by simp [Act.eval, Array.replicate]) ?_
  simp only [Bool.false_eq_true, if_false]
  refine wpS_of_wp (wp_skip ?_)
  cases c₀
  simp_all [bodyPostS, results, Try.results54]

theorem find_any (b room m N : Nat) (v : Value) (M : Pl → Option Value) (p : Pl) (hp : p.W) (w : World) (ho : Ob w b room m v) (hM : MapIs w m N M) :
    Calls Try.prog 42 #[.pointer (some ⟨b, 0, none⟩), pv p] w fun e w' => e = .returned (.tuple #[(M p).getD zv, .bool (M p).isSome, .int .i64 0]) ∧ Below w.heap.size w w' := by
  have hlt := ho.lt
  have c1 := ho.c1
  have hb : Below w.heap.size w ((w.alloc (.cells #[.int .i64 p.g, kv p.k] 68)).alloc (.cells #[.int .i64 0] 24)) := ((Below.refl _ _).alloc (Nat.le_refl _) _).alloc (by simp) _
  have hr := look_run (hM.keep (w' := ((w.alloc (.cells #[.int .i64 p.g, kv p.k] 68)).alloc (.cells #[.int .i64 0] 24)).drew) (hb.block m hM.lt)) p hp
  unfold pv kv at *
  generalize (M p).getD zv = x at *
  generalize (M p).isSome = y at *
  have HB : Hid (_) := hb
  clear hb
  go_enter_defers Try.func42, Try.ntmps42
  go_wp2_with fail
  go_region
  go_wp2_with fail
  refine leaves_cons (f := 54) (args := #[.pointer (some ⟨w.heap.size + 1, 0, none⟩)]) (by simp) (by simp [go_sem]) ?_
  refine (catch_idle _ _).mono ?_
  rintro e u' w'' ⟨rfl, rfl, rfl⟩
  simp [Leaves, settle, results, Try.results42, go_sem]
  exact HB.out.drew
end Go.Proofs.Ytgafdbamlmaifaa.G
