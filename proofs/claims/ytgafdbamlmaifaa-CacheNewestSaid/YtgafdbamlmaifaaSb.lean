/-
  A cache in the heap; what made and find tell of it.
-/
import Derived.Test.YtgafdbamlmaifaaSa
import Derived.Defers
import Derived.Recover
namespace Go.Proofs.Ytgafdbamlmaifaa.S
open Go.RowKit Go.Maps
set_option linter.unusedVariables false
set_option maxRecDepth 20000

/-- the cache's own block: its room, its map, its order -/
def Ob (w : World) (b room m : Nat) (v : Value) : Prop := w.heap[b]? = some (.cells #[.int .i64 room, .map (some m), v] 80 (0, 0))
theorem Ob.lt {w : World} {b room m : Nat} {v : Value} (h : Ob w b room m v) : b < w.heap.size := lt_of_heap h
theorem Ob.c0 {w : World} {b room m : Nat} {v : Value} (h : Ob w b room m v) : w.cell? ⟨b, 0, none⟩ = some (.int .i64 room) := by
  unfold Ob at h
  simp [World.cell?, h]
theorem Ob.c1 {w : World} {b room m : Nat} {v : Value} (h : Ob w b room m v) : w.cell? ⟨b, 1, none⟩ = some (.map (some m)) := by
  unfold Ob at h
  simp [World.cell?, h]
theorem Ob.c2 {w : World} {b room m : Nat} {v : Value} (h : Ob w b room m v) : w.cell? ⟨b, 2, none⟩ = some v := by
  unfold Ob at h
  simp [World.cell?, h]
theorem Ob.f {w : World} {b room m : Nat} {v : Value} (h : Ob w b room m v) (o : Nat) : w.frozen? ⟨b, o, none⟩ = false := by
  unfold Ob at h
  simp [World.frozen?, h]
theorem Ob.keep {w w' : World} {b room m : Nat} {v : Value} (h : Ob w b room m v) (hk : w'.heap[b]? = w.heap[b]?) : Ob w' b room m v := hk.trans h
theorem Ob.below {w w' : World} {b room m : Nat} {v : Value} (h : Ob w b room m v) (hk : Below w.heap.size w w') : Ob w' b room m v := h.keep (hk.block b h.lt)

theorem neq_some (m : Nat) (w : World) : (binOp .neq 77 (.map (some m)) (.map none)).run Try.prog w = .ok (.bool true) w := by kernel_rfl
theorem made_ob (b room m : Nat) (v : Value) (w : World) (h : Ob w b room m v) : Calls Try.prog 36 #[.pointer (some ⟨b, 0, none⟩)] w fun e w' => e = .returned (.bool true) ∧ w' = w := by
  have hm := neq_some m
  have c1 := h.c1
  have hlt := h.lt
  clear h
  go_enter Try.func36, Try.ntmps36
  go_wp2
  go_ret
  exact ⟨rfl, rfl⟩

theorem catch_idle (e : Nat) (W : World) : CallsD Try.prog 50 #[.pointer (some ⟨e, 0, none⟩)] .returning W fun e u' w' => e = .returned (.tuple #[]) ∧ u' = .returning ∧ w' = W := by
  refine callsD_of_wpS Try.func50 rfl fun c₀ cs hu => ?_
  apply wpS_seq
  apply wpS_region
  simp [wpOpsS, go_sem, recoverD, hu, Try.ntmps50, Exit.thenS]
  refine wpS_cond (t := false) (by simp [Act.eval, Array.replicate]) ?_
  simp only [Bool.false_eq_true, if_false]
  refine wpS_of_wp (wp_skip ?_)
  cases c₀
  simp_all [bodyPostS, results, Try.results50]

theorem find_any (b room m N : Nat) (v : Value) (M : Pl → Option Value) (p : Pl) (hp : p.W) (x1 x2 : Int) (hx : (M p).getD zv = .agg #[.int .i64 x1, .int .i64 x2]) (w : World) (ho : Ob w b room m v) (hM : MapIs w m N M) :
    Calls Try.prog 37 #[.pointer (some ⟨b, 0, none⟩), pv p] w fun e w' => e = .returned (.tuple #[(M p).getD zv, .bool (M p).isSome, .int .i64 0]) ∧ Below w.heap.size w w' := by
  have hlt := ho.lt
  have c1 := ho.c1
  have hb : Below w.heap.size w (((w.alloc (.cells #[.int .i64 p.g, kv p.k] 82)).alloc (.cells #[.int .i64 0, .int .i64 0] 54)).alloc (.cells #[.int .i64 0] 24)) := (((Below.refl _ _).alloc (Nat.le_refl _) _).alloc (by simp) _).alloc (by simp; omega) _
  have hr := look_run (hM.keep (w' := (((w.alloc (.cells #[.int .i64 p.g, kv p.k] 82)).alloc (.cells #[.int .i64 0, .int .i64 0] 54)).alloc (.cells #[.int .i64 0] 24)).drew) (hb.block m hM.lt)) p hp
  rw [hx] at hr ⊢
  have d1 := ((bel_cell hb hlt).1 1).trans c1
  obtain ⟨WW, HW⟩ : ∃ WW, Hid (WW = ((w.alloc (.cells #[.int .i64 p.g, kv p.k] 82)).alloc (.cells #[.int .i64 0, .int .i64 0] 54)).alloc (.cells #[.int .i64 0] 24)) := ⟨_, rfl⟩
  rw [← HW.out] at hr hb d1
  have e0 : WW.cell? ⟨w.heap.size, 0, none⟩ = some (.int .i64 p.g) := by rw [HW.out]; simp [go_sem]
  have e1 : WW.cell? ⟨w.heap.size, 1, none⟩ = some (kv p.k) := by rw [HW.out]; simp [go_sem]
  have f0 : WW.cell? ⟨w.heap.size + 1, 0, none⟩ = some (.int .i64 0) := by rw [HW.out]; simp [go_sem]
  have f1 : WW.cell? ⟨w.heap.size + 1, 1, none⟩ = some (.int .i64 0) := by rw [HW.out]; simp [go_sem]
  have fz : ∀ o, WW.frozen? ⟨w.heap.size + 1, o, none⟩ = false := by intro o; rw [HW.out]; simp [go_sem]
  have g0 : WW.cell? ⟨w.heap.size + 1 + 1, 0, none⟩ = some (.int .i64 0) := by rw [HW.out]; simp [go_sem]
  have gz : WW.frozen? ⟨w.heap.size + 1 + 1, 0, none⟩ = false := by rw [HW.out]; simp [go_sem]
  have hsz : WW.heap.size = w.heap.size + 3 := by rw [HW.out]; simp
  have t0 : (WW.setCell ⟨w.heap.size + 1, 0, none⟩ (.int .i64 x1)).cell? ⟨w.heap.size + 1, 0, none⟩ = some (.int .i64 x1) := World.cell?_setCell_same _ _ _ f0
  have t1 : (WW.setCell ⟨w.heap.size + 1, 0, none⟩ (.int .i64 x1)).cell? ⟨w.heap.size + 1, 1, none⟩ = some (.int .i64 0) := (World.cell?_setCell_other _ _ _ _ (by simp)).trans f1
  have t2 : ((WW.setCell ⟨w.heap.size + 1, 0, none⟩ (.int .i64 x1)).setCell ⟨w.heap.size + 1, 1, none⟩ (.int .i64 x2)).cell? ⟨w.heap.size + 1, 0, none⟩ = some (.int .i64 x1) := (World.cell?_setCell_other _ _ _ _ (by simp)).trans t0
  have t3 : ((WW.setCell ⟨w.heap.size + 1, 0, none⟩ (.int .i64 x1)).setCell ⟨w.heap.size + 1, 1, none⟩ (.int .i64 x2)).cell? ⟨w.heap.size + 1, 1, none⟩ = some (.int .i64 x2) := World.cell?_setCell_same _ _ _ t1
  have t4 : (((WW.setCell ⟨w.heap.size + 1, 0, none⟩ (.int .i64 x1)).setCell ⟨w.heap.size + 1, 1, none⟩ (.int .i64 x2)).setCell ⟨w.heap.size + 1, 0, none⟩ (.int .i64 x1)).cell? ⟨w.heap.size + 1, 0, none⟩ = some (.int .i64 x1) := World.cell?_setCell_same _ _ _ t2
  have t5 : (((WW.setCell ⟨w.heap.size + 1, 0, none⟩ (.int .i64 x1)).setCell ⟨w.heap.size + 1, 1, none⟩ (.int .i64 x2)).setCell ⟨w.heap.size + 1, 0, none⟩ (.int .i64 x1)).cell? ⟨w.heap.size + 1, 1, none⟩ = some (.int .i64 x2) := (World.cell?_setCell_other _ _ _ _ (by simp)).trans t3
  have t6 : ((((WW.setCell ⟨w.heap.size + 1, 0, none⟩ (.int .i64 x1)).setCell ⟨w.heap.size + 1, 1, none⟩ (.int .i64 x2)).setCell ⟨w.heap.size + 1, 0, none⟩ (.int .i64 x1)).setCell ⟨w.heap.size + 1, 1, none⟩ (.int .i64 x2)).cell? ⟨w.heap.size + 1, 1, none⟩ = some (.int .i64 x2) := World.cell?_setCell_same _ _ _ t5
  have t7 : ((((WW.setCell ⟨w.heap.size + 1, 0, none⟩ (.int .i64 x1)).setCell ⟨w.heap.size + 1, 1, none⟩ (.int .i64 x2)).setCell ⟨w.heap.size + 1, 0, none⟩ (.int .i64 x1)).setCell ⟨w.heap.size + 1, 1, none⟩ (.int .i64 x2)).cell? ⟨w.heap.size + 1 + 1, 0, none⟩ = some (.int .i64 0) := by
    rw [World.cell?_setCell_other _ _ _ _ (by simp), World.cell?_setCell_other _ _ _ _ (by simp), World.cell?_setCell_other _ _ _ _ (by simp), World.cell?_setCell_other _ _ _ _ (by simp)]
    exact g0
  have t8 : (((((WW.setCell ⟨w.heap.size + 1, 0, none⟩ (.int .i64 x1)).setCell ⟨w.heap.size + 1, 1, none⟩ (.int .i64 x2)).setCell ⟨w.heap.size + 1, 0, none⟩ (.int .i64 x1)).setCell ⟨w.heap.size + 1, 1, none⟩ (.int .i64 x2)).setCell ⟨w.heap.size + 1 + 1, 0, none⟩ (.int .i64 0)).cell? ⟨w.heap.size + 1 + 1, 0, none⟩ = some (.int .i64 0) := World.cell?_setCell_same _ _ _ t7
  unfold pv kv at *
  generalize (M p).isSome = y at *
  have HB : Hid (Below w.heap.size w WW) := hb
  clear hb hx c1 hM ho
  go_enter_defers Try.func37, Try.ntmps37
  go_wp2_with fail
  rw [← HW.out]
  clear HW
  go_region
  go_wp2_with fail
  refine leaves_cons (f := 50) (args := #[.pointer (some ⟨w.heap.size + 1 + 1, 0, none⟩)]) (by simp) (by simp [go_sem]) ?_
  refine (catch_idle _ _).mono ?_
  rintro e u' w'' ⟨rfl, rfl, rfl⟩
  simp [Leaves, settle, results, Try.results37, go_sem, t4, t6, t8]
  exact (((((HB.out.setCell (Nat.le_succ _) _).setCell (Nat.le_succ _) _).setCell (Nat.le_succ _) _).setCell (Nat.le_succ _) _).setCell (Nat.le_add_right _ 2) _).drew
end Go.Proofs.Ytgafdbamlmaifaa.S
