/-
  What step does: one access to the memory.
-/
import Derived.Test.YtioanbdmkiphfaaDoorLs
namespace Go.Proofs.YtioanbdmkiphfaaDoor
open Go.RowKit
set_option linter.unusedVariables false
set_option maxRecDepth 20000

theorem num_ok (m : Nat) (t : Int) (h8 : t % 8 = 0) (h : t + 8 ≤ m) : numE m t 8 = 0 := by
  rw [numE, if_neg (by simp [isW]), if_neg (by simpa using h8), if_neg (by omega)]
theorem load_U (zs : List Int) (hb : Bytes zs) (t : Int) : U (loadV zs t 8) := by
  unfold loadV
  by_cases h : numE zs.length t 8 = 0
  · rw [if_pos h]
    have := leFrom_bound zs hb 8 t.toNat
    simp [extW, U]
    omega
  · rw [if_neg h]; exact ⟨by decide, by decide⟩
/-- a number that grows by one -/
def inc (x : Int) : Int := IntKind.u64.wrap (x + 1)
theorem inc_U (x : Int) : U (inc x) := by unfold inc U; rw [IntKind.wrap_u64]; omega
theorem step_stay (k : Nat) (s x : Int) (w : World) (hs : s = 0 ∨ s = 3) (h : TB w) : Calls Tryd.prog 28 #[.pointer (some ⟨k, 0, none⟩), .agg #[.int .i64 s, .int .u64 x]] w fun e w' => e = .returned (.tuple #[.agg #[.int .i64 s, .int .u64 x], .int .i64 0]) ∧ Below w.heap.size w w' := by
  have hp : 0 < w.heap.size := by have := h.pos; omega
  have q0 := h.st 0 _ rfl
  have q1 := h.st 1 _ rfl
  have q6 := h.st 6 _ rfl
  have q7 := h.st 7 _ rfl
  simp only [Nat.zero_add] at q0 q1 q6 q7
  clear h
  rcases hs with rfl | rfl
  · go_enter Tryd.func28, Tryd.ntmps28
    go_wp2
    refine bodyPost_ret (v := .tuple #[.agg #[.int .i64 0, .int .u64 x], .int .i64 0]) ?h1 rfl ⟨rfl, ?h2⟩
    case h1 => simp [results, Tryd.results28, go_sem]
    case h2 => exact (((Below.refl _ _).alloc (Nat.le_refl _) _).alloc (by simp) _).alloc (by simp; omega) _
  · go_enter Tryd.func28, Tryd.ntmps28
    go_wp2
    refine bodyPost_ret (v := .tuple #[.agg #[.int .i64 3, .int .u64 x], .int .i64 0]) ?h1 rfl ⟨rfl, ?h2⟩
    case h1 => simp [results, Tryd.results28, go_sem]
    case h2 => exact (((Below.refl _ _).alloc (Nat.le_refl _) _).alloc (by simp) _).alloc (by simp; omega) _

/-- a lock with its memory and the tables -/
structure LX (w : World) (k b g : Nat) (zs : List Int) (t : Int) (n : Nat) (S T : Nat → Int) : Prop where
  lk : LK w k b t n S T
  mm : MM w b g zs
  tb : TB w
  t0 : 0 ≤ t
  t8 : t % 8 = 0
  t16 : t + 16 ≤ zs.length
  k1 : 1 < k
  g1 : 1 < g
theorem LX.small {w : World} {k b g : Nat} {zs : List Int} {t : Int} {n : Nat} {S T : Nat → Int} (h : LX w k b g zs t n S T) : t + 16 ≤ 16777216 := by
  have := h.t16
  have := h.mm.len
  omega
theorem cell3 {w : World} {k o : Nat} {v : Value} (hl : k < w.heap.size) (h : w.cell? ⟨k, o, none⟩ = some v) (o1 o2 o3 : Obj) : (((w.alloc o1).alloc o2).alloc o3).cell? ⟨k, o, none⟩ = some v := by
  have hb : Below w.heap.size w (((w.alloc o1).alloc o2).alloc o3) := (((Below.refl _ _).alloc (Nat.le_refl _) _).alloc (by simp) _).alloc (by simp; omega) _
  exact ((bcell hb).1 k o hl).trans h
/-- the three blocks of a step's own, in a later world -/
structure Tp (w0 w : World) (s x r0 r1 d0 d1 : Int) : Prop where
  kt : w.heap[w0.heap.size]? = some (.cells #[.int .i64 s, .int .u64 x] 62 (0, 0))
  kr : w.heap[w0.heap.size + 1]? = some (.cells #[.int .i64 r0, .int .u64 r1] 62 (0, 0))
  kd : w.heap[w0.heap.size + 1 + 1]? = some (.cells #[.int .u64 d0, .int .i64 d1] 87 (0, 0))
theorem Tp.cells {w0 w : World} {s x r0 r1 d0 d1 : Int} (h : Tp w0 w s x r0 r1 d0 d1) :
    w.cell? ⟨w0.heap.size, 0, none⟩ = some (.int .i64 s) ∧ w.cell? ⟨w0.heap.size, 1, none⟩ = some (.int .u64 x) ∧ w.cell? ⟨w0.heap.size + 1, 0, none⟩ = some (.int .i64 r0) ∧ w.cell? ⟨w0.heap.size + 1, 1, none⟩ = some (.int .u64 r1) ∧
    w.cell? ⟨w0.heap.size + 1 + 1, 0, none⟩ = some (.int .u64 d0) ∧ w.cell? ⟨w0.heap.size + 1 + 1, 1, none⟩ = some (.int .i64 d1) ∧ w.frozen? ⟨w0.heap.size, 0, none⟩ = false ∧ w.frozen? ⟨w0.heap.size, 1, none⟩ = false ∧ w.frozen? ⟨w0.heap.size + 1, 0, none⟩ = false ∧ w.frozen? ⟨w0.heap.size + 1, 1, none⟩ = false ∧
    w0.heap.size < w.heap.size ∧ w0.heap.size + 1 < w.heap.size ∧ w0.heap.size + 1 + 1 < w.heap.size :=
  ⟨by rw [cell_at h.kt]; rfl, by rw [cell_at h.kt]; rfl, by rw [cell_at h.kr]; rfl, by rw [cell_at h.kr]; rfl, by rw [cell_at h.kd]; rfl, by rw [cell_at h.kd]; rfl, frozen_at h.kt _, frozen_at h.kt _, frozen_at h.kr _, frozen_at h.kr _, lt_of_heap h.kt, lt_of_heap h.kr, lt_of_heap h.kd⟩
theorem Tp.made (w : World) (s x r0 r1 d0 d1 : Int) (n : Nat) : Tp w ((((w.alloc (.cells #[.int .i64 s, .int .u64 x] 62)).alloc (.cells #[.int .i64 r0, .int .u64 r1] 62)).alloc (.cells #[.int .u64 d0, .int .i64 d1] 87)).drewN n) s x r0 r1 d0 d1 ∧
    Below w.heap.size w ((((w.alloc (.cells #[.int .i64 s, .int .u64 x] 62)).alloc (.cells #[.int .i64 r0, .int .u64 r1] 62)).alloc (.cells #[.int .u64 d0, .int .i64 d1] 87)).drewN n) := by
  have e1 := heap_alloc_at w (.cells #[.int .i64 s, .int .u64 x] 62)
  have e2 := heap_alloc_at (w.alloc (.cells #[.int .i64 s, .int .u64 x] 62)) (.cells #[.int .i64 r0, .int .u64 r1] 62)
  have e3 := heap_alloc_at ((w.alloc (.cells #[.int .i64 s, .int .u64 x] 62)).alloc (.cells #[.int .i64 r0, .int .u64 r1] 62)) (.cells #[.int .u64 d0, .int .i64 d1] 87)
  simp only [World.size_alloc] at e2 e3
  refine ⟨⟨?_, ?_, e3⟩, ?_⟩
  · exact (heap_alloc_past _ _ (by simp; omega)).trans ((heap_alloc_past _ _ (by simp)).trans e1)
  · exact (heap_alloc_past _ _ (by simp)).trans e2
  · have hb := (((Below.refl w.heap.size w).alloc (Nat.le_refl _) (.cells #[.int .i64 s, .int .u64 x] 62)).alloc (by simp) (.cells #[.int .i64 r0, .int .u64 r1] 62)).alloc (by simp; omega) (.cells #[.int .u64 d0, .int .i64 d1] 87)
    exact ⟨hb.os, hb.tape, hb.output, hb.size, hb.block⟩
theorem Tp.below {w0 w w' : World} {s x r0 r1 d0 d1 : Int} (h : Tp w0 w s x r0 r1 d0 d1) (hb : Below w.heap.size w w') : Tp w0 w' s x r0 r1 d0 d1 :=
  ⟨(hb.block _ (lt_of_heap h.kt)).trans h.kt, (hb.block _ (lt_of_heap h.kr)).trans h.kr, (hb.block _ (lt_of_heap h.kd)).trans h.kd⟩
theorem Tp.grown {w0 w w' : World} {s x r0 r1 d0 d1 : Int} (h : Tp w0 w s x r0 r1 d0 d1) {g : Nat} (hb : w.grownBy w' (some g)) (hg : g < w0.heap.size) : Tp w0 w' s x r0 r1 d0 d1 :=
  ⟨(hb.block _ (lt_of_heap h.kt) (by simp; omega)).trans h.kt, (hb.block _ (lt_of_heap h.kr) (by simp; omega)).trans h.kr, (hb.block _ (lt_of_heap h.kd) (by simp; omega)).trans h.kd⟩
theorem heap_setCell {w : World} {b : Nat} {cs : Array Value} {t : TypeId} (h : w.heap[b]? = some (.cells cs t (0, 0))) (o : Nat) (v : Value) : (w.setCell ⟨b, o, none⟩ v).heap[b]? = some (.cells (cs.setIfInBounds o v) t (0, 0)) := by
  rw [setCell_eq_setRow w b o cs t (0, 0) v h]
  exact setRow_heap w b cs _ t _ h
theorem grown_setCell {w : World} {b : Nat} {cs : Array Value} {t : TypeId} (h : w.heap[b]? = some (.cells cs t (0, 0))) (o : Nat) (v : Value) : w.grownBy (w.setCell ⟨b, o, none⟩ v) (some b) := by
  rw [setCell_eq_setRow w b o cs t (0, 0) v h]
  exact ⟨rfl, rfl, rfl, by simp [World.setRow], fun k hk hne => setRow_other w b k _ (fun e => hne (by rw [e]))⟩
/-- its ticket is written -/
theorem Tp.ticket {w0 w : World} {s x r0 r1 d0 d1 : Int} (h : Tp w0 w s x r0 r1 d0 d1) (y : Int) : Tp w0 (w.setCell ⟨w0.heap.size, 1, none⟩ (.int .u64 y)) s y r0 r1 d0 d1 := by
  have hg := grown_setCell h.kt 1 (.int .u64 y)
  exact ⟨heap_setCell h.kt 1 _, (hg.block _ (lt_of_heap h.kr) (by simp)).trans h.kr, (hg.block _ (lt_of_heap h.kd) (by simp; omega)).trans h.kd⟩
theorem below_setCell {w0 w : World} {b : Nat} {cs : Array Value} {t : TypeId} (hb : Below w0.heap.size w0 w) (h : w.heap[b]? = some (.cells cs t (0, 0))) (hl : w0.heap.size ≤ b) (o : Nat) (v : Value) : Below w0.heap.size w0 (w.setCell ⟨b, o, none⟩ v) :=
  hb.grown (grown_setCell h o v) hb.size (by intro k e; cases e; exact hl)
/-- the result is written -/
theorem Tp.done {w0 w : World} {s x r0 r1 d0 d1 : Int} (h : Tp w0 w s x r0 r1 d0 d1) (y z : Int) (W : World) (hW : W = (w.setCell ⟨w0.heap.size + 1, 0, none⟩ (.int .i64 y)).setCell ⟨w0.heap.size + 1, 1, none⟩ (.int .u64 z)) :
    W.cell? ⟨w0.heap.size + 1, 0, none⟩ = some (.int .i64 y) ∧ W.cell? ⟨w0.heap.size + 1, 1, none⟩ = some (.int .u64 z) ∧ w.grownBy W (some (w0.heap.size + 1)) := by
  subst hW
  have k1 := heap_setCell h.kr 0 (.int .i64 y)
  have k2 := heap_setCell k1 1 (.int .u64 z)
  exact ⟨by rw [cell_at k2]; rfl, by rw [cell_at k2]; rfl, grown_trans (grown_setCell h.kr 0 _) (grown_setCell k1 1 _)⟩
/-- the state is written -/
theorem Tp.state {w0 w : World} {s x r0 r1 d0 d1 : Int} (h : Tp w0 w s x r0 r1 d0 d1) (y : Int) : Tp w0 (w.setCell ⟨w0.heap.size, 0, none⟩ (.int .i64 y)) y x r0 r1 d0 d1 := by
  have hg := grown_setCell h.kt 0 (.int .i64 y)
  exact ⟨heap_setCell h.kt 0 _, (hg.block _ (lt_of_heap h.kr) (by simp)).trans h.kr, (hg.block _ (lt_of_heap h.kd) (by simp; omega)).trans h.kd⟩
theorem trn_off {w w' : World} {B j : Nat} (h : w.grownBy w' (some j)) (hj : B ≤ j) (hB : B ≤ w.heap.size) : Below B w w' :=
  ⟨h.os, h.tape, h.output, h.size, fun k hk => h.block k (by omega) (by simp; omega)⟩
theorem grown_then {w0 w w' : World} {g : Nat} (h : w0.grownBy w (some g)) (hb : Below w0.heap.size w w') : w0.grownBy w' (some g) :=
  ⟨hb.os.trans h.os, hb.tape.trans h.tape, hb.output.trans h.output, Nat.le_trans h.size hb.size, fun i hi hr => (hb.block i hi).trans (h.block i hi hr)⟩
theorem MM.off {w w' : World} {b g B : Nat} {zs : List Int} (h : MM w b g zs) (hk : Below B w w') (hb : b < B) (hg : g < B) : MM w' b g zs :=
  ⟨(hk.block b hb).trans h.cell, (hk.block g hg).trans h.row, h.ne, h.bytes, h.pos, h.len⟩
theorem step_wants (k b g : Nat) (zs : List Int) (t : Int) (n : Nat) (S T : Nat → Int) (x : Int) (w : World) (h : LX w k b g zs t n S T) : Calls Tryd.prog 28 #[.pointer (some ⟨k, 0, none⟩), .agg #[.int .i64 1, .int .u64 x]] w fun e w' => e = .returned (.tuple #[.agg #[.int .i64 2, .int .u64 (loadV zs t 8)], .int .i64 0]) ∧ MM w' b g (storeV zs t 8 (inc (loadV zs t 8))) ∧ w.grownBy w' (some g) := by
  have hp : 0 < w.heap.size := by have := h.tb.pos; omega
  have q0 := h.tb.st 2 _ rfl
  have q1 := h.tb.st 3 _ rfl
  simp only [Nat.zero_add] at q0 q1
  have c0 := h.lk.c0
  have c1 := h.lk.c1
  have hl := h.lk.lt
  have d1 := cell3 hl c1
  have d0 := cell3 hl c0
  have ts := h.small
  have t0 := h.t0
  have HX : Hid (LX w k b g zs t n S T) := h
  obtain ⟨A, HA⟩ : ∃ A, Hid (loadV zs t 8 = A) := ⟨_, rfl⟩
  have hAU : U A := HA.out ▸ load_U zs h.mm.bytes t
  rw [HA.out]
  clear h
  go_enter Tryd.func28, Tryd.ntmps28
  go_wp2
  go_quiet (fail)
  go_wp2_with fail
  obtain ⟨hT, hB⟩ := Tp.made w 1 x 0 0 0 2 nq
  generalize (((w.alloc (Obj.cells #[.int .i64 1, .int .u64 x] 62)).alloc (Obj.cells #[.int .i64 0, .int .u64 0] 62)).alloc (Obj.cells #[.int .u64 0, .int .i64 2] 87)).drewN nq = w3 at *
  clear d1 d0
  have C := mload_mm b g zs t 8 w3 (HX.out.tb.below hB).sz (HX.out.mm.below hB) t0 (by omega) (by omega)
  rw [num_ok _ _ HX.out.t8 (by have := HX.out.t16; omega)] at C
  rw [HA.out] at C
  refine C.mono ?_
  rintro e w4 ⟨rfl, hb4⟩
  have hB4 := hB.trans (hb4.mono hB.size)
  have hT4 := hT.below hb4
  obtain ⟨a0, a1, a2, a3, a4, a5, f0, f1, f2, f3, l0, l1, l2⟩ := hT4.cells
  have c0' := ((bcell hB4).1 k 0 hl).trans c0
  have hl4 : k < w4.heap.size := by have := hB4.size; omega
  have hkB : ¬ k = w.heap.size := by omega
  have hT5 : Hid (Tp w (w4.setCell ⟨w.heap.size, 1, none⟩ (.int .u64 A)) 1 A 0 0 0 2) := hT4.ticket A
  have hB5 : Hid (Below w.heap.size w (w4.setCell ⟨w.heap.size, 1, none⟩ (.int .u64 A))) := below_setCell hB4 hT4.kt (Nat.le_refl _) _ _
  clear C hb4 hB hT hB4 hT4 q0 q1 c0 c1 hp
  go_wp2_with fail
  have D := mstore_mm b g zs t 8 (inc A) _ (HX.out.tb.below hB5.out).sz (HX.out.mm.below hB5.out) t0 (by omega) (by omega) (inc_U A).1 (inc_U A).2
  rw [num_ok _ _ HX.out.t8 (by have := HX.out.t16; omega)] at D
  refine D.mono ?_
  rintro e w5 ⟨rfl, hm5, hg5⟩
  have hT6 := hT5.out.grown hg5 HX.out.mm.glt
  have HM : Hid (MM w5 b g (storeV zs t 8 (inc A))) := hm5
  have HG : Hid (w.grownBy w5 (some g)) := grown_trans (grown_some hB5.out _) hg5
  have HT : Hid (_) := hT6
  clear D hm5 hg5 a0 a1 a2 a3 a4 a5 f0 f1 f2 f3 l0 l1 l2 hT5 hB5
  obtain ⟨a0, a1, a2, a3, a4, a5, f0, f1, f2, f3, l0, l1, l2⟩ := hT6.cells
  clear hT6
  go_wp2_with fail
  have hS := HT.out.state 2
  have bS : Below w.heap.size w5 (w5.setCell ⟨w.heap.size, 0, none⟩ (.int .i64 2)) := trn_off (grown_setCell HT.out.kt _ _) (Nat.le_refl _) HG.out.size
  obtain ⟨W, hW⟩ : ∃ W, W = ((w5.setCell ⟨w.heap.size, 0, none⟩ (.int .i64 2)).setCell ⟨w.heap.size + 1, 0, none⟩ (.int .i64 2)).setCell ⟨w.heap.size + 1, 1, none⟩ (.int .u64 A) := ⟨_, rfl⟩
  obtain ⟨z0, z1, hgW⟩ := hS.done 2 A W hW
  have bW : Below w.heap.size w5 W := bS.trans (trn_off hgW (by omega) (by have := HG.out.size; have := bS.size; omega))
  rw [← hW]
  refine bodyPost_ret (v := .tuple #[.agg #[.int .i64 2, .int .u64 A], .int .i64 0]) ?h1 rfl ⟨rfl, HM.out.off bW HX.out.mm.blt HX.out.mm.glt, grown_then HG.out bW⟩
  case h1 => simp [results, Tryd.results28, go_sem, z0, z1]
theorem step_gives (k b g : Nat) (zs : List Int) (t : Int) (n : Nat) (S T : Nat → Int) (x : Int) (w : World) (h : LX w k b g zs t n S T) : Calls Tryd.prog 28 #[.pointer (some ⟨k, 0, none⟩), .agg #[.int .i64 4, .int .u64 x]] w fun e w' => e = .returned (.tuple #[.agg #[.int .i64 0, .int .u64 x], .int .i64 0]) ∧ MM w' b g (storeV zs (t + 8) 8 (inc (loadV zs (t + 8) 8))) ∧ w.grownBy w' (some g) := by
  have hp : 0 < w.heap.size := by have := h.tb.pos; omega
  have q0 := h.tb.st 8 _ rfl
  have q1 := h.tb.st 9 _ rfl
  simp only [Nat.zero_add] at q0 q1
  have c0 := h.lk.c0
  have c1 := h.lk.c1
  have hl := h.lk.lt
  have d1 := cell3 hl c1
  have d0 := cell3 hl c0
  have ts := h.small
  have t0 := h.t0
  have HX : Hid (LX w k b g zs t n S T) := h
  obtain ⟨A, HA⟩ : ∃ A, Hid (loadV zs (t + 8) 8 = A) := ⟨_, rfl⟩
  have hAU : U A := HA.out ▸ load_U zs h.mm.bytes (t + 8)
  rw [HA.out]
  clear h
  go_enter Tryd.func28, Tryd.ntmps28
  go_wp2
  go_quiet (fail)
  go_wp2_with fail
  obtain ⟨hT, hB⟩ := Tp.made w 4 x 0 0 8 0 nq
  generalize (((w.alloc (Obj.cells #[.int .i64 4, .int .u64 x] 62)).alloc (Obj.cells #[.int .i64 0, .int .u64 0] 62)).alloc (Obj.cells #[.int .u64 8, .int .i64 0] 87)).drewN nq = w3 at *
  clear d1 d0
  have C := mload_mm b g zs (t + 8) 8 w3 (HX.out.tb.below hB).sz (HX.out.mm.below hB) (by omega) (by omega) (by omega)
  rw [num_ok _ _ (by have := HX.out.t8; omega) (by have := HX.out.t16; omega)] at C
  rw [HA.out] at C
  refine C.mono ?_
  rintro e w4 ⟨rfl, hb4⟩
  have hB4 := hB.trans (hb4.mono hB.size)
  have hT4 := hT.below hb4
  obtain ⟨a0, a1, a2, a3, a4, a5, f0, f1, f2, f3, l0, l1, l2⟩ := hT4.cells
  have c0' := ((bcell hB4).1 k 0 hl).trans c0
  have hl4 : k < w4.heap.size := by have := hB4.size; omega
  have hkB : ¬ k = w.heap.size := by omega
  have hT5 : Hid (Tp w w4 4 x 0 0 8 0) := hT4
  have hB5 : Hid (Below w.heap.size w w4) := hB4
  clear C hb4 hB hT hB4 hT4 q0 q1 c0 c1 hp
  go_wp2_with fail
  have D := mstore_mm b g zs (t + 8) 8 (inc A) _ (HX.out.tb.below hB5.out).sz (HX.out.mm.below hB5.out) (by omega) (by omega) (by omega) (inc_U A).1 (inc_U A).2
  rw [num_ok _ _ (by have := HX.out.t8; omega) (by have := HX.out.t16; omega)] at D
  refine D.mono ?_
  rintro e w5 ⟨rfl, hm5, hg5⟩
  have hT6 := hT5.out.grown hg5 HX.out.mm.glt
  have HM : Hid (MM w5 b g (storeV zs (t + 8) 8 (inc A))) := hm5
  have HG : Hid (w.grownBy w5 (some g)) := grown_trans (grown_some hB5.out _) hg5
  have HT : Hid (_) := hT6
  clear D hm5 hg5 a0 a1 a2 a3 a4 a5 f0 f1 f2 f3 l0 l1 l2 hT5 hB5
  obtain ⟨a0, a1, a2, a3, a4, a5, f0, f1, f2, f3, l0, l1, l2⟩ := hT6.cells
  clear hT6
  go_wp2_with fail
  have hS := HT.out.state 0
  have bS : Below w.heap.size w5 (w5.setCell ⟨w.heap.size, 0, none⟩ (.int .i64 0)) := trn_off (grown_setCell HT.out.kt _ _) (Nat.le_refl _) HG.out.size
  obtain ⟨W, hW⟩ : ∃ W, W = ((w5.setCell ⟨w.heap.size, 0, none⟩ (.int .i64 0)).setCell ⟨w.heap.size + 1, 0, none⟩ (.int .i64 0)).setCell ⟨w.heap.size + 1, 1, none⟩ (.int .u64 x) := ⟨_, rfl⟩
  obtain ⟨z0, z1, hgW⟩ := hS.done 0 x W hW
  have bW : Below w.heap.size w5 W := bS.trans (trn_off hgW (by omega) (by have := HG.out.size; have := bS.size; omega))
  rw [← hW]
  refine bodyPost_ret (v := .tuple #[.agg #[.int .i64 0, .int .u64 x], .int .i64 0]) ?h1 rfl ⟨rfl, HM.out.off bW HX.out.mm.blt HX.out.mm.glt, grown_then HG.out bW⟩
  case h1 => simp [results, Tryd.results28, go_sem, z0, z1]
theorem step_spins (k b g : Nat) (zs : List Int) (t : Int) (n : Nat) (S T : Nat → Int) (x : Int) (w : World) (h : LX w k b g zs t n S T) : Calls Tryd.prog 28 #[.pointer (some ⟨k, 0, none⟩), .agg #[.int .i64 2, .int .u64 x]] w fun e w' => e = .returned (.tuple #[.agg #[.int .i64 (if loadV zs (t + 8) 8 = x then 3 else 2), .int .u64 x], .int .i64 0]) ∧ Below w.heap.size w w' := by
  have hp : 0 < w.heap.size := by have := h.tb.pos; omega
  have q0 := h.tb.st 4 _ rfl
  have q1 := h.tb.st 5 _ rfl
  simp only [Nat.zero_add] at q0 q1
  have c0 := h.lk.c0
  have c1 := h.lk.c1
  have hl := h.lk.lt
  have d1 := cell3 hl c1
  have d0 := cell3 hl c0
  have ts := h.small
  have t0 := h.t0
  have HX : Hid (LX w k b g zs t n S T) := h
  obtain ⟨A, HA⟩ : ∃ A, Hid (loadV zs (t + 8) 8 = A) := ⟨_, rfl⟩
  have hAU : U A := HA.out ▸ load_U zs h.mm.bytes (t + 8)
  rw [HA.out]
  clear h
  by_cases hAx : A = x
  · rw [if_pos hAx]
    subst hAx
    go_enter Tryd.func28, Tryd.ntmps28
    go_wp2
    go_quiet (fail)
    go_wp2_with fail
    obtain ⟨hT, hB⟩ := Tp.made w 2 A 0 0 8 3 nq
    generalize (((w.alloc (Obj.cells #[.int .i64 2, .int .u64 A] 62)).alloc (Obj.cells #[.int .i64 0, .int .u64 0] 62)).alloc (Obj.cells #[.int .u64 8, .int .i64 3] 87)).drewN nq = w3 at *
    clear d1 d0
    have C := mload_mm b g zs (t + 8) 8 w3 (HX.out.tb.below hB).sz (HX.out.mm.below hB) (by omega) (by omega) (by omega)
    rw [num_ok _ _ (by have := HX.out.t8; omega) (by have := HX.out.t16; omega)] at C
    rw [HA.out] at C
    refine C.mono ?_
    rintro e w4 ⟨rfl, hb4⟩
    have hB4 := hB.trans (hb4.mono hB.size)
    have hT4 := hT.below hb4
    obtain ⟨a0, a1, a2, a3, a4, a5, f0, f1, f2, f3, l0, l1, l2⟩ := hT4.cells
    have HT : Hid (_) := hT4
    have HB : Hid (Below w.heap.size w w4) := hB4
    clear C hb4 hB hT hB4 hT4 q0 q1 c0 c1 hp
    go_wp2_with fail
    have hS := HT.out.state 3
    have bS : Below w.heap.size w4 (w4.setCell ⟨w.heap.size, 0, none⟩ (.int .i64 3)) := trn_off (grown_setCell HT.out.kt _ _) (Nat.le_refl _) HB.out.size
    obtain ⟨W, hW⟩ : ∃ W, W = ((w4.setCell ⟨w.heap.size, 0, none⟩ (.int .i64 3)).setCell ⟨w.heap.size + 1, 0, none⟩ (.int .i64 3)).setCell ⟨w.heap.size + 1, 1, none⟩ (.int .u64 A) := ⟨_, rfl⟩
    obtain ⟨z0, z1, hgW⟩ := hS.done 3 A W hW
    have bW : Below w.heap.size w4 W := bS.trans (trn_off hgW (by omega) (by have := HB.out.size; have := bS.size; omega))
    rw [← hW]
    refine bodyPost_ret (v := .tuple #[.agg #[.int .i64 3, .int .u64 A], .int .i64 0]) ?h1 rfl ⟨rfl, HB.out.trans bW⟩
    case h1 => simp [results, Tryd.results28, go_sem, z0, z1]
  · rw [if_neg hAx]
    have hne : (A != x) = true := by simpa using hAx
    clear hAx
    go_enter Tryd.func28, Tryd.ntmps28
    go_wp2
    go_quiet (fail)
    go_wp2_with fail
    obtain ⟨hT, hB⟩ := Tp.made w 2 x 0 0 8 3 nq
    generalize (((w.alloc (Obj.cells #[.int .i64 2, .int .u64 x] 62)).alloc (Obj.cells #[.int .i64 0, .int .u64 0] 62)).alloc (Obj.cells #[.int .u64 8, .int .i64 3] 87)).drewN nq = w3 at *
    clear d1 d0
    have C := mload_mm b g zs (t + 8) 8 w3 (HX.out.tb.below hB).sz (HX.out.mm.below hB) (by omega) (by omega) (by omega)
    rw [num_ok _ _ (by have := HX.out.t8; omega) (by have := HX.out.t16; omega)] at C
    rw [HA.out] at C
    refine C.mono ?_
    rintro e w4 ⟨rfl, hb4⟩
    have hB4 := hB.trans (hb4.mono hB.size)
    have hT4 := hT.below hb4
    obtain ⟨a0, a1, a2, a3, a4, a5, f0, f1, f2, f3, l0, l1, l2⟩ := hT4.cells
    have HT : Hid (_) := hT4
    have HB : Hid (Below w.heap.size w w4) := hB4
    clear C hb4 hB hT hB4 hT4 q0 q1 c0 c1 hp
    go_wp2_with fail
    obtain ⟨W, hW⟩ : ∃ W, W = (w4.setCell ⟨w.heap.size + 1, 0, none⟩ (.int .i64 2)).setCell ⟨w.heap.size + 1, 1, none⟩ (.int .u64 x) := ⟨_, rfl⟩
    obtain ⟨z0, z1, hgW⟩ := HT.out.done 2 x W hW
    have bW : Below w.heap.size w4 W := trn_off hgW (by omega) HB.out.size
    rw [← hW]
    refine bodyPost_ret (v := .tuple #[.agg #[.int .i64 2, .int .u64 x], .int .i64 0]) ?h1 rfl ⟨rfl, HB.out.trans bW⟩
    case h1 => simp [results, Tryd.results28, go_sem, z0, z1]
end Go.Proofs.YtioanbdmkiphfaaDoor
