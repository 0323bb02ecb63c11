/-
  The tables of what operations have: maps that functions fill, and what is looked up in them.
-/
import Derived.Test.YtkckobbedpccfaaDoorIMapLaw
import Derived.Test.YtkckobbedpccfaaDoorIWalks6
namespace Go.Proofs.YtkckobbedpccfaaDoor.I
open Go.RowKit Go.Maps
set_option linter.unusedVariables false
set_option maxRecDepth 100000
theorem u3 : Tryd.prog.underlying 3 = some (.int .i64) := by kernel_rfl
theorem u58 : Tryd.prog.underlying 89 = some (.map 3 77) := by kernel_rfl
theorem law3 : Keyed Tryd.prog 3 := int_keyed u3

/-- what instructions have, as it lies in the program -/
def fld (a b c : Bool) (lo hi : Int) : Value := .agg #[.bool a, .bool b, .bool c, .int .i64 lo, .int .i64 hi]
def shiftF : Value := fld true true false 0 63
def ctrlF : Value := fld true true false 0 4095
def opD : DataW Value := (((((((DataW.map [] : DataW Value).put (.int .i64 37) (.held (fld true true false 0 0))).put (.int .i64 18) (.held shiftF)).put (.int .i64 19) (.held shiftF)).put (.int .i64 20) (.held shiftF)).put (.int .i64 46) (.held ctrlF)).put (.int .i64 47) (.held ctrlF)).put (.int .i64 48) (.held ctrlF)

/-- the blocks that lie beside the map while it is filled -/
structure OpW (w w1 : World) : Prop where
  a0 : w1.cell? ⟨w.heap.size, 0, none⟩ = some (.bool true)
  a1 : w1.cell? ⟨w.heap.size, 1, none⟩ = some (.bool true)
  a2 : w1.cell? ⟨w.heap.size, 2, none⟩ = some (.bool false)
  a3 : w1.cell? ⟨w.heap.size, 3, none⟩ = some (.int .i64 0)
  a4 : w1.cell? ⟨w.heap.size, 4, none⟩ = some (.int .i64 63)
  b0 : w1.cell? ⟨w.heap.size + 1, 0, none⟩ = some (.bool true)
  b1 : w1.cell? ⟨w.heap.size + 1, 1, none⟩ = some (.bool true)
  b2 : w1.cell? ⟨w.heap.size + 1, 2, none⟩ = some (.bool false)
  b3 : w1.cell? ⟨w.heap.size + 1, 3, none⟩ = some (.int .i64 0)
  b4 : w1.cell? ⟨w.heap.size + 1, 4, none⟩ = some (.int .i64 4095)
  size : w.heap.size + 3 ≤ w1.heap.size
  below : Below w.heap.size w w1

theorem OpW.grown {w w1 w2 : World} (h : OpW w w1) (hg : w1.grownBy w2 (some (w.heap.size + 1 + 1))) : OpW w w2 := by
  have hs := h.size
  have e0 : w.heap.size < w1.heap.size := by omega
  have e1 : w.heap.size + 1 < w1.heap.size := by omega
  have n0 : w.heap.size ≠ w.heap.size + 1 + 1 := by omega
  have n1 : w.heap.size + 1 ≠ w.heap.size + 1 + 1 := by omega
  exact ⟨keep_cell hg h.a0 e0 n0, keep_cell hg h.a1 e0 n0, keep_cell hg h.a2 e0 n0, keep_cell hg h.a3 e0 n0, keep_cell hg h.a4 e0 n0,
    keep_cell hg h.b0 e1 n1, keep_cell hg h.b1 e1 n1, keep_cell hg h.b2 e1 n1, keep_cell hg h.b3 e1 n1, keep_cell hg h.b4 e1 n1,
    Nat.le_trans hs hg.size, h.below.grown hg h.below.size (fun j hj => by cases hj; omega)⟩

theorem OpW_start (w : World) : OpW w (((w.alloc (.cells #[.bool true, .bool true, .bool false, .int .i64 0, .int .i64 63] 77)).alloc (.cells #[.bool true, .bool true, .bool false, .int .i64 0, .int .i64 4095] 77)).alloc (.map #[] 0)) := by
  have hb : Below w.heap.size w (((w.alloc (.cells #[.bool true, .bool true, .bool false, .int .i64 0, .int .i64 63] 77)).alloc (.cells #[.bool true, .bool true, .bool false, .int .i64 0, .int .i64 4095] 77)).alloc (.map #[] 0)) :=
    (((Below.refl _ _).alloc (by simp) _).alloc (by simp) _).alloc (by simp; omega) _
  constructor
  case below => exact hb
  all_goals simp [go_sem]

theorem bcell {B : Nat} {W w1 : World} (hb : Below B W w1) : (∀ b o, b < B → w1.cell? ⟨b, o, none⟩ = W.cell? ⟨b, o, none⟩) ∧ (∀ b o, b < B → w1.frozen? ⟨b, o, none⟩ = W.frozen? ⟨b, o, none⟩) :=
  ⟨fun b o h => hb.cell (p := ⟨b, o, none⟩) h, fun b o h => hb.frozen (p := ⟨b, o, none⟩) h⟩

theorem ownsMap_new {w : World} {n : Nat} (h : w.heap.size = n) (P : Program) (k : TypeId) : (w.alloc (.map #[] 0)).ownsMap P k RV n 0 (.map []) := h ▸ World.ownsMap_made w P k RV

theorem opFields_any (w : World) :
    Calls Tryd.prog 46 #[] w fun e w' => ∃ b, e = .returned (.map (some b)) ∧ w'.ownsMap Tryd.prog 3 RV b 7 opD ∧ Below w.heap.size w w' := by
  have hmm := @run_makeMap Tryd.prog
  go_enter Tryd.func46, Tryd.ntmps46
  go_wp2_with (first
    | (refine wpList_insert_own _ rfl _ _ _ 89 rfl 3 77 law3 u58 _ _ _ rfl (by assumption) (by decide) _ _ _ rfl rfl (keyOf_int_mk u3 (by decide)) ?_; intro w1 hown1 hg1; have ho := OpW.grown (by assumption) hg1; have a0 := ho.a0; have a1 := ho.a1; have a2 := ho.a2; have a3 := ho.a3; have a4 := ho.a4; have b0 := ho.b0; have b1 := ho.b1; have b2 := ho.b2; have b3 := ho.b3; have b4 := ho.b4; clear hg1)
    | (refine wpList_insert_own _ rfl _ _ _ 89 rfl 3 77 law3 u58 _ _ _ rfl (ownsMap_new (by simp) _ _) (by decide) _ _ _ rfl rfl (keyOf_int_mk u3 (by decide)) ?_; intro w1 hown1 hg1; have ho := OpW.grown (OpW_start w) hg1; have a0 := ho.a0; have a1 := ho.a1; have a2 := ho.a2; have a3 := ho.a3; have a4 := ho.a4; have b0 := ho.b0; have b1 := ho.b1; have b2 := ho.b2; have b3 := ho.b3; have b4 := ho.b4; clear hg1)
    | fail)
  go_ret
  exact ⟨_, rfl, by assumption, OpW.below (by assumption)⟩

theorem span14 (w : World) :
    Calls Tryd.prog 48 #[.int .i64 14] w fun e w' => e = .returned (.agg #[.int .i64 (-8192), .int .i64 8191]) ∧ Below w.heap.size w w' := by
  go_enter Tryd.func48, Tryd.ntmps48
  go_wp2
  exact bodyPost_ret (v := .agg #[.int .i64 (-8192), .int .i64 8191]) (by simp [results, Tryd.results48, go_sem]) rfl ⟨rfl, (Below.refl _ _).alloc (Nat.le_refl _) _⟩
theorem span18 (w : World) :
    Calls Tryd.prog 48 #[.int .i64 18] w fun e w' => e = .returned (.agg #[.int .i64 (-131072), .int .i64 131071]) ∧ Below w.heap.size w w' := by
  go_enter Tryd.func48, Tryd.ntmps48
  go_wp2
  exact bodyPost_ret (v := .agg #[.int .i64 (-131072), .int .i64 131071]) (by simp [results, Tryd.results48, go_sem]) rfl ⟨rfl, (Below.refl _ _).alloc (Nat.le_refl _) _⟩
end Go.Proofs.YtkckobbedpccfaaDoor.I
