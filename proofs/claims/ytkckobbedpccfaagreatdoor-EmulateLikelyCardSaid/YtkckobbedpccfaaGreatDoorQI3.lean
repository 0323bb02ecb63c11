/-
  What the small functions of package insn and of the document's answer do: their contracts.
  The tables of what operations have: maps that functions fill, and what is looked up in them.
  The table by shapes, and what an operation has: its contract.
-/
import Derived.Test.YtkckobbedpccfaaGreatDoorQI2
import Derived.Test.YtkckobbedpccfaaGreatDoorQI1
namespace Go.Proofs.YtkckobbedpccfaaGreatDoor.I
open Go.RowKit
set_option linter.unusedVariables false
set_option maxRecDepth 100000

theorem ret_ib {k : IntKind} {a b : Int} {c d : Bool} (h : a = b) (g : c = d) : Ending.returned (.tuple #[.int k a, .bool c]) = .returned (.tuple #[.int k b, .bool d]) := by rw [h, g]

theorem shape_any (op : Int) (w : World) :
    Calls Tryz.prog 84 #[.int .i64 op] w fun e w' => e = .returned (.tuple #[.int .i64 (shapeN op), .bool (shapeB op)]) ∧ w' = w := by
  by_cases h : 1 ≤ op ∧ op ≤ 48
  · go_enter Tryz.func84, Tryz.ntmps84
    go_wp2
    all_goals
      go_ret2
      refine ⟨?_, rfl⟩
      first
        | (rename_i hx; obtain rfl := eq_of_beq hx; rfl)
        | (exfalso; simp only [beq_eq_false_iff_ne] at *; omega)
  · have hs := shape_none op (by omega)
    have hn : shapeN op = 0 := by unfold shapeN; rw [hs]; rfl
    have hb : shapeB op = false := by unfold shapeB; rw [hs]; rfl
    rw [hn, hb]
    clear hs hn hb
    go_enter Tryz.func84, Tryz.ntmps84
    go_wp2
    all_goals
      go_ret2
      refine ⟨?_, rfl⟩
      first
        | rfl
        | (exfalso; rename_i hx; obtain rfl := eq_of_beq hx; omega)

theorem isLong_any (op : Int) (w : World) :
    Calls Tryz.prog 61 #[.int .i64 op] w fun e w' => e = .returned (.bool (decide (shapeR op = 5))) ∧ w' = w := by
  go_enter Tryz.func61, Tryz.ntmps61
  go_wp2_with fail
  refine (shape_any _ _).mono ?_
  rintro e w1 ⟨rfl, rfl⟩
  go_wp2_with fail
  go_ret
  refine ⟨ret_bool ?_, rfl⟩
  unfold shapeN
  rw [Bool.eq_iff_iff]
  simp
  split <;> omega

theorem isRegister_any (v : Int) (b : Bool) (w : World) :
    Calls Tryz.prog 64 #[.int .i64 v, .bool b] w fun e w' => e = .returned (.bool (regP v b)) ∧ w' = w := by
  cases b
  all_goals
    go_enter Tryz.func64, Tryz.ntmps64
    go_wp2
    all_goals
      go_ret
      refine ⟨ret_bool ?_, rfl⟩
      unfold regP
      first
        | (simp_all; done)
        | (simp_all; omega)

theorem has_any (lo hi v : Int) (w : World) :
    Calls Tryz.prog 65 #[.agg #[.int .i64 lo, .int .i64 hi], .int .i64 v] w fun e w' => e = .returned (.bool (hasP lo hi v)) ∧ Below w.heap.size w w' := by
  go_enter Tryz.func65, Tryz.ntmps65
  go_wp2
  all_goals
    go_ret
    refine ⟨ret_bool ?_, (Below.refl _ _).alloc (Nat.le_refl _) _⟩
    unfold hasP
    first
      | (simp_all; done)
      | (simp_all; omega)

theorem rreg_any (v : Int) (w : World) :
    Calls Tryz.prog 27 #[.int .i64 v] w fun e w' => e = .returned (.bool (regR v)) ∧ w' = w := by
  go_enter Tryz.func27, Tryz.ntmps27
  go_wp2
  all_goals
    go_ret
    refine ⟨ret_bool ?_, rfl⟩
    unfold regR
    first
      | (simp_all; done)
      | (simp_all; omega)
end Go.Proofs.YtkckobbedpccfaaGreatDoor.I
namespace Go.Proofs.YtkckobbedpccfaaGreatDoor.I
open Go.RowKit Go.Maps
set_option linter.unusedVariables false
set_option maxRecDepth 100000
theorem u3 : Tryz.prog.underlying 3 = some (.int .i64) := by kernel_rfl
theorem u58 : Tryz.prog.underlying 176 = some (.map 3 142) := by kernel_rfl
theorem law3 : Keyed Tryz.prog 3 := int_keyed u3

/-- what instructions have, as it lies in the program -/
def fld (a b c : Bool) (lo hi : Int) : Value := .agg #[.bool a, .bool b, .bool c, .int .i64 lo, .int .i64 hi]
def shiftF : Value := fld true true false 0 63
def ctrlF : Value := fld true true false 0 4095
def opD : DataW Value := (((((((DataW.map [] : DataW Value).put (.int .i64 37) (.held (fld true true false 0 0))).put (.int .i64 18) (.held shiftF)).put (.int .i64 19) (.held shiftF)).put (.int .i64 20) (.held shiftF)).put (.int .i64 46) (.held ctrlF)).put (.int .i64 47) (.held ctrlF)).put (.int .i64 48) (.held ctrlF)

/-- the blocks that lie beside the map while it is filled -/
structure OpW (w w1 : World) : Prop where
  a0 : w1.cell? ⟨w.heap.size, 0, none⟩ = some (.bool true)
  a1 : w1.cell? ⟨w.heap.size, 1, none⟩ = some (.bool true)
  a2 : w1.cell? ⟨w.heap.size, 2, none⟩ = some (.bool false)
  a3 : w1.cell? ⟨w.heap.size, 3, none⟩ = some (.int .i64 0)
  a4 : w1.cell? ⟨w.heap.size, 4, none⟩ = some (.int .i64 63)
  b0 : w1.cell? ⟨w.heap.size + 1, 0, none⟩ = some (.bool true)
  b1 : w1.cell? ⟨w.heap.size + 1, 1, none⟩ = some (.bool true)
  b2 : w1.cell? ⟨w.heap.size + 1, 2, none⟩ = some (.bool false)
  b3 : w1.cell? ⟨w.heap.size + 1, 3, none⟩ = some (.int .i64 0)
  b4 : w1.cell? ⟨w.heap.size + 1, 4, none⟩ = some (.int .i64 4095)
  size : w.heap.size + 3 ≤ w1.heap.size
  below : Below w.heap.size w w1

theorem OpW.grown {w w1 w2 : World} (h : OpW w w1) (hg : w1.grownBy w2 (some (w.heap.size + 1 + 1))) : OpW w w2 := by
  have hs := h.size
  have e0 : w.heap.size < w1.heap.size := by omega
  have e1 : w.heap.size + 1 < w1.heap.size := by omega
  have n0 : w.heap.size ≠ w.heap.size + 1 + 1 := by omega
  have n1 : w.heap.size + 1 ≠ w.heap.size + 1 + 1 := by omega
  exact ⟨keep_cell hg h.a0 e0 n0, keep_cell hg h.a1 e0 n0, keep_cell hg h.a2 e0 n0, keep_cell hg h.a3 e0 n0, keep_cell hg h.a4 e0 n0,
    keep_cell hg h.b0 e1 n1, keep_cell hg h.b1 e1 n1, keep_cell hg h.b2 e1 n1, keep_cell hg h.b3 e1 n1, keep_cell hg h.b4 e1 n1,
    Nat.le_trans hs hg.size, h.below.grown hg h.below.size (fun j hj => by cases hj; omega)⟩

theorem OpW_start (w : World) : OpW w (((w.alloc (.cells #[.bool true, .bool true, .bool false, .int .i64 0, .int .i64 63] 142)).alloc (.cells #[.bool true, .bool true, .bool false, .int .i64 0, .int .i64 4095] 142)).alloc (.map #[] 0)) := by
  have hb : Below w.heap.size w (((w.alloc (.cells #[.bool true, .bool true, .bool false, .int .i64 0, .int .i64 63] 142)).alloc (.cells #[.bool true, .bool true, .bool false, .int .i64 0, .int .i64 4095] 142)).alloc (.map #[] 0)) :=
    (((Below.refl _ _).alloc (by simp) _).alloc (by simp) _).alloc (by simp; omega) _
  constructor
  case below => exact hb
  all_goals simp [go_sem]

theorem bcell {B : Nat} {W w1 : World} (hb : Below B W w1) : (∀ b o, b < B → w1.cell? ⟨b, o, none⟩ = W.cell? ⟨b, o, none⟩) ∧ (∀ b o, b < B → w1.frozen? ⟨b, o, none⟩ = W.frozen? ⟨b, o, none⟩) :=
  ⟨fun b o h => hb.cell (p := ⟨b, o, none⟩) h, fun b o h => hb.frozen (p := ⟨b, o, none⟩) h⟩

theorem ownsMap_new {w : World} {n : Nat} (h : w.heap.size = n) (P : Program) (k : TypeId) : (w.alloc (.map #[] 0)).ownsMap P k RV n 0 (.map []) := h ▸ World.ownsMap_made w P k RV

theorem opFields_any (w : World) :
    Calls Tryz.prog 86 #[] w fun e w' => ∃ b, e = .returned (.map (some b)) ∧ w'.ownsMap Tryz.prog 3 RV b 7 opD ∧ Below w.heap.size w w' := by
  have hmm := @run_makeMap Tryz.prog
  go_enter Tryz.func86, Tryz.ntmps86
  go_wp2_with (first
    | (refine wpList_insert_own _ rfl _ _ _ 176 rfl 3 142 law3 u58 _ _ _ rfl (by assumption) (by decide) _ _ _ rfl rfl (keyOf_int_mk u3 (by decide)) ?_; intro w1 hown1 hg1; have ho := OpW.grown (by assumption) hg1; have a0 := ho.a0; have a1 := ho.a1; have a2 := ho.a2; have a3 := ho.a3; have a4 := ho.a4; have b0 := ho.b0; have b1 := ho.b1; have b2 := ho.b2; have b3 := ho.b3; have b4 := ho.b4; clear hg1)
    | (refine wpList_insert_own _ rfl _ _ _ 176 rfl 3 142 law3 u58 _ _ _ rfl (ownsMap_new (by simp) _ _) (by decide) _ _ _ rfl rfl (keyOf_int_mk u3 (by decide)) ?_; intro w1 hown1 hg1; have ho := OpW.grown (OpW_start w) hg1; have a0 := ho.a0; have a1 := ho.a1; have a2 := ho.a2; have a3 := ho.a3; have a4 := ho.a4; have b0 := ho.b0; have b1 := ho.b1; have b2 := ho.b2; have b3 := ho.b3; have b4 := ho.b4; clear hg1)
    | fail)
  go_ret
  exact ⟨_, rfl, by assumption, OpW.below (by assumption)⟩

theorem span14 (w : World) :
    Calls Tryz.prog 129 #[.int .i64 14] w fun e w' => e = .returned (.agg #[.int .i64 (-8192), .int .i64 8191]) ∧ Below w.heap.size w w' := by
  go_enter Tryz.func129, Tryz.ntmps129
  go_wp2
  exact bodyPost_ret (v := .agg #[.int .i64 (-8192), .int .i64 8191]) (by simp [results, Tryz.results129, go_sem]) rfl ⟨rfl, (Below.refl _ _).alloc (Nat.le_refl _) _⟩
theorem span18 (w : World) :
    Calls Tryz.prog 129 #[.int .i64 18] w fun e w' => e = .returned (.agg #[.int .i64 (-131072), .int .i64 131071]) ∧ Below w.heap.size w w' := by
  go_enter Tryz.func129, Tryz.ntmps129
  go_wp2
  exact bodyPost_ret (v := .agg #[.int .i64 (-131072), .int .i64 131071]) (by simp [results, Tryz.results129, go_sem]) rfl ⟨rfl, (Below.refl _ _).alloc (Nat.le_refl _) _⟩
end Go.Proofs.YtkckobbedpccfaaGreatDoor.I
namespace Go.Proofs.YtkckobbedpccfaaGreatDoor.I
open Go.RowKit Go.Maps
set_option linter.unusedVariables false
set_option maxRecDepth 100000
theorem u63 : Tryz.prog.underlying 181 = some (.int .i64) := by kernel_rfl
theorem u61 : Tryz.prog.underlying 179 = some (.map 181 142) := by kernel_rfl
theorem law63 : Keyed Tryz.prog 181 := int_keyed u63

def shD : DataW Value := (((((((DataW.map [] : DataW Value).put (.int .i64 0) (.held (fld false false false 0 0))).put (.int .i64 1) (.held (fld true true true 0 0))).put (.int .i64 2) (.held (fld true true false (-8192) 8191))).put (.int .i64 3) (.held (fld false true true (-8192) 8191))).put (.int .i64 4) (.held (fld false true true (-8192) 8191))).put (.int .i64 5) (.held (fld true false false (-131072) 131071))).put (.int .i64 6) (.held (fld false true false 0 0))

/-- the blocks that lie beside the map while it is filled -/
structure ShW (w w1 : World) : Prop where
  a0 : w1.cell? ⟨w.heap.size, 0, none⟩ = some (.int .i64 (-8192))
  a1 : w1.cell? ⟨w.heap.size, 1, none⟩ = some (.int .i64 8191)
  b0 : w1.cell? ⟨w.heap.size + 1, 0, none⟩ = some (.int .i64 (-131072))
  b1 : w1.cell? ⟨w.heap.size + 1, 1, none⟩ = some (.int .i64 131071)
  size : w.heap.size + 3 ≤ w1.heap.size
  below : Below w.heap.size w w1

theorem ShW.grown {w w1 w2 : World} (h : ShW w w1) (hg : w1.grownBy w2 (some (w.heap.size + 1 + 1))) : ShW w w2 := by
  have hs := h.size
  have e0 : w.heap.size < w1.heap.size := by omega
  have e1 : w.heap.size + 1 < w1.heap.size := by omega
  have n0 : w.heap.size ≠ w.heap.size + 1 + 1 := by omega
  have n1 : w.heap.size + 1 ≠ w.heap.size + 1 + 1 := by omega
  exact ⟨keep_cell hg h.a0 e0 n0, keep_cell hg h.a1 e0 n0, keep_cell hg h.b0 e1 n1, keep_cell hg h.b1 e1 n1,
    Nat.le_trans hs hg.size, h.below.grown hg h.below.size (fun j hj => by cases hj; omega)⟩

theorem ShW_start (w : World) : ShW w (((w.alloc (.cells #[.int .i64 (-8192), .int .i64 8191] 140)).alloc (.cells #[.int .i64 (-131072), .int .i64 131071] 140)).alloc (.map #[] 0)) := by
  have hb : Below w.heap.size w (((w.alloc (.cells #[.int .i64 (-8192), .int .i64 8191] 140)).alloc (.cells #[.int .i64 (-131072), .int .i64 131071] 140)).alloc (.map #[] 0)) :=
    (((Below.refl _ _).alloc (by simp) _).alloc (by simp) _).alloc (by simp; omega) _
  constructor
  case below => exact hb
  all_goals simp [go_sem]

theorem shFields_any (w : World) :
    Calls Tryz.prog 87 #[] w fun e w' => ∃ b, e = .returned (.map (some b)) ∧ w'.ownsMap Tryz.prog 181 RV b 7 shD ∧ Below w.heap.size w w' := by
  have hmm := @run_makeMap Tryz.prog
  go_enter Tryz.func87, Tryz.ntmps87
  go_wp2_with fail
  refine (span14 _).mono ?_
  rintro e w1 ⟨rfl, hb1⟩
  go_wp2_with fail
  refine (span18 _).mono ?_
  rintro e w2 ⟨rfl, hb2⟩
  have hb : Below w.heap.size w w2 := hb1.trans (hb2.mono hb1.size)
  clear hb1 hb2
  go_wp2_with (first
    | (refine wpList_insert_own _ rfl _ _ _ 179 rfl 181 142 law63 u61 _ _ _ rfl (by assumption) (by decide) _ _ _ rfl rfl (keyOf_int_mk u63 (by decide)) ?_; intro w3 hown1 hg1; have ho := ShW.grown (by assumption) hg1; have a0 := ho.a0; have a1 := ho.a1; have b0 := ho.b0; have b1 := ho.b1; clear hg1)
    | (refine wpList_insert_own _ rfl _ _ _ 179 rfl 181 142 law63 u61 _ _ _ rfl (ownsMap_new (by simp) _ _) (by decide) _ _ _ rfl rfl (keyOf_int_mk u63 (by decide)) ?_; intro w3 hown1 hg1; have ho := ShW.grown (ShW_start w2) hg1; have a0 := ho.a0; have a1 := ho.a1; have b0 := ho.b0; have b1 := ho.b1; clear hg1)
    | fail)
  go_ret
  exact ⟨_, rfl, by assumption, hb.trans ((ShW.below (by assumption)).mono hb.size)⟩
end Go.Proofs.YtkckobbedpccfaaGreatDoor.I
