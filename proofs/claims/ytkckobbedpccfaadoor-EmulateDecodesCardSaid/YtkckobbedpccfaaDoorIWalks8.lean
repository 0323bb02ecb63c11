/-
  The table by shapes, and what an operation has: its contract.
-/
import Derived.Test.YtkckobbedpccfaaDoorIWalks7
namespace Go.Proofs.YtkckobbedpccfaaDoor.I
open Go.RowKit Go.Maps
set_option linter.unusedVariables false
set_option maxRecDepth 100000
theorem u63 : Tryd.prog.underlying 94 = some (.int .i64) := by kernel_rfl
theorem u61 : Tryd.prog.underlying 92 = some (.map 94 77) := by kernel_rfl
theorem law63 : Keyed Tryd.prog 94 := int_keyed u63

def shD : DataW Value := (((((((DataW.map [] : DataW Value).put (.int .i64 0) (.held (fld false false false 0 0))).put (.int .i64 1) (.held (fld true true true 0 0))).put (.int .i64 2) (.held (fld true true false (-8192) 8191))).put (.int .i64 3) (.held (fld false true true (-8192) 8191))).put (.int .i64 4) (.held (fld false true true (-8192) 8191))).put (.int .i64 5) (.held (fld true false false (-131072) 131071))).put (.int .i64 6) (.held (fld false true false 0 0))

/-- the blocks that lie beside the map while it is filled -/
structure ShW (w w1 : World) : Prop where
  a0 : w1.cell? ⟨w.heap.size, 0, none⟩ = some (.int .i64 (-8192))
  a1 : w1.cell? ⟨w.heap.size, 1, none⟩ = some (.int .i64 8191)
  b0 : w1.cell? ⟨w.heap.size + 1, 0, none⟩ = some (.int .i64 (-131072))
  b1 : w1.cell? ⟨w.heap.size + 1, 1, none⟩ = some (.int .i64 131071)
  size : w.heap.size + 3 ≤ w1.heap.size
  below : Below w.heap.size w w1

theorem ShW.grown {w w1 w2 : World} (h : ShW w w1) (hg : w1.grownBy w2 (some (w.heap.size + 1 + 1))) : ShW w w2 := by
  have hs := h.size
  have e0 : w.heap.size < w1.heap.size := by omega
  have e1 : w.heap.size + 1 < w1.heap.size := by omega
  have n0 : w.heap.size ≠ w.heap.size + 1 + 1 := by omega
  have n1 : w.heap.size + 1 ≠ w.heap.size + 1 + 1 := by omega
  exact ⟨keep_cell hg h.a0 e0 n0, keep_cell hg h.a1 e0 n0, keep_cell hg h.b0 e1 n1, keep_cell hg h.b1 e1 n1,
    Nat.le_trans hs hg.size, h.below.grown hg h.below.size (fun j hj => by cases hj; omega)⟩

theorem ShW_start (w : World) : ShW w (((w.alloc (.cells #[.int .i64 (-8192), .int .i64 8191] 75)).alloc (.cells #[.int .i64 (-131072), .int .i64 131071] 75)).alloc (.map #[] 0)) := by
  have hb : Below w.heap.size w (((w.alloc (.cells #[.int .i64 (-8192), .int .i64 8191] 75)).alloc (.cells #[.int .i64 (-131072), .int .i64 131071] 75)).alloc (.map #[] 0)) :=
    (((Below.refl _ _).alloc (by simp) _).alloc (by simp) _).alloc (by simp; omega) _
  constructor
  case below => exact hb
  all_goals simp [go_sem]

theorem shFields_any (w : World) :
    Calls Tryd.prog 47 #[] w fun e w' => ∃ b, e = .returned (.map (some b)) ∧ w'.ownsMap Tryd.prog 94 RV b 7 shD ∧ Below w.heap.size w w' := by
  have hmm := @run_makeMap Tryd.prog
  go_enter Tryd.func47, Tryd.ntmps47
  go_wp2_with fail
  refine (span14 _).mono ?_
  rintro e w1 ⟨rfl, hb1⟩
  go_wp2_with fail
  refine (span18 _).mono ?_
  rintro e w2 ⟨rfl, hb2⟩
  have hb : Below w.heap.size w w2 := hb1.trans (hb2.mono hb1.size)
  clear hb1 hb2
  go_wp2_with (first
    | (refine wpList_insert_own _ rfl _ _ _ 92 rfl 94 77 law63 u61 _ _ _ rfl (by assumption) (by decide) _ _ _ rfl rfl (keyOf_int_mk u63 (by decide)) ?_; intro w3 hown1 hg1; have ho := ShW.grown (by assumption) hg1; have a0 := ho.a0; have a1 := ho.a1; have b0 := ho.b0; have b1 := ho.b1; clear hg1)
    | (refine wpList_insert_own _ rfl _ _ _ 92 rfl 94 77 law63 u61 _ _ _ rfl (ownsMap_new (by simp) _ _) (by decide) _ _ _ rfl rfl (keyOf_int_mk u63 (by decide)) ?_; intro w3 hown1 hg1; have ho := ShW.grown (ShW_start w2) hg1; have a0 := ho.a0; have a1 := ho.a1; have b0 := ho.b0; have b1 := ho.b1; clear hg1)
    | fail)
  go_ret
  exact ⟨_, rfl, by assumption, hb.trans ((ShW.below (by assumption)).mono hb.size)⟩
end Go.Proofs.YtkckobbedpccfaaDoor.I
