/-
  What the small functions of package insn and of the document's answer do: their contracts.
-/
import Derived.Test.YtkckobbedpccfaaDoorIWalks5
import Derived.Test.YtkckobbedpccfaaDoorIInsn
namespace Go.Proofs.YtkckobbedpccfaaDoor.I
open Go.RowKit
set_option linter.unusedVariables false
set_option maxRecDepth 100000

theorem ret_ib {k : IntKind} {a b : Int} {c d : Bool} (h : a = b) (g : c = d) : Ending.returned (.tuple #[.int k a, .bool c]) = .returned (.tuple #[.int k b, .bool d]) := by rw [h, g]

theorem shape_any (op : Int) (w : World) :
    Calls Tryd.prog 44 #[.int .i64 op] w fun e w' => e = .returned (.tuple #[.int .i64 (shapeN op), .bool (shapeB op)]) ∧ w' = w := by
  by_cases h : 1 ≤ op ∧ op ≤ 48
  · go_enter Tryd.func44, Tryd.ntmps44
    go_wp2
    all_goals
      go_ret2
      refine ⟨?_, rfl⟩
      first
        | (rename_i hx; obtain rfl := eq_of_beq hx; rfl)
        | (exfalso; simp only [beq_eq_false_iff_ne] at *; omega)
  · have hs := shape_none op (by omega)
    have hn : shapeN op = 0 := by unfold shapeN; rw [hs]; rfl
    have hb : shapeB op = false := by unfold shapeB; rw [hs]; rfl
    rw [hn, hb]
    clear hs hn hb
    go_enter Tryd.func44, Tryd.ntmps44
    go_wp2
    all_goals
      go_ret2
      refine ⟨?_, rfl⟩
      first
        | rfl
        | (exfalso; rename_i hx; obtain rfl := eq_of_beq hx; omega)

theorem isLong_any (op : Int) (w : World) :
    Calls Tryd.prog 34 #[.int .i64 op] w fun e w' => e = .returned (.bool (decide (shapeR op = 5))) ∧ w' = w := by
  go_enter Tryd.func34, Tryd.ntmps34
  go_wp2_with fail
  refine (shape_any _ _).mono ?_
  rintro e w1 ⟨rfl, rfl⟩
  go_wp2_with fail
  go_ret
  refine ⟨ret_bool ?_, rfl⟩
  unfold shapeN
  rw [Bool.eq_iff_iff]
  simp
  split <;> omega

theorem isRegister_any (v : Int) (b : Bool) (w : World) :
    Calls Tryd.prog 37 #[.int .i64 v, .bool b] w fun e w' => e = .returned (.bool (regP v b)) ∧ w' = w := by
  cases b
  all_goals
    go_enter Tryd.func37, Tryd.ntmps37
    go_wp2
    all_goals
      go_ret
      refine ⟨ret_bool ?_, rfl⟩
      unfold regP
      first
        | (simp_all; done)
        | (simp_all; omega)

theorem has_any (lo hi v : Int) (w : World) :
    Calls Tryd.prog 38 #[.agg #[.int .i64 lo, .int .i64 hi], .int .i64 v] w fun e w' => e = .returned (.bool (hasP lo hi v)) ∧ Below w.heap.size w w' := by
  go_enter Tryd.func38, Tryd.ntmps38
  go_wp2
  all_goals
    go_ret
    refine ⟨ret_bool ?_, (Below.refl _ _).alloc (Nat.le_refl _) _⟩
    unfold hasP
    first
      | (simp_all; done)
      | (simp_all; omega)

theorem rreg_any (v : Int) (w : World) :
    Calls Tryd.prog 31 #[.int .i64 v] w fun e w' => e = .returned (.bool (regR v)) ∧ w' = w := by
  go_enter Tryd.func31, Tryd.ntmps31
  go_wp2
  all_goals
    go_ret
    refine ⟨ret_bool ?_, rfl⟩
    unfold regR
    first
      | (simp_all; done)
      | (simp_all; omega)
end Go.Proofs.YtkckobbedpccfaaDoor.I
