/-
  The law AsmShows: its walk.
-/
import Derived.Test.YtopankjjlapfbaaDoorShowS
namespace Go.Proofs.YtopankjjlapfbaaDoor
open Go.RowKit
set_option linter.unusedVariables false

theorem rshow_any (a : Int) (ha : 0 ≤ a) (ha' : a ≤ 4294967295) (w : World) :
    Calls Tryd.prog 5 #[.int .u32 a] w fun e w' => e = .returned (.string (showS a)) ∧ Below w.heap.size w w' := by
  unfold showS
  cases hv : validW a
  · exact rshow_no a ha ha' hv w
  · rw [if_pos rfl]
    have ho := valid_op hv
    have C1 := rdecode_yes a ha ha' hv
    have C2 := order_any (opW a)
    obtain ⟨n, hn⟩ : ∃ n : Nat, opW a = (n : Int) + 1 := ⟨(opW a).toNat - 1, by omega⟩
    have hnm : nameL.getD (n + 1) ⟨#[]⟩ = nameS (opW a) := by unfold nameS; rw [hn]; rfl
    exact rshow_of a _ _ _ _ _ n _ (plcL (opW a)) hn (by omega) (nameS_size _) (fv_small a) (plcL_len _) C1 C2 w hnm

theorem shows_walk (a : Int) (wa : (Lit.int .u32 a).wf = true) (w : World) (hl : Lies w) :
    Calls Tryd.prog 3 #[.int .u32 a] w fun e w' => e = .returned (.bool true) ∧ Below w.heap.size w w' := by
  have ha : 0 ≤ a ∧ a ≤ 4294967295 := by
    simp [Lit.wf] at wa
    exact wa
  have C1 := show_any a ha.1 ha.2 w hl
  have C2 := rshow_any a ha.1 ha.2
  generalize showS a = s at *
  clear wa ha
  go_enter Tryd.func3, Tryd.ntmps3
  go_wp2_with fail
  refine C1.mono ?_
  rintro e w1 ⟨rfl, hb1⟩
  go_wp2_with fail
  refine (C2 _).mono ?_
  rintro e w2 ⟨rfl, hb2⟩
  go_wp2_with fail
  go_ret
  exact ⟨by simp, hb1.trans (hb2.mono hb1.size)⟩
end Go.Proofs.YtopankjjlapfbaaDoor
