/-
  What a page comes to on the page under it: the contract of both.
-/
import Derived.Test.YtbaagnfcdphddaaDoorWlk1
namespace Go.Proofs.YtbaagnfcdphddaaDoor
open Go.RowKit
set_option linter.unusedVariables false

set_option maxHeartbeats 1600000 in
theorem both_any (f f' l l' : Int) (r w x u r' w' x' u' : Bool) (W : World) :
    Calls Tryd.prog 17 #[foundV f r w x u l, foundV f' r' w' x' u' l'] W fun o W' => o = .returned (foundV f' (r && r') (w && w') (x && x') u (wrap64 (l + l'))) ∧ Below W.heap.size W W' := by
  unfold foundV
  cases r <;> cases w <;> cases x
  all_goals
    simp only [Bool.true_and, Bool.false_and]
    go_enter Tryd.func17, Tryd.ntmps17
    go_wp2
    refine bodyPost_ret (v := _) ?h1 rfl ⟨rfl, ?h2⟩
    case h2 => exact (((Below.refl _ _).alloc (Nat.le_refl _) _).alloc (by simp) _).alloc (by simp; omega) _
    case h1 => simp [results, Tryd.results17, go_sem]
end Go.Proofs.YtbaagnfcdphddaaDoor
