/-
  Two guests' tables and the document's, as begin makes them.
-/
import Derived.Test.YteghkhdpdeiocaaDoorTp
import Derived.Test.YteghkhdpdeiocaaDoorGI
import Derived.Test.YteghkhdpdeiocaaDoorSv
namespace Go.Proofs.YteghkhdpdeiocaaDoor
open Go.RowKit Go.Maps
set_option linter.unusedVariables false
set_option maxRecDepth 100000

/-- the block of the law's world: eight pointers -/
def WB (w : World) (Q b D T0 T1 c R U0 U1 : Nat) : Prop := w.heap[Q]? = some (.cells #[.pointer (some ⟨b, 0, none⟩), .pointer (some ⟨D, 0, none⟩), .pointer (some ⟨T0, 0, none⟩), .pointer (some ⟨T1, 0, none⟩), .pointer (some ⟨c, 0, none⟩), .pointer (some ⟨R, 0, none⟩), .pointer (some ⟨U0, 0, none⟩), .pointer (some ⟨U1, 0, none⟩)] 67 (0, 0))
theorem WB.cs {w : World} {Q b D T0 T1 c R U0 U1 : Nat} (h : WB w Q b D T0 T1 c R U0 U1) : w.cell? ⟨Q, 0, none⟩ = some (.pointer (some ⟨b, 0, none⟩)) ∧ w.cell? ⟨Q, 1, none⟩ = some (.pointer (some ⟨D, 0, none⟩)) ∧ w.cell? ⟨Q, 2, none⟩ = some (.pointer (some ⟨T0, 0, none⟩)) ∧ w.cell? ⟨Q, 3, none⟩ = some (.pointer (some ⟨T1, 0, none⟩)) ∧ Q < w.heap.size := by
  unfold WB at h
  refine ⟨?_, ?_, ?_, ?_, lt_of_heap h⟩ <;> rw [cell_at h] <;> rfl
theorem of_or {o : Obj} (h : Of o) : ¬ Or o := by
  cases o with
  | cells cs t f =>
    intro h2
    rcases h with rfl | rfl <;> rcases h2 with h2 | h2 <;> cases h2
  | _ => exact id
section
variable {B B' P : Nat → Prop} {w w' : World} {b g D T L gu n : Nat} {z : Zs} {m m' : List Int} {S S' : Fs}
/-- tables stand beside what is done to others -/
theorem SX.join (h : SX B w b g D T L gu z) (mf : MF B' w' b g D m' S') (hT : w'.heap[T]? = w.heap[T]?) (hL : w'.heap[L]? = w.heap[L]?) (hB : ∀ k, B k → B' k) : SX B' w' b g D T L gu ⟨m', S', z.x⟩ :=
  ⟨mf.sz, mf.bt, mf.mm, mf.fx, h.tb.keep hT, h.mp.keep hL, hB _ h.bl, mf.b01, mf.hB, mf.g1, h.lo.2⟩
end
end Go.Proofs.YteghkhdpdeiocaaDoor
