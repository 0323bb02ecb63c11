/-
  An entry of a map literal, at the operation: a law for walks. Elements are read as themselves.
-/
import Derived.Test.YtkckobbedpccfaaDoorIWalks5
import Derived.Maps.OwnSet
namespace Go.Proofs.YtkckobbedpccfaaDoor.I
open Go.RowKit Go.Maps
set_option linter.unusedVariables false

/-- an element reads as itself -/
def RV (v : Value) : Option (DataW Value × List MemPlace) := some (.held v, [])

theorem wpList_insert_own {P : Program} (w : World) {ops : Array Oper} {rest : List Oper} {o : Oper} {a : Act} {Q : Exit → Act → World → Prop}
    (hg : o.guard = none) (m x v : Operand) (t : TypeId) (hop : o.op = Op.insert t m x v)
    (k e : TypeId) (K : Keyed P k) (ht : P.underlying t = some (.map k e)) (b n : Nat) (D : DataW Value)
    (hm : a.eval m = .map (some b)) (hown : w.ownsMap P k RV b n D) (hn : n < maxLen) (key val : Value) (kl : Lit) (hx : a.eval x = key) (hv : a.eval v = val) (hkey : keyOf P k key = some kl)
    (hK : ∀ w', w'.ownsMap P k RV b (n + 1) (D.put kl (.held val)) → w.grownBy w' (some b) → wpList P ops Q rest (a.put o.dst undef) w') :
    wpList P ops Q (o :: rest) a w := by
  refine wpList_plain hg fun K' hK' => ?_
  obtain ⟨w', hrun, r1, r2⟩ := hown.update K ht hn hkey (show RV val = some (.held val, []) from rfl)
  unfold Oper.wp
  simp [execOp, hop, hm, hx, hv, hrun, Result.andThen]
  exact hK' _ _ (hK w' r1 r2)

theorem keep_cell {w w1 : World} {m : Nat} (hg : w.grownBy w1 (some m)) {B i : Nat} {v : Value} (h : w.cell? ⟨B, i, none⟩ = some v) (hlt : B < w.heap.size) (hne : B ≠ m) : w1.cell? ⟨B, i, none⟩ = some v :=
  (World.cell?_of_block (hg.block B hlt (by simpa using hne))).trans h

end Go.Proofs.YtkckobbedpccfaaDoor.I
