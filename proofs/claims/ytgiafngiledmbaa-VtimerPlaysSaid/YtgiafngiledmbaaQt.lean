/-
  Regions that leave their order open, walked once in every world that has what was there.
-/
import Derived.Test.YtgiafngiledmbaaRb
import Derived.Deep.QuietTactic
import Derived.BigQuiet
import Derived.Deep.MidRow
namespace Go.Proofs.Ytgiafngiledmbaa
open Go.RowKit
set_option linter.unusedVariables false
set_option maxRecDepth 100000
/-- a world that has all blocks of another one as they were -/
structure Above (W : World) where
  wld : World
  bel : Below W.heap.size W wld
theorem above_here (W : World) : Nonempty (Above W) := ⟨⟨W, Below.refl _ _⟩⟩
theorem wp_region_above {P : Program} {id : Nat} {Q : Exit → Act → World → Prop} {a : Act} {w : World} {l : List Oper} (hm : P.follows .mixedOrders = true) (hB : Region.lexB .any l.toArray = true)
    (h : wpQuiet P l.toArray (fun w' => ∃ s : Above w, w' = s.wld) (fun a' => ∀ w', (∃ s : Above w, w' = s.wld) → Q .normal a' w') l a) : (Code.region id l.toArray true).wp P Q a w :=
  wp_region_quiet (C := fun w' => ∃ s : Above w, w' = s.wld) hm hB ⟨⟨_, (Below.refl _ _).drew⟩, rfl⟩ (by simpa using h)
theorem above_call {P : Program} {f : FuncId} {args : Array Value} {W : World} {v : Value} (s : Above W)
    (h : Calls P f args s.wld fun e w' => e = .returned v ∧ Below s.wld.heap.size s.wld w') : Calls P f args s.wld fun e w'' => e = .returned v ∧ ∃ s' : Above W, w'' = s'.wld :=
  h.mono fun _ w' ⟨he, hb⟩ => ⟨he, ⟨w', s.bel.trans (hb.mono s.bel.size)⟩, rfl⟩
section
variable {P : Program} {C : World → Prop} {a : Act} {o : Oper}
/-- a whole row loaded -/
theorem quiet_load {K : Act → Prop} (ty : TypeId) (x : Operand) (ho : o.op = .load ty x) (b off : Nat) (hx : a.eval x = .pointer (some ⟨b, off, none⟩)) (cs : List Value) (d : TypeDesc) (hC : ∀ w, C w → w.rangeAt b off cs)
    (hu : P.underlying ty = some d) (hd : d.isRow = true) (hi : (P.info? ty).map (·.size) = some cs.length) (hk : K (a.put o.dst (.agg cs.toArray))) : o.quiet P a C K :=
  ⟨_, fun w hw => by
    unfold Oper.quietAt execOp
    simp only [ho, hx, Instr.loadAt, Instr.sureAddr, Sem.run_bind, Sem.run_pure, Result.andThen_ok, run_loadVar_mid w b off ty cs d (hC w hw) hu hd hi]
    exact ⟨rfl, rfl⟩, hk⟩
end
end Go.Proofs.Ytgiafngiledmbaa
