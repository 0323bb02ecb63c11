/-
  Words of a line in plain terms, over no program: numbers, registers, names.
-/
import Derived.Lib.AtoiAll
import Derived.Lib.Strings
namespace Go.Proofs.YtopankjjlapfbaaGreatDoor
set_option linter.unusedVariables false

/-- the number that a word is -/
def numO (s : ByteArray) : Option Int :=
  if s = ⟨#[48]⟩ then some 0
  else if Lib.trimPrefix s.data.toList [45] = [] ∨ 15 < (Lib.trimPrefix s.data.toList [45]).length ∨ ((Lib.trimPrefix s.data.toList [45]).headD 0).toNat < 49 then none
  else match Lib.atoiAll s.data.toList with
    | .ok v => some v
    | _ => none
/-- the register that a word is -/
def regO (s : ByteArray) : Option Int :=
  if Lib.hasPrefix s.data.toList [120] = true then
    match numO ⟨(Lib.trimPrefix s.data.toList [120]).toArray⟩ with
    | some v => if 0 ≤ v ∧ v ≤ 15 then some v else none
    | none => none
  else none
def digB (z : Int) : Bool := decide (48 ≤ z) && decide (z ≤ 57)
def chrB (z : Int) : Bool := digB z || z == 95 || (decide (97 ≤ z) && decide (z ≤ 122))
/-- whether a word may be a mark's name -/
def nameB (s : ByteArray) : Bool :=
  !(s.size == 0) && decide (s.size ≤ 30) && !digB (((s.data.toList.headD 0).toNat : Nat) : Int) && s.data.toList.all (fun c => chrB ((c.toNat : Nat) : Int)) && (regO s).isNone
end Go.Proofs.YtopankjjlapfbaaGreatDoor
