/-
  What a line asks for, in plain terms, over no program: operands, statements.
-/
import Derived.Test.YtopankjjlapfbaaGreatDoorAsm
import Derived.Test.YtopankjjlapfbaaGreatDoorPlc
namespace Go.Proofs.YtopankjjlapfbaaGreatDoor
set_option linter.unusedVariables false

/-- what a line asks for -/
structure St where
  line : Int
  op : Int
  rd : Int
  rs1 : Int
  rs2 : Int
  imm : Int
  target : ByteArray
  value : Int
  count : Int
def stC (s : St) : List Value := [.int .i64 s.line, .int .i64 s.op, .int .i64 s.rd, .int .i64 s.rs1, .int .i64 s.rs2, .int .i64 s.imm, .string s.target, .int .u32 s.value, .int .i64 s.count]
def stV (s : St) : Value := .agg (stC s).toArray

/-- a field of an instruction, by what an operand stands for -/
def putF (s : St) (p v : Int) : St := if p = 0 then { s with rd := v } else if p = 1 then { s with rs1 := v } else if p = 2 then { s with rs2 := v } else { s with imm := v }
/-- one operand -/
def opdO (s : St) (p : Int) (o : ByteArray) : Option St :=
  if p = 4 then (if nameB o = true then some { s with target := o } else (numO o).map (putF s p))
  else if p = 3 then (numO o).map (putF s p)
  else (regO o).map (putF s p)
/-- the operands, one behind the other -/
def opdsO : St → List Int → List ByteArray → Option St
  | s, p :: ps, o :: os => match opdO s p o with
    | some s' => opdsO s' ps os
    | none => none
  | s, _, _ => some s
/-- an operation and its operands -/
def instrO (op : Int) (os : List ByteArray) : Option St :=
  if os.length = (plcL op).length then opdsO ⟨0, op, 0, 0, 0, 0, ⟨#[]⟩, 0, 1⟩ (plcL op) os else none
def withinO (os : List ByteArray) (lo hi : Int) : Option Int :=
  match os with
  | [o] => match numO o with
    | some v => if lo ≤ v ∧ v ≤ hi then some v else none
    | none => none
  | _ => none
end Go.Proofs.YtopankjjlapfbaaGreatDoor
