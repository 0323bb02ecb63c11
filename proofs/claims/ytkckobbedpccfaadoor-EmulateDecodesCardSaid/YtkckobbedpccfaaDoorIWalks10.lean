/-
  Valid and Encode of package insn: their contracts.
-/
import Derived.Test.YtkckobbedpccfaaDoorIWalks9
import Derived.Test.YtkckobbedpccfaaDoorIInsn2
namespace Go.Proofs.YtkckobbedpccfaaDoor.I
open Go.RowKit
set_option linter.unusedVariables false
set_option maxRecDepth 100000

/-- an instruction as it lies in the program -/
def ins (op rd rs1 rs2 imm : Int) : Value := .agg #[.int .i64 op, .int .i64 rd, .int .i64 rs1, .int .i64 rs2, .int .i64 imm]

theorem valid_any (op rd rs1 rs2 imm : Int) (hw : (Lit.int .i64 op).wf = true) (w : World) :
    Calls Tryd.prog 23 #[ins op rd rs1 rs2 imm] w fun e w' => e = .returned (.bool (validP op rd rs1 rs2 imm)) ∧ Below w.heap.size w w' := by
  have C0 := fieldsOf_any op hw
  have C1 := isRegister_any rd (rdP op)
  have C2 := isRegister_any rs1 (rs1P op)
  have C3 := isRegister_any rs2 (rs2P op)
  have C4 := has_any (loP op) (hiP op) imm
  unfold fldOf fld at C0
  unfold validP ins
  generalize regP rd (rdP op) = r1 at *
  generalize regP rs1 (rs1P op) = r2 at *
  generalize regP rs2 (rs2P op) = r3 at *
  generalize hasP (loP op) (hiP op) imm = r4 at *
  generalize shapeB op = sb at *
  generalize rdP op = f1 at *
  generalize rs1P op = f2 at *
  generalize rs2P op = f3 at *
  generalize loP op = f4 at *
  generalize hiP op = f5 at *
  go_enter Tryd.func23, Tryd.ntmps23
  go_wp2_with fail
  refine (C0 _).mono ?_
  rintro e w1 ⟨rfl, hb1⟩
  have HB : Hid (Below w.heap.size w w1) := ((Below.refl _ _).alloc (Nat.le_refl _) _).trans (hb1.mono (by simp))
  obtain ⟨hcc, hff⟩ := bcell hb1
  have hs1 : w.heap.size < w1.heap.size := by have := hb1.size; simp at this; omega
  simp only [World.size_alloc] at hcc hff
  clear hb1 C0
  cases sb
  · go_wp2_with fail
    go_ret
    exact ⟨rfl, HB.out.alloc (by omega) _⟩
  go_wp2_with fail
  refine (C1 _).mono ?_
  rintro e w2 ⟨rfl, rfl⟩
  clear C1
  cases r1
  · go_wp2_with fail
    go_ret
    exact ⟨rfl, HB.out.alloc (by omega) _⟩
  go_wp2_with fail
  refine (C2 _).mono ?_
  rintro e w2 ⟨rfl, rfl⟩
  clear C2
  cases r2
  · go_wp2_with fail
    go_ret
    exact ⟨rfl, HB.out.alloc (by omega) _⟩
  go_wp2_with fail
  refine (C3 _).mono ?_
  rintro e w2 ⟨rfl, rfl⟩
  clear C3
  cases r3
  · go_wp2_with fail
    go_ret
    exact ⟨rfl, HB.out.alloc (by omega) _⟩
  go_wp2_with fail
  refine (C4 _).mono ?_
  rintro e w3 ⟨rfl, hb3⟩
  clear C4
  go_wp2_with fail
  go_ret
  exact ⟨rfl, (HB.out.alloc (by omega) _).trans (hb3.mono (by simp; omega))⟩
end Go.Proofs.YtkckobbedpccfaaDoor.I
