/-
  NARROWER THAN 'FOR EVERY INPUT', by the rows' own cells (each row's printed sentence says how): HartNobody: laid · HartHolds: laid · HartTwice: laid · HartTraps: laid · HartHeld: laid · HartMath: laid.
  DERIVED. THE GIVEN ROWS OF THIS SEAT. 6 by the template 'for every input the law returns true; each argument reads behind the call as it read before'; 0 by the template 'total and deterministic' (their statements: YtghpkbgfpagpgaaGreatDoorTotals.lean).
  GIVEN WITH THE SEED: the statements are not yours to turn. If you find one false, say at which input.
  Laid BY PROGRAM, IN A SANDBOX (cutbox-rows.mjs): the forced cells as the released guide's own fill.sh prints them over the translation 4934fa19d096cbc9… (all of the seat's roots in one cut). By AI agents, Wed Nov 11 2026. No macro, syntax, notation, axiom, sorry.
-/
import Derived.Test.YtghpkbgfpagpgaaGreatDoorChecked
import GoSem.Claim
import GoSem.ClaimJoined
import GoSem.ClaimMapViews
import Derived.JoinedTies
import Derived.KernelRfl
namespace Go.Proofs.YtghpkbgfpagpgaaGreatDoor
/- THE CELL 'sum', in the pinned program and in every row, IS THE sha256 OF THE DUMP (.gsa) THAT YtghpkbgfpagpgaaGreatDoorProg.lean LOADS. Nothing in Lean hashes anything: it is a label: what it is worth is what the hold of that sum in a sandbox is worth. -/
noncomputable def Tryz.pinned : Pinned := { name := "ytghpkbgfpagpgaagreatdoor", sum := "4934fa19d096cbc9b9b68610e99fba59c28e2dae72fb174a8f13108307829d98", checked := Tryz.checked }
namespace Rows
def none {H : Type} : Left H := { results := [], args := [] }

/- WHAT THE LISTED PACKAGE-LEVEL VARIABLES READ AS WHEN THE CALL BEGINS. Each datum BY PROGRAM (the guide's laid-datum.mjs) off the statement by which the dump's own 'gosem.cut.vars' lays the variable. In a bare row this is a premise. The card (YtghpkbgfpagpgaaGreatDoorCards.lean) ties it to the program's text. -/
def laid_palisade_word_sizes {H : Type} : DataW H := .agg [.agg [.lit (.int .i64 1), .lit (.int .i64 0)], .agg [.lit (.int .i64 4), .lit (.int .i64 32)], .agg [.lit (.int .i64 8), .lit (.int .i64 0)]]

/-- 'palisadelaw09.HartNobody': WHATEVER THE INPUT: true; the input reads as it did. -/
def hartNobodySpec : ChangeSpec := { name := "hartNobody", fn := fun _ => fun
  | [d] => { results := [.lit (.bool true)], args := [d] }
  | _ => none }
def hartNobodyRow : OpenClaim := { program := "ytghpkbgfpagpgaagreatdoor", sum := "4934fa19d096cbc9b9b68610e99fba59c28e2dae72fb174a8f13108307829d98", func := "palisade/palisadelaw09.HartNobody", spec := "hartNobody", unfollowed := true, recurses := true, named := ["palisade/word.sizes"], apart := false, laid := [("palisade/word.sizes", laid_palisade_word_sizes)] }
def HartNobodySaid : Prop := hartNobodyRow.holds Tryz.pinned (OpenSpec.ofChange hartNobodySpec)

/-- ITS FALSE NEIGHBOUR: 'it returns false'. Refute it at one input. -/
def hartNobodyWrong : ChangeSpec := { name := "hartNobody", fn := fun _ => fun
  | [d] => { results := [.lit (.bool false)], args := [d] }
  | _ => none }
def HartNobodyWrongFalsely : Prop := hartNobodyRow.holds Tryz.pinned (OpenSpec.ofChange hartNobodyWrong)

/-- 'palisadelaw09.HartHolds': WHATEVER THE INPUT: true; the input reads as it did. -/
def hartHoldsSpec : ChangeSpec := { name := "hartHolds", fn := fun _ => fun
  | [d] => { results := [.lit (.bool true)], args := [d] }
  | _ => none }
def hartHoldsRow : OpenClaim := { program := "ytghpkbgfpagpgaagreatdoor", sum := "4934fa19d096cbc9b9b68610e99fba59c28e2dae72fb174a8f13108307829d98", func := "palisade/palisadelaw09.HartHolds", spec := "hartHolds", unfollowed := true, recurses := true, named := ["palisade/word.sizes"], apart := false, laid := [("palisade/word.sizes", laid_palisade_word_sizes)] }
def HartHoldsSaid : Prop := hartHoldsRow.holds Tryz.pinned (OpenSpec.ofChange hartHoldsSpec)

/-- ITS FALSE NEIGHBOUR: 'it returns false'. Refute it at one input. -/
def hartHoldsWrong : ChangeSpec := { name := "hartHolds", fn := fun _ => fun
  | [d] => { results := [.lit (.bool false)], args := [d] }
  | _ => none }
def HartHoldsWrongFalsely : Prop := hartHoldsRow.holds Tryz.pinned (OpenSpec.ofChange hartHoldsWrong)

/-- 'palisadelaw09.HartTwice': WHATEVER THE INPUT: true; the input reads as it did. -/
def hartTwiceSpec : ChangeSpec := { name := "hartTwice", fn := fun _ => fun
  | [d1, d2] => { results := [.lit (.bool true)], args := [d1, d2] }
  | _ => none }
def hartTwiceRow : OpenClaim := { program := "ytghpkbgfpagpgaagreatdoor", sum := "4934fa19d096cbc9b9b68610e99fba59c28e2dae72fb174a8f13108307829d98", func := "palisade/palisadelaw09.HartTwice", spec := "hartTwice", unfollowed := true, recurses := true, named := ["palisade/word.sizes"], apart := false, laid := [("palisade/word.sizes", laid_palisade_word_sizes)] }
def HartTwiceSaid : Prop := hartTwiceRow.holds Tryz.pinned (OpenSpec.ofChange hartTwiceSpec)

/-- ITS FALSE NEIGHBOUR: 'it returns false'. Refute it at one input. -/
def hartTwiceWrong : ChangeSpec := { name := "hartTwice", fn := fun _ => fun
  | [d1, d2] => { results := [.lit (.bool false)], args := [d1, d2] }
  | _ => none }
def HartTwiceWrongFalsely : Prop := hartTwiceRow.holds Tryz.pinned (OpenSpec.ofChange hartTwiceWrong)

/-- 'palisadelaw09.HartTraps': WHATEVER THE INPUT: true; the input reads as it did. -/
def hartTrapsSpec : ChangeSpec := { name := "hartTraps", fn := fun _ => fun
  | [d1, d2] => { results := [.lit (.bool true)], args := [d1, d2] }
  | _ => none }
def hartTrapsRow : OpenClaim := { program := "ytghpkbgfpagpgaagreatdoor", sum := "4934fa19d096cbc9b9b68610e99fba59c28e2dae72fb174a8f13108307829d98", func := "palisade/palisadelaw09.HartTraps", spec := "hartTraps", unfollowed := true, recurses := true, named := ["palisade/word.sizes"], apart := false, laid := [("palisade/word.sizes", laid_palisade_word_sizes)] }
def HartTrapsSaid : Prop := hartTrapsRow.holds Tryz.pinned (OpenSpec.ofChange hartTrapsSpec)

/-- ITS FALSE NEIGHBOUR: 'it returns false'. Refute it at one input. -/
def hartTrapsWrong : ChangeSpec := { name := "hartTraps", fn := fun _ => fun
  | [d1, d2] => { results := [.lit (.bool false)], args := [d1, d2] }
  | _ => none }
def HartTrapsWrongFalsely : Prop := hartTrapsRow.holds Tryz.pinned (OpenSpec.ofChange hartTrapsWrong)

/-- 'palisadelaw09.HartHeld': WHATEVER THE INPUT: true; the input reads as it did. -/
def hartHeldSpec : ChangeSpec := { name := "hartHeld", fn := fun _ => fun
  | [d1, d2, d3] => { results := [.lit (.bool true)], args := [d1, d2, d3] }
  | _ => none }
def hartHeldRow : OpenClaim := { program := "ytghpkbgfpagpgaagreatdoor", sum := "4934fa19d096cbc9b9b68610e99fba59c28e2dae72fb174a8f13108307829d98", func := "palisade/palisadelaw09.HartHeld", spec := "hartHeld", unfollowed := true, recurses := true, named := ["palisade/word.sizes"], apart := false, laid := [("palisade/word.sizes", laid_palisade_word_sizes)] }
def HartHeldSaid : Prop := hartHeldRow.holds Tryz.pinned (OpenSpec.ofChange hartHeldSpec)

/-- ITS FALSE NEIGHBOUR: 'it returns false'. Refute it at one input. -/
def hartHeldWrong : ChangeSpec := { name := "hartHeld", fn := fun _ => fun
  | [d1, d2, d3] => { results := [.lit (.bool false)], args := [d1, d2, d3] }
  | _ => none }
def HartHeldWrongFalsely : Prop := hartHeldRow.holds Tryz.pinned (OpenSpec.ofChange hartHeldWrong)

/-- 'palisadelaw09.HartMath': WHATEVER THE INPUT: true; the input reads as it did. -/
def hartMathSpec : ChangeSpec := { name := "hartMath", fn := fun _ => fun
  | [d1, d2] => { results := [.lit (.bool true)], args := [d1, d2] }
  | _ => none }
def hartMathRow : OpenClaim := { program := "ytghpkbgfpagpgaagreatdoor", sum := "4934fa19d096cbc9b9b68610e99fba59c28e2dae72fb174a8f13108307829d98", func := "palisade/palisadelaw09.HartMath", spec := "hartMath", unfollowed := true, recurses := true, named := ["palisade/word.sizes"], apart := false, laid := [("palisade/word.sizes", laid_palisade_word_sizes)] }
def HartMathSaid : Prop := hartMathRow.holds Tryz.pinned (OpenSpec.ofChange hartMathSpec)

/-- ITS FALSE NEIGHBOUR: 'it returns false'. Refute it at one input. -/
def hartMathWrong : ChangeSpec := { name := "hartMath", fn := fun _ => fun
  | [d1, d2] => { results := [.lit (.bool false)], args := [d1, d2] }
  | _ => none }
def HartMathWrongFalsely : Prop := hartMathRow.holds Tryz.pinned (OpenSpec.ofChange hartMathWrong)

/- THE SECOND FORM. 'bulk': how many values and letters a reading holds, each counted each time it is reached (what is shared counts as often as it is met; a slice's spare places count too). A statement '..UptoSaid' is the law's where the arguments, and the package variables that the reading takes, are together of bulk at most 1048576: NARROWER than '..Said'. Prove '..Said' where nothing that the law and all that it calls make is longer than what came in: it says more and counts as full. Else prove '..UptoSaid'. A law counts once. -/
mutual
def uptoBulk {H : Type} : DataW H → Nat
  | .lit (.string bytes) => bytes.length + 1
  | .lit _ => 1
  | .nil => 1
  | .ptr d => uptoBulk d + 1
  | .slice elems spare => uptoBulkAll elems + uptoBulkAll spare + 1
  | .agg parts => uptoBulkAll parts + 1
  | .iface _ d => uptoBulk d + 1
  | .map entries => uptoBulkEntries entries + 1
  | .held _ => 1
def uptoBulkAll {H : Type} : List (DataW H) → Nat
  | [] => 0
  | d :: r => uptoBulk d + uptoBulkAll r
def uptoBulkEntries {H : Type} : List (Lit × DataW H) → Nat
  | [] => 0
  | x :: r => uptoBulkEntry x + uptoBulkEntries r
def uptoBulkEntry {H : Type} : Lit × DataW H → Nat
  | (.string bytes, d) => bytes.length + uptoBulk d + 1
  | (_, d) => uptoBulk d + 1
 end
def uptoSmall : (H : Type) → List (DataW H) → Bool := fun _ ds => decide (uptoBulkAll ds ≤ 1048576)
def OpenSpec.upto (s : _root_.Go.ChangeSpec) : _root_.Go.OpenSpec := { _root_.Go.OpenSpec.ofChange s with cond := some uptoSmall }

/-- 'palisadelaw09.HartNobody', WHERE WHAT IT READS IS OF BULK AT MOST 1048576: true; the input reads as it did. -/
def hartNobodyUptoRow : OpenClaim := { program := "ytghpkbgfpagpgaagreatdoor", sum := "4934fa19d096cbc9b9b68610e99fba59c28e2dae72fb174a8f13108307829d98", func := "palisade/palisadelaw09.HartNobody", spec := "hartNobody", unfollowed := true, recurses := true, named := ["palisade/word.sizes"], apart := false, laid := [("palisade/word.sizes", laid_palisade_word_sizes)], narrowed := true }
def HartNobodyUptoSaid : Prop := hartNobodyUptoRow.holds Tryz.pinned (OpenSpec.upto hartNobodySpec)

/-- 'palisadelaw09.HartHolds', WHERE WHAT IT READS IS OF BULK AT MOST 1048576: true; the input reads as it did. -/
def hartHoldsUptoRow : OpenClaim := { program := "ytghpkbgfpagpgaagreatdoor", sum := "4934fa19d096cbc9b9b68610e99fba59c28e2dae72fb174a8f13108307829d98", func := "palisade/palisadelaw09.HartHolds", spec := "hartHolds", unfollowed := true, recurses := true, named := ["palisade/word.sizes"], apart := false, laid := [("palisade/word.sizes", laid_palisade_word_sizes)], narrowed := true }
def HartHoldsUptoSaid : Prop := hartHoldsUptoRow.holds Tryz.pinned (OpenSpec.upto hartHoldsSpec)

/-- 'palisadelaw09.HartTwice', WHERE WHAT IT READS IS OF BULK AT MOST 1048576: true; the input reads as it did. -/
def hartTwiceUptoRow : OpenClaim := { program := "ytghpkbgfpagpgaagreatdoor", sum := "4934fa19d096cbc9b9b68610e99fba59c28e2dae72fb174a8f13108307829d98", func := "palisade/palisadelaw09.HartTwice", spec := "hartTwice", unfollowed := true, recurses := true, named := ["palisade/word.sizes"], apart := false, laid := [("palisade/word.sizes", laid_palisade_word_sizes)], narrowed := true }
def HartTwiceUptoSaid : Prop := hartTwiceUptoRow.holds Tryz.pinned (OpenSpec.upto hartTwiceSpec)

/-- 'palisadelaw09.HartTraps', WHERE WHAT IT READS IS OF BULK AT MOST 1048576: true; the input reads as it did. -/
def hartTrapsUptoRow : OpenClaim := { program := "ytghpkbgfpagpgaagreatdoor", sum := "4934fa19d096cbc9b9b68610e99fba59c28e2dae72fb174a8f13108307829d98", func := "palisade/palisadelaw09.HartTraps", spec := "hartTraps", unfollowed := true, recurses := true, named := ["palisade/word.sizes"], apart := false, laid := [("palisade/word.sizes", laid_palisade_word_sizes)], narrowed := true }
def HartTrapsUptoSaid : Prop := hartTrapsUptoRow.holds Tryz.pinned (OpenSpec.upto hartTrapsSpec)

/-- 'palisadelaw09.HartHeld', WHERE WHAT IT READS IS OF BULK AT MOST 1048576: true; the input reads as it did. -/
def hartHeldUptoRow : OpenClaim := { program := "ytghpkbgfpagpgaagreatdoor", sum := "4934fa19d096cbc9b9b68610e99fba59c28e2dae72fb174a8f13108307829d98", func := "palisade/palisadelaw09.HartHeld", spec := "hartHeld", unfollowed := true, recurses := true, named := ["palisade/word.sizes"], apart := false, laid := [("palisade/word.sizes", laid_palisade_word_sizes)], narrowed := true }
def HartHeldUptoSaid : Prop := hartHeldUptoRow.holds Tryz.pinned (OpenSpec.upto hartHeldSpec)

/-- 'palisadelaw09.HartMath', WHERE WHAT IT READS IS OF BULK AT MOST 1048576: true; the input reads as it did. -/
def hartMathUptoRow : OpenClaim := { program := "ytghpkbgfpagpgaagreatdoor", sum := "4934fa19d096cbc9b9b68610e99fba59c28e2dae72fb174a8f13108307829d98", func := "palisade/palisadelaw09.HartMath", spec := "hartMath", unfollowed := true, recurses := true, named := ["palisade/word.sizes"], apart := false, laid := [("palisade/word.sizes", laid_palisade_word_sizes)], narrowed := true }
def HartMathUptoSaid : Prop := hartMathUptoRow.holds Tryz.pinned (OpenSpec.upto hartMathSpec)

end Rows
end Go.Proofs.YtghpkbgfpagpgaaGreatDoor
