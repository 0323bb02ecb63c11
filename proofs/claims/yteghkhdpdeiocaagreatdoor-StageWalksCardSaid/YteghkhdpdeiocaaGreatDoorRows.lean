/-
  NARROWER THAN 'FOR EVERY INPUT', by the rows' own cells (each row's printed sentence says how): StagePlays: laid · StageWalks: laid.
  DERIVED. THE GIVEN ROWS OF THIS SEAT. 2 by the template 'for every input the law returns true; each argument reads behind the call as it read before'; 0 by the template 'total and deterministic' (their statements: YteghkhdpdeiocaaGreatDoorTotals.lean).
  GIVEN WITH THE SEED: the statements are not yours to turn. If you find one false, say at which input.
  Laid BY PROGRAM, IN A SANDBOX (cutbox-rows.mjs): the forced cells as the released guide's own fill.sh prints them over the translation 73eb251cd4d6d7c0… (all of the seat's roots in one cut). By AI agents, Wed Nov 11 2026. No macro, syntax, notation, axiom, sorry.
-/
import Derived.Test.YteghkhdpdeiocaaGreatDoorChecked
import GoSem.Claim
import GoSem.ClaimJoined
import GoSem.ClaimMapViews
import Derived.JoinedTies
import Derived.KernelRfl
namespace Go.Proofs.YteghkhdpdeiocaaGreatDoor
/- THE CELL 'sum', in the pinned program and in every row, IS THE sha256 OF THE DUMP (.gsa) THAT YteghkhdpdeiocaaGreatDoorProg.lean LOADS. Nothing in Lean hashes anything: it is a label: what it is worth is what the hold of that sum in a sandbox is worth. -/
noncomputable def Tryz.pinned : Pinned := { name := "yteghkhdpdeiocaagreatdoor", sum := "73eb251cd4d6d7c002d3767471f7fa8c5f64da8e44b8607a11b1344bda5d6a1c", checked := Tryz.checked }
namespace Rows
def none {H : Type} : Left H := { results := [], args := [] }

/- WHAT THE LISTED PACKAGE-LEVEL VARIABLES READ AS WHEN THE CALL BEGINS. Each datum BY PROGRAM (the guide's laid-datum.mjs) off the statement by which the dump's own 'gosem.cut.vars' lays the variable. In a bare row this is a premise. The card (YteghkhdpdeiocaaGreatDoorCards.lean) ties it to the program's text. -/
def laid_palisade_word_sizes {H : Type} : DataW H := .agg [.agg [.lit (.int .i64 1), .lit (.int .i64 0)], .agg [.lit (.int .i64 4), .lit (.int .i64 32)], .agg [.lit (.int .i64 8), .lit (.int .i64 0)]]
def laid_palisade_entry_bits {H : Type} : DataW H := .agg [.lit (.int .u64 0), .lit (.int .u64 1), .lit (.int .u64 2), .lit (.int .u64 3), .lit (.int .u64 4), .lit (.int .u64 5), .lit (.int .u64 6)]

/-- 'palisadelaw17.StagePlays': WHATEVER THE INPUT: true; the input reads as it did. -/
def stagePlaysSpec : ChangeSpec := { name := "stagePlays", fn := fun _ => fun
  | [d1, d2, d3] => { results := [.lit (.bool true)], args := [d1, d2, d3] }
  | _ => none }
def stagePlaysRow : OpenClaim := { program := "yteghkhdpdeiocaagreatdoor", sum := "73eb251cd4d6d7c002d3767471f7fa8c5f64da8e44b8607a11b1344bda5d6a1c", func := "palisade/palisadelaw17.StagePlays", spec := "stagePlays", unfollowed := true, recurses := true, named := ["palisade/word.sizes", "palisade/entry.bits"], apart := false, laid := [("palisade/word.sizes", laid_palisade_word_sizes), ("palisade/entry.bits", laid_palisade_entry_bits)] }
def StagePlaysSaid : Prop := stagePlaysRow.holds Tryz.pinned (OpenSpec.ofChange stagePlaysSpec)

/-- ITS FALSE NEIGHBOUR: 'it returns false'. Refute it at one input. -/
def stagePlaysWrong : ChangeSpec := { name := "stagePlays", fn := fun _ => fun
  | [d1, d2, d3] => { results := [.lit (.bool false)], args := [d1, d2, d3] }
  | _ => none }
def StagePlaysWrongFalsely : Prop := stagePlaysRow.holds Tryz.pinned (OpenSpec.ofChange stagePlaysWrong)

/-- 'palisadelaw17.StageWalks': WHATEVER THE INPUT: true; the input reads as it did. -/
def stageWalksSpec : ChangeSpec := { name := "stageWalks", fn := fun _ => fun
  | [d] => { results := [.lit (.bool true)], args := [d] }
  | _ => none }
def stageWalksRow : OpenClaim := { program := "yteghkhdpdeiocaagreatdoor", sum := "73eb251cd4d6d7c002d3767471f7fa8c5f64da8e44b8607a11b1344bda5d6a1c", func := "palisade/palisadelaw17.StageWalks", spec := "stageWalks", unfollowed := true, recurses := true, named := ["palisade/word.sizes", "palisade/entry.bits"], apart := false, laid := [("palisade/word.sizes", laid_palisade_word_sizes), ("palisade/entry.bits", laid_palisade_entry_bits)] }
def StageWalksSaid : Prop := stageWalksRow.holds Tryz.pinned (OpenSpec.ofChange stageWalksSpec)

/-- ITS FALSE NEIGHBOUR: 'it returns false'. Refute it at one input. -/
def stageWalksWrong : ChangeSpec := { name := "stageWalks", fn := fun _ => fun
  | [d] => { results := [.lit (.bool false)], args := [d] }
  | _ => none }
def StageWalksWrongFalsely : Prop := stageWalksRow.holds Tryz.pinned (OpenSpec.ofChange stageWalksWrong)

/- THE SECOND FORM. 'bulk': how many values and letters a reading holds, each counted each time it is reached (what is shared counts as often as it is met; a slice's spare places count too). A statement '..UptoSaid' is the law's where the arguments, and the package variables that the reading takes, are together of bulk at most 1048576: NARROWER than '..Said'. Prove '..Said' where nothing that the law and all that it calls make is longer than what came in: it says more and counts as full. Else prove '..UptoSaid'. A law counts once. -/
mutual
def uptoBulk {H : Type} : DataW H → Nat
  | .lit (.string bytes) => bytes.length + 1
  | .lit _ => 1
  | .nil => 1
  | .ptr d => uptoBulk d + 1
  | .slice elems spare => uptoBulkAll elems + uptoBulkAll spare + 1
  | .agg parts => uptoBulkAll parts + 1
  | .iface _ d => uptoBulk d + 1
  | .map entries => uptoBulkEntries entries + 1
  | .held _ => 1
def uptoBulkAll {H : Type} : List (DataW H) → Nat
  | [] => 0
  | d :: r => uptoBulk d + uptoBulkAll r
def uptoBulkEntries {H : Type} : List (Lit × DataW H) → Nat
  | [] => 0
  | x :: r => uptoBulkEntry x + uptoBulkEntries r
def uptoBulkEntry {H : Type} : Lit × DataW H → Nat
  | (.string bytes, d) => bytes.length + uptoBulk d + 1
  | (_, d) => uptoBulk d + 1
 end
def uptoSmall : (H : Type) → List (DataW H) → Bool := fun _ ds => decide (uptoBulkAll ds ≤ 1048576)
def OpenSpec.upto (s : _root_.Go.ChangeSpec) : _root_.Go.OpenSpec := { _root_.Go.OpenSpec.ofChange s with cond := some uptoSmall }

/-- 'palisadelaw17.StagePlays', WHERE WHAT IT READS IS OF BULK AT MOST 1048576: true; the input reads as it did. -/
def stagePlaysUptoRow : OpenClaim := { program := "yteghkhdpdeiocaagreatdoor", sum := "73eb251cd4d6d7c002d3767471f7fa8c5f64da8e44b8607a11b1344bda5d6a1c", func := "palisade/palisadelaw17.StagePlays", spec := "stagePlays", unfollowed := true, recurses := true, named := ["palisade/word.sizes", "palisade/entry.bits"], apart := false, laid := [("palisade/word.sizes", laid_palisade_word_sizes), ("palisade/entry.bits", laid_palisade_entry_bits)], narrowed := true }
def StagePlaysUptoSaid : Prop := stagePlaysUptoRow.holds Tryz.pinned (OpenSpec.upto stagePlaysSpec)

/-- 'palisadelaw17.StageWalks', WHERE WHAT IT READS IS OF BULK AT MOST 1048576: true; the input reads as it did. -/
def stageWalksUptoRow : OpenClaim := { program := "yteghkhdpdeiocaagreatdoor", sum := "73eb251cd4d6d7c002d3767471f7fa8c5f64da8e44b8607a11b1344bda5d6a1c", func := "palisade/palisadelaw17.StageWalks", spec := "stageWalks", unfollowed := true, recurses := true, named := ["palisade/word.sizes", "palisade/entry.bits"], apart := false, laid := [("palisade/word.sizes", laid_palisade_word_sizes), ("palisade/entry.bits", laid_palisade_entry_bits)], narrowed := true }
def StageWalksUptoSaid : Prop := stageWalksUptoRow.holds Tryz.pinned (OpenSpec.upto stageWalksSpec)

end Rows
end Go.Proofs.YteghkhdpdeiocaaGreatDoor
