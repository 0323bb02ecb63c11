/-
  No cell of these rows narrows 'for every input' (looked for: loops, veiled, ifaces, maps, wideKeys, modest, calm, conditions, laid).
  DERIVED. THE GIVEN ROWS OF THIS SEAT. 4 by the template 'for every input the law returns true; each argument reads behind the call as it read before'; 0 by the template 'total and deterministic' (their statements: YtcnoonhcofnghaaTotals.lean).
  GIVEN WITH THE SEED: the statements are not yours to turn. If you find one false, say at which input.
  Laid BY PROGRAM, IN A SANDBOX (cutbox-rows.mjs): the forced cells as the released guide's own fill.sh prints them over the translation 5540e6a768a19566… (all of the seat's roots in one cut). By AI agents, Wed Nov 11 2026. No macro, syntax, notation, axiom, sorry.
-/
import Derived.Test.YtcnoonhcofnghaaChecked
import GoSem.Claim
import GoSem.ClaimJoined
import GoSem.ClaimMapViews
import Derived.JoinedTies
import Derived.KernelRfl
namespace Go.Proofs.Ytcnoonhcofnghaa
/- THE CELL 'sum', in the pinned program and in every row, IS THE sha256 OF THE DUMP (.gsa) THAT YtcnoonhcofnghaaProg.lean LOADS. Nothing in Lean hashes anything: it is a label: what it is worth is what the hold of that sum in a sandbox is worth. -/
noncomputable def Try.pinned : Pinned := { name := "ytcnoonhcofnghaa", sum := "5540e6a768a1956671c4f2d9c38dba313a007246f6d54d23fc194cf425389cd4", checked := Try.checked }
namespace Rows
def none {H : Type} : Left H := { results := [], args := [] }

/-- 'palisadelaw16.FramesPlay': WHATEVER THE INPUT: true; the input reads as it did. -/
def framesPlaySpec : ChangeSpec := { name := "framesPlay", fn := fun _ => fun
  | [d1, d2, d3] => { results := [.lit (.bool true)], args := [d1, d2, d3] }
  | _ => none }
def framesPlayRow : OpenClaim := { program := "ytcnoonhcofnghaa", sum := "5540e6a768a1956671c4f2d9c38dba313a007246f6d54d23fc194cf425389cd4", func := "palisade/palisadelaw16.FramesPlay", spec := "framesPlay", apart := false }
def FramesPlaySaid : Prop := framesPlayRow.holds Try.pinned (OpenSpec.ofChange framesPlaySpec)

/-- ITS FALSE NEIGHBOUR: 'it returns false'. Refute it at one input. -/
def framesPlayWrong : ChangeSpec := { name := "framesPlay", fn := fun _ => fun
  | [d1, d2, d3] => { results := [.lit (.bool false)], args := [d1, d2, d3] }
  | _ => none }
def FramesPlayWrongFalsely : Prop := framesPlayRow.holds Try.pinned (OpenSpec.ofChange framesPlayWrong)

/-- 'palisadelaw16.FramesNobody': WHATEVER THE INPUT: true; the input reads as it did. -/
def framesNobodySpec : ChangeSpec := { name := "framesNobody", fn := fun _ => fun
  | [d] => { results := [.lit (.bool true)], args := [d] }
  | _ => none }
def framesNobodyRow : OpenClaim := { program := "ytcnoonhcofnghaa", sum := "5540e6a768a1956671c4f2d9c38dba313a007246f6d54d23fc194cf425389cd4", func := "palisade/palisadelaw16.FramesNobody", spec := "framesNobody", apart := false }
def FramesNobodySaid : Prop := framesNobodyRow.holds Try.pinned (OpenSpec.ofChange framesNobodySpec)

/-- ITS FALSE NEIGHBOUR: 'it returns false'. Refute it at one input. -/
def framesNobodyWrong : ChangeSpec := { name := "framesNobody", fn := fun _ => fun
  | [d] => { results := [.lit (.bool false)], args := [d] }
  | _ => none }
def FramesNobodyWrongFalsely : Prop := framesNobodyRow.holds Try.pinned (OpenSpec.ofChange framesNobodyWrong)

/-- 'palisadelaw16.FramesWhole': WHATEVER THE INPUT: true; the input reads as it did. -/
def framesWholeSpec : ChangeSpec := { name := "framesWhole", fn := fun _ => fun
  | [d1, d2, d3] => { results := [.lit (.bool true)], args := [d1, d2, d3] }
  | _ => none }
def framesWholeRow : OpenClaim := { program := "ytcnoonhcofnghaa", sum := "5540e6a768a1956671c4f2d9c38dba313a007246f6d54d23fc194cf425389cd4", func := "palisade/palisadelaw16.FramesWhole", spec := "framesWhole", apart := false }
def FramesWholeSaid : Prop := framesWholeRow.holds Try.pinned (OpenSpec.ofChange framesWholeSpec)

/-- ITS FALSE NEIGHBOUR: 'it returns false'. Refute it at one input. -/
def framesWholeWrong : ChangeSpec := { name := "framesWhole", fn := fun _ => fun
  | [d1, d2, d3] => { results := [.lit (.bool false)], args := [d1, d2, d3] }
  | _ => none }
def FramesWholeWrongFalsely : Prop := framesWholeRow.holds Try.pinned (OpenSpec.ofChange framesWholeWrong)

/-- 'palisadelaw16.FramesQuota': WHATEVER THE INPUT: true; the input reads as it did. -/
def framesQuotaSpec : ChangeSpec := { name := "framesQuota", fn := fun _ => fun
  | [d1, d2] => { results := [.lit (.bool true)], args := [d1, d2] }
  | _ => none }
def framesQuotaRow : OpenClaim := { program := "ytcnoonhcofnghaa", sum := "5540e6a768a1956671c4f2d9c38dba313a007246f6d54d23fc194cf425389cd4", func := "palisade/palisadelaw16.FramesQuota", spec := "framesQuota", apart := false }
def FramesQuotaSaid : Prop := framesQuotaRow.holds Try.pinned (OpenSpec.ofChange framesQuotaSpec)

/-- ITS FALSE NEIGHBOUR: 'it returns false'. Refute it at one input. -/
def framesQuotaWrong : ChangeSpec := { name := "framesQuota", fn := fun _ => fun
  | [d1, d2] => { results := [.lit (.bool false)], args := [d1, d2] }
  | _ => none }
def FramesQuotaWrongFalsely : Prop := framesQuotaRow.holds Try.pinned (OpenSpec.ofChange framesQuotaWrong)

/- THE SECOND FORM. 'bulk': how many values and letters a reading holds, each counted each time it is reached (what is shared counts as often as it is met; a slice's spare places count too). A statement '..UptoSaid' is the law's where the arguments, and the package variables that the reading takes, are together of bulk at most 1048576: NARROWER than '..Said'. Prove '..Said' where nothing that the law and all that it calls make is longer than what came in: it says more and counts as full. Else prove '..UptoSaid'. A law counts once. -/
mutual
def uptoBulk {H : Type} : DataW H → Nat
  | .lit (.string bytes) => bytes.length + 1
  | .lit _ => 1
  | .nil => 1
  | .ptr d => uptoBulk d + 1
  | .slice elems spare => uptoBulkAll elems + uptoBulkAll spare + 1
  | .agg parts => uptoBulkAll parts + 1
  | .iface _ d => uptoBulk d + 1
  | .map entries => uptoBulkEntries entries + 1
  | .held _ => 1
def uptoBulkAll {H : Type} : List (DataW H) → Nat
  | [] => 0
  | d :: r => uptoBulk d + uptoBulkAll r
def uptoBulkEntries {H : Type} : List (Lit × DataW H) → Nat
  | [] => 0
  | x :: r => uptoBulkEntry x + uptoBulkEntries r
def uptoBulkEntry {H : Type} : Lit × DataW H → Nat
  | (.string bytes, d) => bytes.length + uptoBulk d + 1
  | (_, d) => uptoBulk d + 1
 end
def uptoSmall : (H : Type) → List (DataW H) → Bool := fun _ ds => decide (uptoBulkAll ds ≤ 1048576)
def OpenSpec.upto (s : _root_.Go.ChangeSpec) : _root_.Go.OpenSpec := { _root_.Go.OpenSpec.ofChange s with cond := some uptoSmall }

/-- 'palisadelaw16.FramesPlay', WHERE WHAT IT READS IS OF BULK AT MOST 1048576: true; the input reads as it did. -/
def framesPlayUptoRow : OpenClaim := { program := "ytcnoonhcofnghaa", sum := "5540e6a768a1956671c4f2d9c38dba313a007246f6d54d23fc194cf425389cd4", func := "palisade/palisadelaw16.FramesPlay", spec := "framesPlay", apart := false, narrowed := true }
def FramesPlayUptoSaid : Prop := framesPlayUptoRow.holds Try.pinned (OpenSpec.upto framesPlaySpec)

/-- 'palisadelaw16.FramesNobody', WHERE WHAT IT READS IS OF BULK AT MOST 1048576: true; the input reads as it did. -/
def framesNobodyUptoRow : OpenClaim := { program := "ytcnoonhcofnghaa", sum := "5540e6a768a1956671c4f2d9c38dba313a007246f6d54d23fc194cf425389cd4", func := "palisade/palisadelaw16.FramesNobody", spec := "framesNobody", apart := false, narrowed := true }
def FramesNobodyUptoSaid : Prop := framesNobodyUptoRow.holds Try.pinned (OpenSpec.upto framesNobodySpec)

/-- 'palisadelaw16.FramesWhole', WHERE WHAT IT READS IS OF BULK AT MOST 1048576: true; the input reads as it did. -/
def framesWholeUptoRow : OpenClaim := { program := "ytcnoonhcofnghaa", sum := "5540e6a768a1956671c4f2d9c38dba313a007246f6d54d23fc194cf425389cd4", func := "palisade/palisadelaw16.FramesWhole", spec := "framesWhole", apart := false, narrowed := true }
def FramesWholeUptoSaid : Prop := framesWholeUptoRow.holds Try.pinned (OpenSpec.upto framesWholeSpec)

/-- 'palisadelaw16.FramesQuota', WHERE WHAT IT READS IS OF BULK AT MOST 1048576: true; the input reads as it did. -/
def framesQuotaUptoRow : OpenClaim := { program := "ytcnoonhcofnghaa", sum := "5540e6a768a1956671c4f2d9c38dba313a007246f6d54d23fc194cf425389cd4", func := "palisade/palisadelaw16.FramesQuota", spec := "framesQuota", apart := false, narrowed := true }
def FramesQuotaUptoSaid : Prop := framesQuotaUptoRow.holds Try.pinned (OpenSpec.upto framesQuotaSpec)

end Rows
end Go.Proofs.Ytcnoonhcofnghaa
