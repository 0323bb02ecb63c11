/-
  No cell of these rows narrows 'for every input' (looked for: loops, veiled, ifaces, maps, wideKeys, modest, calm, conditions, laid).
  DERIVED. THE GIVEN ROWS OF THIS SEAT. 4 by the template 'for every input the law returns true; each argument reads behind the call as it read before'; 0 by the template 'total and deterministic' (their statements: YtgiafngiledmbaaTotals.lean).
  GIVEN WITH THE SEED: the statements are not yours to turn. If you find one false, say at which input.
  Laid BY PROGRAM, IN A SANDBOX (cutbox-rows.mjs): the forced cells as the released guide's own fill.sh prints them over the translation ba53b4e4c803fa67… (all of the seat's roots in one cut). By AI agents, Wed Nov 11 2026. No macro, syntax, notation, axiom, sorry.
-/
import Derived.Test.YtgiafngiledmbaaChecked
import GoSem.Claim
import GoSem.ClaimJoined
import GoSem.ClaimMapViews
import Derived.JoinedTies
import Derived.KernelRfl
namespace Go.Proofs.Ytgiafngiledmbaa
/- THE CELL 'sum', in the pinned program and in every row, IS THE sha256 OF THE DUMP (.gsa) THAT YtgiafngiledmbaaProg.lean LOADS. Nothing in Lean hashes anything: it is a label: what it is worth is what the hold of that sum in a sandbox is worth. -/
noncomputable def Try.pinned : Pinned := { name := "ytgiafngiledmbaa", sum := "ba53b4e4c803fa6712a74b307d1ac20c6eda95ed9f95162650b92e4628a46463", checked := Try.checked }
namespace Rows
def none {H : Type} : Left H := { results := [], args := [] }

/-- 'palisadelaw21.VtimerPlays': WHATEVER THE INPUT: true; the input reads as it did. -/
def vtimerPlaysSpec : ChangeSpec := { name := "vtimerPlays", fn := fun _ => fun
  | [d] => { results := [.lit (.bool true)], args := [d] }
  | _ => none }
def vtimerPlaysRow : OpenClaim := { program := "ytgiafngiledmbaa", sum := "ba53b4e4c803fa6712a74b307d1ac20c6eda95ed9f95162650b92e4628a46463", func := "palisade/palisadelaw21.VtimerPlays", spec := "vtimerPlays", recurses := true, apart := false }
def VtimerPlaysSaid : Prop := vtimerPlaysRow.holds Try.pinned (OpenSpec.ofChange vtimerPlaysSpec)

/-- ITS FALSE NEIGHBOUR: 'it returns false'. Refute it at one input. -/
def vtimerPlaysWrong : ChangeSpec := { name := "vtimerPlays", fn := fun _ => fun
  | [d] => { results := [.lit (.bool false)], args := [d] }
  | _ => none }
def VtimerPlaysWrongFalsely : Prop := vtimerPlaysRow.holds Try.pinned (OpenSpec.ofChange vtimerPlaysWrong)

/-- 'palisadelaw21.VtimerNobody': WHATEVER THE INPUT: true; the input reads as it did. -/
def vtimerNobodySpec : ChangeSpec := { name := "vtimerNobody", fn := fun _ => fun
  | [d] => { results := [.lit (.bool true)], args := [d] }
  | _ => none }
def vtimerNobodyRow : OpenClaim := { program := "ytgiafngiledmbaa", sum := "ba53b4e4c803fa6712a74b307d1ac20c6eda95ed9f95162650b92e4628a46463", func := "palisade/palisadelaw21.VtimerNobody", spec := "vtimerNobody", recurses := true, apart := false }
def VtimerNobodySaid : Prop := vtimerNobodyRow.holds Try.pinned (OpenSpec.ofChange vtimerNobodySpec)

/-- ITS FALSE NEIGHBOUR: 'it returns false'. Refute it at one input. -/
def vtimerNobodyWrong : ChangeSpec := { name := "vtimerNobody", fn := fun _ => fun
  | [d] => { results := [.lit (.bool false)], args := [d] }
  | _ => none }
def VtimerNobodyWrongFalsely : Prop := vtimerNobodyRow.holds Try.pinned (OpenSpec.ofChange vtimerNobodyWrong)

/-- 'palisadelaw21.VtimerOnce': WHATEVER THE INPUT: true; the input reads as it did. -/
def vtimerOnceSpec : ChangeSpec := { name := "vtimerOnce", fn := fun _ => fun
  | [d1, d2, d3] => { results := [.lit (.bool true)], args := [d1, d2, d3] }
  | _ => none }
def vtimerOnceRow : OpenClaim := { program := "ytgiafngiledmbaa", sum := "ba53b4e4c803fa6712a74b307d1ac20c6eda95ed9f95162650b92e4628a46463", func := "palisade/palisadelaw21.VtimerOnce", spec := "vtimerOnce", recurses := true, apart := false }
def VtimerOnceSaid : Prop := vtimerOnceRow.holds Try.pinned (OpenSpec.ofChange vtimerOnceSpec)

/-- ITS FALSE NEIGHBOUR: 'it returns false'. Refute it at one input. -/
def vtimerOnceWrong : ChangeSpec := { name := "vtimerOnce", fn := fun _ => fun
  | [d1, d2, d3] => { results := [.lit (.bool false)], args := [d1, d2, d3] }
  | _ => none }
def VtimerOnceWrongFalsely : Prop := vtimerOnceRow.holds Try.pinned (OpenSpec.ofChange vtimerOnceWrong)

/-- 'palisadelaw21.VtimerApart': WHATEVER THE INPUT: true; the input reads as it did. -/
def vtimerApartSpec : ChangeSpec := { name := "vtimerApart", fn := fun _ => fun
  | [d1, d2] => { results := [.lit (.bool true)], args := [d1, d2] }
  | _ => none }
def vtimerApartRow : OpenClaim := { program := "ytgiafngiledmbaa", sum := "ba53b4e4c803fa6712a74b307d1ac20c6eda95ed9f95162650b92e4628a46463", func := "palisade/palisadelaw21.VtimerApart", spec := "vtimerApart", recurses := true, apart := false }
def VtimerApartSaid : Prop := vtimerApartRow.holds Try.pinned (OpenSpec.ofChange vtimerApartSpec)

/-- ITS FALSE NEIGHBOUR: 'it returns false'. Refute it at one input. -/
def vtimerApartWrong : ChangeSpec := { name := "vtimerApart", fn := fun _ => fun
  | [d1, d2] => { results := [.lit (.bool false)], args := [d1, d2] }
  | _ => none }
def VtimerApartWrongFalsely : Prop := vtimerApartRow.holds Try.pinned (OpenSpec.ofChange vtimerApartWrong)

/- THE SECOND FORM. 'bulk': how many values and letters a reading holds, each counted each time it is reached (what is shared counts as often as it is met; a slice's spare places count too). A statement '..UptoSaid' is the law's where the arguments, and the package variables that the reading takes, are together of bulk at most 1048576: NARROWER than '..Said'. Prove '..Said' where nothing that the law and all that it calls make is longer than what came in: it says more and counts as full. Else prove '..UptoSaid'. A law counts once. -/
mutual
def uptoBulk {H : Type} : DataW H → Nat
  | .lit (.string bytes) => bytes.length + 1
  | .lit _ => 1
  | .nil => 1
  | .ptr d => uptoBulk d + 1
  | .slice elems spare => uptoBulkAll elems + uptoBulkAll spare + 1
  | .agg parts => uptoBulkAll parts + 1
  | .iface _ d => uptoBulk d + 1
  | .map entries => uptoBulkEntries entries + 1
  | .held _ => 1
def uptoBulkAll {H : Type} : List (DataW H) → Nat
  | [] => 0
  | d :: r => uptoBulk d + uptoBulkAll r
def uptoBulkEntries {H : Type} : List (Lit × DataW H) → Nat
  | [] => 0
  | x :: r => uptoBulkEntry x + uptoBulkEntries r
def uptoBulkEntry {H : Type} : Lit × DataW H → Nat
  | (.string bytes, d) => bytes.length + uptoBulk d + 1
  | (_, d) => uptoBulk d + 1
 end
def uptoSmall : (H : Type) → List (DataW H) → Bool := fun _ ds => decide (uptoBulkAll ds ≤ 1048576)
def OpenSpec.upto (s : _root_.Go.ChangeSpec) : _root_.Go.OpenSpec := { _root_.Go.OpenSpec.ofChange s with cond := some uptoSmall }

/-- 'palisadelaw21.VtimerPlays', WHERE WHAT IT READS IS OF BULK AT MOST 1048576: true; the input reads as it did. -/
def vtimerPlaysUptoRow : OpenClaim := { program := "ytgiafngiledmbaa", sum := "ba53b4e4c803fa6712a74b307d1ac20c6eda95ed9f95162650b92e4628a46463", func := "palisade/palisadelaw21.VtimerPlays", spec := "vtimerPlays", recurses := true, apart := false, narrowed := true }
def VtimerPlaysUptoSaid : Prop := vtimerPlaysUptoRow.holds Try.pinned (OpenSpec.upto vtimerPlaysSpec)

/-- 'palisadelaw21.VtimerNobody', WHERE WHAT IT READS IS OF BULK AT MOST 1048576: true; the input reads as it did. -/
def vtimerNobodyUptoRow : OpenClaim := { program := "ytgiafngiledmbaa", sum := "ba53b4e4c803fa6712a74b307d1ac20c6eda95ed9f95162650b92e4628a46463", func := "palisade/palisadelaw21.VtimerNobody", spec := "vtimerNobody", recurses := true, apart := false, narrowed := true }
def VtimerNobodyUptoSaid : Prop := vtimerNobodyUptoRow.holds Try.pinned (OpenSpec.upto vtimerNobodySpec)

/-- 'palisadelaw21.VtimerOnce', WHERE WHAT IT READS IS OF BULK AT MOST 1048576: true; the input reads as it did. -/
def vtimerOnceUptoRow : OpenClaim := { program := "ytgiafngiledmbaa", sum := "ba53b4e4c803fa6712a74b307d1ac20c6eda95ed9f95162650b92e4628a46463", func := "palisade/palisadelaw21.VtimerOnce", spec := "vtimerOnce", recurses := true, apart := false, narrowed := true }
def VtimerOnceUptoSaid : Prop := vtimerOnceUptoRow.holds Try.pinned (OpenSpec.upto vtimerOnceSpec)

/-- 'palisadelaw21.VtimerApart', WHERE WHAT IT READS IS OF BULK AT MOST 1048576: true; the input reads as it did. -/
def vtimerApartUptoRow : OpenClaim := { program := "ytgiafngiledmbaa", sum := "ba53b4e4c803fa6712a74b307d1ac20c6eda95ed9f95162650b92e4628a46463", func := "palisade/palisadelaw21.VtimerApart", spec := "vtimerApart", recurses := true, apart := false, narrowed := true }
def VtimerApartUptoSaid : Prop := vtimerApartUptoRow.holds Try.pinned (OpenSpec.upto vtimerApartSpec)

end Rows
end Go.Proofs.Ytgiafngiledmbaa
