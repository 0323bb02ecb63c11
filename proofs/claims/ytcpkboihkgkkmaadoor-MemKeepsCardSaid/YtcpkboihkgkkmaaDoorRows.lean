/-
  NARROWER THAN 'FOR EVERY INPUT', by the rows' own cells (each row's printed sentence says how): MemPlays: laid · MemNobody: laid · MemKeeps: laid · MemApart: laid · MemEnds: laid.
  DERIVED. THE GIVEN ROWS OF THIS SEAT. 5 by the template 'for every input the law returns true; each argument reads behind the call as it read before'; 0 by the template 'total and deterministic' (their statements: YtcpkboihkgkkmaaDoorTotals.lean).
  GIVEN WITH THE SEED: the statements are not yours to turn. If you find one false, say at which input.
  Laid BY PROGRAM, IN A SANDBOX (cutbox-rows.mjs): the forced cells as the released guide's own fill.sh prints them over the translation fd27fc958fbfdd5e… (all of the seat's roots in one cut). By AI agents, Wed Nov 11 2026. No macro, syntax, notation, axiom, sorry.
-/
import Derived.Test.YtcpkboihkgkkmaaDoorChecked
import GoSem.Claim
import GoSem.ClaimJoined
import GoSem.ClaimMapViews
import Derived.JoinedTies
import Derived.KernelRfl
namespace Go.Proofs.YtcpkboihkgkkmaaDoor
/- THE CELL 'sum', in the pinned program and in every row, IS THE sha256 OF THE DUMP (.gsa) THAT YtcpkboihkgkkmaaDoorProg.lean LOADS. Nothing in Lean hashes anything: it is a label: what it is worth is what the hold of that sum in a sandbox is worth. -/
noncomputable def Tryd.pinned : Pinned := { name := "ytcpkboihkgkkmaadoor", sum := "fd27fc958fbfdd5e0281802208a591ca5a19e8ffc03ca9e6e8f6541f3edebba9", checked := Tryd.checked }
namespace Rows
def none {H : Type} : Left H := { results := [], args := [] }

/- WHAT THE LISTED PACKAGE-LEVEL VARIABLES READ AS WHEN THE CALL BEGINS. Each datum BY PROGRAM (the guide's laid-datum.mjs) off the statement by which the dump's own 'gosem.cut.vars' lays the variable. In a bare row this is a premise. The card (YtcpkboihkgkkmaaDoorCards.lean) ties it to the program's text. -/
def laid_palisade_word_sizes {H : Type} : DataW H := .agg [.agg [.lit (.int .i64 1), .lit (.int .i64 0)], .agg [.lit (.int .i64 4), .lit (.int .i64 32)], .agg [.lit (.int .i64 8), .lit (.int .i64 0)]]

/-- 'palisadelaw04.MemPlays': WHATEVER THE INPUT: true; the input reads as it did. -/
def memPlaysSpec : ChangeSpec := { name := "memPlays", fn := fun _ => fun
  | [d1, d2] => { results := [.lit (.bool true)], args := [d1, d2] }
  | _ => none }
def memPlaysRow : OpenClaim := { program := "ytcpkboihkgkkmaadoor", sum := "fd27fc958fbfdd5e0281802208a591ca5a19e8ffc03ca9e6e8f6541f3edebba9", func := "palisade/palisadelaw04.MemPlays", spec := "memPlays", unfollowed := true, recurses := true, named := ["palisade/word.sizes"], apart := false, laid := [("palisade/word.sizes", laid_palisade_word_sizes)] }
def MemPlaysSaid : Prop := memPlaysRow.holds Tryd.pinned (OpenSpec.ofChange memPlaysSpec)

/-- ITS FALSE NEIGHBOUR: 'it returns false'. Refute it at one input. -/
def memPlaysWrong : ChangeSpec := { name := "memPlays", fn := fun _ => fun
  | [d1, d2] => { results := [.lit (.bool false)], args := [d1, d2] }
  | _ => none }
def MemPlaysWrongFalsely : Prop := memPlaysRow.holds Tryd.pinned (OpenSpec.ofChange memPlaysWrong)

/-- 'palisadelaw04.MemNobody': WHATEVER THE INPUT: true; the input reads as it did. -/
def memNobodySpec : ChangeSpec := { name := "memNobody", fn := fun _ => fun
  | [d] => { results := [.lit (.bool true)], args := [d] }
  | _ => none }
def memNobodyRow : OpenClaim := { program := "ytcpkboihkgkkmaadoor", sum := "fd27fc958fbfdd5e0281802208a591ca5a19e8ffc03ca9e6e8f6541f3edebba9", func := "palisade/palisadelaw04.MemNobody", spec := "memNobody", unfollowed := true, recurses := true, named := ["palisade/word.sizes"], apart := false, laid := [("palisade/word.sizes", laid_palisade_word_sizes)] }
def MemNobodySaid : Prop := memNobodyRow.holds Tryd.pinned (OpenSpec.ofChange memNobodySpec)

/-- ITS FALSE NEIGHBOUR: 'it returns false'. Refute it at one input. -/
def memNobodyWrong : ChangeSpec := { name := "memNobody", fn := fun _ => fun
  | [d] => { results := [.lit (.bool false)], args := [d] }
  | _ => none }
def MemNobodyWrongFalsely : Prop := memNobodyRow.holds Tryd.pinned (OpenSpec.ofChange memNobodyWrong)

/-- 'palisadelaw04.MemKeeps': WHATEVER THE INPUT: true; the input reads as it did. -/
def memKeepsSpec : ChangeSpec := { name := "memKeeps", fn := fun _ => fun
  | [d1, d2, d3] => { results := [.lit (.bool true)], args := [d1, d2, d3] }
  | _ => none }
def memKeepsRow : OpenClaim := { program := "ytcpkboihkgkkmaadoor", sum := "fd27fc958fbfdd5e0281802208a591ca5a19e8ffc03ca9e6e8f6541f3edebba9", func := "palisade/palisadelaw04.MemKeeps", spec := "memKeeps", unfollowed := true, recurses := true, named := ["palisade/word.sizes"], apart := false, laid := [("palisade/word.sizes", laid_palisade_word_sizes)] }
def MemKeepsSaid : Prop := memKeepsRow.holds Tryd.pinned (OpenSpec.ofChange memKeepsSpec)

/-- ITS FALSE NEIGHBOUR: 'it returns false'. Refute it at one input. -/
def memKeepsWrong : ChangeSpec := { name := "memKeeps", fn := fun _ => fun
  | [d1, d2, d3] => { results := [.lit (.bool false)], args := [d1, d2, d3] }
  | _ => none }
def MemKeepsWrongFalsely : Prop := memKeepsRow.holds Tryd.pinned (OpenSpec.ofChange memKeepsWrong)

/-- 'palisadelaw04.MemApart': WHATEVER THE INPUT: true; the input reads as it did. -/
def memApartSpec : ChangeSpec := { name := "memApart", fn := fun _ => fun
  | [d1, d2, d3] => { results := [.lit (.bool true)], args := [d1, d2, d3] }
  | _ => none }
def memApartRow : OpenClaim := { program := "ytcpkboihkgkkmaadoor", sum := "fd27fc958fbfdd5e0281802208a591ca5a19e8ffc03ca9e6e8f6541f3edebba9", func := "palisade/palisadelaw04.MemApart", spec := "memApart", unfollowed := true, recurses := true, named := ["palisade/word.sizes"], apart := false, laid := [("palisade/word.sizes", laid_palisade_word_sizes)] }
def MemApartSaid : Prop := memApartRow.holds Tryd.pinned (OpenSpec.ofChange memApartSpec)

/-- ITS FALSE NEIGHBOUR: 'it returns false'. Refute it at one input. -/
def memApartWrong : ChangeSpec := { name := "memApart", fn := fun _ => fun
  | [d1, d2, d3] => { results := [.lit (.bool false)], args := [d1, d2, d3] }
  | _ => none }
def MemApartWrongFalsely : Prop := memApartRow.holds Tryd.pinned (OpenSpec.ofChange memApartWrong)

/-- 'palisadelaw04.MemEnds': WHATEVER THE INPUT: true; the input reads as it did. -/
def memEndsSpec : ChangeSpec := { name := "memEnds", fn := fun _ => fun
  | [d1, d2] => { results := [.lit (.bool true)], args := [d1, d2] }
  | _ => none }
def memEndsRow : OpenClaim := { program := "ytcpkboihkgkkmaadoor", sum := "fd27fc958fbfdd5e0281802208a591ca5a19e8ffc03ca9e6e8f6541f3edebba9", func := "palisade/palisadelaw04.MemEnds", spec := "memEnds", unfollowed := true, recurses := true, named := ["palisade/word.sizes"], apart := false, laid := [("palisade/word.sizes", laid_palisade_word_sizes)] }
def MemEndsSaid : Prop := memEndsRow.holds Tryd.pinned (OpenSpec.ofChange memEndsSpec)

/-- ITS FALSE NEIGHBOUR: 'it returns false'. Refute it at one input. -/
def memEndsWrong : ChangeSpec := { name := "memEnds", fn := fun _ => fun
  | [d1, d2] => { results := [.lit (.bool false)], args := [d1, d2] }
  | _ => none }
def MemEndsWrongFalsely : Prop := memEndsRow.holds Tryd.pinned (OpenSpec.ofChange memEndsWrong)

/- THE SECOND FORM. 'bulk': how many values and letters a reading holds, each counted each time it is reached (what is shared counts as often as it is met; a slice's spare places count too). A statement '..UptoSaid' is the law's where the arguments, and the package variables that the reading takes, are together of bulk at most 1048576: NARROWER than '..Said'. Prove '..Said' where nothing that the law and all that it calls make is longer than what came in: it says more and counts as full. Else prove '..UptoSaid'. A law counts once. -/
mutual
def uptoBulk {H : Type} : DataW H → Nat
  | .lit (.string bytes) => bytes.length + 1
  | .lit _ => 1
  | .nil => 1
  | .ptr d => uptoBulk d + 1
  | .slice elems spare => uptoBulkAll elems + uptoBulkAll spare + 1
  | .agg parts => uptoBulkAll parts + 1
  | .iface _ d => uptoBulk d + 1
  | .map entries => uptoBulkEntries entries + 1
  | .held _ => 1
def uptoBulkAll {H : Type} : List (DataW H) → Nat
  | [] => 0
  | d :: r => uptoBulk d + uptoBulkAll r
def uptoBulkEntries {H : Type} : List (Lit × DataW H) → Nat
  | [] => 0
  | x :: r => uptoBulkEntry x + uptoBulkEntries r
def uptoBulkEntry {H : Type} : Lit × DataW H → Nat
  | (.string bytes, d) => bytes.length + uptoBulk d + 1
  | (_, d) => uptoBulk d + 1
 end
def uptoSmall : (H : Type) → List (DataW H) → Bool := fun _ ds => decide (uptoBulkAll ds ≤ 1048576)
def OpenSpec.upto (s : _root_.Go.ChangeSpec) : _root_.Go.OpenSpec := { _root_.Go.OpenSpec.ofChange s with cond := some uptoSmall }

/-- 'palisadelaw04.MemPlays', WHERE WHAT IT READS IS OF BULK AT MOST 1048576: true; the input reads as it did. -/
def memPlaysUptoRow : OpenClaim := { program := "ytcpkboihkgkkmaadoor", sum := "fd27fc958fbfdd5e0281802208a591ca5a19e8ffc03ca9e6e8f6541f3edebba9", func := "palisade/palisadelaw04.MemPlays", spec := "memPlays", unfollowed := true, recurses := true, named := ["palisade/word.sizes"], apart := false, laid := [("palisade/word.sizes", laid_palisade_word_sizes)], narrowed := true }
def MemPlaysUptoSaid : Prop := memPlaysUptoRow.holds Tryd.pinned (OpenSpec.upto memPlaysSpec)

/-- 'palisadelaw04.MemNobody', WHERE WHAT IT READS IS OF BULK AT MOST 1048576: true; the input reads as it did. -/
def memNobodyUptoRow : OpenClaim := { program := "ytcpkboihkgkkmaadoor", sum := "fd27fc958fbfdd5e0281802208a591ca5a19e8ffc03ca9e6e8f6541f3edebba9", func := "palisade/palisadelaw04.MemNobody", spec := "memNobody", unfollowed := true, recurses := true, named := ["palisade/word.sizes"], apart := false, laid := [("palisade/word.sizes", laid_palisade_word_sizes)], narrowed := true }
def MemNobodyUptoSaid : Prop := memNobodyUptoRow.holds Tryd.pinned (OpenSpec.upto memNobodySpec)

/-- 'palisadelaw04.MemKeeps', WHERE WHAT IT READS IS OF BULK AT MOST 1048576: true; the input reads as it did. -/
def memKeepsUptoRow : OpenClaim := { program := "ytcpkboihkgkkmaadoor", sum := "fd27fc958fbfdd5e0281802208a591ca5a19e8ffc03ca9e6e8f6541f3edebba9", func := "palisade/palisadelaw04.MemKeeps", spec := "memKeeps", unfollowed := true, recurses := true, named := ["palisade/word.sizes"], apart := false, laid := [("palisade/word.sizes", laid_palisade_word_sizes)], narrowed := true }
def MemKeepsUptoSaid : Prop := memKeepsUptoRow.holds Tryd.pinned (OpenSpec.upto memKeepsSpec)

/-- 'palisadelaw04.MemApart', WHERE WHAT IT READS IS OF BULK AT MOST 1048576: true; the input reads as it did. -/
def memApartUptoRow : OpenClaim := { program := "ytcpkboihkgkkmaadoor", sum := "fd27fc958fbfdd5e0281802208a591ca5a19e8ffc03ca9e6e8f6541f3edebba9", func := "palisade/palisadelaw04.MemApart", spec := "memApart", unfollowed := true, recurses := true, named := ["palisade/word.sizes"], apart := false, laid := [("palisade/word.sizes", laid_palisade_word_sizes)], narrowed := true }
def MemApartUptoSaid : Prop := memApartUptoRow.holds Tryd.pinned (OpenSpec.upto memApartSpec)

/-- 'palisadelaw04.MemEnds', WHERE WHAT IT READS IS OF BULK AT MOST 1048576: true; the input reads as it did. -/
def memEndsUptoRow : OpenClaim := { program := "ytcpkboihkgkkmaadoor", sum := "fd27fc958fbfdd5e0281802208a591ca5a19e8ffc03ca9e6e8f6541f3edebba9", func := "palisade/palisadelaw04.MemEnds", spec := "memEnds", unfollowed := true, recurses := true, named := ["palisade/word.sizes"], apart := false, laid := [("palisade/word.sizes", laid_palisade_word_sizes)], narrowed := true }
def MemEndsUptoSaid : Prop := memEndsUptoRow.holds Tryd.pinned (OpenSpec.upto memEndsSpec)

end Rows
end Go.Proofs.YtcpkboihkgkkmaaDoor
