/-
  NARROWER THAN 'FOR EVERY INPUT', by the rows' own cells (each row's printed sentence says how): EntryPacks: laid · EntryUnpacks: laid · EntryBack: laid.
  DERIVED. THE GIVEN ROWS OF THIS SEAT. 3 by the template 'for every input the law returns true; each argument reads behind the call as it read before'; 0 by the template 'total and deterministic' (their statements: YtonmmfomlfbpnaaDoorTotals.lean).
  GIVEN WITH THE SEED: the statements are not yours to turn. If you find one false, say at which input.
  Laid BY PROGRAM, IN A SANDBOX (cutbox-rows.mjs): the forced cells as the released guide's own fill.sh prints them over the translation 9797d5a091288d51… (all of the seat's roots in one cut). By AI agents, Wed Nov 11 2026. No macro, syntax, notation, axiom, sorry.
-/
import Derived.Test.YtonmmfomlfbpnaaDoorChecked
import GoSem.Claim
import GoSem.ClaimJoined
import GoSem.ClaimMapViews
import Derived.JoinedTies
import Derived.KernelRfl
namespace Go.Proofs.YtonmmfomlfbpnaaDoor
/- THE CELL 'sum', in the pinned program and in every row, IS THE sha256 OF THE DUMP (.gsa) THAT YtonmmfomlfbpnaaDoorProg.lean LOADS. Nothing in Lean hashes anything: it is a label: what it is worth is what the hold of that sum in a sandbox is worth. -/
noncomputable def Tryd.pinned : Pinned := { name := "ytonmmfomlfbpnaadoor", sum := "9797d5a091288d518cd8ec42b3b12680fc09362f677a2fcf1648be1a4c5dd3a4", checked := Tryd.checked }
namespace Rows
def none {H : Type} : Left H := { results := [], args := [] }

/- WHAT THE LISTED PACKAGE-LEVEL VARIABLES READ AS WHEN THE CALL BEGINS. Each datum BY PROGRAM (the guide's laid-datum.mjs) off the statement by which the dump's own 'gosem.cut.vars' lays the variable. In a bare row this is a premise. The card (YtonmmfomlfbpnaaDoorCards.lean) ties it to the program's text. -/
def laid_palisade_entry_bits {H : Type} : DataW H := .agg [.lit (.int .u64 0), .lit (.int .u64 1), .lit (.int .u64 2), .lit (.int .u64 3), .lit (.int .u64 4), .lit (.int .u64 5), .lit (.int .u64 6)]

/-- 'palisadelaw05.EntryPacks': WHATEVER THE INPUT: true; the input reads as it did. -/
def entryPacksSpec : ChangeSpec := { name := "entryPacks", fn := fun _ => fun
  | [d1, d2, d3] => { results := [.lit (.bool true)], args := [d1, d2, d3] }
  | _ => none }
def entryPacksRow : OpenClaim := { program := "ytonmmfomlfbpnaadoor", sum := "9797d5a091288d518cd8ec42b3b12680fc09362f677a2fcf1648be1a4c5dd3a4", func := "palisade/palisadelaw05.EntryPacks", spec := "entryPacks", named := ["palisade/entry.bits"], apart := false, laid := [("palisade/entry.bits", laid_palisade_entry_bits)] }
def EntryPacksSaid : Prop := entryPacksRow.holds Tryd.pinned (OpenSpec.ofChange entryPacksSpec)

/-- ITS FALSE NEIGHBOUR: 'it returns false'. Refute it at one input. -/
def entryPacksWrong : ChangeSpec := { name := "entryPacks", fn := fun _ => fun
  | [d1, d2, d3] => { results := [.lit (.bool false)], args := [d1, d2, d3] }
  | _ => none }
def EntryPacksWrongFalsely : Prop := entryPacksRow.holds Tryd.pinned (OpenSpec.ofChange entryPacksWrong)

/-- 'palisadelaw05.EntryUnpacks': WHATEVER THE INPUT: true; the input reads as it did. -/
def entryUnpacksSpec : ChangeSpec := { name := "entryUnpacks", fn := fun _ => fun
  | [d1, d2, d3] => { results := [.lit (.bool true)], args := [d1, d2, d3] }
  | _ => none }
def entryUnpacksRow : OpenClaim := { program := "ytonmmfomlfbpnaadoor", sum := "9797d5a091288d518cd8ec42b3b12680fc09362f677a2fcf1648be1a4c5dd3a4", func := "palisade/palisadelaw05.EntryUnpacks", spec := "entryUnpacks", unfollowed := true, recurses := true, named := ["palisade/entry.bits"], apart := false, laid := [("palisade/entry.bits", laid_palisade_entry_bits)] }
def EntryUnpacksSaid : Prop := entryUnpacksRow.holds Tryd.pinned (OpenSpec.ofChange entryUnpacksSpec)

/-- ITS FALSE NEIGHBOUR: 'it returns false'. Refute it at one input. -/
def entryUnpacksWrong : ChangeSpec := { name := "entryUnpacks", fn := fun _ => fun
  | [d1, d2, d3] => { results := [.lit (.bool false)], args := [d1, d2, d3] }
  | _ => none }
def EntryUnpacksWrongFalsely : Prop := entryUnpacksRow.holds Tryd.pinned (OpenSpec.ofChange entryUnpacksWrong)

/-- 'palisadelaw05.EntryBack': WHATEVER THE INPUT: true; the input reads as it did. -/
def entryBackSpec : ChangeSpec := { name := "entryBack", fn := fun _ => fun
  | [d1, d2] => { results := [.lit (.bool true)], args := [d1, d2] }
  | _ => none }
def entryBackRow : OpenClaim := { program := "ytonmmfomlfbpnaadoor", sum := "9797d5a091288d518cd8ec42b3b12680fc09362f677a2fcf1648be1a4c5dd3a4", func := "palisade/palisadelaw05.EntryBack", spec := "entryBack", unfollowed := true, recurses := true, named := ["palisade/entry.bits"], apart := false, laid := [("palisade/entry.bits", laid_palisade_entry_bits)] }
def EntryBackSaid : Prop := entryBackRow.holds Tryd.pinned (OpenSpec.ofChange entryBackSpec)

/-- ITS FALSE NEIGHBOUR: 'it returns false'. Refute it at one input. -/
def entryBackWrong : ChangeSpec := { name := "entryBack", fn := fun _ => fun
  | [d1, d2] => { results := [.lit (.bool false)], args := [d1, d2] }
  | _ => none }
def EntryBackWrongFalsely : Prop := entryBackRow.holds Tryd.pinned (OpenSpec.ofChange entryBackWrong)

/- THE SECOND FORM. 'bulk': how many values and letters a reading holds, each counted each time it is reached (what is shared counts as often as it is met; a slice's spare places count too). A statement '..UptoSaid' is the law's where the arguments, and the package variables that the reading takes, are together of bulk at most 1048576: NARROWER than '..Said'. Prove '..Said' where nothing that the law and all that it calls make is longer than what came in: it says more and counts as full. Else prove '..UptoSaid'. A law counts once. -/
mutual
def uptoBulk {H : Type} : DataW H → Nat
  | .lit (.string bytes) => bytes.length + 1
  | .lit _ => 1
  | .nil => 1
  | .ptr d => uptoBulk d + 1
  | .slice elems spare => uptoBulkAll elems + uptoBulkAll spare + 1
  | .agg parts => uptoBulkAll parts + 1
  | .iface _ d => uptoBulk d + 1
  | .map entries => uptoBulkEntries entries + 1
  | .held _ => 1
def uptoBulkAll {H : Type} : List (DataW H) → Nat
  | [] => 0
  | d :: r => uptoBulk d + uptoBulkAll r
def uptoBulkEntries {H : Type} : List (Lit × DataW H) → Nat
  | [] => 0
  | x :: r => uptoBulkEntry x + uptoBulkEntries r
def uptoBulkEntry {H : Type} : Lit × DataW H → Nat
  | (.string bytes, d) => bytes.length + uptoBulk d + 1
  | (_, d) => uptoBulk d + 1
 end
def uptoSmall : (H : Type) → List (DataW H) → Bool := fun _ ds => decide (uptoBulkAll ds ≤ 1048576)
def OpenSpec.upto (s : _root_.Go.ChangeSpec) : _root_.Go.OpenSpec := { _root_.Go.OpenSpec.ofChange s with cond := some uptoSmall }

/-- 'palisadelaw05.EntryPacks', WHERE WHAT IT READS IS OF BULK AT MOST 1048576: true; the input reads as it did. -/
def entryPacksUptoRow : OpenClaim := { program := "ytonmmfomlfbpnaadoor", sum := "9797d5a091288d518cd8ec42b3b12680fc09362f677a2fcf1648be1a4c5dd3a4", func := "palisade/palisadelaw05.EntryPacks", spec := "entryPacks", named := ["palisade/entry.bits"], apart := false, laid := [("palisade/entry.bits", laid_palisade_entry_bits)], narrowed := true }
def EntryPacksUptoSaid : Prop := entryPacksUptoRow.holds Tryd.pinned (OpenSpec.upto entryPacksSpec)

/-- 'palisadelaw05.EntryUnpacks', WHERE WHAT IT READS IS OF BULK AT MOST 1048576: true; the input reads as it did. -/
def entryUnpacksUptoRow : OpenClaim := { program := "ytonmmfomlfbpnaadoor", sum := "9797d5a091288d518cd8ec42b3b12680fc09362f677a2fcf1648be1a4c5dd3a4", func := "palisade/palisadelaw05.EntryUnpacks", spec := "entryUnpacks", unfollowed := true, recurses := true, named := ["palisade/entry.bits"], apart := false, laid := [("palisade/entry.bits", laid_palisade_entry_bits)], narrowed := true }
def EntryUnpacksUptoSaid : Prop := entryUnpacksUptoRow.holds Tryd.pinned (OpenSpec.upto entryUnpacksSpec)

/-- 'palisadelaw05.EntryBack', WHERE WHAT IT READS IS OF BULK AT MOST 1048576: true; the input reads as it did. -/
def entryBackUptoRow : OpenClaim := { program := "ytonmmfomlfbpnaadoor", sum := "9797d5a091288d518cd8ec42b3b12680fc09362f677a2fcf1648be1a4c5dd3a4", func := "palisade/palisadelaw05.EntryBack", spec := "entryBack", unfollowed := true, recurses := true, named := ["palisade/entry.bits"], apart := false, laid := [("palisade/entry.bits", laid_palisade_entry_bits)], narrowed := true }
def EntryBackUptoSaid : Prop := entryBackUptoRow.holds Tryd.pinned (OpenSpec.upto entryBackSpec)

end Rows
end Go.Proofs.YtonmmfomlfbpnaaDoor
