/-
  DERIVED. GIVEN WITH THE SEED: THE CARDS: each row of YtkckobbedpccfaaGreatDoorRows.lean that lists a variable, with what it lists TIED to the program's text (the seventh form; the later family's looks); each row that meets fmt, with fmt's text TOLD by the authors' own Lean function (tested against real Go, not proved from fmt's source: count such statements apart). THE CARD IS WHAT COUNTS. Prove the row's statement (the work); the ties are given (YtkckobbedpccfaaGreatDoorTie.lean); close each card by the builder's one call (the guide's Derived/Test/ToyasCard.lean, 'card_holds'). Laid BY PROGRAM, IN A SANDBOX (cutbox-door.mjs). By AI agents, Wed Nov 11 2026. No macro, syntax, notation, axiom, sorry.
-/
import Derived.Test.YtkckobbedpccfaaGreatDoorRows
import GoSem.ClaimSeven
namespace Go.Proofs.YtkckobbedpccfaaGreatDoor
namespace Rows

/-- THE TIED CARD OF 'palisadelaw19.EmulateLikely'. -/
def emulateLikelyCard : Claim7 := { stood := { row := emulateLikelyRow, standIns := [], harness := (true, "e92449d3417a4a92f605b8d35eb4067863b0fa902fce73ba4170c40699e41473"), looks := false }, kinds := [], alts := [], laidByText := true, laidKinds := [.data], laidTests := true, laidLooks := .later }
def EmulateLikelyCardSaid : Prop := Claim7.holds Tryz.pinned (.plain (OpenSpec.ofChange emulateLikelySpec)) emulateLikelyCard

/-- THE SECOND FORM's CARD OF 'palisadelaw19.EmulateLikely'. -/
def emulateLikelyUptoCard : Claim7 := { stood := { row := emulateLikelyUptoRow, standIns := [], harness := (true, "e92449d3417a4a92f605b8d35eb4067863b0fa902fce73ba4170c40699e41473"), looks := false }, kinds := [], alts := [], laidByText := true, laidKinds := [.data], laidTests := true, laidLooks := .later }
def EmulateLikelyUptoCardSaid : Prop := Claim7.holds Tryz.pinned (.plain (OpenSpec.upto emulateLikelySpec)) emulateLikelyUptoCard
end Rows
end Go.Proofs.YtkckobbedpccfaaGreatDoor
