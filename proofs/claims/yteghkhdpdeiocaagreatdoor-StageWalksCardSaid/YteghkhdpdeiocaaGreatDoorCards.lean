/-
  DERIVED. GIVEN WITH THE SEED: THE CARDS: each row of YteghkhdpdeiocaaGreatDoorRows.lean that lists a variable, with what it lists TIED to the program's text (the seventh form; the later family's looks); each row that meets fmt, with fmt's text TOLD by the authors' own Lean function (tested against real Go, not proved from fmt's source: count such statements apart). THE CARD IS WHAT COUNTS. Prove the row's statement (the work); the ties are given (YteghkhdpdeiocaaGreatDoorTie.lean); close each card by the builder's one call (the guide's Derived/Test/ToyasCard.lean, 'card_holds'). Laid BY PROGRAM, IN A SANDBOX (cutbox-door.mjs). By AI agents, Wed Nov 11 2026. No macro, syntax, notation, axiom, sorry.
-/
import Derived.Test.YteghkhdpdeiocaaGreatDoorRows
import GoSem.ClaimSeven
namespace Go.Proofs.YteghkhdpdeiocaaGreatDoor
namespace Rows

/-- THE TIED CARD OF 'palisadelaw17.StagePlays'. -/
def stagePlaysCard : Claim7 := { stood := { row := stagePlaysRow, standIns := [], harness := (true, "000beb9d1c0ab96b997f3f38c8234474a5765ef382d83b3491efe289046ae12d"), looks := false }, kinds := [], alts := [], laidByText := true, laidKinds := [.data, .data], laidTests := true, laidLooks := .later }
def StagePlaysCardSaid : Prop := Claim7.holds Tryz.pinned (.plain (OpenSpec.ofChange stagePlaysSpec)) stagePlaysCard

/-- THE TIED CARD OF 'palisadelaw17.StageWalks'. -/
def stageWalksCard : Claim7 := { stood := { row := stageWalksRow, standIns := [], harness := (true, "000beb9d1c0ab96b997f3f38c8234474a5765ef382d83b3491efe289046ae12d"), looks := false }, kinds := [], alts := [], laidByText := true, laidKinds := [.data, .data], laidTests := true, laidLooks := .later }
def StageWalksCardSaid : Prop := Claim7.holds Tryz.pinned (.plain (OpenSpec.ofChange stageWalksSpec)) stageWalksCard

/-- THE SECOND FORM's CARD OF 'palisadelaw17.StagePlays'. -/
def stagePlaysUptoCard : Claim7 := { stood := { row := stagePlaysUptoRow, standIns := [], harness := (true, "000beb9d1c0ab96b997f3f38c8234474a5765ef382d83b3491efe289046ae12d"), looks := false }, kinds := [], alts := [], laidByText := true, laidKinds := [.data, .data], laidTests := true, laidLooks := .later }
def StagePlaysUptoCardSaid : Prop := Claim7.holds Tryz.pinned (.plain (OpenSpec.upto stagePlaysSpec)) stagePlaysUptoCard

/-- THE SECOND FORM's CARD OF 'palisadelaw17.StageWalks'. -/
def stageWalksUptoCard : Claim7 := { stood := { row := stageWalksUptoRow, standIns := [], harness := (true, "000beb9d1c0ab96b997f3f38c8234474a5765ef382d83b3491efe289046ae12d"), looks := false }, kinds := [], alts := [], laidByText := true, laidKinds := [.data, .data], laidTests := true, laidLooks := .later }
def StageWalksUptoCardSaid : Prop := Claim7.holds Tryz.pinned (.plain (OpenSpec.upto stageWalksSpec)) stageWalksUptoCard
end Rows
end Go.Proofs.YteghkhdpdeiocaaGreatDoor
