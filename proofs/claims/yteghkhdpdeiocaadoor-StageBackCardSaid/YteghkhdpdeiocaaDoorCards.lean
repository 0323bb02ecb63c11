/-
  DERIVED. GIVEN WITH THE SEED: THE CARDS: each row of YteghkhdpdeiocaaDoorRows.lean that lists a variable, with what it lists TIED to the program's text (the seventh form; the later family's looks); each row that meets fmt, with fmt's text TOLD by the authors' own Lean function (tested against real Go, not proved from fmt's source: count such statements apart). THE CARD IS WHAT COUNTS. Prove the row's statement (the work); the ties are given (YteghkhdpdeiocaaDoorTie.lean); close each card by the builder's one call (the guide's Derived/Test/ToyasCard.lean, 'card_holds'). Laid BY PROGRAM, IN A SANDBOX (cutbox-door.mjs). By AI agents, Wed Nov 11 2026. No macro, syntax, notation, axiom, sorry.
-/
import Derived.Test.YteghkhdpdeiocaaDoorRows
import GoSem.ClaimSeven
namespace Go.Proofs.YteghkhdpdeiocaaDoor
namespace Rows

/-- THE TIED CARD OF 'palisadelaw17.StageNobody'. -/
def stageNobodyCard : Claim7 := { stood := { row := stageNobodyRow, standIns := [], harness := (true, "a3fd8600e033a32bdf92bf8cabd8a577be1260234d7d96473867d52ba8dadaad"), looks := false }, kinds := [], alts := [], laidByText := true, laidKinds := [.data, .data], laidTests := true, laidLooks := .later }
def StageNobodyCardSaid : Prop := Claim7.holds Tryd.pinned (.plain (OpenSpec.ofChange stageNobodySpec)) stageNobodyCard

/-- THE TIED CARD OF 'palisadelaw17.StageBack'. -/
def stageBackCard : Claim7 := { stood := { row := stageBackRow, standIns := [], harness := (true, "a3fd8600e033a32bdf92bf8cabd8a577be1260234d7d96473867d52ba8dadaad"), looks := false }, kinds := [], alts := [], laidByText := true, laidKinds := [.data, .data], laidTests := true, laidLooks := .later }
def StageBackCardSaid : Prop := Claim7.holds Tryd.pinned (.plain (OpenSpec.ofChange stageBackSpec)) stageBackCard

/-- THE TIED CARD OF 'palisadelaw17.StageRights'. -/
def stageRightsCard : Claim7 := { stood := { row := stageRightsRow, standIns := [], harness := (true, "a3fd8600e033a32bdf92bf8cabd8a577be1260234d7d96473867d52ba8dadaad"), looks := false }, kinds := [], alts := [], laidByText := true, laidKinds := [.data, .data], laidTests := true, laidLooks := .later }
def StageRightsCardSaid : Prop := Claim7.holds Tryd.pinned (.plain (OpenSpec.ofChange stageRightsSpec)) stageRightsCard

/-- THE SECOND FORM's CARD OF 'palisadelaw17.StageNobody'. -/
def stageNobodyUptoCard : Claim7 := { stood := { row := stageNobodyUptoRow, standIns := [], harness := (true, "a3fd8600e033a32bdf92bf8cabd8a577be1260234d7d96473867d52ba8dadaad"), looks := false }, kinds := [], alts := [], laidByText := true, laidKinds := [.data, .data], laidTests := true, laidLooks := .later }
def StageNobodyUptoCardSaid : Prop := Claim7.holds Tryd.pinned (.plain (OpenSpec.upto stageNobodySpec)) stageNobodyUptoCard

/-- THE SECOND FORM's CARD OF 'palisadelaw17.StageBack'. -/
def stageBackUptoCard : Claim7 := { stood := { row := stageBackUptoRow, standIns := [], harness := (true, "a3fd8600e033a32bdf92bf8cabd8a577be1260234d7d96473867d52ba8dadaad"), looks := false }, kinds := [], alts := [], laidByText := true, laidKinds := [.data, .data], laidTests := true, laidLooks := .later }
def StageBackUptoCardSaid : Prop := Claim7.holds Tryd.pinned (.plain (OpenSpec.upto stageBackSpec)) stageBackUptoCard

/-- THE SECOND FORM's CARD OF 'palisadelaw17.StageRights'. -/
def stageRightsUptoCard : Claim7 := { stood := { row := stageRightsUptoRow, standIns := [], harness := (true, "a3fd8600e033a32bdf92bf8cabd8a577be1260234d7d96473867d52ba8dadaad"), looks := false }, kinds := [], alts := [], laidByText := true, laidKinds := [.data, .data], laidTests := true, laidLooks := .later }
def StageRightsUptoCardSaid : Prop := Claim7.holds Tryd.pinned (.plain (OpenSpec.upto stageRightsSpec)) stageRightsUptoCard
end Rows
end Go.Proofs.YteghkhdpdeiocaaDoor
