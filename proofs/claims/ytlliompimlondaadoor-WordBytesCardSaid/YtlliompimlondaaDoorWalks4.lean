/-
  What the functions that tell signs and whether a number fits do: their contracts.
-/
import Derived.Test.YtlliompimlondaaDoorWalks2
namespace Go.Proofs.YtlliompimlondaaDoor
open Go.RowKit
set_option linter.unusedVariables false
end Go.Proofs.YtlliompimlondaaDoor
