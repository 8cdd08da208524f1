/-
  size: how many instructions all programs have.
-/
import Derived.Test.YtjlhinjmnhpdaaaGreatDoorQI2
namespace Go.Proofs.YtjlhinjmnhpdaaaGreatDoor
set_option maxRecDepth 100000
open Go.RowKit Go.Shelf Go.Sort
set_option linter.unusedVariables false
set_option linter.unusedSimpArgs false

end Go.Proofs.YtjlhinjmnhpdaaaGreatDoor
