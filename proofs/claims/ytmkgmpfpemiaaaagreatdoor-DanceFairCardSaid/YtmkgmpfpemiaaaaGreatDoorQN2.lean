/-
  each: is each of these cells a number? (slices.ContainsFunc at []uint64.) A barrier behind moves that are known, where the laws have it; stores: when a cell was stored to.
-/
import Derived.Test.YtmkgmpfpemiaaaaGreatDoorQL
import Derived.Test.YtmkgmpfpemiaaaaGreatDoorQH7
namespace Go.Proofs.YtmkgmpfpemiaaaaGreatDoor
set_option maxRecDepth 100000
open Go.RowKit Go.Shelf Go.Sort
set_option linter.unusedVariables false
set_option linter.unusedSimpArgs false

end Go.Proofs.YtmkgmpfpemiaaaaGreatDoor

namespace Go.Proofs.YtmkgmpfpemiaaaaGreatDoor
set_option maxRecDepth 100000
open Go.RowKit Go.Shelf Go.Sort
set_option linter.unusedVariables false
set_option linter.unusedSimpArgs false

end Go.Proofs.YtmkgmpfpemiaaaaGreatDoor
