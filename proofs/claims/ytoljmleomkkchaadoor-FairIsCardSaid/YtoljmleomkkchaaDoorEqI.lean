/-
  slices.Equal at []int: whether two readings are one list; nothing is written.
-/
import Derived.Test.YtoljmleomkkchaaDoorBase
namespace Go.Proofs.YtoljmleomkkchaaDoor
set_option maxRecDepth 100000
open Go.RowKit

end Go.Proofs.YtoljmleomkkchaaDoor
