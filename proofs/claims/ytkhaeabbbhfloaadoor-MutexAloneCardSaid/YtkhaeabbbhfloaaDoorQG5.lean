/-
  Bodies of barriers, piece by piece. math/bits.TrailingZeros of a small number; at how many levels a party wins.
-/
import Derived.Test.YtkhaeabbbhfloaaDoorQG4
import Derived.Test.YtkhaeabbbhfloaaDoorQA
import Derived.Lib.LaidTab
import Derived.Lib.TrailingZeros
import Derived.Lib.MinMax
namespace Go.Proofs.YtkhaeabbbhfloaaDoor
set_option maxRecDepth 100000
set_option linter.unusedVariables false
set_option linter.unusedSimpArgs false

/-! A body, piece by piece. -/
/-! Static. -/
/-! Spread. -/
/-! Tourney. -/
/-! Mcs. -/
/-! Combine. -/
def cb (n : Nat) : Nat → Nat
  | 0 => n
  | j + 1 => (cb n j + 1) / 2
def ci (id : Nat) : Nat → Nat
  | 0 => id
  | j + 1 => ci id j / 2
section
variable {n id : Nat}
end
end Go.Proofs.YtkhaeabbbhfloaaDoor

namespace Go.Proofs.YtkhaeabbbhfloaaDoor
set_option maxRecDepth 100000
open Go.RowKit
set_option linter.unusedVariables false
set_option linter.unusedSimpArgs false

end Go.Proofs.YtkhaeabbbhfloaaDoor
