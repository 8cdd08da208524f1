/-
  Package phaser: Do at any state.
-/
import Derived.Test.YtaklikgdlalhdaaDoorPsNext
namespace Go.Proofs.YtaklikgdlalhdaaDoor
set_option maxRecDepth 100000
open Go.RowKit
set_option linter.unusedVariables false
set_option linter.unusedSimpArgs false

/-! Do. -/
/-- What may not be so. -/
def NoDo (w : World) (e : Ending) (w' : World) : Prop := e = .returned (.tuple #[.agg #[.bool false, .int .i64 0, .int .i64 0, .int .i64 0], .int .i64 0, .iface 25 (.int .i64 1)]) ∧ Below w.heap.size w w'
end Go.Proofs.YtaklikgdlalhdaaDoor
