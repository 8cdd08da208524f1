/-
  The reference's Do: what comes of a call.
-/
import Derived.Test.YtaklikgdlalhdaaDoorPsRef
namespace Go.Proofs.YtaklikgdlalhdaaDoor
set_option maxRecDepth 100000
open Go.RowKit
set_option linter.unusedVariables false
set_option linter.unusedSimpArgs false

/-- What may not be so, by the reference. -/
def NoRDo (w : World) (e : Ending) (w' : World) : Prop := e = .returned (.tuple #[.agg #[.bool false, .int .i64 0, .int .i64 0, .int .i64 0], .int .i64 0, .int .i64 1]) ∧ Below w.heap.size w w'
end Go.Proofs.YtaklikgdlalhdaaDoor
