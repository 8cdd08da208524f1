/-
  Package phaser: next at any call, Do at any state.
-/
import Derived.Test.YtaklikgdlalhdaaDoorPsCode
import Derived.Deep.RegionWith
namespace Go.Proofs.YtaklikgdlalhdaaDoor
set_option maxRecDepth 100000
open Go.RowKit
set_option linter.unusedVariables false
set_option linter.unusedSimpArgs false

end Go.Proofs.YtaklikgdlalhdaaDoor
