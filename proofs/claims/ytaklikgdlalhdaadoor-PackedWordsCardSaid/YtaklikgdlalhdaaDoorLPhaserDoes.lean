/-
  What comes of any call, at any state, is the document's.
-/
import Derived.Test.YtaklikgdlalhdaaDoorPsRDo
import Derived.Test.YtaklikgdlalhdaaDoorBare
import Derived.Deep.RegionWith
import Derived.Deep.DeepCutAuto
namespace Go.Proofs.YtaklikgdlalhdaaDoor
set_option maxRecDepth 100000
open Go.RowKit
set_option linter.unusedVariables false
set_option linter.unusedSimpArgs false

/-- 'bare' of what a call gives, and of what the reference gives. -/
theorem bare_nil_b (w : World) : Calls Tryd.prog 8 #[.nilIface, .int .i64 0] w fun e w' => e = .returned (.bool true) ∧ Below w.heap.size w w' := by
  refine (bare_nil w).mono ?_
  rintro e w' ⟨he, rfl⟩
  exact ⟨he, Below.refl _ _⟩
theorem bare_errno_b (k : Int) (w : World) (hg : ErrVar w) : Calls Tryd.prog 8 #[.iface 25 (.int .i64 k), .int .i64 k] w fun e w' => e = .returned (.bool true) ∧ Below w.heap.size w w' := by
  refine (bare_errno k w hg).mono ?_
  rintro e w' ⟨he, hb⟩
  exact ⟨he, (Below.refl _ _).grown hb (Nat.le_refl _) (by intro k hk; cases hk)⟩
theorem errVar_of' {w w' : World} (hg : ErrVar w) (hb : Below w.heap.size w w') : ErrVar w' :=
  (World.cell?_of_block (a := ⟨0, 0, none⟩) (hb.block _ (World.block_lt_of_cell? w _ hg))).trans hg
end Go.Proofs.YtaklikgdlalhdaaDoor
