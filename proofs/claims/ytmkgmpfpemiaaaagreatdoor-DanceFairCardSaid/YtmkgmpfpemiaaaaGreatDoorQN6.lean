/-
  WHO IS ALONE NEVER WAITS.
-/
import Derived.Test.YtmkgmpfpemiaaaaGreatDoorQN2
import Derived.Test.YtmkgmpfpemiaaaaGreatDoorQN4
namespace Go.Proofs.YtmkgmpfpemiaaaaGreatDoor
set_option maxRecDepth 100000
open Go.RowKit Go.Shelf Go.Sort
set_option linter.unusedVariables false
set_option linter.unusedSimpArgs false

theorem kind_nat (k : Int) : ∃ u : Nat, 1 ≤ u ∧ u ≤ 6 ∧ ∀ w, Calls Tryz.prog 34 #[.int .i64 k] w fun e w' => e = .returned (.int .i64 (u : Nat)) ∧ w = w' := by
  have h1 := pickI_lo k 6
  have h2 := pickI_hi k 6 (by decide)
  refine ⟨(1 + pickI k 6).toNat, by omega, by omega, fun w => ?_⟩
  have := kind_is k w
  rwa [show (((1 + pickI k 6).toNat : Nat) : Int) = 1 + pickI k 6 by omega]
end Go.Proofs.YtmkgmpfpemiaaaaGreatDoor
