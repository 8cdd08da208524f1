/-
  What fair.Is and fair.Rounds come to (told by FairOK); picked: the fact that the laws on fairness ask first.
-/
import Derived.Test.YtoljmleomkkchaaDoorBase
import Derived.Test.YtoljmleomkkchaaDoorKFair
import Derived.Test.YtoljmleomkkchaaDoorEqI
import Derived.Test.YtoljmleomkkchaaDoorPickI
namespace Go.Proofs.YtoljmleomkkchaaDoor
set_option maxRecDepth 100000
open Go.RowKit
set_option linter.unusedVariables false
set_option linter.unusedSimpArgs false

/-- Whether picks are fair. -/
def isFair (l : List Int) (n window : Int) : Prop := 0 ≤ n ∧ n ≤ 16 ∧ 1 ≤ window ∧ FairW l n.toNat window.toNat

/-- What fairness comes to. -/
structure FairOK : Prop where
  turns : ∀ {w : World} {n times : Nat}, n ≤ 16 → times ≤ 1000 → Calls Tryd.prog 17 #[.int .i64 (n : Nat), .int .i64 (times : Nat)] w fun e w' => ∃ A cap, e = .returned (.tuple #[.slice A (n * times) cap, .nilIface]) ∧ w'.ownsRow w.heap.size 3 1 (.slice A (n * times) cap) (n * times) ((turnsL n times).map (Value.int .i64)) ∧ Below w.heap.size w w'
  fair : ∀ {w : World} {A : Option Addr} {cap m : Nat} {l : List Int} {n window : Int}, Ints .i64 w w.heap.size A m l → m ≤ 4294967296 → -9223372036854775808 ≤ n → n ≤ 9223372036854775807 → -9223372036854775808 ≤ window → window ≤ 9223372036854775807 → Calls Tryd.prog 18 #[.slice A m cap, .int .i64 n, .int .i64 window] w fun e w' => ∃ b, e = .returned (.bool b) ∧ (b = true ↔ isFair l n window) ∧ Below w.heap.size w w'

theorem wrap_is {z : Int} (h1 : -9223372036854775808 ≤ z) (h2 : z < 9223372036854775808) : wrap64 z = z := by
  unfold wrap64
  omega
theorem cell_inF {w : World} {b : Nat} {cur : Array Value} {t : TypeId} (h : w.heap[b]? = some (.cells cur t)) (j : Nat) : w.cell? ⟨b, j, none⟩ = cur[j]? := by
  simp [World.cell?, h]
theorem Ints.oldF {k : IntKind} {w w' : World} {n : Nat} {A : Option Addr} {l : List Int} (h : Ints k w w.heap.size A n l) (hb : Below w.heap.size w w') : Ints k w' w'.heap.size A n l :=
  h.keep hb.size (fun p hp => World.cell?_of_block (a := p) (hb.block _ hp))
theorem grown_drewF (w : World) (q : Nat) : w.grownBy (w.drewN q) none := ⟨rfl, rfl, rfl, Nat.le_refl _, fun _ _ _ => rfl⟩
theorem grown_belF {w w' : World} (hg : w.grownBy w' none) : Below w.heap.size w w' := Below.grown (Below.refl _ _) hg (Nat.le_refl _) (by intro k hk; cases hk)
theorem picked_1 : isFair (turnsL 2 2) 2 2 := ⟨by decide, by decide, by decide, (fair_turns (n := 2) (times := 2) (w := 2) (by decide) (by decide) (by decide)).2 (by decide)⟩
theorem picked_2 : ¬ isFair [0, 0, 1] 2 2 := by
  rintro ⟨_, _, _, h⟩
  have := h 0 (by decide) 1 (by decide)
  revert this
  decide

end Go.Proofs.YtoljmleomkkchaaDoor
