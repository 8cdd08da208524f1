/-
  each: is each of these cells a number? (slices.ContainsFunc at []uint64.) A barrier behind moves that are known, where the laws have it; stores: when a cell was stored to.
-/
import Derived.Test.YtaagdmompaphiaaGreatDoorQL
import Derived.Test.YtaagdmompaphiaaGreatDoorQH7
namespace Go.Proofs.YtaagdmompaphiaaGreatDoor
set_option maxRecDepth 100000
open Go.RowKit Go.Shelf Go.Sort
set_option linter.unusedVariables false
set_option linter.unusedSimpArgs false

end Go.Proofs.YtaagdmompaphiaaGreatDoor

namespace Go.Proofs.YtaagdmompaphiaaGreatDoor
set_option maxRecDepth 100000
open Go.RowKit Go.Shelf Go.Sort
set_option linter.unusedVariables false
set_option linter.unusedSimpArgs false

theorem floor_his {w w1 : World} {k n rounds : Nat} (H : DanceOK) (hw : DW w) (hb : Below w.heap.size w w1) (d : Dims k n rounds) {D : Option Addr} {nm cm : Nat} {l : List (Int × Bool)} (hl : Moves w w.heap.size D nm l) (hnm : nm ≤ 900) :
    Calls Tryz.prog 8 #[.int .i64 (k : Nat), .int .i64 (n : Nat), .int .i64 (rounds : Nat), .slice D nm cm] w1 fun e w' => ∃ c m p, e = .returned (.pointer (some ⟨c, 0, none⟩)) ∧ Flo w c k n rounds p m w' ∧ p ≤ 900 ∧ Hist k n rounds p m := by
  have hp : pokesM (pickL n l) ≤ 900 := by
    have h1 := pokesM_le (pickL n l)
    have h2 : (pickL n l).length = nm := by unfold pickL; rw [List.length_map, hl.len]
    omega
  refine (floor_any H (hw.old hb) d D nm cm l (hl.old hb) (by omega)).mono ?_
  rintro e w' ⟨c, rfl, hA⟩
  have hD := dn_moves d (pickL_lt (by have := d.n1; omega) l) (dn_new d) (by omega)
  rw [Nat.zero_add] at hD
  exact ⟨c, _, _, rfl, ⟨hA.old hb, (kM_big d).behind _, hD⟩, hp, hist_moves (pickL_lt (by have := d.n1; omega) l)⟩
end Go.Proofs.YtaagdmompaphiaaGreatDoor
