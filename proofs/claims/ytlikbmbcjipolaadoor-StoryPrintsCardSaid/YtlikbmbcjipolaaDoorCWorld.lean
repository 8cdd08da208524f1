/-
  The world in which package code runs: its table of forms, and the library's variables that Itoa and Atoi read; what is carried on.
-/
import Derived.Test.YtlikbmbcjipolaaDoorCPure
import Derived.Test.YtlikbmbcjipolaaDoorBase
import Derived.WalkSmall
namespace Go.Proofs.YtlikbmbcjipolaaDoor
set_option maxRecDepth 100000
open Go.RowKit

/-- The table of forms, cell for cell. -/
def formCells : Array Value := ((List.range 17).flatMap fun op => Value.string ⟨(nameOf op).toArray⟩ :: (kindsOf op).map fun (k : Nat) => Value.int .i64 (k : Int)).toArray

structure CW (w : World) : Prop where
  forms : w.var? Tryd.prog "quadrille/code.forms" = some formCells
  big : 3 ≤ w.heap.size


theorem formCells_name : ∀ op, op < 17 → formCells[op * 5]? = some (.string ⟨(nameOf op).toArray⟩)
  | 0, _ => rfl
  | 1, _ => rfl
  | 2, _ => rfl
  | 3, _ => rfl
  | 4, _ => rfl
  | 5, _ => rfl
  | 6, _ => rfl
  | 7, _ => rfl
  | 8, _ => rfl
  | 9, _ => rfl
  | 10, _ => rfl
  | 11, _ => rfl
  | 12, _ => rfl
  | 13, _ => rfl
  | 14, _ => rfl
  | 15, _ => rfl
  | 16, _ => rfl
  | n + 17, h => absurd h (by omega)
theorem formCells_kind : ∀ op i, op < 17 → i < 4 → formCells[op * 5 + 1 + i]? = some (.int .i64 ((kindsOf op).getD i 0 : Nat))
  | 0, 0, _, _ => rfl
  | 0, 1, _, _ => rfl
  | 0, 2, _, _ => rfl
  | 0, 3, _, _ => rfl
  | 1, 0, _, _ => rfl
  | 1, 1, _, _ => rfl
  | 1, 2, _, _ => rfl
  | 1, 3, _, _ => rfl
  | 2, 0, _, _ => rfl
  | 2, 1, _, _ => rfl
  | 2, 2, _, _ => rfl
  | 2, 3, _, _ => rfl
  | 3, 0, _, _ => rfl
  | 3, 1, _, _ => rfl
  | 3, 2, _, _ => rfl
  | 3, 3, _, _ => rfl
  | 4, 0, _, _ => rfl
  | 4, 1, _, _ => rfl
  | 4, 2, _, _ => rfl
  | 4, 3, _, _ => rfl
  | 5, 0, _, _ => rfl
  | 5, 1, _, _ => rfl
  | 5, 2, _, _ => rfl
  | 5, 3, _, _ => rfl
  | 6, 0, _, _ => rfl
  | 6, 1, _, _ => rfl
  | 6, 2, _, _ => rfl
  | 6, 3, _, _ => rfl
  | 7, 0, _, _ => rfl
  | 7, 1, _, _ => rfl
  | 7, 2, _, _ => rfl
  | 7, 3, _, _ => rfl
  | 8, 0, _, _ => rfl
  | 8, 1, _, _ => rfl
  | 8, 2, _, _ => rfl
  | 8, 3, _, _ => rfl
  | 9, 0, _, _ => rfl
  | 9, 1, _, _ => rfl
  | 9, 2, _, _ => rfl
  | 9, 3, _, _ => rfl
  | 10, 0, _, _ => rfl
  | 10, 1, _, _ => rfl
  | 10, 2, _, _ => rfl
  | 10, 3, _, _ => rfl
  | 11, 0, _, _ => rfl
  | 11, 1, _, _ => rfl
  | 11, 2, _, _ => rfl
  | 11, 3, _, _ => rfl
  | 12, 0, _, _ => rfl
  | 12, 1, _, _ => rfl
  | 12, 2, _, _ => rfl
  | 12, 3, _, _ => rfl
  | 13, 0, _, _ => rfl
  | 13, 1, _, _ => rfl
  | 13, 2, _, _ => rfl
  | 13, 3, _, _ => rfl
  | 14, 0, _, _ => rfl
  | 14, 1, _, _ => rfl
  | 14, 2, _, _ => rfl
  | 14, 3, _, _ => rfl
  | 15, 0, _, _ => rfl
  | 15, 1, _, _ => rfl
  | 15, 2, _, _ => rfl
  | 15, 3, _, _ => rfl
  | 16, 0, _, _ => rfl
  | 16, 1, _, _ => rfl
  | 16, 2, _, _ => rfl
  | 16, 3, _, _ => rfl
  | n + 17, _, h, _ => absurd h (by omega)
  | _, n + 4, _, h => absurd h (by omega)

end Go.Proofs.YtlikbmbcjipolaaDoor
