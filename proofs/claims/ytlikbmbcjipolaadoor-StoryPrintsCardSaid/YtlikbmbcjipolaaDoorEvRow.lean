/-
  A slice of events that reads as a list.
-/
import Derived.Test.YtlikbmbcjipolaaDoorKSaid
import Derived.Test.YtlikbmbcjipolaaDoorBase
namespace Go.Proofs.YtlikbmbcjipolaaDoor
set_option maxRecDepth 100000
open Go.RowKit
set_option linter.unusedVariables false

def EvRow (w : World) (A : Option Addr) (n : Nat) (l : List Ev4) : Prop := ∀ i, i < n → ∃ b off, A = some ⟨b, off, none⟩ ∧
  w.cell? ⟨b, off + i * 4, none⟩ = some (.int .i64 (l.getD i default).1) ∧ w.cell? ⟨b, off + i * 4 + 1, none⟩ = some (.int .i64 (l.getD i default).2.1) ∧ w.cell? ⟨b, off + i * 4 + 2, none⟩ = some (.int .i64 (l.getD i default).2.2.1) ∧ w.cell? ⟨b, off + i * 4 + 3, none⟩ = some (.int .i64 (l.getD i default).2.2.2)
theorem EvRow.of {w w' : World} {A : Option Addr} {n : Nat} {l : List Ev4} (h : EvRow w A n l) (hb : Below w.heap.size w w') : EvRow w' A n l := fun i hi => by
  obtain ⟨b, off, e, x1, x2, x3, x4⟩ := h i hi
  have hlt := World.block_lt_of_cell? w ⟨b, off + i * 4, none⟩ x1
  have k := fun j => World.cell?_of_block (a := ⟨b, j, none⟩) (hb.block b hlt)
  exact ⟨b, off, e, (k _).trans x1, (k _).trans x2, (k _).trans x3, (k _).trans x4⟩
end Go.Proofs.YtlikbmbcjipolaaDoor
