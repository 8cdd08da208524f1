/-
  The worlds in which package story runs: its names, and the library's variables that Itoa and Atoi read; what is carried on. What a word is as a number.
-/
import Derived.Test.YtlikbmbcjipolaaDoorStA
import Derived.Test.YtlikbmbcjipolaaDoorCStr
namespace Go.Proofs.YtlikbmbcjipolaaDoor
set_option maxRecDepth 100000
open Go.RowKit Go.Sort
set_option linter.unusedVariables false
set_option linter.unusedSimpArgs false

theorem g_sayn : Tryd.prog.globalNamed "quadrille/story.names" = some 0 := by kernel_rfl
theorem g_spow : Tryd.prog.globalNamed "internal/strconv.uint64pow10" = some 2 := by kernel_rfl

def sayCells : Array Value := #[.string ⟨#[99, 97, 109, 101]⟩, .string ⟨#[103, 111, 110, 101]⟩, .string ⟨#[116, 111, 108, 100]⟩]

/-- What is wanted to print. -/
structure SP (w : World) : Prop where
  names : w.var? Tryd.prog "quadrille/story.names" = some sayCells
  pow : Lib.TabIs Tryd.prog w "internal/strconv.uint64pow10" .u64 Lib.pow10Tab
  big : 3 ≤ w.heap.size

theorem SP.below {w w' : World} {B : Nat} (h : SP w) (hb : Below B w w') (hB : 3 ≤ B) : SP w' :=
  ⟨var?_below hb g_sayn (by omega) h.names, var?_below hb g_spow (by omega) h.pow, Nat.le_trans h.big hb.size⟩
theorem SP.old {w w' : World} (h : SP w) (hb : Below w.heap.size w w') : SP w' := h.below hb h.big

theorem SP.name {w : World} (h : SP w) : ∀ j, j < 3 → w.cell? ⟨0, j, none⟩ = some (strV (sayW ((j : Nat) + 1 : Int)))
  | 0, _ => by rw [World.var?_cell g_sayn h.names]; rfl
  | 1, _ => by rw [World.var?_cell g_sayn h.names]; rfl
  | 2, _ => by rw [World.var?_cell g_sayn h.names]; rfl
  | n + 3, h => absurd h (by omega)

theorem st_itoa (n : Int) (hn : isInt n) (w : World) (h : SP w) : Calls Tryd.prog 28 #[.int .i64 n] w fun e w' => e = .returned (strV (Lib.itoa n)) ∧ Below w.heap.size w w' :=
  (Tryd.strconv_Itoa n hn.1 hn.2 w h.pow).mono fun _ _ ⟨he, hg⟩ => ⟨he, old_grow hg⟩

/-- What a word is told to be. -/
def StWord (s : List UInt8) (w : World) (e : Ending) (w' : World) : Prop := Below w.heap.size w w' ∧ ∃ m b, e = .returned (.tuple #[.int .i64 m, .bool b]) ∧ ((b = true ∧ numL s = some m) ∨ (b = false ∧ numL s = none))

end Go.Proofs.YtlikbmbcjipolaaDoor
