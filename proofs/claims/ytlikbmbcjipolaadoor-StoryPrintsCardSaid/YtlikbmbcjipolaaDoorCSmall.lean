/-
  Small functions of package code: known, bounds, numbers.
-/
import Derived.Sort.Defs
import Derived.Test.YtlikbmbcjipolaaDoorCWorld
namespace Go.Proofs.YtlikbmbcjipolaaDoor
set_option maxRecDepth 100000
open Go.RowKit Go.Sort

/-- An instruction as a value. -/
def insV (x : In5) : Value := .agg #[.int .i64 x.1, .int .i64 x.2.1, .int .i64 x.2.2.1, .int .i64 x.2.2.2.1, .int .i64 x.2.2.2.2]

/-- The least and the most that a number of a kind may be. -/
def boundsL (k : Nat) (n cells : Int) : Int × Int :=
  match k with
  | 1 => (0, 7)
  | 2 => (0, cells - 1)
  | 3 => (-9223372036854775808, 9223372036854775807)
  | 4 => (0, n - 1)
  | 5 => (-1, 7)
  | 6 => (0, 63)
  | 7 => (1, 63)
  | _ => (0, 0)

/-- A program, cell for cell. -/
def cells5 (l : List In5) : List Value := l.flatMap fun x => [.int .i64 x.1, .int .i64 x.2.1, .int .i64 x.2.2.1, .int .i64 x.2.2.2.1, .int .i64 x.2.2.2.2]

theorem cells5_append (l r : List In5) : cells5 (l ++ r) = cells5 l ++ cells5 r := by simp [cells5]
theorem cells5_one (x : In5) : cells5 [x] = [.int .i64 x.1, .int .i64 x.2.1, .int .i64 x.2.2.1, .int .i64 x.2.2.2.1, .int .i64 x.2.2.2.2] := by simp [cells5]

theorem infoIns : (Tryd.prog.info? 141).map (fun i => (i.zero, i.size, i.bytes)) = some (some (.agg #[.int .i64 0, .int .i64 0, .int .i64 0, .int .i64 0, .int .i64 0]), 5, 40) := by kernel_rfl

theorem own_form {w : World} {B e sz : Nat} {v : Value} {n : Nat} {xs : List Value} (h : w.ownsRow B e sz v n xs) : ∃ A c, v = .slice A n c := by
  rcases h.2 with ⟨rfl, rfl⟩ | ⟨g, cap, _, rfl, _⟩
  · exact ⟨none, 0, rfl⟩
  · exact ⟨_, _, rfl⟩
theorem grown_of_old {w w' : World} (hb : Below w.heap.size w w') : w.grownBy w' none := ⟨hb.os, hb.tape, hb.output, hb.size, fun k hk _ => hb.block k hk⟩
end Go.Proofs.YtlikbmbcjipolaaDoor
