/-
  Small functions of package code: known, bounds, numbers.
-/
import Derived.Sort.Defs
import Derived.Test.YtkmidefgmefohaaDoorCWorld
namespace Go.Proofs.YtkmidefgmefohaaDoor
set_option maxRecDepth 100000
open Go.RowKit Go.Sort

/-- An instruction as a value. -/
def insV (x : In5) : Value := .agg #[.int .i64 x.1, .int .i64 x.2.1, .int .i64 x.2.2.1, .int .i64 x.2.2.2.1, .int .i64 x.2.2.2.2]

theorem known_yes (op : Nat) (h : op < 17) (w : World) : Calls Tryd.prog 47 #[.int .i64 op] w fun e w' => e = .returned (.bool true) ∧ w = w' := by
  have h0 : (0 : Int) ≤ (op : Int) := by omega
  have h1 : (op : Int) < 17 := by omega
  go_enter Tryd.func47, Tryd.ntmps47
  go_wp2
  go_ret
  exact ⟨rfl, rfl⟩

theorem known_no (op : Int) (h : op < 0 ∨ 17 ≤ op) (w : World) : Calls Tryd.prog 47 #[.int .i64 op] w fun e w' => e = .returned (.bool false) ∧ w = w' := by
  by_cases h0 : 0 ≤ op
  · have h1 : ¬ op < 17 := by omega
    clear h
    go_enter Tryd.func47, Tryd.ntmps47
    go_wp2
    go_ret
    exact ⟨rfl, rfl⟩
  · clear h
    go_enter Tryd.func47, Tryd.ntmps47
    go_wp2
    go_ret
    exact ⟨rfl, rfl⟩

/-- The least and the most that a number of a kind may be. -/
def boundsL (k : Nat) (n cells : Int) : Int × Int :=
  match k with
  | 1 => (0, 7)
  | 2 => (0, cells - 1)
  | 3 => (-9223372036854775808, 9223372036854775807)
  | 4 => (0, n - 1)
  | 5 => (-1, 7)
  | 6 => (0, 63)
  | 7 => (1, 63)
  | _ => (0, 0)

set_option maxHeartbeats 1000000 in
theorem bounds_any (k : Nat) (hk : k < 8) (n cells : Int) (hn0 : 0 ≤ n) (hn1 : n ≤ 600) (hc0 : 0 ≤ cells) (hc1 : cells ≤ 300) (w : World) :
    Calls Tryd.prog 57 #[.int .i64 k, .int .i64 n, .int .i64 cells] w fun e w' => e = .returned (.tuple #[.int .i64 (boundsL k n cells).1, .int .i64 (boundsL k n cells).2]) ∧ w = w' := by
  have wc : wrap64 (cells - 1) = cells - 1 := by unfold wrap64; omega
  have wn : wrap64 (n - 1) = n - 1 := by unfold wrap64; omega
  match k, hk with
  | 0, _ =>
    go_enter Tryd.func57, Tryd.ntmps57
    go_wp2
    go_ret2
    exact ⟨rfl, rfl⟩
  | 1, _ =>
    go_enter Tryd.func57, Tryd.ntmps57
    go_wp2
    go_ret2
    exact ⟨rfl, rfl⟩
  | 2, _ =>
    go_enter Tryd.func57, Tryd.ntmps57
    go_wp2
    go_ret2
    exact ⟨rfl, rfl⟩
  | 3, _ =>
    go_enter Tryd.func57, Tryd.ntmps57
    go_wp2
    go_ret2
    exact ⟨rfl, rfl⟩
  | 4, _ =>
    go_enter Tryd.func57, Tryd.ntmps57
    go_wp2
    go_ret2
    exact ⟨rfl, rfl⟩
  | 5, _ =>
    go_enter Tryd.func57, Tryd.ntmps57
    go_wp2
    go_ret2
    exact ⟨rfl, rfl⟩
  | 6, _ =>
    go_enter Tryd.func57, Tryd.ntmps57
    go_wp2
    go_ret2
    exact ⟨rfl, rfl⟩
  | 7, _ =>
    go_enter Tryd.func57, Tryd.ntmps57
    go_wp2
    go_ret2
    exact ⟨rfl, rfl⟩

theorem numbers_any (x : In5) (w : World) : Calls Tryd.prog 56 #[insV x] w fun e w' => e = .returned (.agg #[.int .i64 x.2.1, .int .i64 x.2.2.1, .int .i64 x.2.2.2.1, .int .i64 x.2.2.2.2]) ∧ w.grownBy w' none := by
  obtain ⟨o, a, b, c, d⟩ := x
  unfold insV
  go_enter Tryd.func56, Tryd.ntmps56
  go_wp2
  refine bodyPost_ret (v := .agg #[.int .i64 a, .int .i64 b, .int .i64 c, .int .i64 d]) (by simp [results, Tryd.results56, go_sem]) rfl ⟨rfl, ?_⟩
  exact (World.grownBy_alloc w _ none).andThen (World.grownBy_alloc _ _ none) (by intro j hj; cases hj)
/-- A program, cell for cell. -/
def cells5 (l : List In5) : List Value := l.flatMap fun x => [.int .i64 x.1, .int .i64 x.2.1, .int .i64 x.2.2.1, .int .i64 x.2.2.2.1, .int .i64 x.2.2.2.2]

theorem cells5_append (l r : List In5) : cells5 (l ++ r) = cells5 l ++ cells5 r := by simp [cells5]
theorem cells5_one (x : In5) : cells5 [x] = [.int .i64 x.1, .int .i64 x.2.1, .int .i64 x.2.2.1, .int .i64 x.2.2.2.1, .int .i64 x.2.2.2.2] := by simp [cells5]

theorem infoIns : (Tryd.prog.info? 48).map (fun i => (i.zero, i.size, i.bytes)) = some (some (.agg #[.int .i64 0, .int .i64 0, .int .i64 0, .int .i64 0, .int .i64 0]), 5, 40) := by kernel_rfl

theorem own_form {w : World} {B e sz : Nat} {v : Value} {n : Nat} {xs : List Value} (h : w.ownsRow B e sz v n xs) : ∃ A c, v = .slice A n c := by
  rcases h.2 with ⟨rfl, rfl⟩ | ⟨g, cap, _, rfl, _⟩
  · exact ⟨none, 0, rfl⟩
  · exact ⟨_, _, rfl⟩
theorem grown_of_old {w w' : World} (hb : Below w.heap.size w w') : w.grownBy w' none := ⟨hb.os, hb.tape, hb.output, hb.size, fun k hk _ => hb.block k hk⟩
end Go.Proofs.YtkmidefgmefohaaDoor
