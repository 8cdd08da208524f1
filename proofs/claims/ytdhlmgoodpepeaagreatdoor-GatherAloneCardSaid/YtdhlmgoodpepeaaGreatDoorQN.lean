/-
  Two meet, and each has what the other one had Programs that trade: slices.Concat of programs; trade.Code.
-/
import Derived.Test.YtdhlmgoodpepeaaGreatDoorQK
import Derived.Test.YtdhlmgoodpepeaaGreatDoorQL
import Derived.Lib.AppendZerosOnto
import Derived.Lib.AppendZeros
namespace Go.Proofs.YtdhlmgoodpepeaaGreatDoor
set_option maxRecDepth 100000
set_option linter.unusedVariables false
set_option linter.unusedSimpArgs false

/-! Two meet, and each has what the other one had: a trade is the cell of whose it is, and what that one has. -/
abbrev Trd := _root_.Fin 17 × _root_.Fin 1001
end Go.Proofs.YtdhlmgoodpepeaaGreatDoor

namespace Go.Proofs.YtdhlmgoodpepeaaGreatDoor
set_option maxRecDepth 100000
set_option linter.unusedVariables false
set_option linter.unusedSimpArgs false

section
variable {n : Nat} {calls : Nat → List Trd} {S S' : CS} {e : List Ev4} {pr : Nat → Nat → Option (Nat × Nat)} {t : Nat} {x' : TK} {c : Trd}

end
end Go.Proofs.YtdhlmgoodpepeaaGreatDoor

namespace Go.Proofs.YtdhlmgoodpepeaaGreatDoor
set_option maxRecDepth 100000
set_option linter.unusedVariables false
set_option linter.unusedSimpArgs false

section
variable {n : Nat} {calls : Nat → List Trd} {S S' : CS} {e : List Ev4} {pr : Nat → Nat → Option (Nat × Nat)} {t : Nat} {x' : TK} {c : Trd}

end
end Go.Proofs.YtdhlmgoodpepeaaGreatDoor

namespace Go.Proofs.YtdhlmgoodpepeaaGreatDoor
set_option maxRecDepth 100000
set_option linter.unusedVariables false
set_option linter.unusedSimpArgs false

section
variable {n : Nat} {calls : Nat → List Trd} {S S' : CS} {a : List Act6} {e : List Ev4} {pr : Nat → Nat → Option (Nat × Nat)} {t : Nat} {x' : TK} {c : Trd}

end
end Go.Proofs.YtdhlmgoodpepeaaGreatDoor

namespace Go.Proofs.YtdhlmgoodpepeaaGreatDoor
set_option maxRecDepth 100000
set_option linter.unusedVariables false
set_option linter.unusedSimpArgs false

section
variable {n : Nat} {calls : Nat → List Trd} {S S' : CS} {a : List Act6} {e : List Ev4} {pr : Nat → Nat → Option (Nat × Nat)} {t : Nat} {x' : TK} {c : Trd}

end
end Go.Proofs.YtdhlmgoodpepeaaGreatDoor

namespace Go.Proofs.YtdhlmgoodpepeaaGreatDoor
set_option maxRecDepth 100000
open Go.RowKit Go.Shelf Go.Sort
set_option linter.unusedVariables false
set_option linter.unusedSimpArgs false

def RoomyT (w : World) (e : Ending) (w' : World) : Prop := ∃ v, e = .returned v ∧ w'.ownsRow w.heap.size 88 5 v 0 [] ∧ w.grownBy w' none
set_option maxHeartbeats 1000000 in
theorem growT_nil {w : World} (n : Nat) (hn : n ≤ 1000) : Calls Tryz.prog 147 #[.slice none 0 0, .int .i64 n] w (RoomyT w) := by
  have h1 : ¬ (n : Int) < 0 := by omega
  rcases Nat.eq_zero_or_pos n with rfl | hpos
  · go_enter Tryz.func147, Tryz.ntmps147
    go_wp2
    go_ret
    exact ⟨_, rfl, World.ownsRow_nil _ _ _ _, World.grownBy.refl _ _⟩
  · obtain ⟨i0, hi, hz0, hz1, hz2⟩ := info_parts infoIns
    have hold : (Builtin.firstCells i0.size 0 (.slice none 0 0)).run Tryz.prog w.drew = .ok ([] : List Value).toArray w.drew := run_firstCells_none w.drew i0.size 0 0 0
    have hpi : (0 : Int) < (n : Int) := by omega
    have hrz := fun ty => Lib.run_append_grow_zeros (P := Tryz.prog) w 82 3 ty 88 i0 (.agg #[.int .i64 0, .int .i64 0, .int .i64 0, .int .i64 0, .int .i64 0]) .i64 .i64 Tryz.underlying82 Tryz.underlying3 hi hz0 none 0 0 [] hold n hpos (by omega) (by omega) (by omega) (by rw [hz2]; omega) (growslice_fits (by omega) (by rw [hz2]; omega))
    simp only [Nat.zero_add] at hrz
    obtain ⟨G, hG⟩ : ∃ G, grownCap w n 0 88 = G := ⟨_, rfl⟩
    have hGn : n ≤ G := by rw [← hG]; exact grownCap_ge w _ _ _
    have hG63 : G ≤ maxLen := by rw [← hG]; exact grownCap_le_maxLen w n 0 88 (by unfold maxLen; omega)
    rw [hG] at hrz
    obtain ⟨C, hC⟩ : ∃ C, (([] : List Value).toArray ++ Builtin.zeroCells (Value.agg #[.int .i64 0, .int .i64 0, .int .i64 0, .int .i64 0, .int .i64 0]).cells n ++ Builtin.zeroCells (Value.agg #[.int .i64 0, .int .i64 0, .int .i64 0, .int .i64 0, .int .i64 0]).cells (G - n)) = C := ⟨_, rfl⟩
    have hCs : C.size = G * 5 := by
      rw [← hC]
      simp [Builtin.zeroCells, Value.cells]
      omega
    rw [hC] at hrz
    have hown := World.ownsRow_made (base := w.heap.size) (e := 88) (size := 5) w.drew C G (Nat.le_refl _) hG63 hCs
    have hgr : w.grownBy (w.drew.alloc (.cells C 88)) none := (show w.grownBy w.drew none from ⟨rfl, rfl, rfl, Nat.le_refl _, fun _ _ _ => rfl⟩).andThen (World.grownBy_alloc _ _ none) (by intro j hj; cases hj)
    have HO := Lib.hid hown
    have HG := Lib.hid hgr
    have HR := Lib.hid hrz
    have hG63' : G ≤ 9223372036854775807 := by unfold maxLen at hG63; omega
    clear hrz hown hgr hG hC hold hG63 hi hz0 hz1 hz2
    go_enter Tryz.func147, Tryz.ntmps147
    go_wp2_with (at_builtin; refine Lib.wpList_append_run _ rfl _ _ _ _ rfl _ _ rfl rfl _ _ (HR.out _) ?_)
    go_ret
    exact ⟨_, rfl, HO.out, HG.out⟩

/-- Programs that lie one behind the other in a row of rows. -/
def RowsN (w : World) (b : Nat) (ls : List (List In5)) : Prop := ∀ i, i < ls.length → ∃ A c, w.cell? ⟨b, i, none⟩ = some (.slice A (ls.getD i []).length c) ∧ Inss w w.heap.size A (ls.getD i []).length (ls.getD i []) ∧ b < w.heap.size
theorem RowsN.grow {w w' : World} {b : Nat} {ls : List (List In5)} (h : RowsN w b ls) (hg : w.grownBy w' none) : RowsN w' b ls := fun i hi => by
  obtain ⟨A, c, h1, h2, h3⟩ := h i hi
  exact ⟨A, c, (World.cell?_of_block (a := ⟨b, i, none⟩) (hg.block b h3 (by simp))).trans h1, h2.old ⟨hg.os, hg.tape, hg.output, hg.size, fun k hk => hg.block k hk (by simp)⟩, by have := hg.size; omega⟩
def lenN (ls : List (List In5)) (k : Nat) : Nat := ((ls.take k).flatten).length
theorem lenN_succ (ls : List (List In5)) (k : Nat) (hk : k < ls.length) : (ls.take (k + 1)).flatten = (ls.take k).flatten ++ ls.getD k [] ∧ lenN ls (k + 1) = lenN ls k + (ls.getD k []).length := by
  have e : ls.take (k + 1) = ls.take k ++ [ls.getD k []] := by
    rw [List.take_add_one, List.getD_eq_getElem?_getD, List.getElem?_eq_getElem hk]
    rfl
  have e2 : (ls.take (k + 1)).flatten = (ls.take k).flatten ++ ls.getD k [] := by rw [e]; simp
  exact ⟨e2, by unfold lenN; rw [e2, List.length_append]⟩
theorem lenN_le (ls : List (List In5)) (k : Nat) : lenN ls k ≤ ls.flatten.length := by
  have e : ls.flatten = (ls.take k).flatten ++ (ls.drop k).flatten := by rw [← List.flatten_append, List.take_append_drop]
  unfold lenN
  rw [e, List.length_append]
  omega
structure JoinN (w : World) (ls : List (List In5)) (v : Value) (k : Nat) (wr : World) : Prop where
  own : wr.ownsRow w.heap.size 88 5 v (lenN ls k) (cells5 ((ls.take k).flatten))
  grown : w.grownBy wr none
theorem Inss.gr {w w' : World} {A : Option Addr} {n : Nat} {l : List In5} (h : Inss w w.heap.size A n l) (hg : w.grownBy w' none) : Inss w' w'.heap.size A n l := h.old ⟨hg.os, hg.tape, hg.output, hg.size, fun k hk => hg.block k hk (by simp)⟩
end Go.Proofs.YtdhlmgoodpepeaaGreatDoor
