/-
  Rows of integers: one that fills a block, one of the call's own that grows.
-/
import Derived.Test.YtlikbmbcjipolaaDoorBase
namespace Go.Proofs.YtlikbmbcjipolaaDoor
set_option maxRecDepth 100000
open Go.RowKit
set_option linter.unusedVariables false
set_option linter.unusedSimpArgs false

/-- A row of integers that fills a block of whatever type. -/
def RowT (ty : TypeId) (w : World) (g : Nat) (xs : List Int) : Prop := ∃ C, w.heap[g]? = some (.cells C ty (0, 0)) ∧ C.toList = xs.map (Value.int .i64)
abbrev RowI (w : World) (g : Nat) (xs : List Int) : Prop := RowT 3 w g xs
theorem RowT.cell {ty : TypeId} {w : World} {g : Nat} {xs : List Int} (h : RowT ty w g xs) {i : Nat} (hi : i < xs.length) : w.cell? ⟨g, i, none⟩ = some (.int .i64 (xs.getD i 0)) ∧ w.frozen? ⟨g, i, none⟩ = false := by
  obtain ⟨C, h1, h2⟩ := h
  refine ⟨?_, frozen_of_row w g i _ _ h1⟩
  rw [cell_of_row w g i _ _ _ h1, ← Array.getElem?_toList, h2, List.getElem?_map, List.getElem?_eq_getElem hi, List.getD_eq_getElem?_getD, List.getElem?_eq_getElem hi]
  rfl
theorem RowT.below {ty : TypeId} {w w' : World} {B g : Nat} {xs : List Int} (h : RowT ty w g xs) (hb : Below B w w') (hg : g < B) : RowT ty w' g xs := by
  obtain ⟨C, h1, h2⟩ := h
  exact ⟨C, (hb.block g hg).trans h1, h2⟩
theorem RowT.lt {ty : TypeId} {w : World} {g : Nat} {xs : List Int} (h : RowT ty w g xs) : g < w.heap.size := by
  obtain ⟨C, h1, _⟩ := h
  exact (Array.getElem?_eq_some_iff.1 h1).1
theorem RowT.set {ty : TypeId} {w : World} {g : Nat} {xs : List Int} (h : RowT ty w g xs) (i : Nat) (v : Int) : RowT ty (w.setCell ⟨g, i, none⟩ (.int .i64 v)) g (xs.set i v) := by
  obtain ⟨C, h1, h2⟩ := h
  refine ⟨C.setIfInBounds i (.int .i64 v), heap_setCell_same w g i _ _ _ h1, ?_⟩
  rw [Array.toList_setIfInBounds, h2, List.map_set]
theorem RowT.ints {ty : TypeId} {w : World} {g n : Nat} {xs : List Int} (h : RowT ty w g xs) (hl : xs.length = n) : Ints .i64 w w.heap.size (some ⟨g, 0, none⟩) n xs :=
  ⟨hl, fun _ => ⟨g, 0, rfl, h.lt, fun i hi => by rw [Nat.zero_add]; exact (h.cell (by omega)).1⟩⟩
theorem below_setI {w w' : World} {B g i : Nat} {v : Value} (hb : Below B w w') (hg : B ≤ g) : Below B w (w'.setCell ⟨g, i, none⟩ v) :=
  ⟨hb.os, hb.tape, hb.output, by simpa using hb.size, fun k hk => (Below.heap_setCell w' ⟨g, i, none⟩ v k (by show k ≠ g; omega)).trans (hb.block k hk)⟩

theorem infoIntJ : (Tryd.prog.info? 3).map (fun i => (i.zero, i.size, i.bytes)) = some (some (.int .i64 0), 1, 8) := by kernel_rfl
/-- make of so many integers. -/
theorem make_ints (n : Nat) (hn : n ≤ 1000) : ∃ C : Array Value, C.toList = (List.replicate n (0 : Int)).map (Value.int .i64) ∧ ∀ W : World, Sem.run Tryd.prog (Instr.makeSlice 45 (.int .i64 (n : Int)) (.int .i64 (n : Int))) W = .ok (.slice (some ⟨W.heap.size, 0, none⟩) n n) (W.alloc (.cells C 3)) := by
  obtain ⟨i0, hi, hz0, hz1, hz2⟩ := info_parts infoIntJ
  refine ⟨madeCells #[Value.int .i64 0] (n * 1), by rw [toList_madeCells_one]; simp, fun W => ?_⟩
  have hr := run_make (P := Tryd.prog) W 45 3 i0 (.int .i64 0) Tryd.underlying45 hi hz0 .i64 .i64 n n (by omega) (Int.le_refl _) (by rw [hz2]; omega) (by omega)
  simp only [Int.toNat_natCast, hz1] at hr
  exact hr

/-- A row of the call's own integers, so far. -/
structure RowB (w : World) (A : Option Addr) (n c : Nat) (l : List Int) (wr : World) : Prop where
  len : l.length = n
  own : wr.ownsRow w.heap.size 3 1 (.slice A n c) n (l.map (Value.int .i64))
  bel : Below w.heap.size w wr
theorem RowB.one {w wr : World} {A : Option Addr} {n c : Nat} {l : List Int} (h : RowB w A n c l wr) (x : Int) (hn : n ≤ 100000) :
    ∃ A' n' c' w', (Builtin.append_ #[45, 45] 45 #[.slice A n c, .slice (some ⟨wr.heap.size, 0, none⟩) 1 1]).run Tryd.prog (wr.alloc (.cells #[.int .i64 x] 3)) = .ok (.slice A' n' c') w' ∧ RowB w A' n' c' (l ++ [x]) w' := by
  obtain ⟨i0, hi, hz0, hz1, hz2⟩ := info_parts infoIntJ
  have hb := h.bel.alloc h.bel.size (.cells #[.int .i64 x] 3)
  have hat := heap_alloc_new wr (.cells #[.int .i64 x] 3)
  obtain ⟨v', w', hr, ho, hg, _⟩ := run_append_own (P := Tryd.prog) (wr.alloc (.cells #[.int .i64 x] 3)) w.heap.size 45 45 3 i0 (.int .i64 0) 1 8 Tryd.underlying45 hi hz0 hz1 hz2 rfl (by decide) (.slice A n c) n _ (h.own.alloc _) ⟨wr.heap.size, 0, none⟩ 1 1 [.int .i64 x] rfl (by
    intro j u hu
    match j, hu with
    | 0, hu =>
      have e : u = .int .i64 x := by simpa using hu.symm
      subst e
      exact (cell_of_row _ _ 0 _ _ _ hat).trans rfl) (by intro u hu; simp at hu; subst hu; rfl) (by unfold maxLen; omega) (by omega) hb.size
  obtain ⟨A', c', rfl⟩ : ∃ A' c', v' = .slice A' (n + 1) c' := by
    rcases ho.2 with ⟨rfl, e⟩ | ⟨g, cap, cur, rfl, _⟩
    · exact ⟨none, 0, by rw [e]⟩
    · exact ⟨_, _, rfl⟩
  exact ⟨A', _, c', w', hr, by rw [List.length_append, h.len]; rfl, by rw [List.map_append]; exact ho, hb.grown hg hb.size (fun k hk => (h.own.lt k hk).1)⟩
theorem grown_of_below {w w' : World} (h : Below w.heap.size w w') : w.grownBy w' none := ⟨h.os, h.tape, h.output, h.size, fun k hk _ => h.block k hk⟩

end Go.Proofs.YtlikbmbcjipolaaDoor
