/-
  The laws' helpers on threads that ask for calls: asks.
-/
import Derived.Test.YtkhaeabbbhfloaaDoorQL
namespace Go.Proofs.YtkhaeabbbhfloaaDoor
set_option maxRecDepth 100000
open Go.RowKit Go.Shelf Go.Sort
set_option linter.unusedVariables false
set_option linter.unusedSimpArgs false

/-- Rows of ints in a row. -/
structure IRows (w : World) (B : Nat) (A : Option Addr) (n : Nat) (ls : List (List Int)) : Prop where
  len : ls.length = n
  row : 0 < n → ∃ b off, A = some ⟨b, off, none⟩ ∧ b < B ∧ ∀ i, i < n → ∃ Ai ci, w.cell? ⟨b, off + i, none⟩ = some (.slice Ai (ls.getD i []).length ci) ∧ (ls.getD i []).length ≤ ci ∧ Ints .i64 w B Ai (ls.getD i []).length (ls.getD i [])
theorem IRows.below {w w' : World} {B n : Nat} {A : Option Addr} {l : List (List Int)} (h : IRows w B A n l) (hb : Below B w w') : IRows w' B A n l :=
  ⟨h.len, fun h0 => by
    obtain ⟨b, off, e, hlt, hx⟩ := h.row h0
    refine ⟨b, off, e, hlt, fun i hi => ?_⟩
    obtain ⟨Ai, ci, h1, h3, h2⟩ := hx i hi
    exact ⟨Ai, ci, (World.cell?_of_block (a := ⟨b, off + i, none⟩) (hb.block b hlt)).trans h1, h3, h2.below hb⟩⟩

def cellsC (l : List (Int × Int)) : List Value := l.flatMap fun x => [.int .i64 x.1, .int .i64 x.2]
theorem cellsC_append (l r : List (Int × Int)) : cellsC (l ++ r) = cellsC l ++ cellsC r := by simp [cellsC]
theorem cellsC_len (l : List (Int × Int)) : (cellsC l).length = l.length * 2 := by
  induction l with
  | nil => rfl
  | cons x l ih => rw [show x :: l = [x] ++ l from rfl, cellsC_append, List.length_append, ih]; simp [cellsC]; omega
theorem cellsC_at (l : List (Int × Int)) (i : Nat) (hi : i < l.length) : (cellsC l)[i * 2]? = some (.int .i64 (l.getD i default).1) ∧ (cellsC l)[i * 2 + 1]? = some (.int .i64 (l.getD i default).2) := by
  induction l generalizing i with
  | nil => cases hi
  | cons x l ih =>
    rw [show x :: l = [x] ++ l from rfl, cellsC_append]
    have hl : (cellsC [x]).length = 2 := rfl
    cases i with
    | zero => exact ⟨rfl, rfl⟩
    | succ i =>
      obtain ⟨h1, h2⟩ := ih i (by simpa using hi)
      rw [List.getElem?_append_right (by omega), hl, show (i + 1) * 2 - 2 = i * 2 by omega, List.getElem?_append_right (by omega), hl, show (i + 1) * 2 + 1 - 2 = i * 2 + 1 by omega, h1, h2]
      simp
/-- A row of calls that is owned is one. -/
theorem CRow.own {w : World} {B n : Nat} {A : Option Addr} {c : Nat} {l : List (Int × Int)} (h : w.ownsRow B 55 2 (.slice A n c) n (cellsC l)) (hl : l.length = n) : CRow w w.heap.size A n l := by
  refine ⟨hl, fun h0 => ?_⟩
  obtain ⟨g, cap, hv, hb, hlt⟩ := h.form h0
  obtain ⟨rfl, rfl⟩ : A = some ⟨g, 0, none⟩ ∧ c = cap := by injection hv with h1 _ h3; exact ⟨h1, h3⟩
  refine ⟨g, 0, rfl, (h.lt g rfl).2, fun i hi => ?_⟩
  obtain ⟨h1, h2⟩ := cellsC_at l i (by omega)
  rw [Nat.zero_add]
  exact ⟨(h.cellAt (i * 2) (by omega)).trans h1, (h.cellAt (i * 2 + 1) (by omega)).trans h2⟩
theorem Nest.calls {w wr : World} {A : Option Addr} {n c : Nat} {ls : List (List (Int × Int))} (h : Nest 56 55 2 w A n c (ls.map fun l => (l.length, cellsC l)) wr) : CRows wr wr.heap.size A n ls := by
  have hl : ls.length = n := by have := h.len; rwa [List.length_map] at this
  obtain ⟨xs, h1, h2⟩ := h.row
  refine ⟨hl, fun h0 => ?_⟩
  obtain ⟨g, cap, hv, hb, hlt⟩ := h1.form h0
  obtain ⟨rfl, rfl⟩ : A = some ⟨g, 0, none⟩ ∧ c = cap := by injection hv with h1 _ h3; exact ⟨h1, h3⟩
  refine ⟨g, 0, rfl, (h1.lt g rfl).2, fun i hi => ?_⟩
  obtain ⟨Aj, cj, h3, h4⟩ := h2 i hi
  have he : (ls.map fun p => (p.length, cellsC p)).getD i default = ((ls.getD i []).length, cellsC (ls.getD i [])) := by
    rw [List.getD_eq_getElem?_getD, List.getElem?_map, List.getElem?_eq_getElem (by omega), List.getD_eq_getElem?_getD, List.getElem?_eq_getElem (by omega)]
    rfl
  rw [he] at h3 h4
  exact ⟨Aj, cj, by rw [Nat.zero_add]; exact (h1.cellAt _ (by have := h1.1; omega)).trans h3, CRow.own h4 rfl⟩

theorem infoCall : (Tryd.prog.info? 55).map (fun i => (i.zero, i.size, i.bytes)) = some (some (.agg #[.int .i64 0, .int .i64 0]), 2, 16) := by kernel_rfl
/-- A row of the call's own calls, so far. -/
structure RowC (w : World) (A : Option Addr) (n c : Nat) (l : List (Int × Int)) (wr : World) : Prop where
  len : l.length = n
  own : wr.ownsRow w.heap.size 55 2 (.slice A n c) n (cellsC l)
  bel : Below w.heap.size w wr
theorem RowC.nil (w : World) : RowC w none 0 0 [] w := ⟨rfl, World.ownsRow_nil _ _ _ _, Below.refl _ _⟩
theorem RowC.add {w wr : World} {A : Option Addr} {n c : Nat} {l r : List (Int × Int)} (h : RowC w A n c l wr) (cs : Array Value) (m : Nat) (hcs : cs.toList = cellsC r) (hm : r.length = m) (hn : n ≤ 1000) (hm2 : m ≤ 1000) :
    ∃ A' c' w', (Builtin.append_ #[56, 56] 56 #[.slice A n c, .slice (some ⟨wr.heap.size, 0, none⟩) m m]).run Tryd.prog (wr.alloc (.cells cs 55)) = .ok (.slice A' (n + m) c') w' ∧ RowC w A' (n + m) c' (l ++ r) w' := by
  obtain ⟨i0, hi, hz0, hz1, hz2⟩ := info_parts infoCall
  have hb := h.bel.alloc h.bel.size (.cells cs 55)
  have hat := heap_alloc_new wr (.cells cs 55)
  have hnews := World.news_of_block (cs := cs) hat
  rw [hcs] at hnews
  have h1c : ∀ u ∈ cellsC r, u.oneCell' = true := fun u hu => by
    obtain ⟨x, _, hx⟩ := List.mem_flatMap.1 hu
    simp only [List.mem_cons, List.not_mem_nil, or_false] at hx
    rcases hx with rfl | rfl <;> rfl
  obtain ⟨v', w', hr, ho, hg, _⟩ := run_append_own (P := Tryd.prog) (wr.alloc (.cells cs 55)) w.heap.size 56 56 55 i0 (.agg #[.int .i64 0, .int .i64 0]) 2 16 Tryd.underlying56 hi hz0 hz1 hz2 rfl (by decide) (.slice A n c) n (cellsC l) (h.own.alloc _) ⟨wr.heap.size, 0, none⟩ m m (cellsC r) (by rw [cellsC_len, hm]) hnews h1c (by unfold maxLen; omega) (by omega) (by rw [World.size_alloc]; have := h.bel.size; omega)
  obtain ⟨A', c', rfl⟩ := slice_of_own ho
  exact ⟨A', c', w', hr, by rw [List.length_append, h.len, hm], by rw [cellsC_append]; exact ho, hb.grown hg (by rw [World.size_alloc]; have := h.bel.size; omega) (fun g hg => (h.own.lt g hg).1)⟩
theorem RowC.grow {w wr w' : World} {A : Option Addr} {n c : Nat} {l : List (Int × Int)} (h : RowC w A n c l wr) (hb : Below wr.heap.size wr w') : RowC w A n c l w' :=
  ⟨h.len, own_tags h.own (keeps_below hb (Nat.le_refl _)) (show Tagged wr (fun _ => False) [] from fun k hk => hk.elim) (by simp), h.bel.trans (hb.mono h.bel.size)⟩

end Go.Proofs.YtkhaeabbbhfloaaDoor
