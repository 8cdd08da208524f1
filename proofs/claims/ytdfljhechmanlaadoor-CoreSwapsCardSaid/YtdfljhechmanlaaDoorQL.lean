/-
  Programs that ask for calls, one behind the other: ask.Code; latch.Code. The laws' helpers on threads that ask for calls: made.
-/
import Derived.Test.YtdfljhechmanlaaDoorQJ
import Derived.Test.YtdfljhechmanlaaDoorQK
import Derived.Test.YtdfljhechmanlaaDoorQJ2
namespace Go.Proofs.YtdfljhechmanlaaDoor
set_option maxRecDepth 100000
open Go.RowKit Go.Shelf Go.Sort
set_option linter.unusedVariables false
set_option linter.unusedSimpArgs false

/-- A row of calls. -/
structure CRow (w : World) (B : Nat) (A : Option Addr) (n : Nat) (l : List (Int × Int)) : Prop where
  len : l.length = n
  row : 0 < n → ∃ b off, A = some ⟨b, off, none⟩ ∧ b < B ∧ ∀ i, i < n → w.cell? ⟨b, off + i * 2, none⟩ = some (.int .i64 (l.getD i default).1) ∧ w.cell? ⟨b, off + i * 2 + 1, none⟩ = some (.int .i64 (l.getD i default).2)
theorem CRow.below {w w' : World} {B n : Nat} {A : Option Addr} {l : List (Int × Int)} (h : CRow w B A n l) (hb : Below B w w') : CRow w' B A n l :=
  ⟨h.len, fun h0 => by
    obtain ⟨b, off, e, hlt, hx⟩ := h.row h0
    exact ⟨b, off, e, hlt, fun i hi => ⟨(World.cell?_of_block (a := ⟨b, off + i * 2, none⟩) (hb.block b hlt)).trans (hx i hi).1, (World.cell?_of_block (a := ⟨b, off + i * 2 + 1, none⟩) (hb.block b hlt)).trans (hx i hi).2⟩⟩⟩

end Go.Proofs.YtdfljhechmanlaaDoor

namespace Go.Proofs.YtdfljhechmanlaaDoor
set_option maxRecDepth 100000
open Go.RowKit Go.Shelf Go.Sort
set_option linter.unusedVariables false
set_option linter.unusedSimpArgs false

/-! Programs of calls may be. -/
/-! Rows in a row. -/
structure Nest (tO tI : TypeId) (sz : Nat) (w : World) (A : Option Addr) (n c : Nat) (rs : List (Nat × List Value)) (wr : World) : Prop where
  bel : Below w.heap.size w wr
  len : rs.length = n
  row : ∃ xs, wr.ownsRow w.heap.size tO 1 (.slice A n c) n xs ∧ ∀ j, j < n → ∃ Aj cj, xs[j]? = some (.slice Aj (rs.getD j default).1 cj) ∧ wr.ownsRow w.heap.size tI sz (.slice Aj (rs.getD j default).1 cj) (rs.getD j default).1 (rs.getD j default).2
theorem Nest.nil (tO tI : TypeId) (sz : Nat) (w : World) : Nest tO tI sz w none 0 0 [] w := ⟨Below.refl _ _, rfl, [], World.ownsRow_nil _ _ _ _, fun j hj => absurd hj (Nat.not_lt_zero _)⟩
theorem Nest.grow {tO tI : TypeId} {sz : Nat} {w wr w' : World} {A : Option Addr} {n c : Nat} {rs : List (Nat × List Value)} (h : Nest tO tI sz w A n c rs wr) (hb : Below wr.heap.size wr w') : Nest tO tI sz w A n c rs w' := by
  have hk := keeps_below hb (Nat.le_refl _)
  obtain ⟨xs, h1, h2⟩ := h.row
  refine ⟨h.bel.trans (hb.mono h.bel.size), h.len, xs, own_tags h1 hk .none (by simp), fun j hj => ?_⟩
  obtain ⟨Aj, cj, h3, h4⟩ := h2 j hj
  exact ⟨Aj, cj, h3, own_tags h4 hk .none (by simp)⟩
theorem Nest.add {tO tI tS : TypeId} {sz : Nat} {w wr : World} {A B : Option Addr} {n c m cm base : Nat} {rs : List (Nat × List Value)} {ys : List Value} (h : Nest tO tI sz w A n c rs wr) (ht : Tryd.prog.underlying tS = some (.slice tO)) (hi : (Tryd.prog.info? tO).map (fun i => (i.zero, i.size, i.bytes)) = some (some (.slice none 0 0), 1, 24)) (hne : tI ≠ tO)
    (hin : wr.ownsRow base tI sz (.slice B m cm) m ys) (hbase : w.heap.size ≤ base) (hn : n ≤ 1000) :
    ∃ A' c' w', (Builtin.append_ #[tS, tS] tS #[.slice A n c, .slice (some ⟨wr.heap.size, 0, none⟩) 1 1]).run Tryd.prog (wr.alloc (.cells #[.slice B m cm] tO)) = .ok (.slice A' (n + 1) c') w' ∧ Nest tO tI sz w A' (n + 1) c' (rs ++ [(m, ys)]) w' := by
  obtain ⟨i0, hi0, hz0, hz1, hz2⟩ := info_parts hi
  obtain ⟨xs, h1, h2⟩ := h.row
  have hb := h.bel.alloc h.bel.size (.cells #[.slice B m cm] tO)
  have h1a := h1.alloc (.cells #[.slice B m cm] tO)
  have hat := heap_alloc_new wr (.cells #[.slice B m cm] tO)
  have hnews := World.news_of_block (cs := #[.slice B m cm]) hat
  obtain ⟨v', w', hr, ho, hg, _⟩ := run_append_own (P := Tryd.prog) (wr.alloc (.cells #[.slice B m cm] tO)) w.heap.size tS tS tO i0 (.slice none 0 0) 1 24 ht hi0 hz0 hz1 hz2 rfl (by decide) (.slice A n c) n xs h1a ⟨wr.heap.size, 0, none⟩ 1 1 [.slice B m cm] rfl hnews (fun u hu => by rw [List.mem_singleton.1 hu]; rfl) (by unfold maxLen; omega) (by omega) (by rw [World.size_alloc]; have := h.bel.size; omega)
  obtain ⟨A', c', rfl⟩ := slice_of_own ho
  have hk : Keeps (fun k => some k = (Value.slice A n c).ownBlock) (wr.alloc (.cells #[.slice B m cm] tO)) w' := Keeps.of_grown hg (fun k e => e.symm)
  have htg : Tagged (wr.alloc (.cells #[.slice B m cm] tO)) (fun k => some k = (Value.slice A n c).ownBlock) [tO] := tagged_row h1a
  have hlen := h1.1
  refine ⟨A', c', w', hr, hb.grown hg (by rw [World.size_alloc]; have := h.bel.size; omega) (fun g hg => (h1.lt g hg).1), by rw [List.length_append, h.len]; rfl, _, ho, fun j hj => ?_⟩
  by_cases e : j = n
  · subst e
    refine ⟨B, cm, ?_, ?_⟩
    · rw [List.getElem?_append_right (by omega), show j - xs.length = 0 by omega]
      rw [show (rs ++ [(m, ys)]).getD j default = (m, ys) by rw [List.getD_eq_getElem?_getD, List.getElem?_append_right (by have := h.len; omega), show j - rs.length = 0 by have := h.len; omega]; rfl]
      rfl
    · rw [show (rs ++ [(m, ys)]).getD j default = (m, ys) by rw [List.getD_eq_getElem?_getD, List.getElem?_append_right (by have := h.len; omega), show j - rs.length = 0 by have := h.len; omega]; rfl]
      exact own_tags (own_low (hin.alloc _) hbase) hk htg (by simpa using hne)
  · obtain ⟨Aj, cj, h3, h4⟩ := h2 j (by omega)
    have he : (rs ++ [(m, ys)]).getD j default = rs.getD j default := by
      rw [List.getD_eq_getElem?_getD, List.getElem?_append_left (by have := h.len; omega), ← List.getD_eq_getElem?_getD]
    refine ⟨Aj, cj, ?_, ?_⟩
    · rw [List.getElem?_append_left (by omega), he]; exact h3
    · rw [he]; exact own_tags (h4.alloc _) hk htg (by simpa using hne)

/-- Programs in a row. -/
theorem Nest.progs {w wr : World} {A : Option Addr} {n c : Nat} {ps : List (List In5)} (h : Nest 55 64 5 w A n c (ps.map fun p => (p.length, cells5 p)) wr) : Progs wr wr.heap.size A n ps := by
  have hl : ps.length = n := by have := h.len; rwa [List.length_map] at this
  obtain ⟨xs, h1, h2⟩ := h.row
  refine ⟨hl, fun h0 => ?_⟩
  obtain ⟨g, cap, hv, hb, hlt⟩ := h1.form h0
  obtain ⟨rfl, rfl⟩ : A = some ⟨g, 0, none⟩ ∧ c = cap := by injection hv with h1 _ h3; exact ⟨h1, h3⟩
  refine ⟨g, 0, rfl, (h1.lt g rfl).2, fun i hi => ?_⟩
  obtain ⟨Aj, cj, h3, h4⟩ := h2 i hi
  have he : (ps.map fun p => (p.length, cells5 p)).getD i default = ((ps.getD i []).length, cells5 (ps.getD i [])) := by
    rw [List.getD_eq_getElem?_getD, List.getElem?_map, List.getElem?_eq_getElem (by omega), List.getD_eq_getElem?_getD, List.getElem?_eq_getElem (by omega)]
    rfl
  rw [he] at h3 h4
  exact ⟨Aj, cj, by rw [Nat.zero_add]; exact (h1.cellAt _ (by have := h1.1; omega)).trans h3, Inss.of_own h4 rfl⟩

/-- Rows of calls in a row. -/
structure CRows (w : World) (B : Nat) (A : Option Addr) (n : Nat) (ls : List (List (Int × Int))) : Prop where
  len : ls.length = n
  row : 0 < n → ∃ b off, A = some ⟨b, off, none⟩ ∧ b < B ∧ ∀ i, i < n → ∃ Ai ci, w.cell? ⟨b, off + i, none⟩ = some (.slice Ai (ls.getD i []).length ci) ∧ CRow w B Ai (ls.getD i []).length (ls.getD i [])
theorem CRows.below {w w' : World} {B n : Nat} {A : Option Addr} {l : List (List (Int × Int))} (h : CRows w B A n l) (hb : Below B w w') : CRows w' B A n l :=
  ⟨h.len, fun h0 => by
    obtain ⟨b, off, e, hlt, hx⟩ := h.row h0
    refine ⟨b, off, e, hlt, fun i hi => ?_⟩
    obtain ⟨Ai, ci, h1, h2⟩ := hx i hi
    exact ⟨Ai, ci, (World.cell?_of_block (a := ⟨b, off + i, none⟩) (hb.block b hlt)).trans h1, h2.below hb⟩⟩
theorem CRow.wide {w : World} {B B' n : Nat} {A : Option Addr} {l : List (Int × Int)} (h : CRow w B A n l) (hb : B ≤ B') : CRow w B' A n l :=
  ⟨h.len, fun h0 => by
    obtain ⟨b, off, e, hlt, hx⟩ := h.row h0
    exact ⟨b, off, e, by omega, hx⟩⟩
end Go.Proofs.YtdfljhechmanlaaDoor
