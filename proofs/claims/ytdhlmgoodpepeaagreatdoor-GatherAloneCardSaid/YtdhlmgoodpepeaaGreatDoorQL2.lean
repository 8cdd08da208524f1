/-
  The laws' helpers on threads that ask for calls: asks. A latch where the laws have it: latched; what is so behind moves, and at its end. Rows of ints that came in: a slice of slices of ints.
-/
import Derived.Test.YtdhlmgoodpepeaaGreatDoorQL
import Derived.Test.YtdhlmgoodpepeaaGreatDoorQI
import Derived.Test.YtdhlmgoodpepeaaGreatDoorQE2
namespace Go.Proofs.YtdhlmgoodpepeaaGreatDoor
set_option maxRecDepth 100000
open Go.RowKit Go.Shelf Go.Sort
set_option linter.unusedVariables false
set_option linter.unusedSimpArgs false

/-- Rows of ints in a row. -/
structure IRows (w : World) (B : Nat) (A : Option Addr) (n : Nat) (ls : List (List Int)) : Prop where
  len : ls.length = n
  row : 0 < n → ∃ b off, A = some ⟨b, off, none⟩ ∧ b < B ∧ ∀ i, i < n → ∃ Ai ci, w.cell? ⟨b, off + i, none⟩ = some (.slice Ai (ls.getD i []).length ci) ∧ (ls.getD i []).length ≤ ci ∧ Ints .i64 w B Ai (ls.getD i []).length (ls.getD i [])
theorem IRows.below {w w' : World} {B n : Nat} {A : Option Addr} {l : List (List Int)} (h : IRows w B A n l) (hb : Below B w w') : IRows w' B A n l :=
  ⟨h.len, fun h0 => by
    obtain ⟨b, off, e, hlt, hx⟩ := h.row h0
    refine ⟨b, off, e, hlt, fun i hi => ?_⟩
    obtain ⟨Ai, ci, h1, h3, h2⟩ := hx i hi
    exact ⟨Ai, ci, (World.cell?_of_block (a := ⟨b, off + i, none⟩) (hb.block b hlt)).trans h1, h3, h2.below hb⟩⟩

def cellsC (l : List (Int × Int)) : List Value := l.flatMap fun x => [.int .i64 x.1, .int .i64 x.2]
theorem cellsC_append (l r : List (Int × Int)) : cellsC (l ++ r) = cellsC l ++ cellsC r := by simp [cellsC]
theorem cellsC_len (l : List (Int × Int)) : (cellsC l).length = l.length * 2 := by
  induction l with
  | nil => rfl
  | cons x l ih => rw [show x :: l = [x] ++ l from rfl, cellsC_append, List.length_append, ih]; simp [cellsC]; omega
theorem cellsC_at (l : List (Int × Int)) (i : Nat) (hi : i < l.length) : (cellsC l)[i * 2]? = some (.int .i64 (l.getD i default).1) ∧ (cellsC l)[i * 2 + 1]? = some (.int .i64 (l.getD i default).2) := by
  induction l generalizing i with
  | nil => cases hi
  | cons x l ih =>
    rw [show x :: l = [x] ++ l from rfl, cellsC_append]
    have hl : (cellsC [x]).length = 2 := rfl
    cases i with
    | zero => exact ⟨rfl, rfl⟩
    | succ i =>
      obtain ⟨h1, h2⟩ := ih i (by simpa using hi)
      rw [List.getElem?_append_right (by omega), hl, show (i + 1) * 2 - 2 = i * 2 by omega, List.getElem?_append_right (by omega), hl, show (i + 1) * 2 + 1 - 2 = i * 2 + 1 by omega, h1, h2]
      simp
/-- A row of calls that is owned is one. -/
theorem CRow.own {w : World} {B n : Nat} {A : Option Addr} {c : Nat} {l : List (Int × Int)} (h : w.ownsRow B 63 2 (.slice A n c) n (cellsC l)) (hl : l.length = n) : CRow w w.heap.size A n l := by
  refine ⟨hl, fun h0 => ?_⟩
  obtain ⟨g, cap, hv, hb, hlt⟩ := h.form h0
  obtain ⟨rfl, rfl⟩ : A = some ⟨g, 0, none⟩ ∧ c = cap := by injection hv with h1 _ h3; exact ⟨h1, h3⟩
  refine ⟨g, 0, rfl, (h.lt g rfl).2, fun i hi => ?_⟩
  obtain ⟨h1, h2⟩ := cellsC_at l i (by omega)
  rw [Nat.zero_add]
  exact ⟨(h.cellAt (i * 2) (by omega)).trans h1, (h.cellAt (i * 2 + 1) (by omega)).trans h2⟩
theorem Nest.calls {w wr : World} {A : Option Addr} {n c : Nat} {ls : List (List (Int × Int))} (h : Nest 60 63 2 w A n c (ls.map fun l => (l.length, cellsC l)) wr) : CRows wr wr.heap.size A n ls := by
  have hl : ls.length = n := by have := h.len; rwa [List.length_map] at this
  obtain ⟨xs, h1, h2⟩ := h.row
  refine ⟨hl, fun h0 => ?_⟩
  obtain ⟨g, cap, hv, hb, hlt⟩ := h1.form h0
  obtain ⟨rfl, rfl⟩ : A = some ⟨g, 0, none⟩ ∧ c = cap := by injection hv with h1 _ h3; exact ⟨h1, h3⟩
  refine ⟨g, 0, rfl, (h1.lt g rfl).2, fun i hi => ?_⟩
  obtain ⟨Aj, cj, h3, h4⟩ := h2 i hi
  have he : (ls.map fun p => (p.length, cellsC p)).getD i default = ((ls.getD i []).length, cellsC (ls.getD i [])) := by
    rw [List.getD_eq_getElem?_getD, List.getElem?_map, List.getElem?_eq_getElem (by omega), List.getD_eq_getElem?_getD, List.getElem?_eq_getElem (by omega)]
    rfl
  rw [he] at h3 h4
  exact ⟨Aj, cj, by rw [Nat.zero_add]; exact (h1.cellAt _ (by have := h1.1; omega)).trans h3, CRow.own h4 rfl⟩

theorem infoCall : (Tryz.prog.info? 63).map (fun i => (i.zero, i.size, i.bytes)) = some (some (.agg #[.int .i64 0, .int .i64 0]), 2, 16) := by kernel_rfl
/-- A row of the call's own calls, so far. -/
structure RowC (w : World) (A : Option Addr) (n c : Nat) (l : List (Int × Int)) (wr : World) : Prop where
  len : l.length = n
  own : wr.ownsRow w.heap.size 63 2 (.slice A n c) n (cellsC l)
  bel : Below w.heap.size w wr
theorem RowC.nil (w : World) : RowC w none 0 0 [] w := ⟨rfl, World.ownsRow_nil _ _ _ _, Below.refl _ _⟩
theorem RowC.add {w wr : World} {A : Option Addr} {n c : Nat} {l r : List (Int × Int)} (h : RowC w A n c l wr) (cs : Array Value) (m : Nat) (hcs : cs.toList = cellsC r) (hm : r.length = m) (hn : n ≤ 1000) (hm2 : m ≤ 1000) :
    ∃ A' c' w', (Builtin.append_ #[60, 60] 60 #[.slice A n c, .slice (some ⟨wr.heap.size, 0, none⟩) m m]).run Tryz.prog (wr.alloc (.cells cs 63)) = .ok (.slice A' (n + m) c') w' ∧ RowC w A' (n + m) c' (l ++ r) w' := by
  obtain ⟨i0, hi, hz0, hz1, hz2⟩ := info_parts infoCall
  have hb := h.bel.alloc h.bel.size (.cells cs 63)
  have hat := heap_alloc_new wr (.cells cs 63)
  have hnews := World.news_of_block (cs := cs) hat
  rw [hcs] at hnews
  have h1c : ∀ u ∈ cellsC r, u.oneCell' = true := fun u hu => by
    obtain ⟨x, _, hx⟩ := List.mem_flatMap.1 hu
    simp only [List.mem_cons, List.not_mem_nil, or_false] at hx
    rcases hx with rfl | rfl <;> rfl
  obtain ⟨v', w', hr, ho, hg, _⟩ := run_append_own (P := Tryz.prog) (wr.alloc (.cells cs 63)) w.heap.size 60 60 63 i0 (.agg #[.int .i64 0, .int .i64 0]) 2 16 Tryz.underlying60 hi hz0 hz1 hz2 rfl (by decide) (.slice A n c) n (cellsC l) (h.own.alloc _) ⟨wr.heap.size, 0, none⟩ m m (cellsC r) (by rw [cellsC_len, hm]) hnews h1c (by unfold maxLen; omega) (by omega) (by rw [World.size_alloc]; have := h.bel.size; omega)
  obtain ⟨A', c', rfl⟩ := slice_of_own ho
  exact ⟨A', c', w', hr, by rw [List.length_append, h.len, hm], by rw [cellsC_append]; exact ho, hb.grown hg (by rw [World.size_alloc]; have := h.bel.size; omega) (fun g hg => (h.own.lt g hg).1)⟩
theorem RowC.grow {w wr w' : World} {A : Option Addr} {n c : Nat} {l : List (Int × Int)} (h : RowC w A n c l wr) (hb : Below wr.heap.size wr w') : RowC w A n c l w' :=
  ⟨h.len, own_tags h.own (keeps_below hb (Nat.le_refl _)) (show Tagged wr (fun _ => False) [] from fun k hk => hk.elim) (by simp), h.bel.trans (hb.mono h.bel.size)⟩

end Go.Proofs.YtdhlmgoodpepeaaGreatDoor

namespace Go.Proofs.YtdhlmgoodpepeaaGreatDoor
set_option maxRecDepth 100000
open Go.RowKit Go.Shelf Go.Sort
set_option linter.unusedVariables false
set_option linter.unusedSimpArgs false

def callsL (Ls : List (List Bool)) (t : Nat) : List Bool := Ls.getD t []
/-- Calls that a latch may be asked for. -/
structure LaOk (f : Nat) (Ls : List (List Bool)) : Prop where
  f12 : f ≤ 12
  n9 : Ls.length ≤ 9
  l12 : ∀ L ∈ Ls, L.length ≤ 12
theorem LaOk.calls {f : Nat} {Ls : List (List Bool)} (h : LaOk f Ls) (u : Nat) : (callsL Ls u).length ≤ 12 := by
  unfold callsL
  rw [List.getD_eq_getElem?_getD]
  cases hc : Ls[u]? with
  | none => exact Nat.zero_le _
  | some l => exact h.l12 l (List.mem_of_getElem? hc)
def laK {f : Nat} {Ls : List (List Bool)} (h : LaOk f Ls) : KindF latchF Ls.length (callsL Ls) (fun c => ([(f : Int)] : List Int).getD c 0) := latK f Ls.length (callsL Ls) (by have := h.f12; omega) (by have := h.n9; omega)
/-- A latch behind some steps and p pokes. -/
def LaM {f : Nat} {Ls : List (List Bool)} (h : LaOk f Ls) (p : Nat) (m : Mach) : Prop := ∃ S, RanF (laK h) p S m
section
variable {f : Nat} {Ls : List (List Bool)} {h : LaOk f Ls} {p : Nat} {m m' : Mach}
end

/-- Finish, where a machine lies. -/
theorem at_finish {w wr : World} {c : Nat} {cells0 : List Int} {m : Mach} (h : At w c m wr) (hb : MBig cells0 m) :
    Calls Tryz.prog 26 #[.pointer (some ⟨c, 0, none⟩)] wr fun e w' => ∃ m', Fin m m' ∧ e = .returned (.int .i64 ((m'.steps : Int) - (m.steps : Int))) ∧ At w c m' w' ∧ MBig cells0 m' := by
  obtain ⟨S, X, rfl, hC, hB⟩ := h
  exact (ffin_any hC hB.size hb).mono fun e w' ⟨m', hf, he, hm, hbig⟩ => ⟨m', hf, he, At.moved rfl hC hB hm, hbig⟩

/-- A latch at a place. -/
structure LaAt (w : World) (c : Nat) {f : Nat} {Ls : List (List Bool)} (h : LaOk f Ls) (p : Nat) (m : Mach) (wr : World) : Prop where
  at_ : At w c m wr
  big : MBig [(f : Int)] m
  la : LaM h p m
theorem LaAt.grow {w wr w' : World} {c : Nat} {f : Nat} {Ls : List (List Bool)} {h : LaOk f Ls} {p : Nat} {m : Mach} (hA : LaAt w c h p m wr) (hg : wr.grownBy w' none) : LaAt w c h p m w' := ⟨hA.at_.grow hg, hA.big, hA.la⟩

theorem IRows.old {w w' : World} {n : Nat} {A : Option Addr} {l : List (List Int)} (h : IRows w w.heap.size A n l) (hb : Below w.heap.size w w') : IRows w' w'.heap.size A n l := by
  have h1 := h.below hb
  refine ⟨h1.len, fun h0 => ?_⟩
  obtain ⟨b, off, e, hlt, hx⟩ := h1.row h0
  refine ⟨b, off, e, Nat.lt_of_lt_of_le hlt hb.size, fun i hi => ?_⟩
  obtain ⟨Ai, ci, h2, h3, h4⟩ := hx i hi
  exact ⟨Ai, ci, h2, h3, h4.keep hb.size (fun p _ => rfl)⟩
theorem CRows.old {w w' : World} {n : Nat} {A : Option Addr} {l : List (List (Int × Int))} (h : CRows w w.heap.size A n l) (hb : Below w.heap.size w w') : CRows w' w'.heap.size A n l := by
  have h1 := h.below hb
  refine ⟨h1.len, fun h0 => ?_⟩
  obtain ⟨b, off, e, hlt, hx⟩ := h1.row h0
  refine ⟨b, off, e, Nat.lt_of_lt_of_le hlt hb.size, fun i hi => ?_⟩
  obtain ⟨Ai, ci, h2, h3⟩ := hx i hi
  exact ⟨Ai, ci, h2, h3.wide hb.size⟩
theorem ActRow.below {w w' : World} {A : Option Addr} {n : Nat} {l : List Act6} (h : ActRow w A n l) (hb : Below w.heap.size w w') : ActRow w' A n l := fun i hi => by
  obtain ⟨b, off, e, h0, h1, h2, h3, h4, h5⟩ := h i hi
  have hlt : b < w.heap.size := World.block_lt_of_cell? w _ h0
  have hx : ∀ (j : Nat), w'.cell? ⟨b, off + i * 6 + j, none⟩ = w.cell? ⟨b, off + i * 6 + j, none⟩ := fun j => World.cell?_of_block (a := ⟨b, off + i * 6 + j, none⟩) (hb.block b hlt)
  exact ⟨b, off, e, (hx 0).trans h0, (hx 1).trans h1, (hx 2).trans h2, (hx 3).trans h3, (hx 4).trans h4, (hx 5).trans h5⟩
theorem Nest.low {tO tI : TypeId} {sz : Nat} {w W wr : World} {A : Option Addr} {n c : Nat} {rs : List (Nat × List Value)} (h : Nest tO tI sz W A n c rs wr) (hb : Below w.heap.size w W) : Nest tO tI sz w A n c rs wr := by
  obtain ⟨xs, h1, h2⟩ := h.row
  refine ⟨hb.trans (h.bel.mono hb.size), h.len, xs, own_low h1 hb.size, fun j hj => ?_⟩
  obtain ⟨Aj, cj, h3, h4⟩ := h2 j hj
  exact ⟨Aj, cj, h3, own_low h4 hb.size⟩
end Go.Proofs.YtdhlmgoodpepeaaGreatDoor

namespace Go.Proofs.YtdhlmgoodpepeaaGreatDoor
set_option maxRecDepth 100000
open Go.ChangeShapes Go.WideShapes Go.Deep Go.RowKit

end Go.Proofs.YtdhlmgoodpepeaaGreatDoor
