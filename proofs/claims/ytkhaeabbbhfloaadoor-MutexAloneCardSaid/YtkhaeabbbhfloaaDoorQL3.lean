/-
  A latch where the laws have it: latched; what is so behind moves, and at its end.
-/
import Derived.Test.YtkhaeabbbhfloaaDoorQL2
import Derived.Test.YtkhaeabbbhfloaaDoorQI2
namespace Go.Proofs.YtkhaeabbbhfloaaDoor
set_option maxRecDepth 100000
open Go.RowKit Go.Shelf Go.Sort
set_option linter.unusedVariables false
set_option linter.unusedSimpArgs false

def callsL (Ls : List (List Bool)) (t : Nat) : List Bool := Ls.getD t []
/-- Calls that a latch may be asked for. -/
structure LaOk (f : Nat) (Ls : List (List Bool)) : Prop where
  f12 : f ≤ 12
  n9 : Ls.length ≤ 9
  l12 : ∀ L ∈ Ls, L.length ≤ 12
theorem LaOk.calls {f : Nat} {Ls : List (List Bool)} (h : LaOk f Ls) (u : Nat) : (callsL Ls u).length ≤ 12 := by
  unfold callsL
  rw [List.getD_eq_getElem?_getD]
  cases hc : Ls[u]? with
  | none => exact Nat.zero_le _
  | some l => exact h.l12 l (List.mem_of_getElem? hc)
def laK {f : Nat} {Ls : List (List Bool)} (h : LaOk f Ls) : KindF latchF Ls.length (callsL Ls) (fun c => ([(f : Int)] : List Int).getD c 0) := latK f Ls.length (callsL Ls) (by have := h.f12; omega) (by have := h.n9; omega)
/-- A latch behind some steps and p pokes. -/
def LaM {f : Nat} {Ls : List (List Bool)} (h : LaOk f Ls) (p : Nat) (m : Mach) : Prop := ∃ S, RanF (laK h) p S m
section
variable {f : Nat} {Ls : List (List Bool)} {h : LaOk f Ls} {p : Nat} {m m' : Mach}
end

/-- Finish, where a machine lies. -/
theorem at_finish {w wr : World} {c : Nat} {cells0 : List Int} {m : Mach} (h : At w c m wr) (hb : MBig cells0 m) :
    Calls Tryd.prog 13 #[.pointer (some ⟨c, 0, none⟩)] wr fun e w' => ∃ m', Fin m m' ∧ e = .returned (.int .i64 ((m'.steps : Int) - (m.steps : Int))) ∧ At w c m' w' ∧ MBig cells0 m' := by
  obtain ⟨S, X, rfl, hC, hB⟩ := h
  exact (ffin_any hC hB.size hb).mono fun e w' ⟨m', hf, he, hm, hbig⟩ => ⟨m', hf, he, At.moved rfl hC hB hm, hbig⟩

/-- A latch at a place. -/
structure LaAt (w : World) (c : Nat) {f : Nat} {Ls : List (List Bool)} (h : LaOk f Ls) (p : Nat) (m : Mach) (wr : World) : Prop where
  at_ : At w c m wr
  big : MBig [(f : Int)] m
  la : LaM h p m
theorem LaAt.grow {w wr w' : World} {c : Nat} {f : Nat} {Ls : List (List Bool)} {h : LaOk f Ls} {p : Nat} {m : Mach} (hA : LaAt w c h p m wr) (hg : wr.grownBy w' none) : LaAt w c h p m w' := ⟨hA.at_.grow hg, hA.big, hA.la⟩

/-- slices.Equal with one number that is written down. -/
theorem equal_one {w : World} (A : Option Addr) (c : Nat) (v : Int) (h : Ints .u64 w w.heap.size A 1 [v]) : Calls Tryd.prog 16 #[.slice A 1 c, .slice (some ⟨w.heap.size, 0, none⟩) 1 1] (w.alloc (.cells #[.int .u64 v] 30)) fun e w' => e = .returned (.bool true) ∧ w.grownBy w' none := by
  have hI5 := h.below ((Below.refl w.heap.size w).alloc (Nat.le_refl _) (.cells #[.int .u64 v] 30))
  have hI6 : Ints .u64 (w.alloc (.cells #[.int .u64 v] 30)) (w.heap.size + 1) (some ⟨w.heap.size, 0, none⟩) 1 [v] := ⟨rfl, fun _ => ⟨_, 0, rfl, by omega, fun i hi => by
    match i, hi with
    | 0, _ => exact (cell_of_row _ _ 0 _ _ _ (heap_alloc_new w (.cells #[.int .u64 v] 30))).trans rfl⟩⟩
  refine (equalU_same A _ 1 _ 1 [v] _ (by decide) (w.heap.size + 1) (hI5.keep (by omega) (fun p hp => rfl)) hI6).mono ?_
  rintro e w5 ⟨rfl, q, rfl⟩
  exact ⟨rfl, (World.grownBy_alloc w (.cells #[.int .u64 v] 30) none).andThen (row' := none) ⟨rfl, rfl, rfl, Nat.le_refl _, fun _ _ _ => rfl⟩ (fun k hk => by cases hk)⟩

theorem IRows.old {w w' : World} {n : Nat} {A : Option Addr} {l : List (List Int)} (h : IRows w w.heap.size A n l) (hb : Below w.heap.size w w') : IRows w' w'.heap.size A n l := by
  have h1 := h.below hb
  refine ⟨h1.len, fun h0 => ?_⟩
  obtain ⟨b, off, e, hlt, hx⟩ := h1.row h0
  refine ⟨b, off, e, Nat.lt_of_lt_of_le hlt hb.size, fun i hi => ?_⟩
  obtain ⟨Ai, ci, h2, h3, h4⟩ := hx i hi
  exact ⟨Ai, ci, h2, h3, h4.keep hb.size (fun p _ => rfl)⟩
theorem CRows.old {w w' : World} {n : Nat} {A : Option Addr} {l : List (List (Int × Int))} (h : CRows w w.heap.size A n l) (hb : Below w.heap.size w w') : CRows w' w'.heap.size A n l := by
  have h1 := h.below hb
  refine ⟨h1.len, fun h0 => ?_⟩
  obtain ⟨b, off, e, hlt, hx⟩ := h1.row h0
  refine ⟨b, off, e, Nat.lt_of_lt_of_le hlt hb.size, fun i hi => ?_⟩
  obtain ⟨Ai, ci, h2, h3⟩ := hx i hi
  exact ⟨Ai, ci, h2, h3.wide hb.size⟩
theorem u64_small {f : Nat} (h : f ≤ 1000) : IntKind.u64.wrap (f : Int) = (f : Int) := by
  show (f : Int) % 18446744073709551616 = _
  omega
theorem ActRow.below {w w' : World} {A : Option Addr} {n : Nat} {l : List Act6} (h : ActRow w A n l) (hb : Below w.heap.size w w') : ActRow w' A n l := fun i hi => by
  obtain ⟨b, off, e, h0, h1, h2, h3, h4, h5⟩ := h i hi
  have hlt : b < w.heap.size := World.block_lt_of_cell? w _ h0
  have hx : ∀ (j : Nat), w'.cell? ⟨b, off + i * 6 + j, none⟩ = w.cell? ⟨b, off + i * 6 + j, none⟩ := fun j => World.cell?_of_block (a := ⟨b, off + i * 6 + j, none⟩) (hb.block b hlt)
  exact ⟨b, off, e, (hx 0).trans h0, (hx 1).trans h1, (hx 2).trans h2, (hx 3).trans h3, (hx 4).trans h4, (hx 5).trans h5⟩
theorem Nest.low {tO tI : TypeId} {sz : Nat} {w W wr : World} {A : Option Addr} {n c : Nat} {rs : List (Nat × List Value)} (h : Nest tO tI sz W A n c rs wr) (hb : Below w.heap.size w W) : Nest tO tI sz w A n c rs wr := by
  obtain ⟨xs, h1, h2⟩ := h.row
  refine ⟨hb.trans (h.bel.mono hb.size), h.len, xs, own_low h1 hb.size, fun j hj => ?_⟩
  obtain ⟨Aj, cj, h3, h4⟩ := h2 j hj
  exact ⟨Aj, cj, h3, own_low h4 hb.size⟩
end Go.Proofs.YtkhaeabbbhfloaaDoor
