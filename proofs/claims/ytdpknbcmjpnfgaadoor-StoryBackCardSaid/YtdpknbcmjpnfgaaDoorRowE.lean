/-
  A row of the call's own events that grows.
-/
import Derived.Test.YtdpknbcmjpnfgaaDoorEvRow
import Derived.Test.YtdpknbcmjpnfgaaDoorORowI
namespace Go.Proofs.YtdpknbcmjpnfgaaDoor
set_option maxRecDepth 100000
open Go.RowKit
set_option linter.unusedVariables false
set_option linter.unusedSimpArgs false

def evC (a : Ev4) : List Value := [.int .i64 a.1, .int .i64 a.2.1, .int .i64 a.2.2.1, .int .i64 a.2.2.2]
def cellsE (l : List Ev4) : List Value := l.flatMap evC
theorem cellsE_append (l r : List Ev4) : cellsE (l ++ r) = cellsE l ++ cellsE r := by simp [cellsE]
theorem cellsE_one (a : Ev4) : cellsE [a] = evC a := by simp [cellsE]
theorem cellsE_len (l : List Ev4) : (cellsE l).length = l.length * 4 := by
  induction l with
  | nil => rfl
  | cons x l ih => rw [show x :: l = [x] ++ l from rfl, cellsE_append, List.length_append, ih, cellsE_one]; simp [evC]; omega
theorem cellsE_at (l : List Ev4) (i j : Nat) (hi : i < l.length) (hj : j < 4) : (cellsE l)[i * 4 + j]? = (evC (l.getD i default))[j]? := by
  induction l generalizing i with
  | nil => cases hi
  | cons x l ih =>
    rw [show x :: l = [x] ++ l from rfl, cellsE_append, cellsE_one]
    have hl : (evC x).length = 4 := rfl
    cases i with
    | zero => rw [List.getElem?_append_left (by omega)]; simp
    | succ i =>
      rw [List.getElem?_append_right (by omega), hl, show (i + 1) * 4 + j - 4 = i * 4 + j by omega, ih i (by simpa using hi)]
      simp
theorem evRow_own {w : World} {B : Nat} {A : Option Addr} {n c : Nat} {l : List Ev4} (h : w.ownsRow B 49 4 (.slice A n c) n (cellsE l)) (hl : l.length = n) : EvRow w A n l := by
  intro i hi
  obtain ⟨g, cap, hv, hb, hlt⟩ := h.form (by omega)
  obtain ⟨rfl, rfl⟩ : A = some ⟨g, 0, none⟩ ∧ c = cap := by injection hv with h1 _ h3; exact ⟨h1, h3⟩
  have hat := fun j (hj : j < 4) => (h.cellAt (i * 4 + j) (by omega)).trans (cellsE_at l i j (by omega) hj)
  refine ⟨g, 0, rfl, ?_, ?_, ?_, ?_⟩
  all_goals simp only [Nat.zero_add]
  · exact hat 0 (by decide)
  · exact hat 1 (by decide)
  · exact hat 2 (by decide)
  · exact hat 3 (by decide)
theorem infoEv : (Tryd.prog.info? 49).map (fun i => (i.zero, i.size, i.bytes)) = some (some (.agg #[.int .i64 0, .int .i64 0, .int .i64 0, .int .i64 0]), 4, 32) := by kernel_rfl
/-- A row of the call's own events, so far. -/
structure RowE (w : World) (A : Option Addr) (n c : Nat) (l : List Ev4) (wr : World) : Prop where
  len : l.length = n
  own : wr.ownsRow w.heap.size 49 4 (.slice A n c) n (cellsE l)
  bel : Below w.heap.size w wr
theorem RowE.nil (w : World) : RowE w none 0 0 [] w := ⟨rfl, World.ownsRow_nil _ _ _ _, Below.refl _ _⟩
theorem RowE.alloc {w wr : World} {A : Option Addr} {n c : Nat} {l : List Ev4} (h : RowE w A n c l wr) (o : Obj) : RowE w A n c l (wr.alloc o) := ⟨h.len, h.own.alloc o, h.bel.alloc h.bel.size o⟩
theorem RowE.one {w wr : World} {A : Option Addr} {n c : Nat} {l : List Ev4} (h : RowE w A n c l wr) (x : Ev4) (hn : n ≤ 100000) :
    ∃ A' c' w', (Builtin.append_ #[41, 41] 41 #[.slice A n c, .slice (some ⟨wr.heap.size, 0, none⟩) 1 1]).run Tryd.prog (wr.alloc (.cells #[.int .i64 x.1, .int .i64 x.2.1, .int .i64 x.2.2.1, .int .i64 x.2.2.2] 49)) = .ok (.slice A' (n + 1) c') w' ∧ RowE w A' (n + 1) c' (l ++ [x]) w' := by
  obtain ⟨i0, hi, hz0, hz1, hz2⟩ := info_parts infoEv
  have hb := h.bel.alloc h.bel.size (.cells #[.int .i64 x.1, .int .i64 x.2.1, .int .i64 x.2.2.1, .int .i64 x.2.2.2] 49)
  have hat := heap_alloc_new wr (.cells #[.int .i64 x.1, .int .i64 x.2.1, .int .i64 x.2.2.1, .int .i64 x.2.2.2] 49)
  have hnews := World.news_of_block (cs := #[.int .i64 x.1, .int .i64 x.2.1, .int .i64 x.2.2.1, .int .i64 x.2.2.2]) hat
  obtain ⟨v', w', hr, ho, hg, _⟩ := run_append_own (P := Tryd.prog) (wr.alloc (.cells #[.int .i64 x.1, .int .i64 x.2.1, .int .i64 x.2.2.1, .int .i64 x.2.2.2] 49)) w.heap.size 41 41 49 i0 (.agg #[.int .i64 0, .int .i64 0, .int .i64 0, .int .i64 0]) 4 32 Tryd.underlying41 hi hz0 hz1 hz2 rfl (by decide) (.slice A n c) n _ (h.own.alloc _) ⟨wr.heap.size, 0, none⟩ 1 1 (evC x) rfl (by simpa [evC] using hnews) (by intro u hu; simp [evC] at hu; rcases hu with rfl | rfl | rfl | rfl <;> rfl) (by unfold maxLen; omega) (by omega) hb.size
  obtain ⟨A', c', rfl⟩ : ∃ A' c', v' = .slice A' (n + 1) c' := by
    rcases ho.2 with ⟨rfl, e⟩ | ⟨g, cap, cur, rfl, _⟩
    · exact ⟨none, 0, by rw [e]⟩
    · exact ⟨_, _, rfl⟩
  exact ⟨A', c', w', hr, by rw [List.length_append, h.len]; rfl, by rw [cellsE_append, cellsE_one]; exact ho, hb.grown hg hb.size (fun k hk => (h.own.lt k hk).1)⟩
end Go.Proofs.YtdpknbcmjpnfgaaDoor
