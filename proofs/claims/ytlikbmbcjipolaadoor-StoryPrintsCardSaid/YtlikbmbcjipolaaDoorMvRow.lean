/-
  A row of moves: for seats without a machine, too.
-/
import Derived.Test.YtlikbmbcjipolaaDoorCSmall
import Derived.Test.YtlikbmbcjipolaaDoorOpenS
namespace Go.Proofs.YtlikbmbcjipolaaDoor
set_option maxRecDepth 100000
open Go.RowKit Go.Sort Go.ChangeShapes Go.WideShapes Go.Deep
set_option linter.unusedVariables false
set_option linter.unusedSimpArgs false
structure Moves (w : World) (B : Nat) (A : Option Addr) (n : Nat) (l : List (Int × Bool)) : Prop where
  len : l.length = n
  row : 0 < n → ∃ b off, A = some ⟨b, off, none⟩ ∧ b < B ∧ ∀ i, i < n → w.cell? ⟨b, off + i * 2, none⟩ = some (.int .i64 (l.getD i default).1) ∧ w.cell? ⟨b, off + i * 2 + 1, none⟩ = some (.bool (l.getD i default).2)
theorem Moves.below {w w' : World} {B n : Nat} {A : Option Addr} {l : List (Int × Bool)} (h : Moves w B A n l) (hb : Below B w w') : Moves w' B A n l :=
  ⟨h.len, fun h0 => by
    obtain ⟨b, off, e, hlt, hx⟩ := h.row h0
    exact ⟨b, off, e, hlt, fun i hi => ⟨(World.cell?_of_block (a := ⟨b, off + i * 2, none⟩) (hb.block b hlt)).trans (hx i hi).1, (World.cell?_of_block (a := ⟨b, off + i * 2 + 1, none⟩) (hb.block b hlt)).trans (hx i hi).2⟩⟩⟩
theorem Moves.old {w w' : World} {n : Nat} {A : Option Addr} {l : List (Int × Bool)} (h : Moves w w.heap.size A n l) (hb : Below w.heap.size w w') : Moves w' w'.heap.size A n l :=
  ⟨h.len, fun h0 => by
    obtain ⟨b, off, e, hlt, hx⟩ := (h.below hb).row h0
    exact ⟨b, off, e, Nat.lt_of_lt_of_le hlt hb.size, hx⟩⟩

theorem infoMove : (Tryd.prog.info? 40).map (fun i => (i.zero, i.size, i.bytes)) = some (some (.agg #[.int .i64 0, .bool false]), 2, 16) := by kernel_rfl

/-- The cells of a sleeper. -/
def encM (s : Int × Bool) : List Value := [.int .i64 s.1, .bool s.2]
/-- The cells of sleepers, one behind the other. -/
def cellsM : List (Int × Bool) → List Value
  | [] => []
  | s :: l => .int .i64 s.1 :: .bool s.2 :: cellsM l

theorem cellsM_length (l : List (Int × Bool)) : (cellsM l).length = l.length * 2 := by
  induction l with
  | nil => rfl
  | cons s l ih => simp only [cellsM, List.length_cons, ih]; omega

theorem cellsM_append (l r : List (Int × Bool)) : cellsM (l ++ r) = cellsM l ++ cellsM r := by
  induction l with
  | nil => rfl
  | cons s l ih => simp only [List.cons_append, cellsM, ih]

theorem cellsM_at (l : List (Int × Bool)) (k : Nat) (h : k < l.length) : (cellsM l)[k * 2]? = some (.int .i64 (l.getD k default).1) ∧ (cellsM l)[k * 2 + 1]? = some (.bool (l.getD k default).2) := by
  induction l generalizing k with
  | nil => exact absurd h (Nat.not_lt_zero _)
  | cons s l ih =>
    rcases k with _ | k
    · exact ⟨rfl, rfl⟩
    · have h1 := ih k (by simpa using h)
      rw [show (k + 1) * 2 = k * 2 + 1 + 1 from by omega]
      exact h1

theorem cellsM_drop (l : List (Int × Bool)) (k : Nat) : (cellsM l).drop (k * 2) = cellsM (l.drop k) := by
  induction l generalizing k with
  | nil => simp [cellsM]
  | cons s l ih =>
    rcases k with _ | k
    · rfl
    · rw [show (k + 1) * 2 = k * 2 + 1 + 1 from by omega]
      exact ih k

theorem cellsM_take (l : List (Int × Bool)) (k : Nat) : (cellsM l).take (k * 2) = cellsM (l.take k) := by
  induction l generalizing k with
  | nil => simp [cellsM]
  | cons s l ih =>
    rcases k with _ | k
    · rfl
    · rw [show (k + 1) * 2 = k * 2 + 1 + 1 from by omega]
      simp only [cellsM, List.take_succ_cons, ih k]

theorem cellsM_one (l : List (Int × Bool)) : ∀ u ∈ cellsM l, u.oneCell' = true := by
  induction l with
  | nil => intro u hu; cases hu
  | cons s l ih =>
    intro u hu
    simp only [cellsM, List.mem_cons] at hu
    rcases hu with rfl | rfl | hu
    · rfl
    · rfl
    · exact ih u hu

theorem news_of_moves {w : World} {B : Nat} {ad : Addr} {n : Nat} {l : List (Int × Bool)} (h : Moves w B (some ad) n l) : ∀ j u, (cellsM l)[j]? = some u → w.cell? (ad.add j) = some u := by
  intro j u hu
  have hl := h.len
  have hj : j < (cellsM l).length := (List.getElem?_eq_some_iff.1 hu).1
  rw [cellsM_length] at hj
  obtain ⟨b, off, e, _, hc⟩ := h.row (by omega)
  obtain rfl : ad = ⟨b, off, none⟩ := by injection e
  obtain ⟨c1, c2⟩ := hc (j / 2) (by omega)
  obtain ⟨h1, h2⟩ := cellsM_at l (j / 2) (by omega)
  have ha : (⟨b, off, none⟩ : Addr).add j = ⟨b, off + j, none⟩ := by unfold Addr.add; split <;> simp_all
  rw [ha]
  have hr : j % 2 = 0 ∨ j % 2 = 1 := by omega
  rcases hr with hr | hr
  · rw [show off + j = off + j / 2 * 2 by omega, c1, ← h1, show j / 2 * 2 = j by omega, hu]
  · rw [show off + j = off + j / 2 * 2 + 1 by omega, c2, ← h2, show j / 2 * 2 + 1 = j by omega, hu]
theorem moves_own {w : World} {B n : Nat} {A : Option Addr} {c : Nat} {l : List (Int × Bool)} (h : w.ownsRow B 40 2 (.slice A n c) n (cellsM l)) (hl : l.length = n) : Moves w w.heap.size A n l := by
  refine ⟨hl, fun hn => ?_⟩
  obtain ⟨g, cap, hv, hb, hlt⟩ := h.form hn
  obtain ⟨rfl, rfl⟩ : A = some ⟨g, 0, none⟩ ∧ c = cap := by injection hv with h1 _ h3; exact ⟨h1, h3⟩
  refine ⟨g, 0, rfl, hlt, fun i hi => ?_⟩
  obtain ⟨h1, h2⟩ := cellsM_at l i (by omega)
  have hl2 := cellsM_length l
  rw [Nat.zero_add]
  exact ⟨(h.cellAt _ (by omega)).trans h1, (h.cellAt _ (by omega)).trans h2⟩

section
variable {H : Type} {enc : TypeId × Value → H} {w : World} {base : Nat} {spare : Nat → Bool} {held : Bool} {fuel : Nat} {a : Option Addr} {len cap : Nat} {x : DataW H × List MemPlace}
theorem moves_of (h : DataW.trod enc Tryd.prog w base spare held fuel 22 [.slice a len cap] = some x) : ∃ l, Moves w w.heap.size a len l := by
  rcases open_structs Tryd.underlying22 Tryd.underlying40 (by kernel_rfl) (by kernel_rfl) h with h0 | ⟨ad, l, c, hcs, _, _, hi⟩
  · simp only [List.cons.injEq, Value.slice.injEq, and_true] at h0
    obtain ⟨rfl, rfl, _⟩ := h0
    exact ⟨[], ⟨rfl, fun h => absurd h (Nat.lt_irrefl 0)⟩⟩
  · simp only [List.cons.injEq, Value.slice.injEq, and_true] at hcs
    obtain ⟨rfl, rfl, _⟩ := hcs
    have hall : ∀ i, i < len → ∃ s : Int × Bool, w.cell? ((ad.add (i * 2)).add 0) = some (.int .i64 s.1) ∧ w.cell? ((ad.add (i * 2)).add 1) = some (.bool s.2) := by
      intro i hlt
      obtain ⟨v0, y0, n0, c0, t0⟩ := hi i hlt 0 _ rfl
      obtain ⟨v1, y1, n1, c1, t1⟩ := hi i hlt 1 _ rfl
      obtain ⟨z0, e0, _⟩ := DataW.trod_int Tryd.underlying3 t0
      obtain ⟨z1, e1, _⟩ := DataW.trod_bool Tryd.underlying4 t1
      simp only [List.cons.injEq, and_true] at e0 e1
      subst e0 e1
      exact ⟨(z0, z1), c0, c1⟩
    obtain ⟨xs, hl, hx⟩ := choose_list len hall
    refine ⟨xs, ⟨hl, fun h0 => ?_⟩⟩
    obtain ⟨b, off, spot⟩ := ad
    have c0 := (hx 0 h0).1
    have hspot : spot = none := by simpa [Addr.add] using World.cell?_spot c0
    subst hspot
    have hlt : b < w.heap.size := by
      have := World.block_lt_of_cell? w _ c0
      simpa [Addr.add] using this
    have ha : ∀ i j, ((⟨b, off, none⟩ : Addr).add i).add j = ⟨b, off + i + j, none⟩ := by
      intro i j
      unfold Addr.add
      by_cases hi0 : i = 0 <;> by_cases hj0 : j = 0 <;> simp [hi0, hj0]
    refine ⟨b, off, rfl, hlt, fun i hi2 => ?_⟩
    obtain ⟨h1, h2⟩ := hx i hi2
    rw [ha] at h1 h2
    exact ⟨h1, h2⟩
end
/-- A row of the call's own moves, so far; its blocks are from B on. -/
structure RowV (w : World) (B : Nat) (A : Option Addr) (n c : Nat) (l : List (Int × Bool)) (wr : World) : Prop where
  len : l.length = n
  own : wr.ownsRow B 40 2 (.slice A n c) n (cellsM l)
  bel : Below w.heap.size w wr
  lo : w.heap.size ≤ B
  hi : B ≤ wr.heap.size
theorem RowV.oneK {w wr : World} {B : Nat} {A : Option Addr} {n c : Nat} {l : List (Int × Bool)} (h : RowV w B A n c l wr) (x : Int × Bool) (hn : n ≤ 100000) :
    ∃ A' c' w', (Builtin.append_ #[22, 22] 22 #[.slice A n c, .slice (some ⟨wr.heap.size, 0, none⟩) 1 1]).run Tryd.prog (wr.alloc (.cells #[.int .i64 x.1, .bool x.2] 40)) = .ok (.slice A' (n + 1) c') w' ∧ RowV w B A' (n + 1) c' (l ++ [x]) w' ∧ ∀ C, C < B → w'.heap[C]? = wr.heap[C]? := by
  obtain ⟨i0, hi, hz0, hz1, hz2⟩ := info_parts infoMove
  have hb := h.bel.alloc h.bel.size (.cells #[.int .i64 x.1, .bool x.2] 40)
  have hat := heap_alloc_new wr (.cells #[.int .i64 x.1, .bool x.2] 40)
  have hnews := World.news_of_block (cs := #[.int .i64 x.1, .bool x.2]) hat
  have hhi := h.hi
  have hlo := h.lo
  obtain ⟨v', w', hr, ho, hg, hfr⟩ := run_append_own (P := Tryd.prog) (wr.alloc (.cells #[.int .i64 x.1, .bool x.2] 40)) B 22 22 40 i0 (.agg #[.int .i64 0, .bool false]) 2 16 Tryd.underlying22 hi hz0 hz1 hz2 rfl (by decide) (.slice A n c) n _ (h.own.alloc _) ⟨wr.heap.size, 0, none⟩ 1 1 [.int .i64 x.1, .bool x.2] rfl (by simpa using hnews) (by intro u hu; simp at hu; rcases hu with rfl | rfl <;> rfl) (by unfold maxLen; omega) (by omega) (by simp; omega)
  obtain ⟨A', c', rfl⟩ : ∃ A' c', v' = .slice A' (n + 1) c' := by
    rcases ho.2 with ⟨rfl, e⟩ | ⟨g, cap, cur, rfl, _⟩
    · exact ⟨none, 0, by rw [e]⟩
    · exact ⟨_, _, rfl⟩
  have hs := hg.size
  rw [World.size_alloc] at hs
  refine ⟨A', c', w', hr, ⟨by rw [List.length_append, h.len]; rfl, by rw [cellsM_append]; exact ho, hb.grown hg hb.size (fun k hk => Nat.le_trans hlo (h.own.lt k hk).1), hlo, by omega⟩, fun C hC => ?_⟩
  rw [hg.block C (by simp; omega) (fun e => by have := (h.own.lt C e.symm).1; omega)]
  exact Lib.alloc_old wr _ C (by omega)
end Go.Proofs.YtlikbmbcjipolaaDoor
