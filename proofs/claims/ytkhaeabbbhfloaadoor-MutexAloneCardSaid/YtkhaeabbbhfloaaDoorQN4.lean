/-
  A mutex, locked twice: locked.
-/
import Derived.Test.YtkhaeabbbhfloaaDoorQN3
namespace Go.Proofs.YtkhaeabbbhfloaaDoor
set_option maxRecDepth 100000
open Go.RowKit Go.Shelf Go.Sort
set_option linter.unusedVariables false
set_option linter.unusedSimpArgs false

theorem ends_of {m : Mach} (n : Nat) (hp : m.progs.length = n) (he : m.ended = List.replicate n true) : endsM m = (true, false) := ends_done fun u hu => by
  rw [he, List.getD_eq_getElem?_getD, List.getElem?_replicate, if_pos (by omega)]
  rfl
/-- Two rows of calls that are written down, and a row of cells. -/
def rowsW (w : World) (cs ds us : Array Value) (n m : Nat) : World := (((w.alloc (.cells cs 55)).alloc (.cells ds 55)).alloc (.cells #[.slice (some ⟨w.heap.size, 0, none⟩) n n, .slice (some ⟨w.heap.size + 1, 0, none⟩) m m] 56)).alloc (.cells us 30)
theorem rows_made (w : World) (cs ds us : Array Value) (a b : List (Int × Int)) (v : List Int) (k : Nat) (ha : cs.toList = cellsC a) (hb : ds.toList = cellsC b) (hv : us.toList = v.map (Value.int .u64)) (hk : v.length = k) :
    CRows (rowsW w cs ds us a.length b.length) (rowsW w cs ds us a.length b.length).heap.size (some ⟨w.heap.size + 1 + 1, 0, none⟩) 2 [a, b] ∧ Ints .u64 (rowsW w cs ds us a.length b.length) (rowsW w cs ds us a.length b.length).heap.size (some ⟨w.heap.size + 1 + 1 + 1, 0, none⟩) k v ∧ Below w.heap.size w (rowsW w cs ds us a.length b.length) := by
  obtain ⟨hs, s0, s1, s2, s3, hb0⟩ := four_made w (.cells cs 55) (.cells ds 55) (.cells #[.slice (some ⟨w.heap.size, 0, none⟩) a.length a.length, .slice (some ⟨w.heap.size + 1, 0, none⟩) b.length b.length] 56) (.cells us 30)
  have hW : (((w.alloc (.cells cs 55)).alloc (.cells ds 55)).alloc (.cells #[.slice (some ⟨w.heap.size, 0, none⟩) a.length a.length, .slice (some ⟨w.heap.size + 1, 0, none⟩) b.length b.length] 56)).alloc (.cells us 30) = rowsW w cs ds us a.length b.length := rfl
  rw [hW] at hs s0 s1 s2 s3 hb0
  generalize rowsW w cs ds us a.length b.length = W at *
  have c2 := cell_in s2
  have key : ∀ (l : List (Int × Int)) (i : Nat), i < l.length → (cellsC l)[i * 2]? = some (.int .i64 (l.getD i default).1) ∧ (cellsC l)[i * 2 + 1]? = some (.int .i64 (l.getD i default).2) := by
    intro l
    induction l with
    | nil => intro i hi; cases hi
    | cons x l ih =>
      intro i hi
      match i, hi with
      | 0, _ => exact ⟨rfl, rfl⟩
      | i + 1, hi =>
        obtain ⟨h1, h2⟩ := ih i (by simpa using hi)
        rw [show (i + 1) * 2 = i * 2 + 1 + 1 by omega]
        exact ⟨h1, h2⟩
  have row : ∀ (g : Nat) (es : Array Value) (l : List (Int × Int)), es.toList = cellsC l → W.heap[g]? = some (.cells es 55) → g < W.heap.size → CRow W W.heap.size (some ⟨g, 0, none⟩) l.length l := fun g es l he hg hlt => ⟨rfl, fun _ => ⟨g, 0, rfl, hlt, fun i hi => by
    obtain ⟨h1, h2⟩ := key l i hi
    rw [← he, Array.getElem?_toList] at h1 h2
    rw [Nat.zero_add]
    exact ⟨(cell_of_row _ _ _ _ _ _ hg).trans h1, (cell_of_row _ _ _ _ _ _ hg).trans h2⟩⟩⟩
  refine ⟨⟨rfl, fun _ => ⟨_, 0, rfl, by omega, fun i hi => ?_⟩⟩, ⟨hk, fun _ => ⟨_, 0, rfl, by omega, fun i hi => ?_⟩⟩, hb0⟩
  · match i, hi with
    | 0, _ => exact ⟨some ⟨w.heap.size, 0, none⟩, a.length, c2 0, row _ cs a ha s0 (by omega)⟩
    | 1, _ => exact ⟨some ⟨w.heap.size + 1, 0, none⟩, b.length, c2 1, row _ ds b hb s1 (by omega)⟩
  · have hz : us[i]? = some (.int .u64 (v.getD i 0)) := by
      rw [← Array.getElem?_toList, hv, List.getElem?_map, List.getD_eq_getElem?_getD, List.getElem?_eq_getElem (by omega)]
      rfl
    rw [Nat.zero_add]
    exact (cell_of_row _ _ i _ _ _ s3).trans hz
/-- Moves that are written down. -/
def cellsMv (l : List (Int × Bool)) : List Value := l.flatMap fun x => [.int .i64 x.1, .bool x.2]
theorem moves_lit {w : World} (cs : Array Value) (l : List (Int × Bool)) (n : Nat) (hn : l.length = n) (h : cs.toList = cellsMv l) : Moves (w.alloc (.cells cs 58)) (w.alloc (.cells cs 58)).heap.size (some ⟨w.heap.size, 0, none⟩) n l := by
  have key : ∀ (l : List (Int × Bool)) (i : Nat), i < l.length → (cellsMv l)[i * 2]? = some (.int .i64 (l.getD i default).1) ∧ (cellsMv l)[i * 2 + 1]? = some (.bool (l.getD i default).2) := by
    intro l
    induction l with
    | nil => intro i hi; cases hi
    | cons x l ih =>
      intro i hi
      match i, hi with
      | 0, _ => exact ⟨rfl, rfl⟩
      | i + 1, hi =>
        obtain ⟨h1, h2⟩ := ih i (by simpa using hi)
        rw [show (i + 1) * 2 = i * 2 + 1 + 1 by omega]
        exact ⟨h1, h2⟩
  refine ⟨hn, fun _ => ⟨_, 0, rfl, by simp, fun i hi => ?_⟩⟩
  obtain ⟨h1, h2⟩ := key l i (by omega)
  rw [← h, Array.getElem?_toList] at h1 h2
  rw [Nat.zero_add]
  have hat := heap_alloc_new w (.cells cs 58)
  exact ⟨(cell_of_row _ _ _ _ _ _ hat).trans h1, (cell_of_row _ _ _ _ _ _ hat).trans h2⟩

set_option maxHeartbeats 2000000 in
theorem locked_any {w : World} (hw : CW w) : Calls Tryd.prog 8 #[] w fun e w' => e = .returned (.bool true) ∧ Below w.heap.size w w' := by
  obtain ⟨t1, t2, t3⟩ := rows_made w #[.int .i64 12, .int .i64 0, .int .i64 12, .int .i64 0] #[.int .i64 13, .int .i64 0] #[.int .u64 0] [(12, 0), (12, 0)] [(13, 0)] [0] 1 rfl rfl rfl rfl
  have t4 := t3.alloc t3.size (.cells #[.int .i64 0, .bool false, .int .i64 0, .bool false, .int .i64 0, .bool false, .int .i64 0, .bool false] 58)
  have t5 := (Below.refl (rowsW w #[.int .i64 12, .int .i64 0, .int .i64 12, .int .i64 0] #[.int .i64 13, .int .i64 0] #[.int .u64 0] 2 1).heap.size _).alloc (Nat.le_refl _) (.cells #[.int .i64 0, .bool false, .int .i64 0, .bool false, .int .i64 0, .bool false, .int .i64 0, .bool false] 58)
  have hsz : (rowsW w #[.int .i64 12, .int .i64 0, .int .i64 12, .int .i64 0] #[.int .i64 13, .int .i64 0] #[.int .u64 0] 2 1).heap.size = w.heap.size + 1 + 1 + 1 + 1 := by unfold rowsW; simp
  have t6 := moves_lit (w := rowsW w #[.int .i64 12, .int .i64 0, .int .i64 12, .int .i64 0] #[.int .i64 13, .int .i64 0] #[.int .u64 0] 2 1) #[.int .i64 0, .bool false, .int .i64 0, .bool false, .int .i64 0, .bool false, .int .i64 0, .bool false] [(0, false), (0, false), (0, false), (0, false)] 4 rfl rfl
  rw [hsz] at t6
  have HM := Lib.hid (mumade_any (hw.old t4) mutL2 (by decide) (by decide) (some ⟨w.heap.size + 1 + 1, 0, none⟩) (some ⟨w.heap.size + 1 + 1 + 1, 0, none⟩) (some ⟨w.heap.size + 1 + 1 + 1 + 1, 0, none⟩) 2 2 1 4 4 (t1.old t5) (t2.old t5) [(0, false), (0, false), (0, false), (0, false)] t6 (by decide))
  have HB := Lib.hid t4
  clear t1 t2 t3 t4 t5 t6 hsz
  unfold rowsW at HM HB
  go_enter Tryd.func8, Tryd.ntmps8
  go_wp2_with fail
  --MA
  refine HM.out.mono ?_
  rintro e w1 ⟨c, rfl, hA⟩
  have HA1 := Lib.hid (hA.at_.old HB.out)
  have HBig := Lib.hid (show MBig [0] mutM2 from hA.big)
  have HA1 := Lib.hid (show At w c mutM2 w1 from HA1.out)
  have HCe := Lib.hid (at_cells HA1.out (by rw [mutM2_cells]; decide))
  rw [mutM2_cells] at HCe
  clear hA HM
  go_wp2_with fail
  refine HCe.out.mono ?_
  rintro e w2 ⟨A2, c2, rfl, ho2, hg2⟩
  have HA2 := Lib.hid (HA1.out.grow hg2)
  have HI2 := Lib.hid (show Ints .u64 w2 w2.heap.size A2 1 [1] from Ints.of_own ho2)
  clear hg2 ho2 HCe HA1
  go_wp2_with fail
  refine (equal_one A2 c2 1 HI2.out).mono ?_
  rintro e w3 ⟨rfl, hg3⟩
  have HF := Lib.hid (at_finish (HA2.out.grow hg3) HBig.out)
  clear hg3 HA2 HI2
  go_wp2_with fail
  refine HF.out.mono ?_
  rintro e w4 ⟨m', hf, rfl, hA4, hb4⟩
  obtain ⟨f1, f2, f3⟩ := mutM2_end hf
  have HE := Lib.hid (at_ends hA4 (hb4.few))
  rw [ends_of 2 f2 f3] at HE
  have HA4 := Lib.hid hA4
  have HC3 := Lib.hid f1
  generalize ((m'.steps : Int) - (mutM2.steps : Int)) = dd
  clear hf hA4 hb4 f1 f2 f3 HF HBig
  go_wp2_with fail
  refine HE.out.mono ?_
  rintro e w5 ⟨rfl, hg5⟩
  have HA5 := Lib.hid (HA4.out.grow hg5)
  have HCe := Lib.hid (at_cells HA5.out (by rw [HC3.out]; decide))
  rw [HC3.out] at HCe
  clear hg5 HE HA4
  go_wp2_with fail
  refine HCe.out.mono ?_
  rintro e w6 ⟨A6, c6, rfl, ho6, hg6⟩
  have HA6 := Lib.hid (HA5.out.grow hg6)
  have HI6 := Lib.hid (show Ints .u64 w6 w6.heap.size A6 1 [1] from Ints.of_own ho6)
  clear hg6 ho6 HCe HA5
  go_wp2_with fail
  refine (equal_one A6 c6 1 HI6.out).mono ?_
  rintro e w7 ⟨rfl, hg7⟩
  have HB7 := Lib.hid (HA6.out.grow hg7).bel
  clear hg7 HA6 HI6
  go_wp2
  go_ret
  exact ⟨rfl, HB7.out⟩
end Go.Proofs.YtkhaeabbbhfloaaDoor
