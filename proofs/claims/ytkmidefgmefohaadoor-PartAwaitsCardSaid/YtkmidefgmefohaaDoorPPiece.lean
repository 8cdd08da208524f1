/-
  Pieces of programs: Await, Tell; the fact that the laws on them ask first.
-/
import Derived.Test.YtkmidefgmefohaaDoorPLevels
import Derived.Test.YtkmidefgmefohaaDoorCOps
namespace Go.Proofs.YtkmidefgmefohaaDoor
set_option maxRecDepth 100000
open Go.RowKit Go.Sort
set_option linter.unusedVariables false

def tellP (cell n : Int) : List In5 := [(7, cell, 0, -1, 0), (15, cell, n, -1, 0)]
def tellC (cell n : Int) : Array Value := #[.int .i64 7, .int .i64 cell, .int .i64 0, .int .i64 (-1), .int .i64 0, .int .i64 15, .int .i64 cell, .int .i64 n, .int .i64 (-1), .int .i64 0]
def awaitP (place cell : Int) : List In5 := [(6, 1, cell, 0, 0), (12, 1, 0, wrap64 (place + 3), 0), (10, wrap64 (place + 5), 0, 0, 0), (14, cell, 1, 0, 0), (10, place, 0, 0, 0)]
def awaitC (place cell : Int) : Array Value := #[.int .i64 6, .int .i64 1, .int .i64 cell, .int .i64 0, .int .i64 0, .int .i64 12, .int .i64 1, .int .i64 0, .int .i64 (wrap64 (place + 3)), .int .i64 0, .int .i64 10, .int .i64 (wrap64 (place + 5)), .int .i64 0, .int .i64 0, .int .i64 0, .int .i64 14, .int .i64 cell, .int .i64 1, .int .i64 0, .int .i64 0, .int .i64 10, .int .i64 place, .int .i64 0, .int .i64 0, .int .i64 0]

/-- A row of instructions that is written down is a slice of them. -/
theorem own_lit {w : World} {cs : Array Value} {l : List In5} {n : Nat} (hcs : cs.toList = cells5 l) (hl : l.length = n) (hn : n ≤ 1000) (B : Nat) (hB : B ≤ w.heap.size) : (w.alloc (.cells cs 48)).ownsRow B 48 5 (.slice (some ⟨w.heap.size, 0, none⟩) n n) n (cells5 l) := by
  have hsz : cs.size = n * 5 := by rw [← Array.length_toList, hcs, cells5_len, hl]
  have ho := World.ownsRow_lit (base := B) (e := 48) (size := 5) w cs n hB (by unfold maxLen; omega) hsz
  rw [hcs] at ho
  exact ho
theorem inss_lit {w : World} {cs : Array Value} {l : List In5} {n : Nat} (hcs : cs.toList = cells5 l) (hl : l.length = n) (hn : n ≤ 1000) : Inss (w.alloc (.cells cs 48)) (w.alloc (.cells cs 48)).heap.size (some ⟨w.heap.size, 0, none⟩) n l :=
  Inss.of_own (own_lit hcs hl hn w.heap.size (Nat.le_refl _)) hl

set_option maxHeartbeats 400000 in
theorem ptell_any (cell n : Int) (w : World) : Calls Tryd.prog 20 #[.int .i64 cell, .int .i64 n] w fun e w' => e = .returned (.slice (some ⟨w.heap.size, 0, none⟩) 2 2) ∧ w' = w.alloc (.cells (tellC cell n) 48) := by
  go_enter Tryd.func20, Tryd.ntmps20
  go_wp2
  go_ret
  exact ⟨rfl, rfl⟩
set_option maxHeartbeats 400000 in
theorem pawait_any (place cell : Int) (w : World) : Calls Tryd.prog 19 #[.int .i64 place, .int .i64 cell] w fun e w' => e = .returned (.slice (some ⟨w.heap.size, 0, none⟩) 5 5) ∧ w' = w.alloc (.cells (awaitC place cell) 48) := by
  go_enter Tryd.func19, Tryd.ntmps19
  go_wp2
  go_ret
  exact ⟨rfl, rfl⟩

set_option maxHeartbeats 1000000 in
theorem pieced_any (w : World) : Calls Tryd.prog 11 #[] w fun e w' => e = .returned (.bool true) ∧ Below w.heap.size w w' := by
  have hb0 := Below.refl w.heap.size w
  have hL : LvIs 9 4 := ⟨by decide, .inr (by decide)⟩
  go_enter Tryd.func11, Tryd.ntmps11
  go_wp2_with fail
  refine (ptell_any 3 2 w).mono ?_
  rintro e w1 ⟨rfl, rfl⟩
  have hI := inss_lit (w := w) (cs := tellC 3 2) (l := tellP 3 2) rfl rfl (by decide)
  have hb1 := hb0.alloc hb0.size (.cells (tellC 3 2) 48)
  have HI := Lib.hid hI
  have HB := Lib.hid hb1
  clear hI hb0 hb1
  obtain ⟨w1, hw1⟩ : ∃ w1, w.alloc (.cells (tellC 3 2) 48) = w1 := ⟨_, rfl⟩
  rw [hw1] at HI HB ⊢
  clear hw1
  go_wp2_with fail
  have hI2 := inss_lit (w := w1) (cs := tellC 3 2) (l := tellP 3 2) rfl rfl (by decide)
  refine (equalN_same _ _ 2 2 2 (tellP 3 2) _ (by decide) _ _ (HI.out.old ((Below.refl _ _).alloc (Nat.le_refl _) (.cells (tellC 3 2) 48))) hI2).mono ?_
  rintro e w2 ⟨rfl, q, rfl⟩
  have HB2 := Lib.hid (below_drewN (HB.out.alloc HB.out.size (.cells (tellC 3 2) 48)) q)
  clear hI2 HI HB
  generalize (w1.alloc (.cells (tellC 3 2) 48)).drewN q = w2 at *
  go_wp2_with fail
  refine (pawait_any 7 1 w2).mono ?_
  rintro e w3 ⟨rfl, rfl⟩
  have HB3 := Lib.hid (HB2.out.alloc HB2.out.size (.cells (awaitC 7 1) 48))
  clear HB2
  go_wp2_with fail
  refine (plevels_any 9 4 _ hL (by decide)).mono ?_
  rintro e w4 ⟨rfl, rfl⟩
  go_wp2
  go_ret
  exact ⟨rfl, HB3.out⟩
end Go.Proofs.YtkmidefgmefohaaDoor
