/-
  The walks of MemLast and MemSwaps.
-/
import Derived.Test.YthjifekpefjjaaaKeepMem
namespace Go.Proofs.Ythjifekpefjjaaa
open Go.RowKit

theorem getD_set_same (xs : List Int) (k : Nat) (x : Int) (h : k < xs.length) : (xs.set k x).getD k 0 = x := by
  rw [List.getD_eq_getElem?_getD, List.getElem?_set_self h]
  rfl
theorem getD_set_other (xs : List Int) (k j : Nat) (x : Int) (h : k ≠ j) : (xs.set k x).getD j 0 = xs.getD j 0 := by
  rw [List.getD_eq_getElem?_getD, List.getElem?_set_ne h, List.getD_eq_getElem?_getD]

set_option maxHeartbeats 400000 in
theorem memLast_no {w : World} (A : Option Addr) (n c : Nat) (a1 a2 x y : Int) (hn : n = 0 ∨ 200 < n) :
    Calls Try.prog 3 #[.slice A n c, .int .i64 a1, .int .i64 a2, .int .u64 x, .int .u64 y] w fun e w' => e = .returned (.bool true) ∧ Below w.heap.size w w' := by
  rcases hn with rfl | hn
  · go_enter Try.func3, Try.ntmps3
    go_wp2_with fail
    refine (kept_true _).mono ?_
    rintro e w1 ⟨rfl, hb⟩
    go_wp2_with fail
    refine (memory_no A 0 c (.inl rfl)).mono ?_
    rintro e w2 ⟨rfl, rfl⟩
    go_wp2
    go_ret
    exact ⟨rfl, hb⟩
  · have h0 : ((n : Int) == 0) = false := by simp; omega
    have h1 : (200 : Int) < (n : Int) := by omega
    go_enter Try.func3, Try.ntmps3
    go_wp2_with fail
    refine (kept_true _).mono ?_
    rintro e w1 ⟨rfl, hb⟩
    go_wp2_with fail
    refine (memory_no A n c (.inr hn)).mono ?_
    rintro e w2 ⟨rfl, rfl⟩
    go_wp2
    go_ret
    exact ⟨rfl, hb⟩

set_option maxHeartbeats 400000 in
theorem memLast_yes {w : World} (A : Option Addr) (n c : Nat) (xs : List Int) (a1 a2 x y : Int) (hI : Ints .u64 w w.heap.size A n xs) (hn0 : 0 < n) (hn1 : n ≤ 200) :
    Calls Try.prog 3 #[.slice A n c, .int .i64 a1, .int .i64 a2, .int .u64 x, .int .u64 y] w fun e w' => e = .returned (.bool true) ∧ Below w.heap.size w w' := by
  obtain ⟨b, off, rfl, hb, hx⟩ := hI.row hn0
  go_enter Try.func3, Try.ntmps3
  go_wp2_with fail
  refine (kept_true _).mono ?_
  rintro e w1 ⟨rfl, hb1⟩
  have hI1 := hI.below hb1
  go_wp2_with fail
  refine (memory_yes _ n c xs hI1 hn0 hn1).mono ?_
  rintro e w2 ⟨m, v, rfl, hM, hg2⟩
  have hl : xs.length = n := hI.len
  have HL := Lib.hid hl
  clear hl
  have hb2 := hb1.grown hg2 hb1.size (by intro k hk; cases hk)
  go_wp2_with fail
  refine (pick_any a1 n _ hn0 (by omega)).mono ?_
  rintro e w3 ⟨k, hk, rfl, rfl⟩
  go_wp2_with fail
  refine (pick_any a2 n _ hn0 (by omega)).mono ?_
  rintro e w3 ⟨j, hj, rfl, rfl⟩
  go_wp2_with fail
  refine (store_in hM (k := k) (by rw [HL.out]; exact hk) x).mono ?_
  rintro e w3 ⟨rfl, hM3, hg3⟩
  have hv : ∀ k, v.ownBlock = some k → w.heap.size ≤ k := fun k hk => Nat.le_trans hb1.size (hM.own.lt k hk).1
  have hb3 := hb2.grown hg3 hb2.size hv
  go_wp2_with fail
  refine (store_in hM3 (k := k) (by rw [List.length_set, HL.out]; exact hk) y).mono ?_
  rintro e w4 ⟨rfl, hM4, hg4⟩
  have hb4 := hb3.grown hg4 hb3.size hv
  go_wp2_with fail
  have hld := load_in hM4 (k := k) (by rw [List.length_set, List.length_set, HL.out]; exact hk)
  rw [getD_set_same _ _ _ (by rw [List.length_set, HL.out]; exact hk)] at hld
  refine hld.mono ?_
  rintro e w5 ⟨rfl, rfl⟩
  clear hld
  go_wp2_with fail
  have hld := load_in hM4 (k := j) (by rw [List.length_set, List.length_set, HL.out]; exact hj)
  have hcell : w4.cell? ⟨b, off + j, none⟩ = some (.int .u64 (xs.getD j 0)) := (hb4.cell (p := ⟨b, off + j, none⟩) hb).trans (hx j hj)
  by_cases hkj : k = j
  · subst hkj
    rw [getD_set_same _ _ _ (by rw [List.length_set, HL.out]; exact hk)] at hld
    refine hld.mono ?_
    rintro e w5 ⟨rfl, rfl⟩
    clear hld hM hM3 hM4 hg2 hg3 hg4 hv hx hI hI1 hb1 hb2 hb3 hcell
    go_wp2
    go_ret
    exact ⟨rfl, hb4⟩
  · rw [getD_set_other _ _ _ _ hkj, getD_set_other _ _ _ _ hkj] at hld
    refine hld.mono ?_
    rintro e w5 ⟨rfl, rfl⟩
    have hne : ((k : Int) == (j : Int)) = false := by simp; omega
    have hjn : (j : Int) < (n : Int) := by omega
    generalize xs.getD j 0 = z at hcell
    clear hld hM hM3 hM4 hg2 hg3 hg4 hv hx hI hI1 hb1 hb2 hb3
    go_wp2
    go_ret
    exact ⟨rfl, hb4⟩
end Go.Proofs.Ythjifekpefjjaaa
