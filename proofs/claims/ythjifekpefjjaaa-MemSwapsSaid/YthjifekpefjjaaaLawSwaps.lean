/-
  The walk of MemSwaps.
-/
import Derived.Test.YthjifekpefjjaaaLawLast
namespace Go.Proofs.Ythjifekpefjjaaa
open Go.RowKit

set_option maxHeartbeats 400000 in
theorem memSwaps_no {w : World} (A : Option Addr) (n c : Nat) (a1 x y : Int) (hn : n = 0 ∨ 200 < n) :
    Calls Try.prog 4 #[.slice A n c, .int .i64 a1, .int .u64 x, .int .u64 y] w fun e w' => e = .returned (.bool true) ∧ Below w.heap.size w w' := by
  rcases hn with rfl | hn
  · go_enter Try.func4, Try.ntmps4
    go_wp2_with fail
    refine (kept_true _).mono ?_
    rintro e w1 ⟨rfl, hb⟩
    go_wp2_with fail
    refine (memory_no A 0 c (.inl rfl)).mono ?_
    rintro e w2 ⟨rfl, rfl⟩
    go_wp2
    go_ret
    exact ⟨rfl, hb⟩
  · have h0 : ((n : Int) == 0) = false := by simp; omega
    have h1 : (200 : Int) < (n : Int) := by omega
    go_enter Try.func4, Try.ntmps4
    go_wp2_with fail
    refine (kept_true _).mono ?_
    rintro e w1 ⟨rfl, hb⟩
    go_wp2_with fail
    refine (memory_no A n c (.inr hn)).mono ?_
    rintro e w2 ⟨rfl, rfl⟩
    go_wp2
    go_ret
    exact ⟨rfl, hb⟩

set_option maxHeartbeats 1000000 in
theorem memSwaps_yes {w : World} (A : Option Addr) (n c : Nat) (xs : List Int) (a1 x y : Int) (hI : Ints .u64 w w.heap.size A n xs) (hn0 : 0 < n) (hn1 : n ≤ 200) :
    Calls Try.prog 4 #[.slice A n c, .int .i64 a1, .int .u64 x, .int .u64 y] w fun e w' => e = .returned (.bool true) ∧ Below w.heap.size w w' := by
  obtain ⟨b, off, rfl, hb, hx⟩ := hI.row hn0
  go_enter Try.func4, Try.ntmps4
  go_wp2_with fail
  refine (kept_true _).mono ?_
  rintro e w1 ⟨rfl, hb1⟩
  have hI1 := hI.below hb1
  go_wp2_with fail
  refine (memory_yes _ n c xs hI1 hn0 hn1).mono ?_
  rintro e w2 ⟨m, v, rfl, hM, hg2⟩
  have hl : xs.length = n := hI.len
  have HL := Lib.hid hl
  clear hl
  have hb2 := hb1.grown hg2 hb1.size (by intro k hk; cases hk)
  go_wp2_with fail
  refine (pick_any a1 n _ hn0 (by omega)).mono ?_
  rintro e w3 ⟨k, hk, rfl, rfl⟩
  have hv : ∀ k, v.ownBlock = some k → w.heap.size ≤ k := fun k hk => Nat.le_trans hb1.size (hM.own.lt k hk).1
  have hcell : w2.cell? ⟨b, off + k, none⟩ = some (.int .u64 (xs.getD k 0)) := (hb2.cell (p := ⟨b, off + k, none⟩) hb).trans (hx k hk)
  have hkn : (k : Int) < (n : Int) := by omega
  obtain ⟨z, hz⟩ : ∃ z, xs.getD k 0 = z := ⟨_, rfl⟩
  rw [hz] at hcell
  have HZ := Lib.hid hz
  clear hz hx hI hI1
  go_wp2_with fail
  refine (swap_yes hM (k := k) (by rw [HL.out]; exact hk) z x HZ.out).mono ?_
  rintro e w3 ⟨rfl, hM3, hg3⟩
  have hb3 := hb2.grown hg3 hb2.size hv
  clear hcell
  by_cases hxz : x = z
  · subst hxz
    have hxx : (x == x) = true := by simp
    go_wp2_with fail
    refine (swap_yes hM3 (k := k) (by rw [List.length_set, HL.out]; exact hk) x y (getD_set_same _ _ _ (by rw [HL.out]; exact hk))).mono ?_
    rintro e w4 ⟨rfl, hM4, hg4⟩
    have hb4 := hb3.grown hg4 hb3.size hv
    go_wp2_with fail
    have hld := load_in hM4 (k := k) (by rw [List.length_set, List.length_set, HL.out]; exact hk)
    rw [getD_set_same _ _ _ (by rw [List.length_set, HL.out]; exact hk)] at hld
    refine hld.mono ?_
    rintro e w5 ⟨rfl, rfl⟩
    clear hld hM hM3 hM4 hg2 hg3 hg4 hv hb1 hb2 hb3
    go_wp2
    go_ret
    exact ⟨rfl, hb4⟩
  · have hxx : (x == z) = false := by simpa using hxz
    go_wp2_with fail
    refine (swap_no hM3 (k := k) (by rw [List.length_set, HL.out]; exact hk) z y (by rw [getD_set_same _ _ _ (by rw [HL.out]; exact hk)]; exact hxz)).mono ?_
    rintro e w4 ⟨rfl, rfl⟩
    go_wp2_with fail
    have hld := load_in hM3 (k := k) (by rw [List.length_set, HL.out]; exact hk)
    rw [getD_set_same _ _ _ (by rw [HL.out]; exact hk)] at hld
    refine hld.mono ?_
    rintro e w5 ⟨rfl, rfl⟩
    clear hld hM hM3 hg2 hg3 hv hb1 hb2
    go_wp2
    go_ret
    exact ⟨rfl, hb3⟩
end Go.Proofs.Ythjifekpefjjaaa
