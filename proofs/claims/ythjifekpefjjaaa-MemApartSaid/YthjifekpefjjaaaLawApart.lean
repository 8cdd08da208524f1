/-
  The walk of MemApart.
-/
import Derived.Test.YthjifekpefjjaaaLawLast
namespace Go.Proofs.Ythjifekpefjjaaa
open Go.RowKit

set_option maxHeartbeats 400000 in
theorem memApart_no {w : World} (A : Option Addr) (n c : Nat) (xs : List Int) (a1 x : Int) (hI : Ints .u64 w w.heap.size A n xs) (hbig : n ≤ 17592186044416) (hn : n = 0 ∨ 200 < n) :
    Calls Try.prog 6 #[.slice A n c, .int .i64 a1, .int .u64 x] w fun e w' => e = .returned (.bool true) ∧ Below w.heap.size w w' := by
  have h1 : n = 0 ∨ ((n : Int) == 0) = false ∧ (200 : Int) < (n : Int) := by
    rcases hn with rfl | hn
    · exact .inl rfl
    · exact .inr ⟨by simp; omega, by omega⟩
  clear hn
  rcases h1 with rfl | ⟨h0, h1⟩
  all_goals
    go_enter Try.func6, Try.ntmps6
    go_wp2_with fail
    refine (kept_true _).mono ?_
    rintro e w1 ⟨rfl, hb⟩
    have hI1 := hI.below hb
    go_wp2_with fail
    refine (cloneU_any _ _ _ _ hI1 hbig).mono ?_
    rintro e w2 ⟨v, rfl, hown, hg⟩
    obtain ⟨A', c', rfl⟩ := slice_of_own hown
    have hb2 := hb.grown hg hb.size (by intro k hk; cases hk)
    clear hI hI1 hown hg
    go_wp2_with fail
    refine (memory_no A' _ c' (by first | exact .inl rfl | (right; omega))).mono ?_
    rintro e w3 ⟨rfl, rfl⟩
    go_wp2
    go_ret
    exact ⟨rfl, hb2⟩

set_option maxHeartbeats 1000000 in
theorem memApart_yes {w : World} (A : Option Addr) (n c : Nat) (xs : List Int) (a1 x : Int) (hI : Ints .u64 w w.heap.size A n xs) (hn0 : 0 < n) (hn1 : n ≤ 200) :
    Calls Try.prog 6 #[.slice A n c, .int .i64 a1, .int .u64 x] w fun e w' => e = .returned (.bool true) ∧ Below w.heap.size w w' := by
  obtain ⟨b, off, rfl, hb, hx⟩ := hI.row hn0
  have hl : xs.length = n := hI.len
  go_enter Try.func6, Try.ntmps6
  have HL := Lib.hid hl
  clear hl
  go_wp2_with fail
  refine (kept_true _).mono ?_
  rintro e w1 ⟨rfl, hb1⟩
  have hI1 := hI.below hb1
  go_wp2_with fail
  refine (cloneU_any _ _ _ _ hI1 (by omega)).mono ?_
  rintro e w2 ⟨v2, rfl, hown2, hg2⟩
  obtain ⟨g2, cap2, rfl, hlo2, hlt2⟩ := hown2.form hn0
  have hb2 := hb1.grown hg2 hb1.size (by intro k hk; cases hk)
  go_wp2_with fail
  refine (memory_yes _ n cap2 xs (Ints.of_own hown2) hn0 hn1).mono ?_
  rintro e w3 ⟨m, v, rfl, hM, hg3⟩
  have hb3 := hb2.grown hg3 hb2.size (by intro k hk; cases hk)
  have hown3 := hown2.kept hg3 (.inr (by simp [Value.ownBlock]))
  go_wp2_with fail
  refine (pick_any a1 n _ hn0 (by omega)).mono ?_
  rintro e w4 ⟨k, hk, rfl, rfl⟩
  go_wp2_with fail
  refine (words_any hM (by rw [HL.out]; omega)).mono ?_
  rintro e w4 ⟨v4, rfl, hown4, hg4⟩
  rw [HL.out] at hown4
  obtain ⟨g4, cap4, rfl, hlo4, hlt4⟩ := hown4.form hn0
  have hb4 := hb3.grown hg4 hb3.size (by intro k hk; cases hk)
  have hown3' := hown3.kept hg4 (.inr (by simp [Value.ownBlock]))
  have hM4 := hM.grown hg4 (by simp) (.inl rfl)
  have hkn : (k : Int) < (n : Int) := by omega
  have hc4 := hown4.cellAt k (by omega)
  have hf4 := hown4.frozenAt k
  have hc2 := hown3'.cellAt k (by omega)
  have hf2 := hown3'.frozenAt k
  have hxk : (xs.map (Value.int .u64))[k]? = some (.int .u64 (xs.getD k 0)) := by
    rw [List.getElem?_map, List.getD_eq_getElem?_getD, List.getElem?_eq_getElem (by rw [HL.out]; exact hk)]
    rfl
  rw [hxk] at hc4 hc2
  have hgg : g2 ≠ g4 := by have := (hown3.lt g2 rfl).2; omega
  have hm3 := lt_of_block hM.at_
  have hvl := fun k (hk : v.ownBlock = some k) => hM.own.lt k hk
  have hlo := hM.lo
  -- behind both stores
  have hs1 := (hown4.stored k (.int .u64 x)).2
  have hM5 := hM4.grown hs1 (by simp; omega) (.inr (fun e => by have := hvl g4 e; omega))
  have hown5 := hown3'.kept hs1 (.inr (by simp [Value.ownBlock]; omega))
  have hs2 := (hown5.stored k (.int .u64 x)).2
  have hg2m : g2 < w2.heap.size := hlt2
  have hM6 := hM5.grown hs2 (by simp; omega) (.inr (fun e => by have := hvl g2 e; omega))
  have hc2' := hown5.cellAt k (by omega)
  have hf2' := hown5.frozenAt k
  rw [hxk] at hc2'
  have hb5 := hb4.setCell (p := ⟨g4, k, none⟩) (by show w.heap.size ≤ g4; have := hb3.size; omega) (.int .u64 x)
  have hb6 := hb5.setCell (p := ⟨g2, k, none⟩) (by show w.heap.size ≤ g2; have := hb1.size; omega) (.int .u64 x)
  have hcell : ((w4.setCell ⟨g4, k, none⟩ (.int .u64 x)).setCell ⟨g2, k, none⟩ (.int .u64 x)).cell? ⟨b, off + k, none⟩ = some (.int .u64 (xs.getD k 0)) := (hb6.cell (p := ⟨b, off + k, none⟩) hb).trans (hx k hk)
  clear hs1 hs2 hM5 hM4 hM hown5 hown3' hown3 hown4 hown2 hg2 hg3 hg4 hb1 hb2 hb3 hb4 hb5 hvl hc2 hf2 hxk hx hI hI1
  have HB := Lib.hid hb6
  clear hb6
  obtain ⟨z, hz⟩ : ∃ z, xs.getD k 0 = z := ⟨_, rfl⟩
  have hld := load_in hM6 (k := k) (by rw [HL.out]; exact hk)
  rw [hz] at hcell hc4 hc2' hld
  have HLD := Lib.hid hld
  clear hz hld hM6
  go_wp2_with fail
  refine HLD.out.mono ?_
  rintro e w7 ⟨rfl, rfl⟩
  go_wp2
  go_ret
  exact ⟨rfl, HB.out⟩
end Go.Proofs.Ythjifekpefjjaaa
