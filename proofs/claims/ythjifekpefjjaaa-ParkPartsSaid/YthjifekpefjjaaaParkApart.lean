/-
  The walk of ParkApart.
-/
import Derived.Test.YthjifekpefjjaaaSleepL
namespace Go.Proofs.Ythjifekpefjjaaa
open Go.RowKit Go.Shelf

theorem Woke.below {B p : Nat} {nt : Int} {v : Value} {l : List (Int × Int)} {w0 w w' : World} (h : Lot w B p nt v l) (hb : Below B w0 w) (hB : B ≤ w.heap.size) (hk : Keeps (fun k => k = p ∨ some k = v.ownBlock) w w') : Below B w0 w' :=
  hb.trans (hk.below hB fun k hk => by
    rcases hk with rfl | hk
    · exact h.lo
    · exact (h.own.lt k hk.symm).1)

theorem own_keeps {S : Nat → Prop} {w w' : World} {B e sz n : Nat} {v : Value} {xs : List Value} (h : w.ownsRow B e sz v n xs) (hk : Keeps S w w') (hS : ∀ g, v.ownBlock = some g → ¬ S g) : w'.ownsRow B e sz v n xs := by
  refine ⟨h.1, ?_⟩
  rcases h.2 with hn | ⟨g, cap, cur, rfl, hb, hg, rest⟩
  · exact .inl hn
  · exact .inr ⟨g, cap, cur, rfl, hb, (hk.block g (lt_of_block hg) (hS g rfl)).trans hg, rest⟩

theorem threads_len {l : List (Int × Int)} (h : l.length ≤ 60) (c : Int) : (threadsAt l c).length ≤ 60 := Nat.le_trans (threadsAt_length l c) h

set_option maxHeartbeats 1000000 in
theorem parkApart_long {w : World} (A : Option Addr) (n c : Nat) (a1 a2 a3 : Int) (hn : 60 < n) :
    Calls Try.prog 9 #[.slice A n c, .int .i64 a1, .int .i64 a2, .int .i64 a3] w fun e w' => e = .returned (.bool true) ∧ Below w.heap.size w w' := by
  have h1 : (60 : Int) < (n : Int) := by omega
  go_enter Try.func9, Try.ntmps9
  go_wp2_with fail
  refine (asleep_true _).mono ?_
  rintro e w1 ⟨rfl, hb⟩
  go_wp2
  go_ret
  exact ⟨rfl, hb⟩

set_option maxHeartbeats 1000000 in
theorem parkApart_short {w : World} (A : Option Addr) (n c : Nat) (nods : List (Int × Int × Bool)) (hN : Nods w w.heap.size A n nods) (a1 a2 a3 : Int) (hn : n ≤ 60) :
    Calls Try.prog 9 #[.slice A n c, .int .i64 a1, .int .i64 a2, .int .i64 a3] w fun e w' => e = .returned (.bool true) ∧ Below w.heap.size w w' := by
  have h1 : ¬ (60 : Int) < (n : Int) := by omega
  have hlen : (bedL nods).length ≤ 60 := by have := bedL_len nods; have := hN.len; omega
  have hgood := bedL_good nods
  go_enter Try.func9, Try.ntmps9
  go_wp2_with fail
  refine (asleep_true _).mono ?_
  rintro e w1 ⟨rfl, hb1⟩
  have hN1 : Nods w1 w1.heap.size A n nods := ⟨hN.len, fun h0 => by
    obtain ⟨b, off, e, hlt, hc⟩ := (hN.below hb1).row h0
    exact ⟨b, off, e, Nat.lt_of_lt_of_le hlt hb1.size, hc⟩⟩
  go_wp2_with fail
  refine (bed_any A n c nods hN1 hn).mono ?_
  rintro e w2 ⟨p, v, rfl, hL, hb2⟩
  generalize bedL nods = L at *
  have hb2' : Below w.heap.size w w2 := hb1.trans (hb2.mono hb1.size)
  have hsz := hb1.size
  clear hN hN1 hb1
  obtain ⟨cell, hcell⟩ : ∃ x, pickI a1 4 = x := ⟨_, rfl⟩
  obtain ⟨other, hother⟩ : ∃ x, pickI a2 4 = x := ⟨_, rfl⟩
  have hp1 := fun w => pick_det a1 4 4 w rfl (by decide) (by decide)
  have hp2 := fun w => pick_det a2 4 4 w rfl (by decide) (by decide)
  simp only [hcell] at hp1
  simp only [hother] at hp2
  have HP1 := Lib.hid hp1
  have HP2 := Lib.hid hp2
  clear hp1 hp2 hcell hother
  go_wp2_with fail
  refine (HP1.out _).mono ?_
  rintro e w3 ⟨rfl, rfl⟩
  go_wp2_with fail
  refine (HP2.out _).mono ?_
  rintro e w3 ⟨rfl, rfl⟩
  clear HP1 HP2
  go_wp2_with fail
  refine (at_any hL (by omega) other).mono ?_
  rintro e w3 ⟨v3, rfl, hown3, hg3⟩
  obtain ⟨A3, c3, rfl⟩ := slice_of_own2 hown3
  have hL3 := hL.grow hg3
  have hb3 := hb2'.grown hg3 hb2'.size (by intro k hk; cases hk)
  have hlo3 := hown3
  have hvlt : ∀ k, v.ownBlock = some k → k < w2.heap.size := fun k hk => (hL.own.lt k hk).2
  have hplt := hL.lt
  clear hL hg3 hb2'
  go_wp2_with fail
  refine (wake_any hL3 (by omega) cell a3).mono ?_
  rintro e w4 ⟨v4, A4, c4, rfl, hI4, hL4, hk4, _⟩
  have hb4 : Below w.heap.size w w4 := hb3.trans (hk4.below hb3.size fun k hk => by
    rcases hk with rfl | hk
    · exact Nat.le_trans hsz hL3.lo
    · exact Nat.le_trans hsz (hL3.own.lt k hk.symm).1)
  -- what was told ahead is still told
  have hI3 : Ints .i64 w4 w4.heap.size A3 (threadsAt L other).length (threadsAt L other) := by
    refine Ints.of_own (own_keeps hown3 hk4 fun g hg hS => ?_)
    have h1 := (hown3.lt g hg).1
    rcases hS with rfl | hk
    · omega
    · have := hvlt g hk.symm
      omega
  have hTl := threads_len hlen other
  by_cases hco : cell = other
  · subst hco
    have hcc : (cell == cell) = true := by simp
    clear hI3 hI4 hL4 hk4 hL3 hown3 hlo3 hgood
    go_wp2
    go_ret
    exact ⟨rfl, hb4⟩
  · have hcc : (cell == other) = false := by simpa using hco
    have hsame : threadsAt (rest L ((threadsAt L cell).take (wakeN a3 (threadsAt L cell)))) other = threadsAt L other := by
      rw [threadsAt_rest]
      exact filter_other hgood cell other hco _ fun t ht => List.mem_of_mem_take ht
    have hat := at_any hL4 (Nat.le_trans (List.Sublist.length_le (rest_sub _ _)) (by omega)) other
    rw [hsame] at hat
    obtain ⟨T, hT⟩ : ∃ T, threadsAt L other = T := ⟨_, rfl⟩
    rw [hT] at hat hI3 hTl
    have HAT := Lib.hid hat
    clear hI4 hL4 hk4 hL3 hown3 hlo3 hgood hsame hat hcc
    have hcc : (cell == other) = false := by simpa using hco
    rw [hT]
    go_wp2_with fail
    refine HAT.out.mono ?_
    rintro e w5 ⟨v5, rfl, hown5, hg5⟩
    obtain ⟨A5, c5, rfl⟩ := slice_of_own2 hown5
    have hI5 : Ints .i64 w5 w5.heap.size A5 T.length T := Ints.of_own hown5
    have hI35 : Ints .i64 w5 w5.heap.size A3 T.length T := hI3.keep hg5.size fun p hp => World.cell?_of_block (hg5.block p.block hp (by simp))
    have hb5 := hb4.grown hg5 hb4.size (by intro k hk; cases hk)
    clear hown5 hg5 hI3 hb4 HAT
    go_wp2_with fail
    refine (equalI_same _ _ _ _ _ T _ (by omega) _ hI5 hI35).mono ?_
    rintro e w6 ⟨rfl, q, rfl⟩
    have hb6 := below_drewN hb5 q
    go_wp2
    go_ret
    exact ⟨rfl, hb6⟩
end Go.Proofs.Ythjifekpefjjaaa
