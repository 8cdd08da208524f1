/-
  What the laws on lots share: 'pick', and the fact 'asleep', which is true.
-/
import Derived.Test.YthjifekpefjjaaaLotH
import Derived.Test.YthjifekpefjjaaaEqI
namespace Go.Proofs.Ythjifekpefjjaaa
open Go.RowKit Go.Shelf

theorem wrapU_nn (a : Int) : 0 ≤ IntKind.u64.wrap a := by
  unfold IntKind.wrap
  simp [IntKind.signed, IntKind.bits]
  omega

/-- Which one of n a number stands for. -/
def pickI (a : Int) (n : Nat) : Int := (IntKind.u64.wrap a).tmod n
theorem pickI_lo (a : Int) (n : Nat) : 0 ≤ pickI a n := Int.tmod_nonneg _ (wrapU_nn a)
theorem pickI_hi (a : Int) (n : Nat) (h : 0 < n) : pickI a n < n := Int.tmod_lt_of_pos _ (by omega)

set_option maxHeartbeats 400000 in
theorem pick_det (a b : Int) (n : Nat) (w : World) (hb : b = (n : Int)) (h0 : 0 < n) (hn : n ≤ 1000) : Calls Try.prog 13 #[.int .i64 a, .int .i64 b] w fun e w' => e = .returned (.int .i64 (pickI a n)) ∧ w = w' := by
  subst hb
  have h1 := pickI_lo a n
  have h2 := pickI_hi a n h0
  have hd : (IntKind.u64.wrap a).tmod n = pickI a n := rfl
  have H := Lib.hid (And.intro h1 (And.intro h2 hd))
  clear h1 h2 hd
  go_enter Try.func13, Try.ntmps13
  go_wp2
  go_ret
  refine ⟨ret_int ?_, rfl⟩
  obtain ⟨h1, h2, h3⟩ := H.out
  rw [h3]
  unfold wrap64
  omega

set_option maxHeartbeats 1000000 in
theorem asleep_true (w : World) : Calls Try.prog 21 #[] w fun e w' => e = .returned (.bool true) ∧ Below w.heap.size w w' := by
  go_enter Try.func21, Try.ntmps21
  go_wp2_with fail
  refine (pnew_ok 3 (by decide) (by decide)).mono ?_
  rintro e w1 ⟨p, v, rfl, hL, hg1⟩
  have hb1 := (Below.refl w.heap.size w).grown hg1 (Nat.le_refl _) (by intro k hk; cases hk)
  clear hg1
  go_wp2_with fail
  refine (sleep_new hL hb1.size (by decide) 2 5 (by decide) (by decide) (by decide) (by decide) (by intro s hs; cases hs)).mono ?_
  rintro e w2 ⟨v2, rfl, hL2, hb2'⟩
  have hb2 := hb1.trans hb2'
  clear hL hb2'
  go_wp2_with fail
  refine (sleep_new hL2 hb2.size (by decide) 0 5 (by decide) (by decide) (by decide) (by decide) (by decide)).mono ?_
  rintro e w3 ⟨v3, rfl, hL3, hb3'⟩
  have hb3 := hb2.trans hb3'
  clear hL2 hb3' hb1
  go_wp2_with fail
  refine (sleep_new hL3 hb3.size (by decide) 1 6 (by decide) (by decide) (by decide) (by decide) (by decide)).mono ?_
  rintro e w4 ⟨v4, rfl, hL4, hb4'⟩
  have hb4 := hb3.trans hb4'
  clear hL3 hb4' hb2
  have hL4' : Lot w4 w.heap.size p 3 v4 [(2, 5), (0, 5), (1, 6)] := hL4
  clear hL4 hb3
  go_wp2_with fail
  refine (at_any hL4' (by decide) 5).mono ?_
  rintro e w5 ⟨v5, rfl, hown5, hg5⟩
  obtain ⟨A5, c5, rfl⟩ := slice_of_own2 hown5
  have hI5 : Ints .i64 w5 w5.heap.size A5 2 [2, 0] := Ints.of_own hown5
  have hb5 := hb4.grown hg5 hb4.size (by intro k hk; cases hk)
  have hL5 := hL4'.grow hg5
  have hl2 : (threadsAt [(2, 5), (0, 5), (1, 6)] 5).length = 2 := by decide
  clear hown5 hg5 hL4' hb4
  rw [hl2]
  clear hl2
  go_wp2_with fail
  have hL6 := hL5.grow (World.grownBy_alloc w5 (.cells #[.int .i64 2, .int .i64 0] 3) none)
  have hb6 := hb5.alloc hb5.size (.cells #[.int .i64 2, .int .i64 0] 3)
  refine (equalI_same _ _ 2 _ _ [2, 0] _ (by decide) (w5.heap.size + 1) (hI5.keep (by omega) fun p hp => World.cell?_alloc_lt w5 _ p hp) ⟨rfl, fun _ => ⟨w5.heap.size, 0, rfl, by omega, fun i hi => ?_⟩⟩).mono ?_
  · match i, hi with
    | 0, _ => simp
    | 1, _ => simp
  rintro e w7 ⟨rfl, q, rfl⟩
  have hg7 : (w5.alloc (.cells #[.int .i64 2, .int .i64 0] 3)).grownBy ((w5.alloc (.cells #[.int .i64 2, .int .i64 0] 3)).drewN q) none := ⟨rfl, rfl, rfl, Nat.le_refl _, fun _ _ _ => rfl⟩
  have hL7 := hL6.grow hg7
  have hb7 := below_drewN hb6 q
  clear hL6 hb6 hL5 hb5 hI5 hg7
  go_wp2_with fail
  refine (wake_any hL7 (by decide) 5 1).mono ?_
  rintro e w8 ⟨v8, A8, c8, rfl, hI8, hL8, hk8, _⟩
  have hvl := fun k (hk : some k = v4.ownBlock) => (hL7.own.lt k hk.symm).1
  have hlo := hL7.lo
  have hb8 := hb7.trans (hk8.below (B := w.heap.size) hb7.size (fun k hk => by
    rcases hk with rfl | hk
    · exact hlo
    · exact hvl k hk))
  have ho : (threadsAt [(2, 5), (0, 5), (1, 6)] 5).take (wakeN 1 (threadsAt [(2, 5), (0, 5), (1, 6)] 5)) = [2] := by decide
  rw [ho] at hI8 hL8 ⊢
  have hr : rest [(2, 5), (0, 5), (1, 6)] [2] = [(0, 5), (1, 6)] := by decide
  rw [hr] at hL8
  clear hL7 hb7 hk8 hvl hlo ho hr
  go_wp2_with fail
  have hL9 := hL8.grow (World.grownBy_alloc w8 (.cells #[.int .i64 2] 3) none)
  have hb9 := hb8.alloc hb8.size (.cells #[.int .i64 2] 3)
  refine (equalI_same _ _ 1 _ _ [2] _ (by decide) (w8.heap.size + 1) (hI8.keep (by omega) fun p hp => World.cell?_alloc_lt w8 _ p hp) ⟨rfl, fun _ => ⟨w8.heap.size, 0, rfl, by omega, fun i hi => ?_⟩⟩).mono ?_
  · match i, hi with
    | 0, _ => simp
  rintro e w10 ⟨rfl, q2, rfl⟩
  have hg10 : (w8.alloc (.cells #[.int .i64 2] 3)).grownBy ((w8.alloc (.cells #[.int .i64 2] 3)).drewN q2) none := ⟨rfl, rfl, rfl, Nat.le_refl _, fun _ _ _ => rfl⟩
  have hL10 := hL9.grow hg10
  have hb10 := below_drewN hb9 q2
  clear hL9 hb9 hL8 hb8 hI8 hg10
  go_wp2_with fail
  refine (cell_any hL10 2).mono ?_
  rintro e w11 ⟨rfl, hg11⟩
  have hL11 := hL10.grow hg11
  have hb11 := hb10.grown hg11 hb10.size (by intro k hk; cases hk)
  clear hL10 hb10 hg11
  go_wp2_with fail
  refine (cell_any hL11 0).mono ?_
  rintro e w12 ⟨rfl, hg12⟩
  have hL12 := hL11.grow hg12
  have hb12 := hb11.grown hg12 hb11.size (by intro k hk; cases hk)
  clear hL11 hb11 hg12
  go_wp2_with fail
  refine (cell_any hL12 1).mono ?_
  rintro e w13 ⟨rfl, hg13⟩
  have hb13 := hb12.grown hg13 hb12.size (by intro k hk; cases hk)
  clear hL12 hb12 hg13
  go_wp2
  go_ret
  exact ⟨rfl, hb13⟩
end Go.Proofs.Ythjifekpefjjaaa
