/-
  What the laws on memories share: 'pick', 'memory', and the fact 'kept', which is true.
-/
import Derived.Test.YthjifekpefjjaaaMake
namespace Go.Proofs.Ythjifekpefjjaaa
open Go.RowKit

theorem wrapU_nonneg (a : Int) : 0 ≤ IntKind.u64.wrap a := by
  unfold IntKind.wrap
  simp [IntKind.signed, IntKind.bits]
  omega

def Picked (n : Nat) (w : World) (e : Ending) (w' : World) : Prop := ∃ k : Nat, k < n ∧ e = .returned (.int .i64 k) ∧ w = w'

set_option maxHeartbeats 400000 in
theorem pick_any (a : Int) (n : Nat) (w : World) (h0 : 0 < n) (hn : n ≤ 1000) : Calls Try.prog 13 #[.int .i64 a, .int .i64 n] w (Picked n w) := by
  go_enter Try.func13, Try.ntmps13
  have hb : 0 ≤ (IntKind.u64.wrap a).tmod ↑n ∧ (IntKind.u64.wrap a).tmod ↑n < n := by
    have hu := wrapU_nonneg a
    exact ⟨Int.tmod_nonneg _ hu, Int.tmod_lt_of_pos _ (by omega)⟩
  have H := Lib.hid hb
  clear hb
  go_wp2
  go_ret
  refine ⟨((IntKind.u64.wrap a).tmod ↑n).toNat, ?_, ret_int ?_, rfl⟩
  · have := H.out
    omega
  · have := H.out
    unfold wrap64
    omega

/-- What 'memory' comes to. -/
def Remembers (w : World) (xs : List Int) (e : Ending) (w' : World) : Prop :=
  ∃ m v, e = .returned (.pointer (some ⟨m, 0, none⟩)) ∧ Mem w' w.heap.size m v xs ∧ w.grownBy w' none

set_option maxHeartbeats 400000 in
theorem memory_no {w : World} (A : Option Addr) (n c : Nat) (hn : n = 0 ∨ 200 < n) :
    Calls Try.prog 12 #[.slice A n c] w fun e w' => e = .returned (.pointer none) ∧ w = w' := by
  rcases hn with rfl | hn
  · go_enter Try.func12, Try.ntmps12
    go_wp2
    go_ret
    exact ⟨rfl, rfl⟩
  · have h0 : ((n : Int) == 0) = false := by simp; omega
    have h1 : (200 : Int) < (n : Int) := by omega
    go_enter Try.func12, Try.ntmps12
    go_wp2
    go_ret
    exact ⟨rfl, rfl⟩

set_option maxHeartbeats 400000 in
theorem memory_yes {w : World} {B : Nat} (A : Option Addr) (n c : Nat) (xs : List Int) (h : Ints .u64 w B A n xs) (h0 : 0 < n) (hn : n ≤ 200) :
    Calls Try.prog 12 #[.slice A n c] w (Remembers w xs) := by
  have H := Lib.hid (of_ok A n c xs h (by omega))
  have h0 : ((n : Int) == 0) = false := by simp; omega
  have h1 : ¬ (200 : Int) < (n : Int) := by omega
  clear h
  go_enter Try.func12, Try.ntmps12
  go_wp2_with fail
  refine H.out.mono ?_
  rintro e w1 ⟨m, v, rfl, hM, hg⟩
  clear H
  go_wp2
  go_ret
  exact ⟨m, v, rfl, hM, hg⟩

set_option maxHeartbeats 400000 in
theorem kept_true (w : World) : Calls Try.prog 11 #[] w fun e w' => e = .returned (.bool true) ∧ Below w.heap.size w w' := by
  go_enter Try.func11, Try.ntmps11
  go_wp2_with fail
  refine (new_ok 3 (by decide)).mono ?_
  rintro e w1 ⟨m, v, rfl, hM, hg1⟩
  go_wp2_with fail
  refine (store_in hM (k := 1) (by decide) 7).mono ?_
  rintro e w2 ⟨rfl, hM2, hg2⟩
  go_wp2_with fail
  refine (fetch_in hM2 (k := 1) (by decide) 5).mono ?_
  rintro e w3 ⟨rfl, hM3, hg3⟩
  go_wp2_with fail
  refine (swap_yes hM3 (k := 1) (by decide) 12 9 (by decide)).mono ?_
  rintro e w4 ⟨rfl, hM4, hg4⟩
  go_wp2_with fail
  refine (words_any hM4 (by decide)).mono ?_
  rintro e w5 ⟨v5, rfl, hown, hg5⟩
  obtain ⟨A', c', rfl⟩ := slice_of_own hown
  have hI : Ints .u64 w5 w5.heap.size A' 3 [0, 9, 0] := Ints.of_own hown
  have hb := (Below.refl _ w).grown hg1 (Nat.le_refl _) (by intro k hk; cases hk)
  have hv : ∀ k, v.ownBlock = some k → w.heap.size ≤ k := fun k hk => (hM.own.lt k hk).1
  have hb5 := (((hb.grown hg2 hb.size hv).grown hg3 (Nat.le_trans hb.size hg2.size) hv).grown hg4 (Nat.le_trans hb.size (Nat.le_trans hg2.size hg3.size)) hv).grown hg5 (Nat.le_trans hb.size (Nat.le_trans hg2.size (Nat.le_trans hg3.size hg4.size))) (by intro k hk; cases hk)
  clear hown hM hM2 hM3 hM4 hg1 hg2 hg3 hg4 hg5 hb hv
  go_wp2_with fail
  refine (equalU_same _ _ 3 _ _ [0, 9, 0] _ (by decide) (w5.heap.size + 1) (hI.keep (by omega) fun p hp => World.cell?_alloc_lt w5 _ p hp) ⟨rfl, fun _ => ⟨w5.heap.size, 0, rfl, by omega, fun i hi => ?_⟩⟩).mono ?_
  · match i, hi with
    | 0, _ => simp
    | 1, _ => simp
    | 2, _ => simp
  rintro e w6 ⟨rfl, q, rfl⟩
  go_wp2
  go_ret
  exact ⟨rfl, below_drewN (hb5.alloc hb5.size _) q⟩
end Go.Proofs.Ythjifekpefjjaaa
