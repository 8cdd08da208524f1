/-
  The judge: the least and the greatest of a row, what is to be said next, what is wrong with an event, and with events.
-/
import Derived.Test.YtoljmleomkkchaaDoorKTimes
import Derived.Test.YtoljmleomkkchaaDoorBase
import Derived.RowKitTokens
import Derived.Lib.MinMax
import Derived.BigQuiet
namespace Go.Proofs.YtoljmleomkkchaaDoor
set_option maxRecDepth 100000
open Go.RowKit
set_option linter.unusedVariables false
set_option linter.unusedSimpArgs false

theorem grown_drewJ (w : World) (q : Nat) : w.grownBy (w.drewN q) none := ⟨rfl, rfl, rfl, Nat.le_refl _, fun _ _ _ => rfl⟩
set_option maxHeartbeats 1000000 in
theorem minI_any {w : World} (A : Option Addr) (n c : Nat) (f : Nat → Nat) (xs : List Int) (h : Ints .i64 w w.heap.size A n xs) (hf : ∀ t, t < n → xs.getD t 0 = (f t : Int)) (n1 : 1 ≤ n) (hn : n ≤ 1000) :
    Calls Tryd.prog 26 #[.slice A n c] w fun e w' => e = .returned (.int .i64 (minN f n : Nat)) ∧ w = w' := by
  obtain ⟨b, off, rfl, hb, hx⟩ := h.row (by omega)
  have h0 : w.cell? ⟨b, off, none⟩ = some (.int .i64 (f 0 : Nat)) := by rw [← hf 0 (by omega)]; exact hx 0 (by omega)
  have HX := Lib.hid (fun t (ht : t < n) => (hx t ht).trans (by rw [hf t ht]))
  have hn1 : ¬ (n : Int) < 1 := by omega
  clear h hx hf
  go_enter Tryd.func26, Tryd.ntmps26
  go_wp2
  clear h0
  go_loopw [3, 4] (fun v j wr => ∃ k : Nat, 1 ≤ k ∧ k ≤ n ∧ v = .int .i64 (minN f k : Nat) ∧ j = .int .i64 k ∧ wr = w) (fun _ j _ => n - (intOf j).toNat)
  case atStart => exact ⟨1, Nat.le_refl _, n1, rfl, rfl, rfl⟩
  case round =>
    obtain ⟨k, hk1, hk, rfl, rfl, rfl⟩ := hrel
    by_cases hlt : k < n
    · have hkn : (k : Int) < (n : Int) := by omega
      have hc := HX.out k hlt
      have HM := Lib.hid (minN_more f hk1)
      generalize minN f k = z at *
      generalize f k = y at *
      have hm : min (z : Int) (y : Int) = ((min z y : Nat) : Int) := by omega
      go_wp2
      go_roundw
      case rel => exact ⟨k + 1, by omega, by omega, by rw [HM.out, ← hm], by go_num, trivial⟩
      case measure => simp [intOf]; omega
    · have hkn : ¬ (k : Int) < (n : Int) := by omega
      obtain rfl : k = n := by omega
      go_wp2
      go_ret
      exact ⟨rfl, rfl⟩
set_option maxHeartbeats 1000000 in
theorem maxI_any {w : World} (A : Option Addr) (n c : Nat) (f : Nat → Nat) (xs : List Int) (h : Ints .i64 w w.heap.size A n xs) (hf : ∀ t, t < n → xs.getD t 0 = (f t : Int)) (n1 : 1 ≤ n) (hn : n ≤ 1000) :
    Calls Tryd.prog 28 #[.slice A n c] w fun e w' => e = .returned (.int .i64 (maxN f n : Nat)) ∧ w = w' := by
  obtain ⟨b, off, rfl, hb, hx⟩ := h.row (by omega)
  have h0 : w.cell? ⟨b, off, none⟩ = some (.int .i64 (f 0 : Nat)) := by rw [← hf 0 (by omega)]; exact hx 0 (by omega)
  have HX := Lib.hid (fun t (ht : t < n) => (hx t ht).trans (by rw [hf t ht]))
  have hn1 : ¬ (n : Int) < 1 := by omega
  have hz : maxN f 1 = f 0 := by show max 0 (f 0) = f 0; omega
  clear h hx hf
  rw [← hz] at h0
  go_enter Tryd.func28, Tryd.ntmps28
  go_wp2
  clear h0 hz
  go_loopw [3, 4] (fun v j wr => ∃ k : Nat, 1 ≤ k ∧ k ≤ n ∧ v = .int .i64 (maxN f k : Nat) ∧ j = .int .i64 k ∧ wr = w) (fun _ j _ => n - (intOf j).toNat)
  case atStart => exact ⟨1, Nat.le_refl _, n1, rfl, rfl, rfl⟩
  case round =>
    obtain ⟨k, hk1, hk, rfl, rfl, rfl⟩ := hrel
    by_cases hlt : k < n
    · have hkn : (k : Int) < (n : Int) := by omega
      have hc := HX.out k hlt
      have HM := Lib.hid (maxN_more f k)
      generalize maxN f k = z at *
      generalize f k = y at *
      have hm : max (z : Int) (y : Int) = ((max z y : Nat) : Int) := by omega
      go_wp2
      go_roundw
      case rel => exact ⟨k + 1, by omega, by omega, by rw [HM.out, ← hm], by go_num, trivial⟩
      case measure => simp [intOf]; omega
    · have hkn : ¬ (k : Int) < (n : Int) := by omega
      obtain rfl : k = n := by omega
      go_wp2
      go_ret
      exact ⟨rfl, rfl⟩

theorem jnext_any (k : Nat) (hk : k ≤ 1000000) (w : World) : Calls Tryd.prog 34 #[.int .i64 (k : Nat)] w fun e w' => e = .returned (.tuple #[.int .i64 ((1 + k % 2 : Nat) : Int), .int .i64 ((k / 2 + 1 : Nat) : Int)]) ∧ w = w' := by
  have hr := Nat.mod_lt k (show 0 < 2 by decide)
  rcases (by omega : k % 2 = 0 ∨ k % 2 = 1) with h2 | h2
  · have h3 : ((k : Int) % 2) = 0 := by omega
    go_enter Tryd.func34, Tryd.ntmps34
    go_wp2
    go_ret2
    exact ⟨by rw [h2]; congr 5, rfl⟩
  · have h3 : ((k : Int) % 2) = 1 := by omega
    go_enter Tryd.func34, Tryd.ntmps34
    go_wp2
    go_ret2
    exact ⟨by rw [h2]; congr 5, rfl⟩
theorem jcame_any (k : Nat) (hk : k ≤ 1000000) (w : World) : Calls Tryd.prog 27 #[.int .i64 (k : Nat)] w fun e w' => e = .returned (.int .i64 (((k + 1) / 2 : Nat) : Int)) ∧ w = w' := by
  go_enter Tryd.func27, Tryd.ntmps27
  go_wp2
  go_ret
  exact ⟨ret_int (by omega), rfl⟩
theorem jgone_any (k : Nat) (hk : k ≤ 1000000) (w : World) : Calls Tryd.prog 25 #[.int .i64 (k : Nat)] w fun e w' => e = .returned (.int .i64 ((k / 2 : Nat) : Int)) ∧ w = w' := by
  go_enter Tryd.func25, Tryd.ntmps25
  go_wp2
  go_ret
  exact ⟨ret_int (by omega), rfl⟩

/-- What an event is as a value. -/
def evV (x : Ev4) : Value := .agg #[.int .i64 x.1, .int .i64 x.2.1, .int .i64 x.2.2.1, .int .i64 x.2.2.2]

set_option maxHeartbeats 2000000 in
theorem jjudge_any {w : World} (A : Option Addr) (n c : Nat) (a : List Ev4) (ha : a.length ≤ 100000) (h : Ints .i64 w w.heap.size A n (timesL n a)) (n1 : 1 ≤ n) (hn : n ≤ 16) (x : Ev4) :
    Calls Tryd.prog 32 #[.agg #[.int .i64 x.1, .int .i64 x.2.1, .int .i64 x.2.2.1, .int .i64 x.2.2.2], .slice A n c] w fun e w' => e = .returned (.int .i64 (jErr n a x : Nat)) ∧ w.grownBy w' none := by
  have HG := Lib.hid (World.grownBy_alloc w (.cells #[.int .i64 x.1, .int .i64 x.2.1, .int .i64 x.2.2.1, .int .i64 x.2.2.2] 42) none)
  have h2 := h.keep (Nat.le_of_lt (by simp : w.heap.size < (w.alloc (.cells #[.int .i64 x.1, .int .i64 x.2.1, .int .i64 x.2.2.1, .int .i64 x.2.2.2] 42)).heap.size)) (fun p hp => World.cell?_of_block (a := p) (HG.out.block _ hp (by simp)))
  have HMin := Lib.hid (fun q => minI_any A n c (cntEv a) (timesL n a) (h2.keep (w' := (w.alloc (.cells #[.int .i64 x.1, .int .i64 x.2.1, .int .i64 x.2.2.1, .int .i64 x.2.2.2] 42)).drewN q) (Nat.le_refl _) (fun p hp => World.cell?_of_block (a := p) ((grown_drewJ _ q).block _ hp (by simp)))) (fun t ht => timesL_at a ht) n1 (by omega))
  have HLe := Lib.hid (fun t => Nat.le_trans (cntEv_len a t) ha)
  have HML := Lib.hid (Nat.le_trans (minN_len (n := n) n1 a) ha)
  obtain ⟨w0, what, t, v⟩ := x
  dsimp only at *
  by_cases hw1 : what ≠ 1 ∧ what ≠ 2
  · rw [jErr_arg hw1.1 hw1.2]
    obtain ⟨e1, e2⟩ := hw1
    have e3 : (what != 1) = true := by simpa using e1
    have e4 : (what != 2) = true := by simpa using e2
    clear h h2 HMin
    go_enter Tryd.func32, Tryd.ntmps32
    go_wp2
    go_ret
    exact ⟨rfl, HG.out⟩
  have hw2 : what = 1 ∨ what = 2 := by omega
  clear hw1
  by_cases ht : t < 0 ∨ (n : Int) ≤ t
  · rw [jErr_range hw2 ht]
    clear h h2 HMin
    rcases hw2 with rfl | rfl
    · by_cases ht0 : t < 0
      · go_enter Tryd.func32, Tryd.ntmps32
        go_wp2
        go_ret
        exact ⟨rfl, HG.out⟩
      · have ht1 : (n : Int) ≤ t := by omega
        go_enter Tryd.func32, Tryd.ntmps32
        go_wp2
        go_ret
        exact ⟨rfl, HG.out⟩
    · by_cases ht0 : t < 0
      · go_enter Tryd.func32, Tryd.ntmps32
        go_wp2
        go_ret
        exact ⟨rfl, HG.out⟩
      · have ht1 : (n : Int) ≤ t := by omega
        go_enter Tryd.func32, Tryd.ntmps32
        go_wp2
        go_ret
        exact ⟨rfl, HG.out⟩
  obtain ⟨u, rfl⟩ : ∃ u : Nat, t = u := ⟨t.toNat, by omega⟩
  have hu : u < n := by omega
  have ht0 : ¬ (u : Int) < 0 := by omega
  have ht1 : ¬ (n : Int) ≤ (u : Int) := by omega
  obtain ⟨b, off, rfl, hb, hx⟩ := h2.row (by omega)
  have hc := hx u hu
  rw [timesL_at a hu] at hc
  have HNx := Lib.hid (fun w => jnext_any (cntEv a u) (by have := HLe.out u; omega) w)
  have HCa := Lib.hid (fun w => jcame_any (minN (cntEv a) n) (by have := HML.out; omega) w)
  by_cases ho : what ≠ ((1 + cntEv a u % 2 : Nat) : Int) ∨ v ≠ ((cntEv a u / 2 + 1 : Nat) : Int)
  · rw [jErr_order (e := ((w0, what, (u : Int), v) : Ev4)) hw2 hu rfl ho]
    clear h h2 HMin hx ht HCa
    generalize ((1 + cntEv a u % 2 : Nat) : Int) = y1 at *
    generalize ((cntEv a u / 2 + 1 : Nat) : Int) = y2 at *
    generalize cntEv a u = k at *
    by_cases ho1 : what = y1
    · have ho2 : (v != y2) = true := by
        have : ¬ v = y2 := fun e => by rcases ho with h | h; exact h ho1; exact h e
        simpa using this
      have ho3 : (what != what) = false := by simp
      subst ho1
      rcases hw2 with rfl | rfl
      · go_enter Tryd.func32, Tryd.ntmps32
        go_wp2_with fail
        refine (HNx.out _).mono ?_
        rintro e w1 ⟨rfl, rfl⟩
        go_wp2
        go_ret
        exact ⟨rfl, HG.out⟩
      · go_enter Tryd.func32, Tryd.ntmps32
        go_wp2_with fail
        refine (HNx.out _).mono ?_
        rintro e w1 ⟨rfl, rfl⟩
        go_wp2
        go_ret
        exact ⟨rfl, HG.out⟩
    · have ho3 : (what != y1) = true := by simpa using ho1
      rcases hw2 with rfl | rfl
      · go_enter Tryd.func32, Tryd.ntmps32
        go_wp2_with fail
        refine (HNx.out _).mono ?_
        rintro e w1 ⟨rfl, rfl⟩
        go_wp2
        go_ret
        exact ⟨rfl, HG.out⟩
      · go_enter Tryd.func32, Tryd.ntmps32
        go_wp2_with fail
        refine (HNx.out _).mono ?_
        rintro e w1 ⟨rfl, rfl⟩
        go_wp2
        go_ret
        exact ⟨rfl, HG.out⟩
  have ho1 : what = ((1 + cntEv a u % 2 : Nat) : Int) := Classical.not_not.1 fun e => ho (.inl e)
  have ho2 : v = ((cntEv a u / 2 + 1 : Nat) : Int) := Classical.not_not.1 fun e => ho (.inr e)
  rw [jErr_false (e := ((w0, what, (u : Int), v) : Ev4)) hu rfl ho1 ho2]
  dsimp only
  clear h h2 hx ht ho
  rw [← ho1, ← ho2] at HNx
  have hv2 : v = ((cntEv a u / 2 + 1 : Nat) : Int) := ho2
  generalize cntEv a u / 2 + 1 = y2 at *
  generalize 1 + cntEv a u % 2 = y1 at *
  generalize cntEv a u = k at *
  subst hv2
  have hvv : (((y2 : Nat) : Int) != ((y2 : Nat) : Int)) = false := by simp
  clear ho1
  rcases hw2 with rfl | rfl
  · rw [if_neg (by simp)]
    have hd : decide ((1 : Int) = 2) = false := by decide
    go_enter Tryd.func32, Tryd.ntmps32
    go_wp2_with fail
    refine (HNx.out _).mono ?_
    rintro e w1 ⟨rfl, rfl⟩
    go_wp2
    go_quiet (fail)
    go_wp2
    go_ret
    exact ⟨rfl, HG.out.andThen (grown_drewJ _ _) (by intro k hk; cases hk)⟩
  · generalize (minN (cntEv a) n + 1) / 2 = y3 at *
    generalize minN (cntEv a) n = k3 at *
    by_cases hy : y3 < y2
    · rw [if_pos ⟨rfl, hy⟩]
      have hd : decide ((y3 : Int) < (y2 : Int)) = true := decide_eq_true (by omega)
      go_enter Tryd.func32, Tryd.ntmps32
      go_wp2_with fail
      refine (HNx.out _).mono ?_
      rintro e w1 ⟨rfl, rfl⟩
      go_wp2
      go_quiet (first | (go_at_call 26; refine Calls.quiet_of_same ((HMin.out _).mono fun e u' ⟨he, hu⟩ => ⟨he, hu.symm⟩)) | (go_at_call 27; refine Calls.quiet_of_same ((HCa.out _).mono fun e u' ⟨he, hu⟩ => ⟨he, hu.symm⟩)))
      go_wp2
      go_ret
      exact ⟨rfl, HG.out.andThen (grown_drewJ _ _) (by intro k hk; cases hk)⟩
    · rw [if_neg (fun h => hy h.2)]
      have hd : decide ((y3 : Int) < (y2 : Int)) = false := decide_eq_false (by omega)
      go_enter Tryd.func32, Tryd.ntmps32
      go_wp2_with fail
      refine (HNx.out _).mono ?_
      rintro e w1 ⟨rfl, rfl⟩
      go_wp2
      go_quiet (first | (go_at_call 26; refine Calls.quiet_of_same ((HMin.out _).mono fun e u' ⟨he, hu⟩ => ⟨he, hu.symm⟩)) | (go_at_call 27; refine Calls.quiet_of_same ((HCa.out _).mono fun e u' ⟨he, hu⟩ => ⟨he, hu.symm⟩)))
      go_wp2
      go_ret
      exact ⟨rfl, HG.out.andThen (grown_drewJ _ _) (by intro k hk; cases hk)⟩
end Go.Proofs.YtoljmleomkkchaaDoor
