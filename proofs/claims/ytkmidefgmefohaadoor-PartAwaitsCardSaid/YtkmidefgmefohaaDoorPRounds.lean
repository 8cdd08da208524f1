/-
  SO OFTEN, AND NO MORE: the walk of PartRounds.
-/
import Derived.Test.YtkmidefgmefohaaDoorPWhole
namespace Go.Proofs.YtkmidefgmefohaaDoor
set_option maxRecDepth 100000
open Go.RowKit Go.Shelf Go.Sort
set_option linter.unusedVariables false

theorem wholeL_nil (r : Nat) (h : r ≤ 20) : wholeL r [] = wholeP r := by
  unfold wholeL wholeP
  rw [wrap_place _ (by omega)]
  rfl
theorem whole_right (r : Nat) (h : r ≤ 20) : RightL (wholeP r) 0 := by
  refine ⟨by decide, by decide, by show 0 < 8; decide, by show 8 ≤ 600; decide, fun i hi => ?_, .inr rfl⟩
  have h8 : i < 8 := hi
  show goodX 8 0 _
  match i, h8 with
  | 0, _ => exact (⟨by decide, by decide, by decide⟩ : goodX 8 0 (1, 0, 1, 0, 0))
  | 1, _ =>
    refine ⟨show (0 : Int) ≤ 1 by decide, show (1 : Int) < 17 by decide, ?_⟩
    show fitsL 8 0 (kindsOf 1) [7, (r : Int) + 1, 0, 0] = true
    simp [fitsL, kindsOf, kinds, boundsL]
    omega
  | 2, _ => exact (⟨by decide, by decide, by decide⟩ : goodX 8 0 (12, 0, 7, 4, 0))
  | 3, _ => exact (⟨by decide, by decide, by decide⟩ : goodX 8 0 (0, 0, 0, 0, 0))
  | 4, _ => exact (⟨by decide, by decide, by decide⟩ : goodX 8 0 (16, 1, 0, 0, 0))
  | 5, _ => exact (⟨by decide, by decide, by decide⟩ : goodX 8 0 (16, 2, 0, 0, 0))
  | 6, _ => exact (⟨by decide, by decide, by decide⟩ : goodX 8 0 (3, 0, 0, 1, 0))
  | 7, _ => exact (⟨by decide, by decide, by decide⟩ : goodX 8 0 (10, 2, 0, 0, 0))
theorem evsW_at (r i : Nat) (h : i < 2 * r) : (evsW r).getD i default = evW i := by
  unfold evsW
  rw [List.getD_eq_getElem?_getD, List.getElem?_map, List.getElem?_range h]
  rfl
theorem whole_fit (r : Nat) (h : r ≤ 20) : Fit [wholeP r] 0 := by
  refine ⟨by show 1 ≤ 16; decide, by decide, fun i hi => ?_⟩
  have h1 : i < 1 := hi
  match i, h1 with
  | 0, _ => exact whole_right r h

set_option maxHeartbeats 2000000 in
theorem partRounds_any {w : World} (hw : CW w) (a : Int) : Calls Tryd.prog 4 #[.int .i64 a] w fun e w' => e = .returned (.bool true) ∧ Below w.heap.size w w' := by
  have HG := Lib.hid (fun w1 (h : Below w.heap.size w w1) => gone_any (hw.old h))
  have HW := Lib.hid hw
  clear hw
  go_enter Tryd.func4, Tryd.ntmps4
  go_wp2_with fail
  refine (pieced_any w).mono ?_
  rintro e w1 ⟨rfl, hb1⟩
  have HB1 := Lib.hid hb1
  clear hb1
  go_wp2_with fail
  refine (HG.out w1 HB1.out).mono ?_
  rintro e w2 ⟨rfl, hb2⟩
  have HB2 := Lib.hid (HB1.out.trans (hb2.mono HB1.out.size))
  clear hb2 HB1 HG
  obtain ⟨r, hr⟩ := nat_of (pickI_lo a 21)
  have hr2 := pickI_hi a 21 (by omega)
  rw [hr] at hr2
  go_wp2_with fail
  refine (pick_det a _ 21 _ (by go_num) (by omega) (by omega)).mono ?_
  rintro e w3 ⟨rfl, rfl⟩
  rw [hr]
  clear hr
  go_wp2_with fail
  have hI0 : ∀ W : World, Inss W W.heap.size none 0 [] := fun W => ⟨rfl, fun h => absurd h (by decide)⟩
  refine (pwhole_any (w := w2) (r : Int) none 0 0 [] (hI0 w2) (by decide)).mono ?_
  rintro e w3 ⟨v, rfl, ho, hg⟩
  rw [wholeL_nil r (by omega)] at ho
  obtain ⟨A, c, rfl⟩ := slice_of_own ho
  have HB3 := Lib.hid (HB2.out.grown hg HB2.out.size (by intro k hk; cases hk))
  have HO3 := Lib.hid ho
  clear hg ho hI0 HB2
  go_wp2_with fail
  have hat := heap_alloc_new w3 (.cells #[.slice A (5 + 0 + 3) c] 35)
  have hP : Progs (w3.alloc (.cells #[.slice A (5 + 0 + 3) c] 35)) (w3.alloc (.cells #[.slice A (5 + 0 + 3) c] 35)).heap.size (some ⟨w3.heap.size, 0, none⟩) 1 [wholeP r] := by
    refine ⟨rfl, fun _ => ⟨_, _, rfl, by simp, fun i hi => ?_⟩⟩
    match i, hi with
    | 0, _ => exact ⟨A, c, (cell_in hat 0).trans rfl, Inss.of_own (HO3.out.alloc _) rfl⟩
  have hC : Ints .u64 (w3.alloc (.cells #[.slice A (5 + 0 + 3) c] 35)) (w3.alloc (.cells #[.slice A (5 + 0 + 3) c] 35)).heap.size none 0 [] := ⟨rfl, fun h => absurd h (by decide)⟩
  refine (new_at HW.out (HB3.out.alloc HB3.out.size (.cells #[.slice A (5 + 0 + 3) c] 35)) _ _ 1 1 0 0 [wholeP r] [] hP hC (by decide) (by decide) (fun i hi => ?_)).mono ?_
  · match i, hi with
    | 0, _ => exact whole_right r (by omega)
  rintro e w4 ⟨b, rfl, hA⟩
  have HA := Lib.hid hA
  clear hA hP hC hat HO3 HB3
  have HM := Lib.hid (fun k => MBig.iter k (newM_big (ps := [wholeP r]) (cells := []) (whole_fit r (by omega)) (by intro v hv; cases hv)))
  have hl1 : wrap64 (9 * (r : Int)) = 9 * r := wrap_place _ (by omega)
  have hl2 : wrap64 (9 * (r : Int) + 9) = 9 * r + 9 := wrap_place _ (by omega)
  go_wp2
  go_loopw [34] (fun j wr => ∃ k : Nat, k ≤ 9 * r + 9 ∧ j = .int .i64 k ∧ Hid (At w b (iterM 20000 k (newM [wholeP r] [])) wr)) (fun j _ => 9 * r + 9 - (intOf j).toNat)
  case atStart => exact ⟨0, Nat.zero_le _, rfl, HA⟩
  case round =>
    obtain ⟨k, hk, rfl, hA⟩ := hrel
    by_cases hlt : k < 9 * r + 9
    · have hkn : (k : Int) < 9 * (r : Int) + 9 := by omega
      go_wp2_with fail
      refine (at_step hA.out (HM.out k) 0).mono ?_
      rintro e w5 ⟨rfl, hA5⟩
      rw [← iter_succ] at hA5
      have HA5 := Lib.hid hA5
      generalize (errV (stepM 20000 (iterM 20000 k (newM [wholeP r] [])) 0).1) = RV
      clear hA5 hA
      go_wp2
      go_roundw
      case rel => exact ⟨k + 1, by omega, by go_num, HA5⟩
      case measure => simp [intOf]; omega
    · have hkn : ¬ (k : Int) < 9 * (r : Int) + 9 := by omega
      obtain rfl : k = 9 * r + 9 := by omega
      rw [whole_end r (by omega)] at hA
      have HA5 := Lib.hid hA.out
      clear hA HM HA
      have hes : endsM (wholeE r) = (true, false) := rfl
      have hel : (wholeE r).events.length = 2 * r := by show (evsW r).length = _; unfold evsW; simp
      go_wp2_with fail
      refine (at_ends HA5.out (by show 1 ≤ 16; decide)).mono ?_
      rw [hes]
      rintro e w6 ⟨rfl, hg6⟩
      have HA6 := Lib.hid (HA5.out.grow hg6)
      clear hg6 HA5
      go_wp2_with fail
      refine (at_events HA6.out (by omega)).mono ?_
      rintro e w7 ⟨A7, c7, rfl, ho7, hg7⟩
      have HB7 := Lib.hid (HA6.out.grow hg7).bel
      rw [hel] at ho7 ⊢
      have HE7 := Lib.hid (evRow_own ho7 hel)
      have HO7 := Lib.hid ho7
      clear ho7 hg7 HA6 hel
      go_wp2
      go_loopw [48] (fun j wr => ∃ k : Nat, k ≤ 2 * r ∧ j = .int .i64 k ∧ Hid (wr.ownsRow w6.heap.size 44 4 (.slice A7 (2 * r) c7) (2 * r) (cellsE (wholeE r).events)) ∧ Hid (Below w.heap.size w wr)) (fun j _ => 2 * r - (intOf j).toNat)
      case atStart => exact ⟨0, Nat.zero_le _, rfl, HO7, HB7⟩
      case round =>
        obtain ⟨k, hk, rfl, hO, hB⟩ := hrel
        by_cases hlt : k < 2 * r
        · have hkn : (k : Int) < 2 * (r : Int) := by omega
          obtain ⟨g7, off7, e7, x1, x2, x3, x4⟩ := evRow_own hO.out (by show (evsW r).length = _; unfold evsW; simp) k hlt
          subst e7
          rw [show (wholeE r).events.getD k default = evW k from evsW_at r k hlt] at x1 x2 x3 x4
          dsimp only [evW] at x1 x2 x3 x4
          have HO := Lib.hid hO.out
          have HB := Lib.hid hB.out
          clear hO hB HO7 HB7 HE7
          go_wp2
          go_roundw
          case rel => exact ⟨k + 1, by omega, by go_num, Lib.hid (HO.out.alloc _), Lib.hid (HB.out.alloc HB.out.size _)⟩
          case measure => simp [intOf]; omega
        · have hkn : ¬ (k : Int) < 2 * (r : Int) := by omega
          have HB := Lib.hid hB.out
          clear hB hO HO7 HB7 HE7
          have hl3 : wrap64 (2 * (r : Int)) = 2 * r := wrap_place _ (by omega)
          go_wp2
          go_ret
          exact ⟨rfl, HB.out⟩
end Go.Proofs.YtkmidefgmefohaaDoor
