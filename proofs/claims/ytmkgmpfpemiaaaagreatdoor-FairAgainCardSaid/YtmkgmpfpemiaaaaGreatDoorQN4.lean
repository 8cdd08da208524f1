/-
  size: how many instructions all programs have. How many cells a barrier has, where the laws ask it. picked, in a seat of barriers.
-/
import Derived.Test.YtmkgmpfpemiaaaaGreatDoorQI2
import Derived.Test.YtmkgmpfpemiaaaaGreatDoorQM2
import Derived.Test.YtmkgmpfpemiaaaaGreatDoorQN2
import Derived.Test.YtmkgmpfpemiaaaaGreatDoorQI
namespace Go.Proofs.YtmkgmpfpemiaaaaGreatDoor
set_option maxRecDepth 100000
open Go.RowKit Go.Shelf Go.Sort
set_option linter.unusedVariables false
set_option linter.unusedSimpArgs false

theorem kSize_le {k n rounds : Nat} (d : Dims k n rounds) : kSize k n ≤ 9600 := by
  have h : kSize k n ≤ sumN n fun _ => 600 := sumN_le fun t ht => (by
    have h := (kind_right (rounds := 0) d.k1 d.k6 d.n1 d.n16 (by omega)).2.1 t ht
    have h4 := h.2.2.2.1
    rwa [barP_len] at h4)
  rw [sumN_const] at h
  have := d.n16
  omega
theorem bound_wrap {ms sz r : Nat} (h : ms ≤ 3 * sz * (r + 1)) (hs : sz ≤ 9600) (hr : r ≤ 6) : (ms : Int) ≤ wrap64 (3 * (sz : Int) * ((r : Int) + 1)) := by
  have e : 3 * (sz : Int) * ((r : Int) + 1) = ((3 * sz * (r + 1) : Nat) : Int) := by push_cast; rfl
  have h2 : 3 * sz * (r + 1) ≤ 3 * 9600 * 7 := Nat.mul_le_mul (Nat.mul_le_mul_left 3 hs) (by omega)
  rw [e]
  generalize 3 * sz * (r + 1) = q at *
  unfold wrap64
  omega
theorem size_any {w : World} (H : CodeOK) (hw : DW w) {k n rounds : Nat} (d : Dims k n rounds) :
    Calls Tryz.prog 26 #[.int .i64 (k : Nat), .int .i64 (n : Nat), .int .i64 (rounds : Nat)] w fun e w' => e = .returned (.int .i64 (kSize k n : Nat)) ∧ Below w.heap.size w w' := by
  have HC := Lib.hid (fun w1 (hb : Below w.heap.size w w1) id (hid : id < n) => H.code (hw.old hb) d hid)
  have hn16 := d.n16
  have HLe := Lib.hid (fun t (ht : t < n) => (by
    have h := (kind_right (rounds := 0) d.k1 d.k6 d.n1 d.n16 (by omega)).2.1 t ht
    have h4 := h.2.2.2.1
    rwa [barP_len] at h4 : 8 + offs (kOps k n t) (kOps k n t).length ≤ 600))
  clear d
  go_enter Tryz.func26, Tryz.ntmps26
  go_wp2
  go_loopw [7, 12] (fun i j wr => ∃ q : Nat, q ≤ n ∧ i = .int .i64 ((sumN q fun t => 8 + offs (kOps k n t) (kOps k n t).length : Nat) : Int) ∧ j = .int .i64 q ∧ Below w.heap.size w wr) (fun _ j _ => n - (intOf j).toNat)
  case atStart => exact ⟨0, Nat.zero_le _, rfl, rfl, Below.refl _ _⟩
  case round =>
    obtain ⟨q, hq, rfl, rfl, hb⟩ := hrel
    by_cases hlt : q < n
    · have hkn : (q : Int) < (n : Int) := by omega
      have HB := Lib.hid hb
      have hle : sumN q (fun t => 8 + offs (kOps k n t) (kOps k n t).length) ≤ q * 600 := by
        have : sumN q (fun t => 8 + offs (kOps k n t) (kOps k n t).length) ≤ sumN q fun _ => 600 := sumN_le fun u hu => HLe.out u (by omega)
        rw [sumN_const] at this
        exact this
      have hq16 : q * 600 ≤ 16 * 600 := Nat.mul_le_mul_right _ (by omega)
      have hle2 := HLe.out q hlt
      have HS := Lib.hid (sumN_succ (f := fun t => 8 + offs (kOps k n t) (kOps k n t).length) q)
      have HC2 := Lib.hid (HC.out wr HB.out q hlt)
      rw [barP_len] at HC2
      clear hb
      generalize sumN q (fun t => 8 + offs (kOps k n t) (kOps k n t).length) = sq at *
      generalize 8 + offs (kOps k n q) (kOps k n q).length = z at *
      go_wp2_with fail
      refine HC2.out.mono ?_
      rintro e w2 ⟨A, cap, rfl, ho, hb2⟩
      have HB2 := Lib.hid (HB.out.trans (hb2.mono HB.out.size))
      clear ho hb2 HC2 HC HB
      go_wp2
      go_roundw
      case rel => exact ⟨q + 1, by omega, by rw [HS.out]; go_num, by go_num, HB2.out⟩
      case measure => simp [intOf]; omega
    · have hkn : ¬ (q : Int) < (n : Int) := by omega
      have hqn : q = n := by omega
      subst hqn
      have HB := Lib.hid hb
      clear hb
      go_wp2
      go_ret
      exact ⟨rfl, HB.out⟩
end Go.Proofs.YtmkgmpfpemiaaaaGreatDoor

namespace Go.Proofs.YtmkgmpfpemiaaaaGreatDoor
set_option maxRecDepth 100000
theorem cellsOK : CellsOK where
  cells := fun hw _ _ _ d => dcells_any hw d
end Go.Proofs.YtmkgmpfpemiaaaaGreatDoor


