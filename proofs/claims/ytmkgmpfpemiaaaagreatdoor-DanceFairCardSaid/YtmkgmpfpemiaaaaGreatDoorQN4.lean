/-
  size: how many instructions all programs have.
-/
import Derived.Test.YtmkgmpfpemiaaaaGreatDoorQI2
namespace Go.Proofs.YtmkgmpfpemiaaaaGreatDoor
set_option maxRecDepth 100000
open Go.RowKit Go.Shelf Go.Sort
set_option linter.unusedVariables false
set_option linter.unusedSimpArgs false

theorem size_any {w : World} (H : CodeOK) (hw : DW w) {k n rounds : Nat} (d : Dims k n rounds) :
    Calls Tryz.prog 26 #[.int .i64 (k : Nat), .int .i64 (n : Nat), .int .i64 (rounds : Nat)] w fun e w' => e = .returned (.int .i64 (kSize k n : Nat)) ∧ Below w.heap.size w w' := by
  have HC := Lib.hid (fun w1 (hb : Below w.heap.size w w1) id (hid : id < n) => H.code (hw.old hb) d hid)
  have hn16 := d.n16
  have HLe := Lib.hid (fun t (ht : t < n) => (by
    have h := (kind_right (rounds := 0) d.k1 d.k6 d.n1 d.n16 (by omega)).2.1 t ht
    have h4 := h.2.2.2.1
    rwa [barP_len] at h4 : 8 + offs (kOps k n t) (kOps k n t).length ≤ 600))
  clear d
  go_enter Tryz.func26, Tryz.ntmps26
  go_wp2
  go_loopw [7, 12] (fun i j wr => ∃ q : Nat, q ≤ n ∧ i = .int .i64 ((sumN q fun t => 8 + offs (kOps k n t) (kOps k n t).length : Nat) : Int) ∧ j = .int .i64 q ∧ Below w.heap.size w wr) (fun _ j _ => n - (intOf j).toNat)
  case atStart => exact ⟨0, Nat.zero_le _, rfl, rfl, Below.refl _ _⟩
  case round =>
    obtain ⟨q, hq, rfl, rfl, hb⟩ := hrel
    by_cases hlt : q < n
    · have hkn : (q : Int) < (n : Int) := by omega
      have HB := Lib.hid hb
      have hle : sumN q (fun t => 8 + offs (kOps k n t) (kOps k n t).length) ≤ q * 600 := by
        have : sumN q (fun t => 8 + offs (kOps k n t) (kOps k n t).length) ≤ sumN q fun _ => 600 := sumN_le fun u hu => HLe.out u (by omega)
        rw [sumN_const] at this
        exact this
      have hq16 : q * 600 ≤ 16 * 600 := Nat.mul_le_mul_right _ (by omega)
      have hle2 := HLe.out q hlt
      have HS := Lib.hid (sumN_succ (f := fun t => 8 + offs (kOps k n t) (kOps k n t).length) q)
      have HC2 := Lib.hid (HC.out wr HB.out q hlt)
      rw [barP_len] at HC2
      clear hb
      generalize sumN q (fun t => 8 + offs (kOps k n t) (kOps k n t).length) = sq at *
      generalize 8 + offs (kOps k n q) (kOps k n q).length = z at *
      go_wp2_with fail
      refine HC2.out.mono ?_
      rintro e w2 ⟨A, cap, rfl, ho, hb2⟩
      have HB2 := Lib.hid (HB.out.trans (hb2.mono HB.out.size))
      clear ho hb2 HC2 HC HB
      go_wp2
      go_roundw
      case rel => exact ⟨q + 1, by omega, by rw [HS.out]; go_num, by go_num, HB2.out⟩
      case measure => simp [intOf]; omega
    · have hkn : ¬ (q : Int) < (n : Int) := by omega
      have hqn : q = n := by omega
      subst hqn
      have HB := Lib.hid hb
      clear hb
      go_wp2
      go_ret
      exact ⟨rfl, HB.out⟩
end Go.Proofs.YtmkgmpfpemiaaaaGreatDoor
