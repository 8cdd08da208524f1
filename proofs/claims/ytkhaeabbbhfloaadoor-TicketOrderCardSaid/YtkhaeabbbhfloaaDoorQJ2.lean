/-
  fair.turn and fair.Finish: all threads go on, one behind the other, over and over, till none can.
-/
import Derived.Test.YtkhaeabbbhfloaaDoorQI2
import Derived.Test.YtkhaeabbbhfloaaDoorQJ
namespace Go.Proofs.YtkhaeabbbhfloaaDoor
set_option maxRecDepth 100000
open Go.RowKit Go.Shelf Go.Sort
set_option linter.unusedVariables false
set_option linter.unusedSimpArgs false

theorem core_threads {w : World} {B : Nat} {S : Nat → Prop} {X : KB} {m : Mach} (h : Core w B S X m) :
    Calls Tryd.prog 25 #[.pointer (some ⟨X.c, 0, none⟩)] w fun e w' => e = .returned (.int .i64 (m.progs.length : Int)) ∧ w = w' := by
  obtain ⟨_, _, c2, _, _, _⟩ := h.cells
  obtain ⟨xs, hT, _⟩ := h.thr
  obtain ⟨A, cap, e⟩ := slice_of_own hT
  rw [e] at c2
  clear h hT
  go_enter Tryd.func25, Tryd.ntmps25
  go_wp2
  go_ret
  exact ⟨rfl, rfl⟩
theorem sweep_more (m : Mach) (k : Nat) : sweepM (List.range (k + 1)) m = (stepM 20000 (sweepM (List.range k) m) (k : Nat)).2 := by
  rw [List.range_succ, sweepM_append]
  rfl
theorem MBig.sweep {cells0 : List Int} : ∀ (l : List Nat) {m : Mach}, MBig cells0 m → MBig cells0 (sweepM l m)
  | [], m, h => h
  | t :: l, m, h => MBig.sweep l (h.step (t : Nat))

set_option maxHeartbeats 2000000 in
theorem fturn_any {w : World} {B : Nat} {S : Nat → Prop} {X : KB} {cells0 : List Int} {m : Mach} (h : Core w B S X m) (hB : B ≤ w.heap.size) (hb : MBig cells0 m) :
    Calls Tryd.prog 29 #[.pointer (some ⟨X.c, 0, none⟩)] w fun e w' => e = .returned (.bool (decide (m.steps < (roundM m).steps))) ∧ Moved w B S X (roundM m) w' := by
  have HSt := Lib.hid (steps_any h)
  have HTh := Lib.hid (core_threads h)
  have H0 := Lib.hid (show Moved w B S X (sweepM (List.range 0) m) w from Moved.of h (Keeps.refl _ _))
  have HBg := Lib.hid (fun k => hb.sweep (List.range k))
  have hn16 := hb.few
  unfold roundM
  clear h hb
  generalize m.progs.length = n at *
  generalize m.steps = st at *
  go_enter Tryd.func29, Tryd.ntmps29
  go_wp2_with fail
  refine HSt.out.mono ?_
  rintro e w1 ⟨rfl, rfl⟩
  go_wp2_with fail
  refine HTh.out.mono ?_
  rintro e w1 ⟨rfl, rfl⟩
  clear HSt HTh
  go_wp2
  go_loopw [9] (fun j wr => ∃ k : Nat, k ≤ n ∧ j = .int .i64 k ∧ Moved w B S X (sweepM (List.range k) m) wr) (fun j _ => n - (intOf j).toNat)
  case atStart => exact ⟨0, Nat.zero_le _, rfl, H0.out⟩
  case round =>
    obtain ⟨k, hk, rfl, hm⟩ := hrel
    by_cases hlt : k < n
    · have hkn : (k : Int) < (n : Int) := by omega
      have HS := Lib.hid (sweep_more m k)
      obtain ⟨S', X', e1, e2, hC, hSi, hK⟩ := hm
      have HST := Lib.hid (kstep_any hC (by have := hK.size; omega) (HBg.out k) (k : Nat))
      rw [← HS.out, e1] at HST
      have HMV := Lib.hid (⟨hC, hSi, hK, e1, e2⟩ : Core _ B S' X' _ ∧ Since S S' w ∧ Keeps S w _ ∧ X'.c = X.c ∧ X'.tv = X.tv)
      generalize (errV (stepM 20000 (sweepM (List.range k) m) (k : Nat)).1) = RV at *
      clear hC hSi hK e1 e2 HS
      go_wp2_with fail
      refine HST.out.mono ?_
      rintro e w2 ⟨rfl, hm2⟩
      have H2 := Lib.hid (moved_on HMV.out hm2)
      clear hm2 HMV HST
      go_wp2
      go_roundw
      case rel => exact ⟨k + 1, by omega, by go_num, H2.out⟩
      case measure => simp [intOf]; omega
    · have hkn : ¬ (k : Int) < (n : Int) := by omega
      obtain rfl : k = n := by omega
      have HM := Lib.hid hm
      obtain ⟨S', X', e1, e2, hC, hSi, hK⟩ := hm
      have HSt2 := Lib.hid (steps_any hC)
      rw [e1] at HSt2
      clear hC hSi hK e1 e2
      go_wp2_with fail
      refine HSt2.out.mono ?_
      rintro e w2 ⟨rfl, rfl⟩
      by_cases hq : st < (sweepM (List.range k) m).steps
      · have hq1 : (st : Int) < ((sweepM (List.range k) m).steps : Int) := by omega
        go_wp2
        go_ret
        exact ⟨by rw [decide_eq_true hq]; rfl, HM.out⟩
      · have hq1 : ¬ (st : Int) < ((sweepM (List.range k) m).steps : Int) := by omega
        go_wp2
        go_ret
        exact ⟨by rw [decide_eq_false hq]; rfl, HM.out⟩

/-- How many steps were done, where the machine has it. -/
def stepsAt (c : Nat) (w : World) : Nat := match w.cell? ⟨c, 5, none⟩ with
  | some (.int _ z) => z.toNat
  | _ => 0
theorem stepsAt_core {w : World} {B : Nat} {S : Nat → Prop} {X : KB} {m : Mach} (h : Core w B S X m) : stepsAt X.c w = m.steps := by
  obtain ⟨_, _, _, _, _, c5⟩ := h.cells
  unfold stepsAt
  rw [c5]
  rfl
/-- Over and over. -/
def overM (m : Mach) (i : Nat) : Mach := sweepM (List.replicate i (List.range m.progs.length)).flatten m
theorem over_more (m : Mach) (i : Nat) : overM m (i + 1) = roundM (overM m i) := by
  unfold overM roundM
  rw [List.replicate_succ', List.flatten_append, sweepM_append, sweepM_progs]
  simp
theorem round_same {m : Mach} (h : ¬ m.steps < (roundM m).steps) : roundM m = m := by
  have := sweepM_mono (List.range m.progs.length) m
  exact sweepM_same (by unfold roundM at h; omega)

set_option maxHeartbeats 2000000 in
theorem ffin_any {w : World} {B : Nat} {S : Nat → Prop} {X : KB} {cells0 : List Int} {m : Mach} (h : Core w B S X m) (hB : B ≤ w.heap.size) (hb : MBig cells0 m) :
    Calls Tryd.prog 13 #[.pointer (some ⟨X.c, 0, none⟩)] w fun e w' => ∃ m', Fin m m' ∧ e = .returned (.int .i64 ((m'.steps : Int) - (m.steps : Int))) ∧ Moved w B S X m' w' ∧ MBig cells0 m' := by
  have HSt := Lib.hid (steps_any h)
  have H0 := Lib.hid (show Moved w B S X (overM m 0) w from Moved.of h (Keeps.refl _ _))
  have HBg := Lib.hid (fun i => hb.sweep (List.replicate i (List.range m.progs.length)).flatten)
  have HLe := Lib.hid hb.most
  clear h hb
  obtain ⟨st, hst⟩ : ∃ st, m.steps = st := ⟨_, rfl⟩
  rw [hst] at HSt HLe
  have HSm := Lib.hid hst
  rw [hst]
  clear hst
  go_enter Tryd.func13, Tryd.ntmps13
  go_wp2_with fail
  refine HSt.out.mono ?_
  rintro e w1 ⟨rfl, rfl⟩
  clear HSt
  go_wp2
  go_loopw [7] (fun j wr => ∃ i : Nat, Moved w B S X (overM m i) wr) (fun j wr => 20001 - stepsAt X.c wr)
  case atStart => exact ⟨0, H0.out⟩
  case round =>
    obtain ⟨i, hm⟩ := hrel
    have HM0 := Lib.hid hm
    obtain ⟨S', X', e1, e2, hC, hSi, hK⟩ := hm
    have HT := Lib.hid (fturn_any hC (by have := hK.size; omega) (HBg.out i))
    rw [e1] at HT
    have hsa := stepsAt_core hC
    rw [e1] at hsa
    have HSA := Lib.hid hsa
    have HMV := Lib.hid (⟨hC, hSi, hK, e1, e2⟩ : Core _ B S' X' _ ∧ Since S S' w ∧ Keeps S w _ ∧ X'.c = X.c ∧ X'.tv = X.tv)
    clear hC hSi hK e1 e2 hsa
    by_cases hlt : (overM m i).steps < (roundM (overM m i)).steps
    · rw [decide_eq_true hlt] at HT
      rw [← over_more] at HT hlt
      go_wp2_with fail
      refine HT.out.mono ?_
      rintro e w2 ⟨rfl, hm2⟩
      have hm3 := moved_on HMV.out hm2
      have H2 := Lib.hid hm3
      obtain ⟨S2, X2, f1, f2, hC2, _, _⟩ := hm3
      have hsb := stepsAt_core hC2
      rw [f1] at hsb
      have HSB := Lib.hid hsb
      have HL2 := Lib.hid (HBg.out (i + 1)).most
      clear hm2 HMV HT hC2 f1 f2 hsb
      go_wp2
      go_roundw
      case rel => exact ⟨i + 1, H2.out⟩
      case measure =>
        rw [HSA.out, HSB.out]
        have := HL2.out
        unfold overM at hlt ⊢
        omega
    · rw [decide_eq_false hlt] at HT
      have hsame := round_same hlt
      rw [hsame] at HT
      go_wp2_with fail
      refine HT.out.mono ?_
      rintro e w2 ⟨rfl, hm2⟩
      have hm3 := moved_on HMV.out hm2
      have H2 := Lib.hid hm3
      obtain ⟨S2, X2, f1, f2, hC2, _, _⟩ := hm3
      have HSt2 := Lib.hid (steps_any hC2)
      rw [f1] at HSt2
      have HL2 := Lib.hid (HBg.out i).most
      have HF := Lib.hid (show Fin m (overM m i) from ⟨i, rfl, hsame⟩)
      clear hm2 HMV HT hC2 f1 f2 hlt hsame
      have hl2 : (overM m i).steps ≤ 20000 := HL2.out
      have HB2 := Lib.hid (show MBig cells0 (overM m i) from HBg.out i)
      generalize overM m i = m2 at *
      have hw := wrap_place ((m2.steps : Int) - (st : Int)) (by have := HLe.out; omega)
      go_wp2_with fail
      refine HSt2.out.mono ?_
      rintro e w3 ⟨rfl, rfl⟩
      go_wp2
      go_ret
      refine ⟨m2, HF.out, ?_, H2.out, HB2.out⟩
      show Ending.returned (.int .i64 (wrap64 _)) = _
      rw [hw]
end Go.Proofs.YtkhaeabbbhfloaaDoor
