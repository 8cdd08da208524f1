/-
  dance: how many cells a barrier wants, and a party's program. fair.turn and fair.Finish: all threads go on, one behind the other, over and over, till none can. judge.hear, Check, Rounds: what is wrong with whatever was said, and how many rounds it was. errors.As of an error with a place (*api.At): the Errno in it. api.Tell of such an error. judge.Check and judge.Rounds, by contract; judged: the fact that the laws on the judge ask first. dance.New, and what the barriers' functions come to.
-/
import Derived.Test.YtgkfhihnfllmhaaGreatDoorQXM
import Derived.Test.YtgkfhihnfllmhaaGreatDoorQXK
import Derived.Test.YtgkfhihnfllmhaaGreatDoorQXK4
import Derived.Test.YtgkfhihnfllmhaaGreatDoorQXK2
import Derived.Test.YtgkfhihnfllmhaaGreatDoorQXL
import Derived.Test.YtgkfhihnfllmhaaGreatDoorQXL2
import Derived.Test.YtgkfhihnfllmhaaGreatDoorQXL3
import Derived.Test.YtgkfhihnfllmhaaGreatDoorQXI2
import Derived.Test.YtgkfhihnfllmhaaGreatDoorQXJ
import Derived.Test.YtgkfhihnfllmhaaGreatDoorQXE2
import Derived.Test.YtgkfhihnfllmhaaGreatDoorQXJ2
import Derived.Test.YtgkfhihnfllmhaaGreatDoorQXI
import Derived.Deep.RegionHeld3
namespace Go.Proofs.YtgkfhihnfllmhaaGreatDoor
set_option maxRecDepth 100000
open Go.RowKit Go.Shelf Go.Sort
set_option linter.unusedVariables false
set_option linter.unusedSimpArgs false
attribute [local go_sem] run_store_fn

/-- A call of a function that has a body: it is entered. -/
theorem enter_fn {f : FuncId} {fn : Func} (hf : Tryz.prog.funcs[f]? = some fn) (hname : (fn.name == "runtime.NumGoroutine") = false) (hb : fn.body.isSome = true) (args : Array Value) (w : World) :
    (callFunc f args).run Tryz.prog w = .ok (.enter f args) w := by
  have h1 : fn.name ≠ "runtime.NumGoroutine" := by simpa using hname
  obtain ⟨c, hc⟩ := Option.isSome_iff_exists.1 hb
  simp [callFunc, hf, h1, hc]

set_option maxHeartbeats 1000000 in
theorem dcells_of {w : World} {n c : Nat} {kk : Int} (x : ByteArray) (f g : Nat) (eg : ∀ args W, (callFunc f args).run Tryz.prog W = .ok (.enter f args) W)
    (hof : Calls Tryz.prog 120 #[.int .i64 kk] w fun e w' => e = .returned (.tuple #[.agg #[.string x, .func (.func f) #[] #[], .func (.func g) #[] #[]], .nilIface]) ∧ Below w.heap.size w w')
    (hc : ∀ u, Below w.heap.size w u → Calls Tryz.prog f #[.int .i64 (n : Nat)] u fun e w' => e = .returned (.tuple #[.int .i64 (c : Nat), .nilIface]) ∧ Below u.heap.size u w') :
    Calls Tryz.prog 85 #[.int .i64 kk, .int .i64 (n : Nat)] w fun e w' => e = .returned (.tuple #[.int .i64 (c : Nat), .nilIface]) ∧ Below w.heap.size w w' := by
  have HOf := Lib.hid hof
  have HC := Lib.hid hc
  clear hof hc
  go_enter Tryz.func85, Tryz.ntmps85
  go_wp2_with fail
  refine HOf.out.mono ?_
  rintro e w1 ⟨rfl, hb1⟩
  have hb2 := hb1.alloc hb1.size (.cells #[.string x, .func (.func f) #[] #[], .func (.func g) #[] #[]] 212)
  have h1 := heap_alloc_new w1 (.cells #[.string x, .func (.func f) #[] #[], .func (.func g) #[] #[]] 212)
  have c1 : (w1.alloc (.cells #[.string x, .func (.func f) #[] #[], .func (.func g) #[] #[]] 212)).cell? ⟨w1.heap.size, 1, none⟩ = some (.func (.func f) #[] #[]) := (cell_of_row _ _ 1 _ _ _ h1).trans rfl
  have HC2 := Lib.hid (HC.out _ hb2)
  have HB2 := Lib.hid hb2
  clear hb1 hb2 h1 HC
  --MA
  go_wp2_with fail
  --MB
  refine HC2.out.mono ?_
  rintro e w3 ⟨rfl, hb3⟩
  have HB3 := Lib.hid (HB2.out.trans (hb3.mono HB2.out.size))
  clear hb3 HC2
  go_wp2
  go_ret2
  exact ⟨rfl, HB3.out⟩

theorem CodeOf.low {w w1 w' : World} {rounds : Nat} {ops : List BOp} {e : Ending} (hb : Below w.heap.size w w1) (h : CodeOf w1 rounds ops e w') : CodeOf w rounds ops e w' := by
  obtain ⟨A, cap, he, ho, hb2⟩ := h
  exact ⟨A, cap, he, own_low ho hb.size, hb.trans (hb2.mono hb.size)⟩
set_option maxHeartbeats 1000000 in
theorem dcode_of {w : World} {n id rounds : Nat} {ops : List BOp} {kk : Int} (x : ByteArray) (f g : Nat) (eg : ∀ args W, (callFunc g args).run Tryz.prog W = .ok (.enter g args) W)
    (hof : Calls Tryz.prog 120 #[.int .i64 kk] w fun e w' => e = .returned (.tuple #[.agg #[.string x, .func (.func f) #[] #[], .func (.func g) #[] #[]], .nilIface]) ∧ Below w.heap.size w w')
    (hc : ∀ u, Below w.heap.size w u → Calls Tryz.prog g #[.int .i64 (n : Nat), .int .i64 (id : Nat), .int .i64 (rounds : Nat)] u (CodeOf u rounds ops)) :
    Calls Tryz.prog 86 #[.int .i64 kk, .int .i64 (n : Nat), .int .i64 (id : Nat), .int .i64 (rounds : Nat)] w (CodeOf w rounds ops) := by
  have HOf := Lib.hid hof
  have HC := Lib.hid hc
  clear hof hc
  go_enter Tryz.func86, Tryz.ntmps86
  go_wp2_with fail
  refine HOf.out.mono ?_
  rintro e w1 ⟨rfl, hb1⟩
  have hb2 := hb1.alloc hb1.size (.cells #[.string x, .func (.func f) #[] #[], .func (.func g) #[] #[]] 212)
  have h1 := heap_alloc_new w1 (.cells #[.string x, .func (.func f) #[] #[], .func (.func g) #[] #[]] 212)
  have c1 : (w1.alloc (.cells #[.string x, .func (.func f) #[] #[], .func (.func g) #[] #[]] 212)).cell? ⟨w1.heap.size, 2, none⟩ = some (.func (.func g) #[] #[]) := (cell_of_row _ _ 2 _ _ _ h1).trans rfl
  have HC2 := Lib.hid (HC.out _ hb2)
  have HB2 := Lib.hid hb2
  clear hb1 hb2 h1 HC
  --MA
  go_wp2_with fail
  --MB
  refine HC2.out.mono ?_
  rintro e w3 ⟨A, cap, rfl, ho, hb3⟩
  have HO := Lib.hid (own_low ho HB2.out.size)
  have HB3 := Lib.hid (HB2.out.trans (hb3.mono HB2.out.size))
  clear ho hb3 HC2
  go_wp2
  go_ret2
  exact ⟨A, cap, rfl, HO.out, HB3.out⟩
theorem dcells_any {w : World} (hw : DW w) {k n rounds : Nat} (d : Dims k n rounds) : Calls Tryz.prog 85 #[.int .i64 (k : Nat), .int .i64 (n : Nat)] w fun e w' => e = .returned (.tuple #[.int .i64 (kCells k n : Nat), .nilIface]) ∧ Below w.heap.size w w' := by
  have hof := of_any (w := w) d.k1 d.k6
  have h : k = 1 ∨ k = 2 ∨ k = 3 ∨ k = 4 ∨ k = 5 ∨ k = 6 := by have := d.k1; have := d.k6; omega
  have n1 := d.n1
  have n16 := d.n16
  clear d
  rcases h with rfl | rfl | rfl | rfl | rfl | rfl
  · exact dcells_of ⟨#[99, 101, 110, 116, 114, 97, 108]⟩ 185 186 (enter_fn Tryz.func185 (by kernel_rfl) (by kernel_rfl)) hof fun u hb => (Ctcells_any n1 n16).mono fun e w' ⟨he, e2⟩ => ⟨he, e2 ▸ Below.refl _ _⟩
  · exact dcells_of ⟨#[99, 111, 109, 98, 105, 110, 101]⟩ 187 188 (enter_fn Tryz.func187 (by kernel_rfl) (by kernel_rfl)) hof fun u hb => Cmcells_any n1 n16
  · exact dcells_of ⟨#[115, 116, 97, 116, 105, 99]⟩ 189 190 (enter_fn Tryz.func189 (by kernel_rfl) (by kernel_rfl)) hof fun u hb => (Stcells_any n1 n16).mono fun e w' ⟨he, e2⟩ => ⟨he, e2 ▸ Below.refl _ _⟩
  · exact dcells_of ⟨#[115, 112, 114, 101, 97, 100]⟩ 191 192 (enter_fn Tryz.func191 (by kernel_rfl) (by kernel_rfl)) hof fun u hb => (spcells_any n1 n16).mono fun e w' ⟨he, e2⟩ => ⟨he, e2 ▸ Below.refl _ _⟩
  · exact dcells_of ⟨#[116, 111, 117, 114, 110, 101, 121]⟩ 193 194 (enter_fn Tryz.func193 (by kernel_rfl) (by kernel_rfl)) hof fun u hb => (Tocells_any n1 n16).mono fun e w' ⟨he, e2⟩ => ⟨he, e2 ▸ Below.refl _ _⟩
  · exact dcells_of ⟨#[109, 99, 115]⟩ 195 196 (enter_fn Tryz.func195 (by kernel_rfl) (by kernel_rfl)) hof fun u hb => (Mccells_any n1 n16).mono fun e w' ⟨he, e2⟩ => ⟨he, e2 ▸ Below.refl _ _⟩
theorem dcode_any {w : World} (hw : DW w) {k n rounds id : Nat} (d : Dims k n rounds) (hid : id < n) : Calls Tryz.prog 86 #[.int .i64 (k : Nat), .int .i64 (n : Nat), .int .i64 (id : Nat), .int .i64 (rounds : Nat)] w (CodeOf w rounds (kOps k n id)) := by
  have hof := of_any (w := w) d.k1 d.k6
  have h : k = 1 ∨ k = 2 ∨ k = 3 ∨ k = 4 ∨ k = 5 ∨ k = 6 := by have := d.k1; have := d.k6; omega
  rcases h with rfl | rfl | rfl | rfl | rfl | rfl
  · exact dcode_of ⟨#[99, 101, 110, 116, 114, 97, 108]⟩ 185 186 (enter_fn Tryz.func186 (by kernel_rfl) (by kernel_rfl)) hof fun u hb => Ctcode_any d hid
  · exact dcode_of ⟨#[99, 111, 109, 98, 105, 110, 101]⟩ 187 188 (enter_fn Tryz.func188 (by kernel_rfl) (by kernel_rfl)) hof fun u hb => Cmcode_any d hid
  · exact dcode_of ⟨#[115, 116, 97, 116, 105, 99]⟩ 189 190 (enter_fn Tryz.func190 (by kernel_rfl) (by kernel_rfl)) hof fun u hb => Stcode_any d hid
  · exact dcode_of ⟨#[115, 112, 114, 101, 97, 100]⟩ 191 192 (enter_fn Tryz.func192 (by kernel_rfl) (by kernel_rfl)) hof fun u hb => spcode_any d hid
  · exact dcode_of ⟨#[116, 111, 117, 114, 110, 101, 121]⟩ 193 194 (enter_fn Tryz.func194 (by kernel_rfl) (by kernel_rfl)) hof fun u hb => Tocode_any d hid (hw.old hb).tz
  · exact dcode_of ⟨#[109, 99, 115]⟩ 195 196 (enter_fn Tryz.func196 (by kernel_rfl) (by kernel_rfl)) hof fun u hb => Mccode_any d hid
end Go.Proofs.YtgkfhihnfllmhaaGreatDoor

namespace Go.Proofs.YtgkfhihnfllmhaaGreatDoor
set_option maxRecDepth 100000
open Go.RowKit Go.Shelf Go.Sort
set_option linter.unusedVariables false
set_option linter.unusedSimpArgs false

theorem core_threads {w : World} {B : Nat} {S : Nat → Prop} {X : KB} {m : Mach} (h : Core w B S X m) :
    Calls Tryz.prog 59 #[.pointer (some ⟨X.c, 0, none⟩)] w fun e w' => e = .returned (.int .i64 (m.progs.length : Int)) ∧ w = w' := by
  obtain ⟨_, _, c2, _, _, _⟩ := h.cells
  obtain ⟨xs, hT, _⟩ := h.thr
  obtain ⟨A, cap, e⟩ := slice_of_own hT
  rw [e] at c2
  clear h hT
  go_enter Tryz.func59, Tryz.ntmps59
  go_wp2
  go_ret
  exact ⟨rfl, rfl⟩
theorem sweep_more (m : Mach) (k : Nat) : sweepM (List.range (k + 1)) m = (stepM 20000 (sweepM (List.range k) m) (k : Nat)).2 := by
  rw [List.range_succ, sweepM_append]
  rfl
theorem MBig.sweep {cells0 : List Int} : ∀ (l : List Nat) {m : Mach}, MBig cells0 m → MBig cells0 (sweepM l m)
  | [], m, h => h
  | t :: l, m, h => MBig.sweep l (h.step (t : Nat))

set_option maxHeartbeats 2000000 in
theorem fturn_any {w : World} {B : Nat} {S : Nat → Prop} {X : KB} {cells0 : List Int} {m : Mach} (h : Core w B S X m) (hB : B ≤ w.heap.size) (hb : MBig cells0 m) :
    Calls Tryz.prog 55 #[.pointer (some ⟨X.c, 0, none⟩)] w fun e w' => e = .returned (.bool (decide (m.steps < (roundM m).steps))) ∧ Moved w B S X (roundM m) w' := by
  have HSt := Lib.hid (steps_any h)
  have HTh := Lib.hid (core_threads h)
  have H0 := Lib.hid (show Moved w B S X (sweepM (List.range 0) m) w from Moved.of h (Keeps.refl _ _))
  have HBg := Lib.hid (fun k => hb.sweep (List.range k))
  have hn16 := hb.few
  unfold roundM
  clear h hb
  generalize m.progs.length = n at *
  generalize m.steps = st at *
  go_enter Tryz.func55, Tryz.ntmps55
  go_wp2_with fail
  refine HSt.out.mono ?_
  rintro e w1 ⟨rfl, rfl⟩
  go_wp2_with fail
  refine HTh.out.mono ?_
  rintro e w1 ⟨rfl, rfl⟩
  clear HSt HTh
  go_wp2
  go_loopw [9] (fun j wr => ∃ k : Nat, k ≤ n ∧ j = .int .i64 k ∧ Moved w B S X (sweepM (List.range k) m) wr) (fun j _ => n - (intOf j).toNat)
  case atStart => exact ⟨0, Nat.zero_le _, rfl, H0.out⟩
  case round =>
    obtain ⟨k, hk, rfl, hm⟩ := hrel
    by_cases hlt : k < n
    · have hkn : (k : Int) < (n : Int) := by omega
      have HS := Lib.hid (sweep_more m k)
      obtain ⟨S', X', e1, e2, hC, hSi, hK⟩ := hm
      have HST := Lib.hid (kstep_any hC (by have := hK.size; omega) (HBg.out k) (k : Nat))
      rw [← HS.out, e1] at HST
      have HMV := Lib.hid (⟨hC, hSi, hK, e1, e2⟩ : Core _ B S' X' _ ∧ Since S S' w ∧ Keeps S w _ ∧ X'.c = X.c ∧ X'.tv = X.tv)
      generalize (errV (stepM 20000 (sweepM (List.range k) m) (k : Nat)).1) = RV at *
      clear hC hSi hK e1 e2 HS
      go_wp2_with fail
      refine HST.out.mono ?_
      rintro e w2 ⟨rfl, hm2⟩
      have H2 := Lib.hid (moved_on HMV.out hm2)
      clear hm2 HMV HST
      go_wp2
      go_roundw
      case rel => exact ⟨k + 1, by omega, by go_num, H2.out⟩
      case measure => simp [intOf]; omega
    · have hkn : ¬ (k : Int) < (n : Int) := by omega
      obtain rfl : k = n := by omega
      have HM := Lib.hid hm
      obtain ⟨S', X', e1, e2, hC, hSi, hK⟩ := hm
      have HSt2 := Lib.hid (steps_any hC)
      rw [e1] at HSt2
      clear hC hSi hK e1 e2
      go_wp2_with fail
      refine HSt2.out.mono ?_
      rintro e w2 ⟨rfl, rfl⟩
      by_cases hq : st < (sweepM (List.range k) m).steps
      · have hq1 : (st : Int) < ((sweepM (List.range k) m).steps : Int) := by omega
        go_wp2
        go_ret
        exact ⟨by rw [decide_eq_true hq]; rfl, HM.out⟩
      · have hq1 : ¬ (st : Int) < ((sweepM (List.range k) m).steps : Int) := by omega
        go_wp2
        go_ret
        exact ⟨by rw [decide_eq_false hq]; rfl, HM.out⟩

/-- How many steps were done, where the machine has it. -/
def stepsAt (c : Nat) (w : World) : Nat := match w.cell? ⟨c, 5, none⟩ with
  | some (.int _ z) => z.toNat
  | _ => 0
theorem stepsAt_core {w : World} {B : Nat} {S : Nat → Prop} {X : KB} {m : Mach} (h : Core w B S X m) : stepsAt X.c w = m.steps := by
  obtain ⟨_, _, _, _, _, c5⟩ := h.cells
  unfold stepsAt
  rw [c5]
  rfl
/-- Over and over. -/
def overM (m : Mach) (i : Nat) : Mach := sweepM (List.replicate i (List.range m.progs.length)).flatten m
theorem over_more (m : Mach) (i : Nat) : overM m (i + 1) = roundM (overM m i) := by
  unfold overM roundM
  rw [List.replicate_succ', List.flatten_append, sweepM_append, sweepM_progs]
  simp
theorem round_same {m : Mach} (h : ¬ m.steps < (roundM m).steps) : roundM m = m := by
  have := sweepM_mono (List.range m.progs.length) m
  exact sweepM_same (by unfold roundM at h; omega)

set_option maxHeartbeats 2000000 in
theorem ffin_any {w : World} {B : Nat} {S : Nat → Prop} {X : KB} {cells0 : List Int} {m : Mach} (h : Core w B S X m) (hB : B ≤ w.heap.size) (hb : MBig cells0 m) :
    Calls Tryz.prog 15 #[.pointer (some ⟨X.c, 0, none⟩)] w fun e w' => ∃ m', Fin m m' ∧ e = .returned (.int .i64 ((m'.steps : Int) - (m.steps : Int))) ∧ Moved w B S X m' w' ∧ MBig cells0 m' := by
  have HSt := Lib.hid (steps_any h)
  have H0 := Lib.hid (show Moved w B S X (overM m 0) w from Moved.of h (Keeps.refl _ _))
  have HBg := Lib.hid (fun i => hb.sweep (List.replicate i (List.range m.progs.length)).flatten)
  have HLe := Lib.hid hb.most
  clear h hb
  obtain ⟨st, hst⟩ : ∃ st, m.steps = st := ⟨_, rfl⟩
  rw [hst] at HSt HLe
  have HSm := Lib.hid hst
  rw [hst]
  clear hst
  go_enter Tryz.func15, Tryz.ntmps15
  go_wp2_with fail
  refine HSt.out.mono ?_
  rintro e w1 ⟨rfl, rfl⟩
  clear HSt
  go_wp2
  go_loopw [7] (fun j wr => ∃ i : Nat, Moved w B S X (overM m i) wr) (fun j wr => 20001 - stepsAt X.c wr)
  case atStart => exact ⟨0, H0.out⟩
  case round =>
    obtain ⟨i, hm⟩ := hrel
    have HM0 := Lib.hid hm
    obtain ⟨S', X', e1, e2, hC, hSi, hK⟩ := hm
    have HT := Lib.hid (fturn_any hC (by have := hK.size; omega) (HBg.out i))
    rw [e1] at HT
    have hsa := stepsAt_core hC
    rw [e1] at hsa
    have HSA := Lib.hid hsa
    have HMV := Lib.hid (⟨hC, hSi, hK, e1, e2⟩ : Core _ B S' X' _ ∧ Since S S' w ∧ Keeps S w _ ∧ X'.c = X.c ∧ X'.tv = X.tv)
    clear hC hSi hK e1 e2 hsa
    by_cases hlt : (overM m i).steps < (roundM (overM m i)).steps
    · rw [decide_eq_true hlt] at HT
      rw [← over_more] at HT hlt
      go_wp2_with fail
      refine HT.out.mono ?_
      rintro e w2 ⟨rfl, hm2⟩
      have hm3 := moved_on HMV.out hm2
      have H2 := Lib.hid hm3
      obtain ⟨S2, X2, f1, f2, hC2, _, _⟩ := hm3
      have hsb := stepsAt_core hC2
      rw [f1] at hsb
      have HSB := Lib.hid hsb
      have HL2 := Lib.hid (HBg.out (i + 1)).most
      clear hm2 HMV HT hC2 f1 f2 hsb
      go_wp2
      go_roundw
      case rel => exact ⟨i + 1, H2.out⟩
      case measure =>
        rw [HSA.out, HSB.out]
        have := HL2.out
        unfold overM at hlt ⊢
        omega
    · rw [decide_eq_false hlt] at HT
      have hsame := round_same hlt
      rw [hsame] at HT
      go_wp2_with fail
      refine HT.out.mono ?_
      rintro e w2 ⟨rfl, hm2⟩
      have hm3 := moved_on HMV.out hm2
      have H2 := Lib.hid hm3
      obtain ⟨S2, X2, f1, f2, hC2, _, _⟩ := hm3
      have HSt2 := Lib.hid (steps_any hC2)
      rw [f1] at HSt2
      have HL2 := Lib.hid (HBg.out i).most
      have HF := Lib.hid (show Fin m (overM m i) from ⟨i, rfl, hsame⟩)
      clear hm2 HMV HT hC2 f1 f2 hlt hsame
      have hl2 : (overM m i).steps ≤ 20000 := HL2.out
      have HB2 := Lib.hid (show MBig cells0 (overM m i) from HBg.out i)
      generalize overM m i = m2 at *
      have hw := wrap_place ((m2.steps : Int) - (st : Int)) (by have := HLe.out; omega)
      go_wp2_with fail
      refine HSt2.out.mono ?_
      rintro e w3 ⟨rfl, rfl⟩
      go_wp2
      go_ret
      refine ⟨m2, HF.out, ?_, H2.out, HB2.out⟩
      show Ending.returned (.int .i64 (wrap64 _)) = _
      rw [hw]
end Go.Proofs.YtgkfhihnfllmhaaGreatDoor

namespace Go.Proofs.YtgkfhihnfllmhaaGreatDoor
set_option maxRecDepth 100000
open Go.RowKit
set_option linter.unusedVariables false
set_option linter.unusedSimpArgs false

/-- What hear comes to. -/
def HeardR (n : Nat) (l : List Ev4) (w : World) (R : Option (Nat × Nat)) (e : Ending) (w' : World) : Prop := Below w.heap.size w w' ∧ match R with
  | none => ∃ g, e = .returned (.tuple #[.slice (some ⟨g, 0, none⟩) n n, .nilIface]) ∧ w.heap.size ≤ g ∧ RowI w' g (timesL n l)
  | some (c, i) => ∃ p, e = .returned (.tuple #[.slice none 0 0, .iface 138 (.pointer (some ⟨p, 0, none⟩))]) ∧ w.heap.size ≤ p ∧ w'.heap[p]? = some (.cells #[.int .i64 (c : Nat), .int .i64 (i : Nat)] 140 (0, 0))

def Heard (n : Nat) (l : List Ev4) (w : World) : Ending → World → Prop := HeardR n l w (judgeP n [] l)

set_option maxHeartbeats 4000000 in
theorem hear_any {w : World} (A : Option Addr) (cap n : Nat) (l : List Ev4) (hl : l.length ≤ 20000) (hE : EvRow w A l.length l) (n1 : 1 ≤ n) (hn : n ≤ 16) :
    Calls Tryz.prog 49 #[.slice A l.length cap, .int .i64 (n : Nat)] w (Heard n l w) := by
  obtain ⟨C, hC, hmk⟩ := make_ints n (by omega)
  have H0 : RowI (w.alloc (.cells C 3)) w.heap.size (timesL n (l.take 0)) := ⟨C, heap_alloc_new w _, by rw [List.take_zero, timesL_nil]; exact hC⟩
  have HH0 := Lib.hid H0
  have HB0 := Lib.hid ((Below.refl w.heap.size w).alloc (Nat.le_refl _) (.cells C 3))
  have hj0 : judgeP n [] l = judgeP n (l.take 0) (l.drop 0) := by simp
  have HJ0 := Lib.hid hj0
  have HE := Lib.hid hE
  have hn1 : ¬ (n : Int) < 1 := by omega
  have hn2 : ¬ (16 : Int) < (n : Int) := by omega
  have HEnd := Lib.hid (judge_end (n := n) l)
  have HTk := Lib.hid (List.take_length (l := l))
  have HStep := Lib.hid (fun i hi x hx => judge_step (n := n) i l hi x hx)
  have HLen := Lib.hid (fun i => show (l.take i).length ≤ 20000 by rw [List.length_take]; omega)
  have HMore := Lib.hid (fun i (hi : i < l.length) => (by
    have e : l.getD i default = l[i] := by rw [List.getD_eq_getElem?_getD, List.getElem?_eq_getElem hi]; rfl
    rw [e, List.take_append_getElem] : l.take (i + 1) = l.take i ++ [l.getD i default]))
  unfold Heard
  obtain ⟨R, hR⟩ : ∃ R, judgeP n [] l = R := ⟨_, rfl⟩
  rw [hR] at HJ0 ⊢
  obtain ⟨m, hm⟩ : ∃ m, l.length = m := ⟨_, rfl⟩
  rw [hm] at HE HEnd HTk HStep HMore hl ⊢
  clear hC H0 hj0 hE hR hm
  go_enter Tryz.func49, Tryz.ntmps49
  go_wp2
  clear hmk
  go_loopw [21] (fun j wr => ∃ i : Nat, i ≤ m ∧ j = .int .i64 i ∧ Hid (Below w.heap.size w wr ∧ RowI wr w.heap.size (timesL n (l.take i)) ∧ R = judgeP n (l.take i) (l.drop i))) (fun j _ => m - (intOf j).toNat)
  case atStart => exact ⟨0, Nat.zero_le _, rfl, ⟨HB0.out, HH0.out, HJ0.out⟩⟩
  case round =>
    obtain ⟨i, hi, rfl, hx⟩ := hrel
    by_cases hlt : i < m
    · have hkn : (i : Int) < (m : Int) := by omega
      have HX := Lib.hid hx.out
      clear hx
      obtain ⟨b, off, rfl, x1, x2, x3, x4⟩ := (HE.out.of HX.out.1) i hlt
      have HS := Lib.hid (HStep.out i hlt _ rfl)
      have HM := Lib.hid (HMore.out i hlt)
      generalize l.getD i default = x at *
      have HG := Lib.hid (World.grownBy_alloc wr (.cells #[.int .i64 x.1, .int .i64 x.2.1, .int .i64 x.2.2.1, .int .i64 x.2.2.2] 48) none)
      have HB1 := Lib.hid (HX.out.1.alloc HX.out.1.size (.cells #[.int .i64 x.1, .int .i64 x.2.1, .int .i64 x.2.2.1, .int .i64 x.2.2.2] 48))
      have hR1 : RowI (wr.alloc (.cells #[.int .i64 x.1, .int .i64 x.2.1, .int .i64 x.2.2.1, .int .i64 x.2.2.2] 48)) w.heap.size (timesL n (l.take i)) := by
        obtain ⟨C1, c1, c2⟩ := HX.out.2.1
        exact ⟨C1, (HG.out.block _ HX.out.2.1.lt (by simp)).trans c1, c2⟩
      have HR1 := Lib.hid hR1
      have HJ := Lib.hid (jjudge_any (some ⟨w.heap.size, 0, none⟩) n n (l.take i) (by have := HLen.out i; omega) (hR1.ints (timesL_len _ _)) n1 hn x)
      have hat := heap_alloc_new wr (.cells #[.int .i64 x.1, .int .i64 x.2.1, .int .i64 x.2.2.1, .int .i64 x.2.2.2] 48)
      have HAt := Lib.hid hat
      have hs1 : (wr.alloc (.cells #[.int .i64 x.1, .int .i64 x.2.1, .int .i64 x.2.2.1, .int .i64 x.2.2.2] 48)).heap.size = wr.heap.size + 1 := by simp
      have HS1 := Lib.hid hs1
      clear hat hs1 hR1
      go_wp2_with fail
      refine HJ.out.mono ?_
      rintro e w2 ⟨rfl, hg2⟩
      have HB2 := Lib.hid (HB1.out.grown hg2 HB1.out.size (by intro k hk; cases hk))
      have hR2 : RowI w2 w.heap.size (timesL n (l.take i)) := by
        obtain ⟨C1, c1, c2⟩ := HR1.out
        exact ⟨C1, (hg2.block _ HR1.out.lt (by simp)).trans c1, c2⟩
      have hthr : w2.cell? ⟨wr.heap.size, 2, none⟩ = some (.int .i64 x.2.2.1) := by
        have h1 := (World.cell?_of_block (a := ⟨wr.heap.size, 2, none⟩) (hg2.block wr.heap.size (by rw [HS1.out]; omega) (by simp)))
        exact h1.trans ((cell_of_row _ _ 2 _ _ _ HAt.out).trans rfl)
      have HR2 := Lib.hid hR2
      have HThr := Lib.hid hthr
      have HRq := Lib.hid HX.out.2.2
      clear hg2 HJ HB1 HR1 HAt HG HX hR2 hthr
      by_cases h0 : jErr n (l.take i) x = 0
      · obtain ⟨t, ht, het⟩ := jErr_zero_thread h0
        rw [h0]
        have hS := HS.out
        rw [if_pos h0] at hS
        have hcell := HR2.out.cell (i := t) (by rw [timesL_len]; exact ht)
        rw [timesL_at _ ht] at hcell
        obtain ⟨hc1, hc2⟩ := hcell
        have hcl := cntEv_len (l.take i) t
        have hcl2 := HLen.out i
        have hthr2 := HThr.out
        rw [het] at hthr2
        have hsn := timesL_snoc (n := n) (l.take i) x ht het
        rw [← HM.out] at hsn
        have HN := Lib.hid (HR2.out.set t ((cntEv (l.take i) t : Int) + 1))
        rw [← hsn] at HN
        have HNB := Lib.hid (below_setI (i := t) (v := .int .i64 ((cntEv (l.take i) t : Int) + 1)) HB2.out (Nat.le_refl _))
        have HRN := Lib.hid (HRq.out.trans (HS.out.trans (if_pos h0)))
        generalize cntEv (l.take i) t = k at *
        clear hS hsn HS HM HB2 HThr HRq h0
        go_wp2
        go_roundw
        case rel => exact ⟨i + 1, by omega, by go_num, ⟨HNB.out, HN.out, HRN.out⟩⟩
        case measure => simp [intOf]; omega
      · have HRN := Lib.hid (HRq.out.trans (HS.out.trans (if_neg h0)))
        have hne : (((jErr n (l.take i) x : Nat) : Int) != 0) = true := by
          have : ((jErr n (l.take i) x : Nat) : Int) ≠ 0 := by omega
          simpa using this
        have hat2 := heap_alloc_new w2 (.cells #[.int .i64 (jErr n (l.take i) x : Nat), .int .i64 (i : Nat)] 140)
        have HAt2 := Lib.hid hat2
        have HB3 := Lib.hid (HB2.out.alloc HB2.out.size (.cells #[.int .i64 (jErr n (l.take i) x : Nat), .int .i64 (i : Nat)] 140))
        have HLo := Lib.hid HB2.out.size
        clear HS HM HB2 HThr HRq h0 hat2 HR2
        generalize jErr n (l.take i) x = ec at *
        go_wp2
        go_ret2
        rw [HRN.out]
        exact ⟨HB3.out, _, rfl, HLo.out, HAt2.out⟩
    · have hkn : ¬ (i : Int) < (m : Int) := by omega
      obtain rfl : i = m := by omega
      have hx := hx.out
      rw [HEnd.out, HTk.out] at hx
      obtain ⟨y1, y2, y3⟩ := hx
      have HY := Lib.hid (And.intro y1 y2)
      have HR3 := Lib.hid y3
      clear y1 y2 y3
      go_wp2
      go_ret2
      rw [HR3.out]
      exact ⟨HY.out.1, _, rfl, Nat.le_refl _, HY.out.2⟩

/-- What Check and Rounds hand back of what hear heard. -/
theorem hear_parts {n : Nat} {l : List Ev4} {w : World} {e : Ending} {w' : World} (h : Heard n l w e w') : Below w.heap.size w w' ∧ ((judgeP n [] l = none ∧ ∃ g, e = .returned (.tuple #[.slice (some ⟨g, 0, none⟩) n n, .nilIface]) ∧ w.heap.size ≤ g ∧ RowI w' g (timesL n l)) ∨
    ∃ c i p, judgeP n [] l = some (c, i) ∧ e = .returned (.tuple #[.slice none 0 0, .iface 138 (.pointer (some ⟨p, 0, none⟩))]) ∧ w.heap.size ≤ p ∧ w'.heap[p]? = some (.cells #[.int .i64 (c : Nat), .int .i64 (i : Nat)] 140 (0, 0))) := by
  unfold Heard HeardR at h
  obtain ⟨h1, h2⟩ := h
  refine ⟨h1, ?_⟩
  cases hj : judgeP n [] l with
  | none =>
    rw [hj] at h2
    obtain ⟨g, e1, e2, e3⟩ := h2
    exact .inl ⟨rfl, g, e1, e2, e3⟩
  | some q =>
    obtain ⟨c, i⟩ := q
    rw [hj] at h2
    obtain ⟨p, e1, e2, e3⟩ := h2
    exact .inr ⟨c, i, p, rfl, e1, e2, e3⟩
end Go.Proofs.YtgkfhihnfllmhaaGreatDoor

namespace Go.Proofs.YtgkfhihnfllmhaaGreatDoor
set_option maxRecDepth 100000
open Go.RowKit Go.Extern.Stop Go.Stop Go.Extern
set_option linter.unusedVariables false
set_option linter.unusedSimpArgs false

theorem r_typeOfA (v : Value) (w : World) : (ReflectliteType.typeOf #[.iface 138 v]).run Tryz.prog w = .ok (.iface 246 (.agg #[.pointer (some ⟨11, 138, none⟩)])) w := by kernel_rfl
theorem r_assignableA (w : World) : (ReflectliteType.relation "AssignableTo" ReflectliteType.assignableTo #[.agg #[.pointer (some ⟨11, 138, none⟩)], .iface 246 (.agg #[.pointer (some ⟨11, 101, none⟩)])]).run Tryz.prog w = .ok (.bool false) w := by kernel_rfl
theorem r_noAsA (v : Value) (xT : TypeId) (w : World) : (Instr.typeAssert (.iface 138 v) xT 251 true).run Tryz.prog w = .ok (.tuple #[.nilIface, .bool false]) w := run_typeAssert_lacksB Tryz.underlying251 (by kernel_rfl) (by kernel_rfl) v xT w
theorem r_unwA (v : Value) (xT : TypeId) (w : World) : (Instr.typeAssert (.iface 138 v) xT 254 true).run Tryz.prog w = .ok (.tuple #[.iface 138 v, .bool true]) w := by kernel_rfl
theorem r_methodUnw (v : Value) (w : World) : (Go.method 464 138 v "Unwrap").run Tryz.prog w = .ok (278, v) w := by kernel_rfl

set_option maxHeartbeats 4000000 in
theorem as_hitA (k : Int) (p : Nat) (t : Addr) (old : Value) (w : World) (hg0 : ErrVar w) (ht0 : w.cell? t = some old) (hf0 : w.frozen? t = false) (hp : w.cell? ⟨p, 0, none⟩ = some (.int .i64 k)) :
    Calls Tryz.prog 83 #[.iface 138 (.pointer (some ⟨p, 0, none⟩)), .iface 165 (.pointer (some t))] w fun ev w' => ev = .returned (.bool true) ∧ w' = asWorld k t w := by
  have hg : w.cell? ⟨1, 0, none⟩ = some (.iface 246 (.agg #[.pointer (some ⟨11, 29, none⟩)])) := hg0
  have h6 := @run_callFunc_extern Tryz.prog 116 _ (fun args => ReflectliteValue.unpack (args.getD 0 (.tuple #[]))) Tryz.func116 (by kernel_rfl) (by kernel_rfl) (by kernel_rfl) (by kernel_rfl)
  have h7 := @run_callFunc_extern Tryz.prog 117 _ (ReflectliteValue.methodAny (ReflectliteValue.valueError "reflectlite.Value.Type" 0) (fun t _ _ _ => ReflectliteType.toType t)) Tryz.func117 (by kernel_rfl) (by kernel_rfl) (by kernel_rfl) (by kernel_rfl)
  have h8 := @run_callFunc_extern Tryz.prog 118 _ (ReflectliteValue.method (ReflectliteValue.valueError "reflectlite.Value.IsNil" 0) ReflectliteValue.isNil) Tryz.func118 (by kernel_rfl) (by kernel_rfl) (by kernel_rfl) (by kernel_rfl)
  have h27 := @run_callFunc_extern Tryz.prog 272 _ (ReflectliteType.abiMethod fun t => do pure (.int .u8 (← Rtype.kind t))) Tryz.func272 (by kernel_rfl) (by kernel_rfl) (by kernel_rfl) (by kernel_rfl)
  have h37 := @run_callFunc_extern Tryz.prog 285 _ (ReflectliteType.method ReflectliteType.elem) Tryz.func285 (by kernel_rfl) (by kernel_rfl) (by kernel_rfl) (by kernel_rfl)
  have h38 := @run_callFunc_extern Tryz.prog 286 _ (ReflectliteType.relation "Implements" ReflectliteType.implements_) Tryz.func286 (by kernel_rfl) (by kernel_rfl) (by kernel_rfl) (by kernel_rfl)
  have h10 := @run_callFunc_extern Tryz.prog 154 _ ReflectliteType.typeOf Tryz.func154 (by kernel_rfl) (by kernel_rfl) (by kernel_rfl) (by kernel_rfl)
  have h35 := @run_callFunc_extern Tryz.prog 283 _ (ReflectliteType.relation "AssignableTo" ReflectliteType.assignableTo) Tryz.func283 (by kernel_rfl) (by kernel_rfl) (by kernel_rfl) (by kernel_rfl)
  have h11 := @run_callFunc_extern Tryz.prog 155 _ (ReflectliteValue.method (ReflectliteValue.valueError "reflectlite.Value.Elem" 0) ReflectliteValue.elem) Tryz.func155 (by kernel_rfl) (by kernel_rfl) (by kernel_rfl) (by kernel_rfl)
  have h12 := @run_callFunc_extern Tryz.prog 156 _ ReflectliteValue.set Tryz.func156 (by kernel_rfl) (by kernel_rfl) (by kernel_rfl) (by kernel_rfl)
  have tO := r_typeOfE
  have tA := r_typeOfA
  have aA := r_assignableA
  have noAs := r_noAsA
  have yesU := r_unwA
  have mU := r_methodUnw
  have mA := r_methodAssignableTo
  have a25 := r_assignableE
  have v25 := r_valueOfE
  have f6 := r_valueOfP
  have f7 := r_typeP
  have mK := r_methodKind
  have mE := r_methodElem
  have mI := r_methodImplements
  have k27 := r_kindP
  have k25 := r_kindE
  have e27 := r_elemP
  have i25 := r_implementsE
  have n8 := r_isNilP ⟨w.heap.size, 0, none⟩ t ((w.alloc (.cells #[.pointer (some t)] 165)).alloc (.cells #[.pointer (some ⟨11, 165, none⟩), .pointer (some ⟨w.heap.size, 0, none⟩), .int .u64 150] 200)) (by simp)
  have hlt : 1 < w.heap.size := World.block_lt_of_cell? w _ hg
  have hg2 : ((w.alloc (.cells #[.pointer (some t)] 165)).alloc (.cells #[.pointer (some ⟨11, 165, none⟩), .pointer (some ⟨w.heap.size, 0, none⟩), .int .u64 150] 200)).cell? ⟨1, 0, none⟩ = some (.iface 246 (.agg #[.pointer (some ⟨11, 29, none⟩)])) := by
    rw [World.cell?_alloc_lt _ _ ⟨1, 0, none⟩ (by simp <;> omega), World.cell?_alloc_lt _ _ ⟨1, 0, none⟩ hlt]; exact hg
  have htl : t.block < w.heap.size := by
    rcases Nat.lt_or_ge t.block w.heap.size with h | h
    · exact h
    · simp [World.cell?, Array.getElem?_eq_none h] at ht0
  have el := r_elemVP ⟨w.heap.size, 0, none⟩ t (((w.alloc (.cells #[.pointer (some t)] 165)).alloc (.cells #[.pointer (some ⟨11, 165, none⟩), .pointer (some ⟨w.heap.size, 0, none⟩), .int .u64 150] 200)).alloc (.cells #[.pointer (some ⟨11, 165, none⟩), .pointer (some ⟨w.heap.size, 0, none⟩), .int .u64 150] 200)) (by rw [World.cell?_alloc_lt _ _ ⟨w.heap.size, 0, none⟩ (by simp; omega)]; simp)
  have st := r_setE t ⟨w.heap.size + 1 + 1 + 1, 0, none⟩ k old ((((w.alloc (.cells #[.pointer (some t)] 165)).alloc (.cells #[.pointer (some ⟨11, 165, none⟩), .pointer (some ⟨w.heap.size, 0, none⟩), .int .u64 150] 200)).alloc (.cells #[.pointer (some ⟨11, 165, none⟩), .pointer (some ⟨w.heap.size, 0, none⟩), .int .u64 150] 200)).alloc (.cells #[.int .i64 k] 101))
    (by rw [World.cell?_alloc_at _ _ _ _ (by simp)]; rfl)
    (by rw [World.cell?_alloc_lt _ _ t (by simp; omega), World.cell?_alloc_lt _ _ t (by simp; omega), World.cell?_alloc_lt _ _ t (by simp; omega), World.cell?_alloc_lt _ _ t htl]; exact ht0)
    (by rw [World.frozen?_alloc_old _ _ t (by simp; omega), World.frozen?_alloc_old _ _ t (by simp; omega), World.frozen?_alloc_old _ _ t (by simp; omega), World.frozen?_alloc_old _ _ t (Nat.ne_of_lt htl)]; exact hf0)
  have hp2 : ((w.alloc (.cells #[.pointer (some t)] 165)).alloc (.cells #[.pointer (some ⟨11, 165, none⟩), .pointer (some ⟨w.heap.size, 0, none⟩), .int .u64 150] 200)).cell? ⟨p, 0, none⟩ = some (.int .i64 k) := Lib.cell?_alloc_some _ (Lib.cell?_alloc_some _ hp)
  have hp3 := Lib.cell?_alloc_some (.cells #[.pointer (some ⟨11, 165, none⟩), .pointer (some ⟨w.heap.size, 0, none⟩), .int .u64 150] 200) hp2
  clear hg0
  go_enter Tryz.func83, Tryz.ntmps83
  go_wp2
  refine wp_loop_rounds 2 ?_
  rw [rounds_succ]
  go_wp2
  --MARKX
  rw [rounds_succ]
  go_wp2
  go_ret
  exact ⟨rfl, rfl⟩
theorem as_at (k : Int) (p : Nat) (t : Addr) (old : Value) (w : World) (hg0 : ErrVar w) (ht0 : w.cell? t = some old) (hf0 : w.frozen? t = false) (hp : w.cell? ⟨p, 0, none⟩ = some (.int .i64 k)) :
    Calls Tryz.prog 83 #[.iface 138 (.pointer (some ⟨p, 0, none⟩)), .iface 165 (.pointer (some t))] w fun ev w' => ev = .returned (.bool true) ∧ w'.cell? t = some (.int .i64 k) ∧ w.grownBy w' (some t.block) := by
  refine (as_hitA k p t old w hg0 ht0 hf0 hp).mono ?_
  rintro e w' ⟨rfl, rfl⟩
  refine ⟨rfl, ?_, ?_⟩
  · unfold asWorld
    exact World.cell?_setCell_same _ _ _ (u := old) (Lib.cell?_alloc_some _ (Lib.cell?_alloc_some _ (Lib.cell?_alloc_some _ (Lib.cell?_alloc_some _ ht0))))
  · unfold asWorld
    refine (((((World.grownBy_alloc w _ _).andThen (World.grownBy_alloc _ _ _) (fun j hj => .inr hj)).andThen (World.grownBy_alloc _ _ _) (fun j hj => .inr hj)).andThen (World.grownBy_alloc _ _ _) (fun j hj => .inr hj))).andThen ⟨rfl, rfl, rfl, by simp, fun j _ hj => heap_setCell_other _ t j _ (fun e => hj (by rw [e]))⟩ (fun j hj => .inr hj)
theorem tell_at (k : Int) (p : Nat) (w : World) (hg0 : ErrVar w) (hp : w.cell? ⟨p, 0, none⟩ = some (.int .i64 k)) : Calls Tryz.prog 43 #[.iface 138 (.pointer (some ⟨p, 0, none⟩))] w fun e w' => e = .returned (.int .i64 k) ∧ w.grownBy w' none := by
  have hlt := errVar_lt hg0
  have hb := (Below.refl w.heap.size w).alloc (Nat.le_refl _) (.cells #[.int .i64 0] 101)
  have ha := as_at k p ⟨w.heap.size, 0, none⟩ (.int .i64 0) (w.alloc (.cells #[.int .i64 0] 101)) (errVar_below hg0 hb hlt) (by simp) (by simp) (Lib.cell?_alloc_some _ hp)
  have HA := Lib.hid ha
  clear hg0 ha hb hp
  go_enter Tryz.func43, Tryz.ntmps43
  go_wp2_with fail
  refine HA.out.mono ?_
  rintro e w' ⟨rfl, hc, hg⟩
  have hg2 := (World.grownBy_alloc w (.cells #[.int .i64 0] 101) none).andThen hg (by intro j hj; injection hj with hj; left; omega)
  have HG := Lib.hid hg2
  clear hg hg2 HA
  go_wp2
  go_ret
  exact ⟨rfl, HG.out⟩
end Go.Proofs.YtgkfhihnfllmhaaGreatDoor

namespace Go.Proofs.YtgkfhihnfllmhaaGreatDoor
set_option maxRecDepth 100000
open Go.RowKit
set_option linter.unusedVariables false
set_option linter.unusedSimpArgs false

/-- An error with a place, in a block of its own. -/
def AtErr (w w' : World) (c i : Nat) (v : Value) : Prop := ∃ p, v = .iface 138 (.pointer (some ⟨p, 0, none⟩)) ∧ w.heap.size ≤ p ∧ w'.heap[p]? = some (.cells #[.int .i64 (c : Nat), .int .i64 (i : Nat)] 140 (0, 0))
theorem AtErr.cell {w' u : World} {c i : Nat} {p : Nat} (h : w'.heap[p]? = some (.cells #[.int .i64 (c : Nat), .int .i64 (i : Nat)] 140 (0, 0))) (hg : w'.grownBy u none) : u.cell? ⟨p, 0, none⟩ = some (.int .i64 (c : Nat)) :=
  (cell_of_row u p 0 _ _ _ ((hg.block p (Array.getElem?_eq_some_iff.1 h).1 (by simp)).trans h)).trans rfl

set_option maxHeartbeats 1000000 in
theorem jcheck_any {w : World} (A : Option Addr) (cap n : Nat) (l : List Ev4) (hl : l.length ≤ 20000) (hE : EvRow w A l.length l) (n1 : 1 ≤ n) (hn : n ≤ 16) :
    Calls Tryz.prog 44 #[.slice A l.length cap, .int .i64 (n : Nat)] w fun e w' => Below w.heap.size w w' ∧ ((judgeP n [] l = none ∧ e = .returned .nilIface) ∨ ∃ c i v, judgeP n [] l = some (c, i) ∧ e = .returned v ∧ AtErr w w' c i v) := by
  have H := Lib.hid (hear_any A cap n l hl hE n1 hn)
  clear hE
  generalize l.length = m at *
  go_enter Tryz.func44, Tryz.ntmps44
  go_wp2_with fail
  refine H.out.mono ?_
  intro e w' h
  obtain ⟨hb, ⟨hj, g, rfl, _, _⟩ | ⟨c, i, p, hj, rfl, h1, h2⟩⟩ := hear_parts h
  · have HJ := Lib.hid (And.intro hb hj)
    clear h hb hj H
    go_wp2
    go_ret
    exact ⟨HJ.out.1, .inl ⟨HJ.out.2, rfl⟩⟩
  · have HJ := Lib.hid (And.intro hb (And.intro hj (And.intro h1 h2)))
    clear h hb hj H h1 h2
    go_wp2
    go_ret
    exact ⟨HJ.out.1, .inr ⟨c, i, _, HJ.out.2.1, rfl, p, rfl, HJ.out.2.2⟩⟩

set_option maxHeartbeats 1000000 in
theorem jrounds_any {w : World} (A : Option Addr) (cap n : Nat) (l : List Ev4) (hl : l.length ≤ 20000) (hE : EvRow w A l.length l) (n1 : 1 ≤ n) (hn : n ≤ 16) :
    Calls Tryz.prog 13 #[.slice A l.length cap, .int .i64 (n : Nat)] w fun e w' => Below w.heap.size w w' ∧ ((judgeP n [] l = none ∧ e = .returned (.tuple #[.int .i64 (jAll n l : Nat), .int .i64 (jAny n l : Nat), .nilIface])) ∨
      ∃ c i v, judgeP n [] l = some (c, i) ∧ e = .returned (.tuple #[.int .i64 0, .int .i64 0, v]) ∧ AtErr w w' c i v) := by
  have H := Lib.hid (hear_any A cap n l hl hE n1 hn)
  have HMin := Lib.hid (fun w' g (h : RowI w' g (timesL n l)) => minI_any (some ⟨g, 0, none⟩) n n (cntEv l) (timesL n l) (h.ints (timesL_len _ _)) (fun t ht => timesL_at l ht) n1 (by omega))
  have HMax := Lib.hid (fun w' g (h : RowI w' g (timesL n l)) => maxI_any (some ⟨g, 0, none⟩) n n (cntEv l) (timesL n l) (h.ints (timesL_len _ _)) (fun t ht => timesL_at l ht) n1 (by omega))
  have hmn := minN_len (n := n) n1 l
  have hmx := maxN_len n l
  rw [jAll_min n1, jAny_max]
  have HG := Lib.hid (fun w => jgone_any (minN (cntEv l) n) (by omega) w)
  have HC := Lib.hid (fun w => jcame_any (maxN (cntEv l) n) (by omega) w)
  generalize minN (cntEv l) n = a at *
  generalize maxN (cntEv l) n = b at *
  clear hE hmn hmx
  generalize l.length = m at *
  go_enter Tryz.func13, Tryz.ntmps13
  go_wp2_with fail
  refine H.out.mono ?_
  intro e w' h
  obtain ⟨hb, ⟨hj, g, rfl, h1, h2⟩ | ⟨c, i, p, hj, rfl, h1, h2⟩⟩ := hear_parts h
  · have HJ := Lib.hid (And.intro hb hj)
    have HR := Lib.hid h2
    clear h hb hj H h1 h2
    go_wp2_with fail
    refine (HMin.out _ _ HR.out).mono ?_
    rintro e w2 ⟨rfl, rfl⟩
    go_wp2_with fail
    refine (HG.out _).mono ?_
    rintro e w2 ⟨rfl, rfl⟩
    go_wp2_with fail
    refine (HMax.out _ _ HR.out).mono ?_
    rintro e w2 ⟨rfl, rfl⟩
    go_wp2_with fail
    refine (HC.out _).mono ?_
    rintro e w2 ⟨rfl, rfl⟩
    go_wp2
    go_ret3
    exact ⟨HJ.out.1, .inl ⟨HJ.out.2, rfl⟩⟩
  · have HJ := Lib.hid (And.intro hb (And.intro hj (And.intro h1 h2)))
    clear h hb hj H h1 h2 HMin HMax HG HC
    go_wp2
    go_ret3
    exact ⟨HJ.out.1, .inr ⟨c, i, _, HJ.out.2.1, rfl, p, rfl, HJ.out.2.2⟩⟩

theorem EvRow.grow {w w' : World} {A : Option Addr} {n : Nat} {l : List Ev4} (h : EvRow w A n l) (hg : w.grownBy w' none) : EvRow w' A n l := h.of ⟨hg.os, hg.tape, hg.output, hg.size, fun k hk => hg.block k hk (by simp)⟩
theorem grown_belJ {w w' : World} (h : Below w.heap.size w w') : w.grownBy w' none := ⟨h.os, h.tape, h.output, h.size, fun k hk _ => h.block k hk⟩
theorem grown_dJ {w w' : World} (h : w.grownBy w' none) : w.grownBy w'.drew none := h.andThen (grown_drewJ w' 1) (fun j hj => by cases hj)
theorem grown_aJ {w w' : World} (h : w.grownBy w' none) (o : Obj) : w.grownBy (w'.alloc o) none := h.andThen (World.grownBy_alloc w' o none) (fun j hj => by cases hj)
def ev3C : Array Value := #[.int .i64 0, .int .i64 1, .int .i64 0, .int .i64 1, .int .i64 0, .int .i64 1, .int .i64 1, .int .i64 1, .int .i64 0, .int .i64 2, .int .i64 0, .int .i64 1]
def ev2C : Array Value := #[.int .i64 0, .int .i64 1, .int .i64 0, .int .i64 1, .int .i64 0, .int .i64 2, .int .i64 0, .int .i64 1]
theorem ev3_row {w : World} {b : Nat} (h : w.heap[b]? = some (.cells ev3C 48)) : EvRow w (some ⟨b, 0, none⟩) 3 [(0, 1, 0, 1), (0, 1, 1, 1), (0, 2, 0, 1)] := fun i hi => by
  have k : ∀ j, w.cell? ⟨b, j, none⟩ = ev3C[j]? := fun j => cell_of_row w b j _ _ _ h
  match i, hi with
  | 0, _ => exact ⟨b, 0, rfl, (k _).trans rfl, (k _).trans rfl, (k _).trans rfl, (k _).trans rfl⟩
  | 1, _ => exact ⟨b, 0, rfl, (k _).trans rfl, (k _).trans rfl, (k _).trans rfl, (k _).trans rfl⟩
  | 2, _ => exact ⟨b, 0, rfl, (k _).trans rfl, (k _).trans rfl, (k _).trans rfl, (k _).trans rfl⟩
theorem ev2_row {w : World} {b : Nat} (h : w.heap[b]? = some (.cells ev2C 48)) : EvRow w (some ⟨b, 0, none⟩) 2 [(0, 1, 0, 1), (0, 2, 0, 1)] := fun i hi => by
  have k : ∀ j, w.cell? ⟨b, j, none⟩ = ev2C[j]? := fun j => cell_of_row w b j _ _ _ h
  match i, hi with
  | 0, _ => exact ⟨b, 0, rfl, (k _).trans rfl, (k _).trans rfl, (k _).trans rfl, (k _).trans rfl⟩
  | 1, _ => exact ⟨b, 0, rfl, (k _).trans rfl, (k _).trans rfl, (k _).trans rfl, (k _).trans rfl⟩
theorem ev3_row2 {w : World} {b : Nat} (h : w.heap[b]? = some (.cells ev3C 48)) : EvRow w (some ⟨b, 0, none⟩) 2 [(0, 1, 0, 1), (0, 1, 1, 1)] := fun i hi => by
  have k : ∀ j, w.cell? ⟨b, j, none⟩ = ev3C[j]? := fun j => cell_of_row w b j _ _ _ h
  match i, hi with
  | 0, _ => exact ⟨b, 0, rfl, (k _).trans rfl, (k _).trans rfl, (k _).trans rfl, (k _).trans rfl⟩
  | 1, _ => exact ⟨b, 0, rfl, (k _).trans rfl, (k _).trans rfl, (k _).trans rfl, (k _).trans rfl⟩
theorem ev3_cells {W u : World} {b : Nat} (h : W.heap[b]? = some (.cells ev3C 48)) (hg : W.grownBy u none) : u.cell? ⟨b, 0, none⟩ = some (.int .i64 0) ∧ u.cell? ⟨b, 1, none⟩ = some (.int .i64 1) ∧ u.cell? ⟨b, 2, none⟩ = some (.int .i64 0) ∧ u.cell? ⟨b, 3, none⟩ = some (.int .i64 1) ∧
    u.cell? ⟨b, 8, none⟩ = some (.int .i64 0) ∧ u.cell? ⟨b, 9, none⟩ = some (.int .i64 2) ∧ u.cell? ⟨b, 10, none⟩ = some (.int .i64 0) ∧ u.cell? ⟨b, 11, none⟩ = some (.int .i64 1) := by
  have h2 := (hg.block b (Array.getElem?_eq_some_iff.1 h).1 (by simp)).trans h
  have k : ∀ j, u.cell? ⟨b, j, none⟩ = ev3C[j]? := fun j => cell_of_row u b j _ _ _ h2
  exact ⟨(k _).trans rfl, (k _).trans rfl, (k _).trans rfl, (k _).trans rfl, (k _).trans rfl, (k _).trans rfl, (k _).trans rfl, (k _).trans rfl⟩
theorem judged_all : jAll 2 [(0, 1, 0, 1), (0, 1, 1, 1), (0, 2, 0, 1)] = 0 ∧ jAny 2 [(0, 1, 0, 1), (0, 1, 1, 1), (0, 2, 0, 1)] = 1 := by decide

set_option maxHeartbeats 4000000 in
theorem judged_any {w : World} (hg : ErrVar w) : Calls Tryz.prog 10 #[] w fun e w' => e = .returned (.bool true) ∧ Below w.heap.size w w' := by
  have HB0 := Lib.hid ((Below.refl w.heap.size w).alloc (Nat.le_refl _) (.cells ev3C 48))
  have HA0 := Lib.hid (heap_alloc_new w (.cells ev3C 48))
  obtain ⟨W, hW⟩ : ∃ W, w.alloc (.cells ev3C 48) = W := ⟨_, rfl⟩
  rw [hW] at HB0 HA0
  have HW := Lib.hid hW
  have hlt := errVar_lt hg
  have HV := Lib.hid (errVar_below hg HB0.out hlt)
  clear hg hW hlt
  unfold ev3C at HW
  go_enter Tryz.func10, Tryz.ntmps10
  go_wp2_with fail
  rw [HW.out]
  refine (jrounds_any (some ⟨w.heap.size, 0, none⟩) 3 2 [(0, 1, 0, 1), (0, 1, 1, 1), (0, 2, 0, 1)] (by decide) (ev3_row HA0.out) (by decide) (by decide)).mono ?_
  rintro e u ⟨hb, ⟨-, rfl⟩ | ⟨c, i, v, hj, _, _⟩⟩
  case inr => rw [judged_1] at hj; cases hj
  rw [judged_all.1, judged_all.2]
  have hgu := grown_belJ hb
  have HU := Lib.hid (HB0.out.trans (hb.mono HB0.out.size))
  have HVu := Lib.hid (errVar_below HV.out (hb.mono (Nat.le_refl _)) (errVar_lt HV.out))
  have HA := Lib.hid ((hgu.block w.heap.size (Array.getElem?_eq_some_iff.1 HA0.out).1 (by simp)).trans HA0.out)
  have HS := Lib.hid (fun x (hx : u.grownBy x none) => ev3_cells HA.out hx)
  have HK1 := Lib.hid (fun x (hx : u.grownBy x none) => (jcheck_any (w := x) (some ⟨w.heap.size, 0, none⟩) 3 3 [(0, 1, 0, 1), (0, 1, 1, 1)] (by decide) ((ev3_row2 HA.out).grow hx) (by decide) (by decide)).mono (R' := fun e w' => e = .returned .nilIface ∧ u.grownBy w' none) (by
    rintro e x1 ⟨hb1, ⟨_, rfl⟩ | ⟨c, i, v, hj, _, _⟩⟩
    · exact ⟨rfl, hx.andThen (grown_belJ hb1) (by intro k hk; cases hk)⟩
    · rw [judged_2] at hj
      cases hj))
  have HE := Lib.hid (fun x (hx : u.grownBy x none) => (show ErrVar x from (World.cell?_of_block (a := ⟨1, 0, none⟩) (hx.block _ (errVar_lt HVu.out) (by simp))).trans HVu.out))
  have HK2 := Lib.hid (fun x (hx : u.grownBy x none) (b : Nat) (hb : x.heap[b]? = some (.cells ev2C 48)) => (jcheck_any (w := x) (some ⟨b, 0, none⟩) 2 2 [(0, 1, 0, 1), (0, 2, 0, 1)] (by decide) (ev2_row hb) (by decide) (by decide)).mono (R' := fun e w' => ∃ p, e = .returned (.iface 138 (.pointer (some ⟨p, 0, none⟩))) ∧ w'.heap[p]? = some (.cells #[.int .i64 (13 : Nat), .int .i64 (1 : Nat)] 140 (0, 0)) ∧ u.grownBy w' none) (by
    rintro e x2 ⟨hb2, ⟨hj, rfl⟩ | ⟨c, i, v, hj, rfl, p, rfl, hp1, hp2⟩⟩
    · rw [judged_3] at hj
      cases hj
    · rw [judged_3] at hj
      injection hj with hj
      injection hj with h1 h2
      subst h1 h2
      exact ⟨p, rfl, hp2, hx.andThen (grown_belJ hb2) (by intro k hk; cases hk)⟩))
  have HT := Lib.hid (fun x (p : Nat) (hx : u.grownBy x none) (hp : x.heap[p]? = some (.cells #[.int .i64 (13 : Nat), .int .i64 (1 : Nat)] 140 (0, 0))) => (tell_at ((13 : Nat) : Int) p x (HE.out x hx) (AtErr.cell hp (World.grownBy.refl _ none))).mono (R' := fun e w' => e = .returned (.int .i64 13) ∧ u.grownBy w' none) (by
    rintro e x4 ⟨rfl, h4⟩
    exact ⟨rfl, hx.andThen h4 (by intro k hk; cases hk)⟩))
  clear hb hgu HV HA0 HB0 HW
  go_wp2_with fail
  go_region_held3 (fun x => x.cell? ⟨w.heap.size, 0, none⟩ = some (.int .i64 0) ∧ x.cell? ⟨w.heap.size, 1, none⟩ = some (.int .i64 1) ∧ x.cell? ⟨w.heap.size, 2, none⟩ = some (.int .i64 0) ∧ x.cell? ⟨w.heap.size, 3, none⟩ = some (.int .i64 1) ∧ x.cell? ⟨w.heap.size, 8, none⟩ = some (.int .i64 0) ∧ x.cell? ⟨w.heap.size, 9, none⟩ = some (.int .i64 2) ∧ x.cell? ⟨w.heap.size, 10, none⟩ = some (.int .i64 0) ∧ x.cell? ⟨w.heap.size, 11, none⟩ = some (.int .i64 1)) (first | exact HS.out _ (by repeat (first | assumption | exact World.grownBy.refl _ none | refine grown_dJ ?_ | refine grown_aJ ?_ _))) (first
    | (go_at_call 44; (have hseen := hg1); clear hseen; refine (HK2.out _ (by repeat (first | assumption | exact World.grownBy.refl _ none | refine grown_dJ ?_ | refine grown_aJ ?_ _)) _ (heap_alloc_new _ _)).mono ?_; rintro e x2 ⟨p, rfl, hp2, hg2⟩)
    | (go_at_call 44; refine (HK1.out _ (by repeat (first | assumption | exact World.grownBy.refl _ none | refine grown_dJ ?_ | refine grown_aJ ?_ _))).mono ?_; rintro e x1 ⟨rfl, hg1⟩)
    | (go_at_call 43; (have hseen := hg2); clear hseen; refine (HT.out _ _ (by repeat (first | assumption | exact World.grownBy.refl _ none | refine grown_dJ ?_ | refine grown_aJ ?_ _)) hp2).mono ?_; rintro e x4 ⟨rfl, hg4⟩)
    | (go_at_call 43; refine (tell_nil _).mono ?_; rintro e x3 ⟨rfl, rfl⟩))
  all_goals
    have HF := Lib.hid (HU.out.grown hg4 HU.out.size (by intro k hk; cases hk))
    clear HK1 HK2 HE HT HS HA HVu hg4 hg2 hg1
    go_wp2
    go_ret
    exact ⟨rfl, by first | exact HF.out | exact HF.out.grown (grown_drewJ _ 1) HF.out.size (by intro k hk; cases hk)⟩
end Go.Proofs.YtgkfhihnfllmhaaGreatDoor

namespace Go.Proofs.YtgkfhihnfllmhaaGreatDoor
set_option maxRecDepth 100000
open Go.RowKit Go.Shelf Go.Sort
set_option linter.unusedVariables false
set_option linter.unusedSimpArgs false

theorem infoSIns : (Tryz.prog.info? 89).map (fun i => (i.zero, i.size, i.bytes)) = some (some (.slice none 0 0), 1, 24) := by kernel_rfl
theorem infoU64D : (Tryz.prog.info? 43).map (fun i => (i.zero, i.size, i.bytes)) = some (some (.int .u64 0), 1, 8) := by kernel_rfl
/-- Programs that are laid, so far. -/
structure DProgs (w : World) (g n : Nat) (ps : List (List In5)) (k : Nat) (wr : World) : Prop where
  bel : Below w.heap.size w wr
  row : ∃ xs : List Value, wr.ownsRow w.heap.size 89 1 (.slice (some ⟨g, 0, none⟩) n n) n xs ∧ ∀ j, j < k → ∃ A c, xs[j]? = some (.slice A (ps.getD j []).length c) ∧ wr.ownsRow w.heap.size 95 5 (.slice A (ps.getD j []).length c) (ps.getD j []).length (cells5 (ps.getD j []))
theorem DProgs.grow {w wr w' : World} {g n k : Nat} {ps : List (List In5)} (h : DProgs w g n ps k wr) (hb : Below wr.heap.size wr w') : DProgs w g n ps k w' := by
  have hk := keeps_below hb (Nat.le_refl _)
  obtain ⟨xs, h1, h2⟩ := h.row
  refine ⟨h.bel.trans (hb.mono h.bel.size), xs, own_tags h1 hk .none (by simp), fun j hj => ?_⟩
  obtain ⟨A, c, h3, h4⟩ := h2 j hj
  exact ⟨A, c, h3, own_tags h4 hk .none (by simp)⟩
theorem DProgs.put {w wr : World} {g n k base c : Nat} {A : Option Addr} {ps : List (List In5)} (h : DProgs w g n ps k wr) (hk : k < n) (hb : w.heap.size ≤ base)
    (ho : wr.ownsRow base 95 5 (.slice A (ps.getD k []).length c) (ps.getD k []).length (cells5 (ps.getD k []))) : DProgs w g n ps (k + 1) (wr.setCell ⟨g, k, none⟩ (.slice A (ps.getD k []).length c)) := by
  obtain ⟨xs, h1, h2⟩ := h.row
  have hg : w.heap.size ≤ g := (h1.lt g rfl).1
  have hkp := keeps_setCell wr ⟨g, k, none⟩ (.slice A (ps.getD k []).length c)
  have ht : Tagged wr (fun k => k = g) [89] := by
    have := tagged_row h1
    simpa [Value.ownBlock] using this
  obtain ⟨h4, _⟩ := h1.stored k (.slice A (ps.getD k []).length c)
  have hl := h1.1
  refine ⟨h.bel.trans ((Below.refl _ _).setCell hg _), xs.set k _, h4, fun j hj => ?_⟩
  by_cases e : j = k
  · subst e
    exact ⟨A, c, set_at_eq xs _ (by omega), own_low (own_tags ho hkp ht (by decide)) hb⟩
  · obtain ⟨A', c', h5, h6⟩ := h2 j (by omega)
    exact ⟨A', c', by rw [List.getElem?_set_ne (Ne.symm e)]; exact h5, own_tags h6 hkp ht (by decide)⟩
theorem DProgs.look {w wr : World} {g n k j : Nat} {ps : List (List In5)} (h : DProgs w g n ps k wr) (hj : j < n) : (∃ u, wr.cell? ⟨g, j, none⟩ = some u) ∧ wr.frozen? ⟨g, j, none⟩ = false := by
  obtain ⟨xs, h1, _⟩ := h.row
  have hl := h1.1
  exact ⟨⟨_, (h1.cellAt _ (by omega)).trans (List.getElem?_eq_getElem (by omega))⟩, h1.frozenAt _⟩
theorem DProgs.progs {w wr : World} {g n : Nat} {ps : List (List In5)} (h : DProgs w g n ps n wr) (hl : ps.length = n) : Progs wr wr.heap.size (some ⟨g, 0, none⟩) n ps := by
  obtain ⟨xs, h1, h2⟩ := h.row
  refine ⟨hl, fun _ => ⟨g, 0, rfl, (h1.lt g rfl).2, fun i hi => ?_⟩⟩
  obtain ⟨A, c, h3, h4⟩ := h2 i hi
  exact ⟨A, c, by rw [Nat.zero_add]; exact (h1.cellAt _ (by omega)).trans h3, Inss.of_own h4 rfl⟩
theorem DProgs.zero {w w1 w2 : World} {n : Nat} {ps : List (List In5)} {xs : List Value} (hb : Below w.heap.size w w1) (ho : w2.ownsRow w.heap.size 89 1 (.slice (some ⟨w1.heap.size, 0, none⟩) n n) n xs) (hg : w1.grownBy w2 none) : DProgs w w1.heap.size n ps 0 w2 :=
  ⟨hb.grown hg hb.size (by intro k hk; cases hk), xs, ho, fun j hj => absurd hj (Nat.not_lt_zero _)⟩

/-- All programs of a barrier. -/
def progsK (k n rounds : Nat) : List (List In5) := (List.range n).map fun t => barP rounds (kOps k n t)
theorem progsK_at {k n rounds i : Nat} (hi : i < n) : (progsK k n rounds).getD i [] = barP rounds (kOps k n i) := by
  unfold progsK
  rw [List.getD_eq_getElem?_getD, List.getElem?_map, List.getElem?_range hi]
  rfl
theorem progsK_len (k n rounds : Nat) : (progsK k n rounds).length = n := by unfold progsK; simp

set_option maxHeartbeats 2000000 in
theorem dnew_any {w : World} (hw : DW w) {k n rounds : Nat} (d : Dims k n rounds) :
    Calls Tryz.prog 47 #[.int .i64 (k : Nat), .int .i64 (n : Nat), .int .i64 (rounds : Nat)] w fun e w' => ∃ c, e = .returned (.tuple #[.pointer (some ⟨c, 0, none⟩), .nilIface]) ∧ At w c (kM k n rounds) w' := by
  have HCe := Lib.hid (dcells_any hw d)
  have HCo := Lib.hid (fun w1 (hb : Below w.heap.size w w1) id (hid : id < n) => dcode_any (hw.old hb) d hid)
  have hn1 := d.n1
  have hn16 := d.n16
  obtain ⟨h300, hright, _⟩ := kind_right (rounds := rounds) d.k1 d.k6 d.n1 d.n16 (by have := d.r6; omega)
  have hcw := hw.cw
  have hkM : kM k n rounds = newM (progsK k n rounds) (List.replicate (kCells k n) 0) := rfl
  rw [hkM]
  have HR := Lib.hid (fun i (hi : i < n) => (show RightL ((progsK k n rounds).getD i []) (kCells k n) by rw [progsK_at hi]; exact hright i hi))
  have HPA := Lib.hid (fun i (hi : i < n) => progsK_at (k := k) (rounds := rounds) hi)
  have hpl := progsK_len k n rounds
  generalize progsK k n rounds = ps at *
  generalize kCells k n = nc at *
  have HN := Lib.hid (fun W (hb : Below w.heap.size w W) (A C : Option Addr) (hp : Progs W W.heap.size A n ps) (hc : Ints .u64 W W.heap.size C nc (List.replicate nc 0)) => new_at hcw hb A C n n nc nc ps _ hp hc hn16 h300 HR.out)
  have HPl := Lib.hid hpl
  obtain ⟨i0, hi, hz0, hz1, hz2⟩ := info_parts infoSIns
  obtain ⟨j0, hj, hy0, hy1, hy2⟩ := info_parts infoU64D
  clear hright hw hcw hpl hkM
  go_enter Tryz.func47, Tryz.ntmps47
  go_wp2_with fail
  refine HCe.out.mono ?_
  rintro e w1 ⟨rfl, hb1⟩
  have HB1 := Lib.hid hb1
  clear hb1 HCe
  go_wp2_with (at_make; refine wpList_make_full _ rfl _ _ 143 rfl w.heap.size 89 i0 (.slice none 0 0) 1 Tryz.underlying143 hi hz0 hz1 _ _ _ _ n rfl rfl rfl rfl ?b1 ?b2 ?b3 ?_)
  case b1 => rw [hz2]; omega
  case b2 => simp [maxLen]; omega
  case b3 => exact HB1.out.size
  intro w2 hown hg2
  have HD := Lib.hid (DProgs.zero (ps := ps) HB1.out hown hg2)
  clear hown hg2 hi hz0 hz1 hz2 HB1
  obtain ⟨g, hg⟩ : ∃ g, w1.heap.size = g := ⟨_, rfl⟩
  rw [hg] at HD ⊢
  clear hg
  --MA
  go_wp2
  go_loopw [24] (fun j wr => ∃ q : Nat, q ≤ n ∧ j = .int .i64 q ∧ DProgs w g n ps q wr) (fun j _ => n - (intOf j).toNat)
  case atStart => exact ⟨0, Nat.zero_le _, rfl, HD.out⟩
  case round =>
    obtain ⟨q, hq, rfl, hm⟩ := hrel
    by_cases hlt : q < n
    · have hkn : (q : Int) < (n : Int) := by omega
      have HM := Lib.hid hm
      have HC2 := Lib.hid (HCo.out wr hm.bel q hlt)
      unfold CodeOf at HC2
      rw [← HPA.out q hlt] at HC2
      clear hm HD
      go_wp2_with fail
      --MB
      refine HC2.out.mono ?_
      rintro e w3 ⟨A, c, rfl, ho, hb3⟩
      have HM3 := Lib.hid (HM.out.grow hb3)
      have HP3 := Lib.hid (HM3.out.put hlt HM.out.bel.size ho)
      obtain ⟨⟨uo, h5a⟩, h5b⟩ := HM3.out.look hlt
      clear ho hb3 HM HM3 HC2
      --MC
      go_wp2
      go_roundw
      case rel => exact ⟨q + 1, by omega, by go_num, HP3.out⟩
      case measure => simp [intOf]; omega
    · have hkn : ¬ (q : Int) < (n : Int) := by omega
      obtain rfl : q = n := by omega
      have HM := Lib.hid hm
      clear hm HD HCo
      go_wp2_with (at_make; refine wpList_make_full _ rfl _ _ 68 rfl wr.heap.size 43 j0 (.int .u64 0) 1 Tryz.underlying68 hj hy0 hy1 _ _ _ _ nc rfl rfl rfl rfl ?b1 ?b2 ?b3 ?_)
      case b1 => first | omega | (rw [hy2]; omega)
      case b2 => simp [maxLen]; omega
      intro w4 hown hg4
      have hmd : (madeCells #[Value.int IntKind.u64 0] nc).toList = (List.replicate nc (0 : Int)).map (Value.int .u64) := by
        have := toList_madeCells_one (Value.int IntKind.u64 0) (nc * 1)
        rw [Nat.mul_one] at this
        rw [this, List.map_replicate]
      rw [hmd] at hown
      have hI : Ints .u64 w4 w4.heap.size (some ⟨wr.heap.size, 0, none⟩) nc (List.replicate nc 0) := Ints.of_own hown
      have HM4 := Lib.hid (HM.out.grow ((Below.refl _ _).grown hg4 (Nat.le_refl _) (by intro k hk; cases hk)))
      have HN4 := Lib.hid (HN.out w4 HM4.out.bel _ _ (HM4.out.progs HPl.out) hI)
      clear hown hg4 hI HM HM4 HN hj hy0 hy1 hy2
      --MD
      go_wp2_with fail
      refine HN4.out.mono ?_
      rintro e w5 ⟨c, rfl, hA⟩
      have HA := Lib.hid hA
      clear hA HN4
      go_wp2
      go_ret2
      exact ⟨c, rfl, HA.out⟩

theorem danceOK : DanceOK where
  new := fun hw _ _ _ d => dnew_any hw d
  fin := fun hC hB hb => ffin_any hC hB hb
  judge := fun n1 n16 hl hE hj => (jrounds_any _ _ _ _ hl hE n1 n16).mono fun e w' ⟨hb, h⟩ => by
    rcases h with ⟨_, he⟩ | ⟨c, i, v, h1, _⟩
    · exact ⟨he, hb⟩
    · rw [hj] at h1
      cases h1
end Go.Proofs.YtgkfhihnfllmhaaGreatDoor
