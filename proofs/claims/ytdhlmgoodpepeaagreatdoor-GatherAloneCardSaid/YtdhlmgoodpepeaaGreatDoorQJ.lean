/-
  How often 1 is doubled to be no less than a number: part.Levels. Pieces of programs: Await, Tell; the fact that the laws on them ask first. The frame behind a region, written out. What a program of registers says at last. SUMS ARE SUMS; BITS IN TWO PIECES; LESS, OR NOT. Whole: a program that goes through a body. A machine of programs that were laid. fair.turn and fair.Finish: all threads go on, one behind the other, over and over, till none can.
-/
import Derived.RowKitTokens
import Derived.Test.YtdhlmgoodpepeaaGreatDoorShelf
import Derived.Lib.BitFns
import Derived.Test.YtdhlmgoodpepeaaGreatDoorQA
import Derived.Test.YtdhlmgoodpepeaaGreatDoorQB
import Derived.Test.YtdhlmgoodpepeaaGreatDoorQI
import Derived.Test.YtdhlmgoodpepeaaGreatDoorQB2
import Derived.Test.YtdhlmgoodpepeaaGreatDoorQF
import Derived.Lib.AppendZeros
namespace Go.Proofs.YtdhlmgoodpepeaaGreatDoor
set_option maxRecDepth 100000
open Go.RowKit

end Go.Proofs.YtdhlmgoodpepeaaGreatDoor

namespace Go.Proofs.YtdhlmgoodpepeaaGreatDoor
set_option maxRecDepth 100000
open Go.RowKit Go.Sort
set_option linter.unusedVariables false

/-- A row of instructions that is written down is a slice of them. -/
theorem own_lit {w : World} {cs : Array Value} {l : List In5} {n : Nat} (hcs : cs.toList = cells5 l) (hl : l.length = n) (hn : n ≤ 1000) (B : Nat) (hB : B ≤ w.heap.size) : (w.alloc (.cells cs 88)).ownsRow B 88 5 (.slice (some ⟨w.heap.size, 0, none⟩) n n) n (cells5 l) := by
  have hsz : cs.size = n * 5 := by rw [← Array.length_toList, hcs, cells5_len, hl]
  have ho := World.ownsRow_lit (base := B) (e := 88) (size := 5) w cs n hB (by unfold maxLen; omega) hsz
  rw [hcs] at ho
  exact ho
theorem inss_lit {w : World} {cs : Array Value} {l : List In5} {n : Nat} (hcs : cs.toList = cells5 l) (hl : l.length = n) (hn : n ≤ 1000) : Inss (w.alloc (.cells cs 88)) (w.alloc (.cells cs 88)).heap.size (some ⟨w.heap.size, 0, none⟩) n l :=
  Inss.of_own (own_lit hcs hl hn w.heap.size (Nat.le_refl _)) hl

end Go.Proofs.YtdhlmgoodpepeaaGreatDoor

namespace Go.Proofs.YtdhlmgoodpepeaaGreatDoor
set_option maxRecDepth 100000
end Go.Proofs.YtdhlmgoodpepeaaGreatDoor

namespace Go.Proofs.YtdhlmgoodpepeaaGreatDoor
set_option maxRecDepth 100000
open Go.RowKit Go.Shelf Go.Sort
set_option linter.unusedVariables false
set_option linter.unusedSimpArgs false

end Go.Proofs.YtdhlmgoodpepeaaGreatDoor

namespace Go.Proofs.YtdhlmgoodpepeaaGreatDoor
set_option maxRecDepth 100000
open Go.RowKit Go.Shelf Go.Sort
set_option linter.unusedVariables false
set_option linter.unusedSimpArgs false

end Go.Proofs.YtdhlmgoodpepeaaGreatDoor

namespace Go.Proofs.YtdhlmgoodpepeaaGreatDoor
set_option maxRecDepth 100000
open Go.RowKit Go.Shelf Go.Sort
set_option linter.unusedVariables false

/-- append of whatever row of instructions to a row of the call's own. -/
theorem run_appendP {w : World} {base : Nat} {v : Value} {n m c B : Nat} {A : Option Addr} {xs news : List In5} (hown : w.ownsRow base 88 5 v n (cells5 xs)) (h : Inss w B A m news) (hn : n + m ≤ 100000) (hbase : base ≤ w.heap.size) (ty : TypeId) :
    ∃ v' w', (Builtin.append_ #[82, 82] ty #[v, .slice A m c]).run Tryz.prog w = .ok v' w' ∧ w'.ownsRow base 88 5 v' (n + m) (cells5 (xs ++ news)) ∧ w.grownBy w' v.ownBlock := by
  obtain ⟨i0, hi, hz0, hz1, hz2⟩ := info_parts infoIns
  rcases A with _ | ad
  · have h0 : m = 0 := by
      rcases Nat.eq_zero_or_pos m with h0 | h0
      · exact h0
      · obtain ⟨_, _, e, _⟩ := h.row h0
        cases e
    subst h0
    have hx : news = [] := List.eq_nil_of_length_eq_zero h.len
    subst hx
    refine ⟨v, w, ?_, by simpa using hown, World.grownBy.refl _ _⟩
    rcases hown.2 with ⟨rfl, rfl⟩ | ⟨g, cap, cur, rfl, _, _, hnc, _⟩
    · simp [Builtin.append_, run_underlying Tryz.underlying82, sizeOf, typeInfo, hi, Builtin.lenOf, Builtin.firstCells]
    · simp [Builtin.append_, run_underlying Tryz.underlying82, sizeOf, typeInfo, hi, Builtin.lenOf, Builtin.firstCells, hnc, storeCells]
  · obtain ⟨v', w', hr, ho, hg, _⟩ := run_append_own (P := Tryz.prog) w base 82 ty 88 i0 (.agg #[.int .i64 0, .int .i64 0, .int .i64 0, .int .i64 0, .int .i64 0]) 5 40 Tryz.underlying82 hi hz0 hz1 hz2 rfl (by decide) v n _ hown ad m c (cells5 news) (by rw [cells5_len, h.len]) (news_of_inss h) oneCell5 (by unfold maxLen; omega) (by omega) hbase
    exact ⟨v', w', hr, by rw [cells5_append]; exact ho, hg⟩

theorem wrap_place (n : Int) (h : -9223372036854775808 ≤ n ∧ n ≤ 9223372036854775807) : wrap64 n = n := by unfold wrap64; omega

/-- A machine of programs that were laid. -/
theorem new_at {w W : World} (hw : CW w) (hb : Below w.heap.size w W) (A C : Option Addr) (n c nc cc : Nat) (ps : List (List Ins5)) (cells : List Int) (hp : Progs W W.heap.size A n ps) (hc : Ints .u64 W W.heap.size C nc cells) (h16 : n ≤ 16) (hn3 : nc ≤ 300) (hr : ∀ i, i < n → RightL (ps.getD i []) nc) :
    Calls Tryz.prog 43 #[.slice A n c, .slice C nc cc] W fun e w' => ∃ c, e = .returned (.tuple #[.pointer (some ⟨c, 0, none⟩), .nilIface]) ∧ At w c (newM ps cells) w' := by
  refine (knew_ok (hw.old hb) A C n c nc cc ps cells hp hc h16 hn3 hr).mono ?_
  rintro e w' ⟨S, X, he, hC, hB⟩
  exact ⟨X.c, he, S, X, rfl, hC.lower hb.size, hb.trans (hB.mono hb.size)⟩
end Go.Proofs.YtdhlmgoodpepeaaGreatDoor

namespace Go.Proofs.YtdhlmgoodpepeaaGreatDoor
set_option maxRecDepth 100000
open Go.RowKit Go.Shelf Go.Sort
set_option linter.unusedVariables false
set_option linter.unusedSimpArgs false

theorem core_threads {w : World} {B : Nat} {S : Nat → Prop} {X : KB} {m : Mach} (h : Core w B S X m) :
    Calls Tryz.prog 44 #[.pointer (some ⟨X.c, 0, none⟩)] w fun e w' => e = .returned (.int .i64 (m.progs.length : Int)) ∧ w = w' := by
  obtain ⟨_, _, c2, _, _, _⟩ := h.cells
  obtain ⟨xs, hT, _⟩ := h.thr
  obtain ⟨A, cap, e⟩ := slice_of_own hT
  rw [e] at c2
  clear h hT
  go_enter Tryz.func44, Tryz.ntmps44
  go_wp2
  go_ret
  exact ⟨rfl, rfl⟩
theorem sweep_more (m : Mach) (k : Nat) : sweepM (List.range (k + 1)) m = (stepM 20000 (sweepM (List.range k) m) (k : Nat)).2 := by
  rw [List.range_succ, sweepM_append]
  rfl
theorem MBig.sweep {cells0 : List Int} : ∀ (l : List Nat) {m : Mach}, MBig cells0 m → MBig cells0 (sweepM l m)
  | [], m, h => h
  | t :: l, m, h => MBig.sweep l (h.step (t : Nat))

set_option maxHeartbeats 2000000 in
theorem fturn_any {w : World} {B : Nat} {S : Nat → Prop} {X : KB} {cells0 : List Int} {m : Mach} (h : Core w B S X m) (hB : B ≤ w.heap.size) (hb : MBig cells0 m) :
    Calls Tryz.prog 58 #[.pointer (some ⟨X.c, 0, none⟩)] w fun e w' => e = .returned (.bool (decide (m.steps < (roundM m).steps))) ∧ Moved w B S X (roundM m) w' := by
  have HSt := Lib.hid (steps_any h)
  have HTh := Lib.hid (core_threads h)
  have H0 := Lib.hid (show Moved w B S X (sweepM (List.range 0) m) w from Moved.of h (Keeps.refl _ _))
  have HBg := Lib.hid (fun k => hb.sweep (List.range k))
  have hn16 := hb.few
  unfold roundM
  clear h hb
  generalize m.progs.length = n at *
  generalize m.steps = st at *
  go_enter Tryz.func58, Tryz.ntmps58
  go_wp2_with fail
  refine HSt.out.mono ?_
  rintro e w1 ⟨rfl, rfl⟩
  go_wp2_with fail
  refine HTh.out.mono ?_
  rintro e w1 ⟨rfl, rfl⟩
  clear HSt HTh
  go_wp2
  go_loopw [9] (fun j wr => ∃ k : Nat, k ≤ n ∧ j = .int .i64 k ∧ Moved w B S X (sweepM (List.range k) m) wr) (fun j _ => n - (intOf j).toNat)
  case atStart => exact ⟨0, Nat.zero_le _, rfl, H0.out⟩
  case round =>
    obtain ⟨k, hk, rfl, hm⟩ := hrel
    by_cases hlt : k < n
    · have hkn : (k : Int) < (n : Int) := by omega
      have HS := Lib.hid (sweep_more m k)
      obtain ⟨S', X', e1, e2, hC, hSi, hK⟩ := hm
      have HST := Lib.hid (kstep_any hC (by have := hK.size; omega) (HBg.out k) (k : Nat))
      rw [← HS.out, e1] at HST
      have HMV := Lib.hid (⟨hC, hSi, hK, e1, e2⟩ : Core _ B S' X' _ ∧ Since S S' w ∧ Keeps S w _ ∧ X'.c = X.c ∧ X'.tv = X.tv)
      generalize (errV (stepM 20000 (sweepM (List.range k) m) (k : Nat)).1) = RV at *
      clear hC hSi hK e1 e2 HS
      go_wp2_with fail
      refine HST.out.mono ?_
      rintro e w2 ⟨rfl, hm2⟩
      have H2 := Lib.hid (moved_on HMV.out hm2)
      clear hm2 HMV HST
      go_wp2
      go_roundw
      case rel => exact ⟨k + 1, by omega, by go_num, H2.out⟩
      case measure => simp [intOf]; omega
    · have hkn : ¬ (k : Int) < (n : Int) := by omega
      obtain rfl : k = n := by omega
      have HM := Lib.hid hm
      obtain ⟨S', X', e1, e2, hC, hSi, hK⟩ := hm
      have HSt2 := Lib.hid (steps_any hC)
      rw [e1] at HSt2
      clear hC hSi hK e1 e2
      go_wp2_with fail
      refine HSt2.out.mono ?_
      rintro e w2 ⟨rfl, rfl⟩
      by_cases hq : st < (sweepM (List.range k) m).steps
      · have hq1 : (st : Int) < ((sweepM (List.range k) m).steps : Int) := by omega
        go_wp2
        go_ret
        exact ⟨by rw [decide_eq_true hq]; rfl, HM.out⟩
      · have hq1 : ¬ (st : Int) < ((sweepM (List.range k) m).steps : Int) := by omega
        go_wp2
        go_ret
        exact ⟨by rw [decide_eq_false hq]; rfl, HM.out⟩

/-- How many steps were done, where the machine has it. -/
def stepsAt (c : Nat) (w : World) : Nat := match w.cell? ⟨c, 5, none⟩ with
  | some (.int _ z) => z.toNat
  | _ => 0
theorem stepsAt_core {w : World} {B : Nat} {S : Nat → Prop} {X : KB} {m : Mach} (h : Core w B S X m) : stepsAt X.c w = m.steps := by
  obtain ⟨_, _, _, _, _, c5⟩ := h.cells
  unfold stepsAt
  rw [c5]
  rfl
/-- Over and over. -/
def overM (m : Mach) (i : Nat) : Mach := sweepM (List.replicate i (List.range m.progs.length)).flatten m
theorem over_more (m : Mach) (i : Nat) : overM m (i + 1) = roundM (overM m i) := by
  unfold overM roundM
  rw [List.replicate_succ', List.flatten_append, sweepM_append, sweepM_progs]
  simp
theorem round_same {m : Mach} (h : ¬ m.steps < (roundM m).steps) : roundM m = m := by
  have := sweepM_mono (List.range m.progs.length) m
  exact sweepM_same (by unfold roundM at h; omega)

set_option maxHeartbeats 2000000 in
theorem ffin_any {w : World} {B : Nat} {S : Nat → Prop} {X : KB} {cells0 : List Int} {m : Mach} (h : Core w B S X m) (hB : B ≤ w.heap.size) (hb : MBig cells0 m) :
    Calls Tryz.prog 26 #[.pointer (some ⟨X.c, 0, none⟩)] w fun e w' => ∃ m', Fin m m' ∧ e = .returned (.int .i64 ((m'.steps : Int) - (m.steps : Int))) ∧ Moved w B S X m' w' ∧ MBig cells0 m' := by
  have HSt := Lib.hid (steps_any h)
  have H0 := Lib.hid (show Moved w B S X (overM m 0) w from Moved.of h (Keeps.refl _ _))
  have HBg := Lib.hid (fun i => hb.sweep (List.replicate i (List.range m.progs.length)).flatten)
  have HLe := Lib.hid hb.most
  clear h hb
  obtain ⟨st, hst⟩ : ∃ st, m.steps = st := ⟨_, rfl⟩
  rw [hst] at HSt HLe
  have HSm := Lib.hid hst
  rw [hst]
  clear hst
  go_enter Tryz.func26, Tryz.ntmps26
  go_wp2_with fail
  refine HSt.out.mono ?_
  rintro e w1 ⟨rfl, rfl⟩
  clear HSt
  go_wp2
  go_loopw [7] (fun j wr => ∃ i : Nat, Moved w B S X (overM m i) wr) (fun j wr => 20001 - stepsAt X.c wr)
  case atStart => exact ⟨0, H0.out⟩
  case round =>
    obtain ⟨i, hm⟩ := hrel
    have HM0 := Lib.hid hm
    obtain ⟨S', X', e1, e2, hC, hSi, hK⟩ := hm
    have HT := Lib.hid (fturn_any hC (by have := hK.size; omega) (HBg.out i))
    rw [e1] at HT
    have hsa := stepsAt_core hC
    rw [e1] at hsa
    have HSA := Lib.hid hsa
    have HMV := Lib.hid (⟨hC, hSi, hK, e1, e2⟩ : Core _ B S' X' _ ∧ Since S S' w ∧ Keeps S w _ ∧ X'.c = X.c ∧ X'.tv = X.tv)
    clear hC hSi hK e1 e2 hsa
    by_cases hlt : (overM m i).steps < (roundM (overM m i)).steps
    · rw [decide_eq_true hlt] at HT
      rw [← over_more] at HT hlt
      go_wp2_with fail
      refine HT.out.mono ?_
      rintro e w2 ⟨rfl, hm2⟩
      have hm3 := moved_on HMV.out hm2
      have H2 := Lib.hid hm3
      obtain ⟨S2, X2, f1, f2, hC2, _, _⟩ := hm3
      have hsb := stepsAt_core hC2
      rw [f1] at hsb
      have HSB := Lib.hid hsb
      have HL2 := Lib.hid (HBg.out (i + 1)).most
      clear hm2 HMV HT hC2 f1 f2 hsb
      go_wp2
      go_roundw
      case rel => exact ⟨i + 1, H2.out⟩
      case measure =>
        rw [HSA.out, HSB.out]
        have := HL2.out
        unfold overM at hlt ⊢
        omega
    · rw [decide_eq_false hlt] at HT
      have hsame := round_same hlt
      rw [hsame] at HT
      go_wp2_with fail
      refine HT.out.mono ?_
      rintro e w2 ⟨rfl, hm2⟩
      have hm3 := moved_on HMV.out hm2
      have H2 := Lib.hid hm3
      obtain ⟨S2, X2, f1, f2, hC2, _, _⟩ := hm3
      have HSt2 := Lib.hid (steps_any hC2)
      rw [f1] at HSt2
      have HL2 := Lib.hid (HBg.out i).most
      have HF := Lib.hid (show Fin m (overM m i) from ⟨i, rfl, hsame⟩)
      clear hm2 HMV HT hC2 f1 f2 hlt hsame
      have hl2 : (overM m i).steps ≤ 20000 := HL2.out
      have HB2 := Lib.hid (show MBig cells0 (overM m i) from HBg.out i)
      generalize overM m i = m2 at *
      have hw := wrap_place ((m2.steps : Int) - (st : Int)) (by have := HLe.out; omega)
      go_wp2_with fail
      refine HSt2.out.mono ?_
      rintro e w3 ⟨rfl, rfl⟩
      go_wp2
      go_ret
      refine ⟨m2, HF.out, ?_, H2.out, HB2.out⟩
      show Ending.returned (.int .i64 (wrap64 _)) = _
      rw [hw]
end Go.Proofs.YtdhlmgoodpepeaaGreatDoor
