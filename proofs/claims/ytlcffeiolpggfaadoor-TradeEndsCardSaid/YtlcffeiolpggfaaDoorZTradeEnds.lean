/-
  ALL BUT ONE: whichever threads trade, and whoever goes on when, at last at most one thread is left that has nobody to trade with, all others are at their ends, and what was told is what was told back: for all arguments, without conditions.
-/
import Derived.Test.YtlcffeiolpggfaaDoorQN3
import Derived.Test.YtlcffeiolpggfaaDoorRows
import Derived.Test.YtlcffeiolpggfaaDoorCards
import Derived.Test.YtlcffeiolpggfaaDoorTie
import Derived.WalkKit
import Derived.ProofKit
import Derived.OpenShut
import Derived.ChangeOld
import Derived.Below
import Derived.ChangeSame
import Derived.ChangeVars
import Derived.JoinedOf
import Derived.RowKitTokens
import Derived.LaidLaws
import Derived.LaidHandle
import Derived.Stop.Joined
import Derived.SevenTiedAt
import Derived.Lib.LaidTab
import Derived.Lib.LaidIn
import Derived.ChangeMaps5
import Derived.Test.YtlcffeiolpggfaaDoorQE3
import Derived.Test.YtlcffeiolpggfaaDoorQE
import Derived.Test.YtlcffeiolpggfaaDoorQL2
namespace Go.Proofs.YtlcffeiolpggfaaDoor
set_option maxRecDepth 100000
open Go.RowKit Go.Shelf Go.Sort
set_option linter.unusedVariables false
set_option linter.unusedSimpArgs false

def openM (m : Mach) (k : Nat) : Nat := sumN k fun u => if m.ended.getD u false = true then 0 else 1
structure TdEnd (n : Nat) (m : Mach) (v : Int) (q : Nat) : Prop where
  plen : m.progs.length = n
  opn : openM m n ≤ 1
  cells : m.cells = v :: List.replicate 16 0
  vz : v ≠ 0 ↔ openM m n = 1
  evs : ∀ x ∈ m.events, ∃ s w : Int, ∃ u : Nat, u < n ∧ x = (s, 3, (u : Int), w)
  sum : (sumN n fun u => (ansOf m.events u).length) = 2 * q
  few : ∀ u, u < n → (ansOf m.events u).length ≤ 6
theorem td_end_fact {Ls : List (List Trd)} {h : TdOk Ls} {p : Nat} {m m' : Mach} (hm : TdM h p m) (hp : p ≤ 500) (hf : Fin m m') : ∃ v q, TdEnd Ls.length m' v q := by
  obtain ⟨S, hS, hq⟩ := td_fin hm hp hf
  obtain ⟨⟨pr, hG⟩, _⟩ := tdM_inv hS
  have hwf := hS.sim.wf
  obtain ⟨h1, h2, h3, q, hev⟩ := tr_over hG hwf h.mine hq
  have hop : openM m' Ls.length = sumN Ls.length fun u => if (S.th u).en = true then 0 else 1 := Nat.le_antisymm (sumN_le fun u hu => by rw [tdM_ended hS hu]; exact Nat.le_refl _) (sumN_le fun u hu => by rw [tdM_ended hS hu]; exact Nat.le_refl _)
  have hcase : (openM m' Ls.length = 0 ∧ ∀ u, u < Ls.length → (S.th u).en = true) ∨ (openM m' Ls.length = 1 ∧ ∃ u, u < Ls.length ∧ (S.th u).en = false) := by
    by_cases hx : ∃ u, u < Ls.length ∧ (S.th u).en = false
    · obtain ⟨u, hu, he⟩ := hx
      refine .inr ⟨?_, u, hu, he⟩
      rw [hop]
      have a1 := sumN_shift (n := Ls.length) (t := u) (a := 0) (b := 1) (f := fun v => if (S.th v).en = true then 0 else 1) (g := fun _ => 0) hu (fun v hv hne => by
        show (if (S.th v).en = true then 0 else 1) = 0
        cases e : (S.th v).en with
        | true => rfl
        | false => exact absurd (tr_open hG hwf h.mine hq hv hu e he) hne) (by show (if (S.th u).en = true then 0 else 1) + 0 ≤ 0 + 1; rw [he]; decide)
      have a2 := sumN_shift (n := Ls.length) (t := u) (a := 1) (b := 0) (g := fun v => if (S.th v).en = true then 0 else 1) (f := fun _ => 0) hu (fun v hv hne => by
        show 0 = (if (S.th v).en = true then 0 else 1)
        cases e : (S.th v).en with
        | true => rfl
        | false => exact absurd (tr_open hG hwf h.mine hq hv hu e he) hne) (by show 0 + 1 ≤ (if (S.th u).en = true then 0 else 1) + 0; rw [he]; decide)
      have a3 : (sumN Ls.length fun _ => 0) = 0 := sumN_zero fun _ _ => rfl
      omega
    · refine .inl ⟨?_, fun u hu => ?_⟩
      · rw [hop]
        exact sumN_zero fun u hu => by
          cases e : (S.th u).en with
          | true => rfl
          | false => exact absurd ⟨u, hu, e⟩ hx
      · cases e : (S.th u).en with
        | true => rfl
        | false => exact absurd ⟨u, hu, e⟩ hx
  refine ⟨S.cell 0, q, by rw [hS.sim.plen], by omega, ?_, ⟨fun hz => ?_, fun hz => ?_⟩, hG.evs, ?_, fun u hu => ?_⟩
  · rw [tdM_cells hS]
    have : ∀ i, 0 < i → S.cell i = 0 := fun i hi => by
      by_cases e : i ≤ Ls.length
      · have := h1 (i - 1) (by omega)
        rwa [show i - 1 + 1 = i by omega] at this
      · exact hG.high i (by omega)
    refine List.ext_getElem (by simp) fun i h1 h2 => ?_
    rw [List.getElem_map, List.getElem_range]
    cases i with
    | zero => rfl
    | succ i => rw [this (i + 1) (by omega), List.getElem_cons_succ, List.getElem_replicate]
  · rcases hcase with ⟨_, b⟩ | ⟨b, _⟩
    · obtain ⟨u, hu, he⟩ := h3 hz
      rw [b u hu] at he; cases he
    · exact b
  · rcases hcase with ⟨b, _⟩ | ⟨_, u, hu, he⟩
    · omega
    · obtain ⟨c, _, e⟩ := h2 u hu he
      have := off_lt c
      omega
  · rw [← hev]
    exact Nat.le_antisymm (sumN_le fun u hu => by rw [(hG.ans u hu).1]; exact Nat.le_refl _) (sumN_le fun u hu => by rw [(hG.ans u hu).1]; exact Nat.le_refl _)
  · rw [(hG.ans u hu).1]
    have := (hwf.th u hu).k
    have := h.calls u
    omega

def PredT (g : Nat) (p : Int → Bool) : Prop := ∀ (W : World) (t : Int), Calls Tryd.prog g (#[.int .u64 t] ++ #[]) W fun e w' => e = .returned (.bool (p t)) ∧ W.grownBy w' none
set_option maxHeartbeats 400000 in
theorem tIndexU_none {w : World} (A : Option Addr) (n c : Nat) (xs : List Int) (h : Ints .u64 w w.heap.size A n xs) (hn : n ≤ 9223372036854775807) (p : Int → Bool) (g : Nat) (eg : ∀ args w, (callFunc g args).run Tryd.prog w = .ok (.enter g args) w) (hp : PredT g p) (hall : ∀ t ∈ xs, p t = false) :
    Calls Tryd.prog 32 #[.slice A n c, .func (.func g) #[] #[]] w (Told1 (-1) w) := by
  have HP := Lib.hid hp
  have HA := Lib.hid hall
  have HH := Lib.hid h
  clear hp hall h
  go_enter Tryd.func32, Tryd.ntmps32
  go_wp2
  go_loopw [5, 8] (fun _ j wr => ∃ k : Nat, k ≤ n ∧ j = .int .i64 k ∧ w.grownBy wr none) (fun _ j _ => n - (intOf j).toNat)
  case atStart => exact ⟨0, Nat.zero_le _, rfl, World.grownBy.refl w _⟩
  case round =>
    obtain ⟨k, hk, rfl, hg⟩ := hrel
    by_cases hlt : k < n
    · have hkn : (k : Int) < (n : Int) := by omega
      obtain ⟨b, off, rfl, hb, hc⟩ := HH.out.row (by omega)
      have hcell : wr.cell? ⟨b, off + k, none⟩ = some (.int .u64 (xs.getD k 0)) := (World.cell?_of_block (a := ⟨b, off + k, none⟩) (hg.block b hb (by simp))).trans (hc k hlt)
      have hm : xs.getD k 0 ∈ xs := by
        have hl := HH.out.len
        rw [List.getD_eq_getElem?_getD, List.getElem?_eq_getElem (by omega)]
        exact List.getElem_mem _
      have hcall := HP.out wr (xs.getD k 0)
      rw [HA.out _ hm] at hcall
      generalize xs.getD k 0 = t at hcell hcall
      have HC := Lib.hid hcall
      have HG := Lib.hid hg
      clear hc hm hcall hg
      go_wp2_with fail
      refine HC.out.mono ?_
      rintro e w' ⟨rfl, hg'⟩
      have hg2 := HG.out.andThen hg' (by intro j hj; cases hj)
      clear hg' HC HG
      go_wp2
      go_roundw
      case rel => exact ⟨k + 1, by omega, by go_num, hg2⟩
      case measure => simp [intOf]; omega
    · have hkn : ¬ (k : Int) < (n : Int) := by omega
      have HG := Lib.hid hg
      clear hg
      go_wp2
      go_ret
      exact ⟨rfl, HG.out⟩
set_option maxHeartbeats 400000 in
theorem tContainsU_none {w : World} (A : Option Addr) (n c : Nat) (xs : List Int) (h : Ints .u64 w w.heap.size A n xs) (hn : n ≤ 9223372036854775807) (p : Int → Bool) (g : Nat) (eg : ∀ args w, (callFunc g args).run Tryd.prog w = .ok (.enter g args) w) (hp : PredT g p) (hall : ∀ t ∈ xs, p t = false) :
    Calls Tryd.prog 14 #[.slice A n c, .func (.func g) #[] #[]] w fun e w' => e = .returned (.bool false) ∧ w.grownBy w' none := by
  have HI := Lib.hid (tIndexU_none A n c xs h hn p g eg hp hall)
  clear h hp hall
  go_enter Tryd.func14, Tryd.ntmps14
  go_wp2_with fail
  refine HI.out.mono ?_
  rintro e w' ⟨rfl, hg⟩
  go_wp2
  go_ret
  exact ⟨rfl, hg⟩
theorem endsc_any : PredT 15 fun t => t != 0 := fun W t => by
  show Calls Tryd.prog 15 #[.int .u64 t] W _
  go_enter Tryd.func15, Tryd.ntmps15
  go_wp2
  go_ret
  exact ⟨rfl, World.grownBy.refl W _⟩

theorem open_succ (m : Mach) (k : Nat) : openM m (k + 1) = openM m k + if m.ended.getD k false = true then 0 else 1 := sumN_succ _ _
theorem open_le (m : Mach) (k : Nat) : openM m k ≤ k := by
  have := sumN_le (n := k) (f := fun u => if m.ended.getD u false = true then 0 else 1) (g := fun _ => 1) fun u _ => by split <;> omega
  rw [sumN_const] at this
  unfold openM
  omega
theorem at_told (m : Mach) (k : Nat) (hk : k < m.progs.length) : (atM m k).2.2 = if m.ended.getD k false = true then 6 else 0 := by
  have hu : underE m k = if m.ended.getD k false = true then 6 else 0 := by unfold underE; rw [if_neg (by omega), Int.toNat_natCast]
  unfold atM
  rw [hu]
  by_cases e : m.ended.getD k false = true
  · rw [if_pos e, if_neg (by decide)]
  · rw [if_neg e, if_pos rfl]
set_option maxHeartbeats 4000000 in
theorem tradeEnds_any {w : World} (hw : CW w) (A : Option Addr) (n cap : Nat) (ls : List (List Int)) (hR : IRows w w.heap.size A n ls) (hcap : n ≤ cap) (D : Option Addr) (nm cm : Nat) (l : List (Int × Bool)) (hl : Moves w w.heap.size D nm l) :
    Calls Tryd.prog 4 #[.slice A n cap, .slice D nm cm] w fun e w' => e = .returned (.bool true) ∧ Below w.heap.size w w' := by
  have HLt := Lib.hid (swapped_any hw)
  have HR := Lib.hid hR
  have HMv := Lib.hid hl
  have HW := Lib.hid hw
  have HCap := Lib.hid hcap
  obtain ⟨C, hC, hmk⟩ := make_words
  have HC := Lib.hid hC
  clear hR hl hw hcap hC
  go_enter Tryd.func4, Tryd.ntmps4
  go_wp2_with fail
  refine HLt.out.mono ?_
  rintro e w1 ⟨rfl, hb1⟩
  have HB1 := Lib.hid hb1
  clear hb1 HLt
  by_cases h9 : 500 < nm
  · have h9' : (500 : Int) < (nm : Int) := by omega
    go_wp2
    go_ret
    exact ⟨rfl, HB1.out⟩
  have h9' : ¬ (500 : Int) < (nm : Int) := by omega
  have HN5 := Lib.hid (show nm ≤ 500 by omega)
  go_wp2_with fail
  refine (trades_any A n cap ls (HR.out.old HB1.out) HCap.out).mono ?_
  rintro e w2 ⟨k2, v2, hk8, rfl, ⟨A2, c2, qs, rfl, hN, hqs, hq6⟩⟩
  have hok := tdLs_ok (qs := qs) (by omega) hq6
  have hb2 := HB1.out.trans (hN.bel.mono HB1.out.size)
  have HMd := Lib.hid (tdmade3 HW.out hb2 hok A2 D k2 c2 nm cm hN.calls l HMv.out HN5.out C HC.out)
  have HB2 := Lib.hid hb2
  have HQs := Lib.hid (show (tdLs qs).length = k2 by rw [tdLs_len]; exact hqs)
  clear hN hb2 hqs hq6 HB1 HR HCap
  go_wp2_with fail
  --MB
  refine HMd.out.mono ?_
  rintro e w3 ⟨c, m, rfl, hA, -⟩
  have HF := Lib.hid (at_finish hA.at_ hA.big)
  have HL := Lib.hid hA.la
  clear hA HMd hmk
  go_wp2_with fail
  refine HF.out.mono ?_
  rintro e w4 ⟨m', hf, rfl, hA2, hbig⟩
  obtain ⟨v, q, hE⟩ := td_end_fact HL.out (by have := pokesM_le l; have := HMv.out.len; have := HN5.out; omega) hf
  rw [HQs.out] at hE
  have HE := Lib.hid hE
  have HEl := Lib.hid (show m'.events.length ≤ 20000 by have := hbig.events; have := hbig.most; omega)
  have HA4 := Lib.hid hA2
  generalize ((m'.steps : Int) - (m.steps : Int)) = dd
  clear hf hA2 hbig HF HL hE
  go_wp2
  --MC
  go_loopw [7, 33] (fun s j wr => ∃ k : Nat, k ≤ k2 ∧ j = .int .i64 k ∧ s = .int .i64 (openM m' k : Nat) ∧ At w2 c m' wr) (fun _ j _ => k2 - (intOf j).toNat)
  case atStart => exact ⟨0, Nat.zero_le _, rfl, rfl, HA4.out⟩
  case round =>
    obtain ⟨k, hk, rfl, rfl, hm⟩ := hrel
    by_cases hlt : k < k2
    · have hkn : (k : Int) < (k2 : Int) := by omega
      have hAT := at_at hm k
      rw [at_told m' k (by rw [HE.out.plen]; exact hlt)] at hAT
      generalize (atM m' k).1 = z1 at *
      generalize (atM m' k).2.1 = z2 at *
      have hop := open_succ m' k
      have hol := open_le m' k
      have HM := Lib.hid hm
      by_cases he : m'.ended.getD k false = true
      · rw [if_pos he, errV_pos (by decide)] at hAT
        rw [if_pos he] at hop
        have HAT := Lib.hid hAT
        have HOp := Lib.hid hop
        generalize openM m' k = o1 at *
        clear hm hAT hop he
        go_wp2_with fail
        refine HAT.out.mono ?_
        rintro e w5 ⟨rfl, hg5⟩
        have HM5 := Lib.hid (HM.out.grow hg5)
        clear hg5 HAT HM
        go_wp2
        go_roundw
        case rel => exact ⟨k + 1, by omega, by go_num, by rw [HOp.out, Nat.add_zero], HM5.out⟩
        case measure => simp [intOf]; omega
      · rw [if_neg he] at hAT
        rw [if_neg he] at hop
        have HAT := Lib.hid (show Calls Tryd.prog 12 #[.pointer (some ⟨c, 0, none⟩), .int .i64 k] _ fun e w' => e = .returned (.tuple #[.int .i64 z1, .int .i64 z2, .nilIface]) ∧ World.grownBy _ w' none from hAT)
        have HOp := Lib.hid hop
        generalize openM m' k = o1 at *
        clear hm hAT hop he
        go_wp2_with fail
        refine HAT.out.mono ?_
        rintro e w5 ⟨rfl, hg5⟩
        have HM5 := Lib.hid (HM.out.grow hg5)
        clear hg5 HAT HM
        go_wp2
        go_roundw
        case rel => exact ⟨k + 1, by omega, by go_num, by rw [HOp.out]; first | rfl | (congr 1; omega), HM5.out⟩
        case measure => simp [intOf]; omega
    · have hkn : ¬ (k : Int) < (k2 : Int) := by omega
      obtain rfl : k = k2 := by omega
      have HM := Lib.hid hm
      have HAn := Lib.hid (answers_any (n := k) hm HEl.out HE.out.evs (by omega))
      have ho1 := HE.out.opn
      have hvz := HE.out.vz
      have HOe := Lib.hid hvz
      generalize openM m' k = o1 at *
      clear hm HA4 hvz
      go_wp2_with fail
      refine HAn.out.mono ?_
      rintro e w5 ⟨g, rfl, hAn⟩
      have HM5 := Lib.hid (HM.out.keepB hAn.bel)
      have HRow := Lib.hid hAn.rows
      clear hAn HAn HM
      go_wp2
      --MD
      go_loopw [12, 53] (fun s j wr => ∃ t : Nat, t ≤ k ∧ j = .int .i64 t ∧ s = .int .i64 ((sumN t fun u => (ansOf m'.events u).length) : Nat) ∧ wr = w5) (fun _ j _ => k - (intOf j).toNat)
      case atStart => exact ⟨0, Nat.zero_le _, rfl, rfl, rfl⟩
      case round =>
        obtain ⟨t, ht, rfl, rfl, rfl⟩ := hrel
        by_cases hlt2 : t < k
        · have htn : (t : Int) < (k : Int) := by omega
          obtain ⟨bi, offi, hAi, _, hxi⟩ := HRow.out.row (by omega)
          have hgi : bi = g ∧ offi = 0 := by injection hAi with h; injection h with h1 h2; exact ⟨h1.symm, h2.symm⟩
          obtain ⟨rfl, rfl⟩ := hgi
          obtain ⟨Ai, ci, hcelli, _, hrowi⟩ := hxi t hlt2
          have hei : ((List.range k).map (ansOf m'.events)).getD t [] = ansOf m'.events t := by rw [List.getD_eq_getElem?_getD, List.getElem?_map, List.getElem?_range hlt2]; rfl
          rw [hei] at hcelli
          rw [Nat.zero_add] at hcelli
          have hsu := sumN_succ t (fun u => (ansOf m'.events u).length)
          have h6 := HE.out.few t hlt2
          have hs48 : (sumN t fun u => (ansOf m'.events u).length) ≤ 48 := by
            have h1 := sumN_le (n := t) (f := fun u => (ansOf m'.events u).length) (g := fun _ => 6) fun u hu => HE.out.few u (by omega)
            rw [sumN_const] at h1
            omega
          have HSu := Lib.hid hsu
          generalize (ansOf m'.events t).length = z at *
          generalize (sumN t fun u => (ansOf m'.events u).length) = s1 at *
          clear hxi hrowi hei hAi hsu
          go_wp2
          go_roundw
          case rel => exact ⟨t + 1, by omega, by go_num, by rw [HSu.out]; first | rfl | (congr 1; omega), by first | trivial | rfl⟩
          case measure => simp [intOf]; omega
        · have htn : ¬ (t : Int) < (k : Int) := by omega
          obtain rfl : t = k := by omega
          have HCe := Lib.hid (at_cells HM5.out (by rw [HE.out.cells]; exact Nat.le_of_ble_eq_true rfl))
          rw [HE.out.cells] at HCe
          have hs2 := HE.out.sum
          have HSm := Lib.hid hs2
          rw [hs2]
          have hrm : Int.tmod ((2 * q : Nat) : Int) 2 = 0 := by
            rw [show ((2 * q : Nat) : Int) = (2 : Int) * (q : Int) by omega]
            exact Int.mul_tmod_right _ _
          generalize ((2 * q : Nat) : Int) = X at *
          clear hs2 HRow
          go_wp2_with fail
          refine HCe.out.mono ?_
          rintro e w6 ⟨A6, c6, rfl, ho6, hg6⟩
          have hI6 : Ints .u64 w6 w6.heap.size A6 17 (v :: List.replicate 16 0) := Ints.of_own ho6
          have hcap6 : 17 ≤ c6 := ans_cap ho6
          obtain ⟨b6, off6, hA6, hb6, hx6⟩ := hI6.row (by decide)
          subst hA6
          have hc6 : w6.cell? ⟨b6, off6, none⟩ = some (.int .u64 v) := hx6 0 (by decide)
          have hT : Ints .u64 w6 w6.heap.size (some ⟨b6, off6 + 1, none⟩) 16 (List.replicate 16 0) := ⟨rfl, fun _ => ⟨b6, off6 + 1, rfl, hb6, fun i hi => by
            have := hx6 (i + 1) (by omega)
            rw [show off6 + (i + 1) = off6 + 1 + i by omega] at this
            exact this⟩⟩
          have HT := Lib.hid (fun c => tContainsU_none (some ⟨b6, off6 + 1, none⟩) 16 c _ hT (by decide) _ 15 (enter_ask Tryd.func15 (by kernel_rfl) (by kernel_rfl)) endsc_any (fun t ht => by rw [(List.mem_replicate.1 ht).2]; rfl))
          have HB6 := Lib.hid (HB2.out.trans ((HM5.out.grow hg6).bel.mono HB2.out.size))
          have hne : ¬ c6 = 1 := by omega
          clear ho6 hg6 hI6 hx6 hT HCe HM5
          --ME
          rcases Nat.lt_or_ge o1 1 with h1 | h1
          · obtain rfl : o1 = 0 := by omega
            have hv0 : v = 0 := Classical.byContradiction fun e => by have := HOe.out.1 e; omega
            subst hv0
            clear HOe
            go_wp2_with fail
            refine (HT.out _).mono ?_
            rintro e w7 ⟨rfl, hg7⟩
            have HB7 := Lib.hid (HB6.out.trans ((show Below w6.heap.size w6 w7 from ⟨hg7.os, hg7.tape, hg7.output, hg7.size, fun k hk => hg7.block k hk (by simp)⟩).mono HB6.out.size))
            clear hg7 HT HB6
            go_wp2
            go_ret
            exact ⟨rfl, HB7.out⟩
          · obtain rfl : o1 = 1 := by omega
            have hv0 : v ≠ 0 := HOe.out.2 rfl
            have hvb : (v != 0) = true := by simpa using hv0
            clear HOe
            go_wp2_with fail
            refine (HT.out _).mono ?_
            rintro e w7 ⟨rfl, hg7⟩
            have HB7 := Lib.hid (HB6.out.trans ((show Below w6.heap.size w6 w7 from ⟨hg7.os, hg7.tape, hg7.output, hg7.size, fun k hk => hg7.block k hk (by simp)⟩).mono HB6.out.size))
            clear hg7 HT HB6
            go_wp2
            go_ret
            exact ⟨rfl, HB7.out⟩
end Go.Proofs.YtlcffeiolpggfaaDoor

namespace Go.Proofs.YtlcffeiolpggfaaDoor.tradeEnds
open Go.ChangeShapes Go.WideShapes Go.ChangeAt Go.RowKit
set_option linter.unusedVariables false

theorem own : ownKnob Tryd.prog.godebug = none := by kernel_rfl
theorem laidOut : laidOutB Tryd.prog = true := by kernel_rfl
theorem tsize : Tryd.prog.types.size = 203 := by kernel_rfl

/-- What the listed variables give the walk. -/
theorem cw_of {W : World} (h : laidMetH Tryd.prog Rows.tradeEndsRow.laid W) : CW W := by
  have h' : laidMet Tryd.prog (Rows.tradeEndsRow.laid.filter fun x => x.2.handleName?.isNone) W ∧ handlesMet Tryd.prog (Rows.tradeEndsRow.laid.filter fun x => x.2.handleName?.isSome) W := h
  exact cw_of_laid h'.1 (List.mem_filter.2 ⟨.tail _ (.head _), rfl⟩)

/-- So many blocks has the settled world. -/
noncomputable def low : Nat := (World.holding Tryd.prog default ⟨#[], #[], []⟩).heap.size
def put (o : Obj) (cs : Array Value) : Obj := match o with
  | .cells _ t frozen => .cells cs t frozen
  | o => o
def tab (k : IntKind) (zs : List Int) : Array Value := (zs.map fun z => Value.int k z).toArray
/-- A world that meets the condition. -/
noncomputable def laidWorld (os : Os) : World :=
  let w0 := World.holding Tryd.prog os ⟨#[], #[], []⟩
  { w0 with heap := ((w0.heap.modify 1 (put · #[.iface 157 (.agg #[.pointer (some ⟨2, 39, none⟩)])])).modify 0 (put · formCells)) }
theorem laidWorld_met (os : Os) (args : Array Value) : laidMetH Tryd.prog Rows.tradeEndsRow.laid ((laidWorld os).forCall (fun _ _ => 0) ⟨#[], args, []⟩).memory :=
  laidMetH_of_parts (LaidIn.of_run [0] 8 (by kernel_rfl) (by kernel_rfl) (by kernel_rfl) (by kernel_rfl)).met (by kernel_rfl)

/-- The walk. -/
theorem walk (a0 : Option Addr) (len0 cap0 : Nat) (nods0 : List (List Int)) (a1 : Option Addr) (len1 cap1 : Nat) (nods1 : List (Int × Bool)) (w : World) (hw : CW w) (N0 : IRows w w.heap.size a0 len0 nods0) (I0 : len0 ≤ cap0) (N1 : Moves w w.heap.size a1 len1 nods1) (I1 : True) :
    Calls Tryd.prog 4 #[.slice a0 len0 cap0, .slice a1 len1 cap1] w fun e w' => e = .returned (.bool true) ∧ Below w.heap.size w w' := by
  exact tradeEnds_any hw a0 len0 cap0 nods0 N0 I0 a1 len1 cap1 nods1 N1

set_option maxRecDepth 100000 in
theorem lifted (os : Os) (started : os.Started) (H : Type) (enc : TypeId × Value → H) :
    ReturnsInHanded {} Tryd.checked os 4 .any (fun w args => (Rows.tradeEndsSpec.pre enc Tryd.prog Tryd.f4 [] false w args ∧ laidMetH Tryd.prog Rows.tradeEndsRow.laid w) ∧ sizedMet enc Tryd.prog Tryd.f4 (OpenSpec.ofChange Rows.tradeEndsSpec) false w args)
      (Rows.tradeEndsSpec.post enc Tryd.prog Tryd.f4 false true false false) := by
  refine returnsInHanded_of_change_and (C := Tryd.checked) (X := fun w _ => laidMetH Tryd.prog Rows.tradeEndsRow.laid w) (fun _ _ _ hh h => h.of_heap hh) own started (by kernel_rfl) Tryd.func4
    (ChangeSpec.witness_at (enc := enc) (C := Tryd.checked) (os := os) (X := fun w _ => laidMetH Tryd.prog Rows.tradeEndsRow.laid w) false (laidWorld os) #[.slice none 0 0, .slice none 0 0] 8 rfl (by kernel_rfl) (by kernel_rfl) (by kernel_rfl) (by kernel_rfl) (by kernel_rfl) (laidWorld_met os _)) ?_
  intro W base args ds gs before hval0 hW _ _ hL _
  have hval : ∀ (j : Nat) t v, Tryd.f4.params[j]? = some t → args[j]? = some v → Value.okWide Tryd.prog W .any base t v := hval0
  have hW' := hW
  obtain ⟨p, q, hA0, hV0, rfl, hfz, hnd⟩ := hW
  have hA : DataW.TrodAll enc Tryd.prog W 0 (fun _ => true) true Tryd.f4.params.toList args.toList ds p := hA0
  have hV : DataW.TrodVars enc Tryd.prog W (fun _ => true) [] gs q := hV0
  rw [Tryd.params4] at hA hval
  obtain ⟨v0, vs0, d0, ds0, p0, q0, hargs, rfl, rfl, h0, r0⟩ := trodAll_cons hA
  obtain ⟨v1, vs1, d1, ds1, p1, q1, rfl, rfl, rfl, h1, r1⟩ := trodAll_cons r0
  obtain ⟨rfl, rfl, rfl⟩ := trodAll_nil r1
  obtain rfl : args = #[v0, v1] := by cases args; simp_all
  obtain ⟨rfl, rfl⟩ : gs = [] ∧ q = [] := by
    cases gs with
    | nil => exact ⟨rfl, hV⟩
    | cons g r => exact absurd hV (by intro h; cases h)
  obtain ⟨a0, len0, cap0, rfl⟩ := okWide_slice Tryd.underlying22 (hval 0 22 v0 rfl rfl)
  have k0 := h0
  have lt0 : ∀ x ∈ p0, x.block < W.heap.size := by obtain ⟨m, hm⟩ := k0; exact DataW.trod_lt m _ _ _ hm
  obtain ⟨nods0, N0, I0⟩ : ∃ nods, IRows W W.heap.size a0 len0 nods ∧ len0 ≤ cap0 := by
    obtain ⟨fuel, hf⟩ := h0
    obtain ⟨ls, hl⟩ := intss_of (a := a0) (len := len0) (cap := cap0) hf; exact ⟨ls, hl, cap_slice Tryd.underlying22 hf⟩
  obtain ⟨a1, len1, cap1, rfl⟩ := okWide_slice Tryd.underlying23 (hval 1 23 v1 rfl rfl)
  have k1 := h1
  have lt1 : ∀ x ∈ p1, x.block < W.heap.size := by obtain ⟨m, hm⟩ := k1; exact DataW.trod_lt m _ _ _ hm
  obtain ⟨nods1, N1, I1⟩ : ∃ nods, Moves W W.heap.size a1 len1 nods ∧ True := by
    obtain ⟨fuel, hf⟩ := h1
    obtain ⟨l, hl⟩ := moves_of (a := a1) (len := len1) (cap := cap1) hf; exact ⟨l, hl, trivial⟩
  have hw := cw_of hL
  clear hA0 hval0
  refine (walk a0 len0 cap0 nods0 a1 len1 cap1 nods1 W hw N0 I0 N1 I1).mono fun e W' ⟨he, bel⟩ => ?_
  subst he
  exact ⟨_, rfl, _, _, _, [], _, [], hW', trodAll_mk1 (shut_bool Tryd.underlying4 _), (trodAll_cons_mk (Below.trod laidOut (by kernel_rfl) (of_decide_eq_true (by kernel_rfl)) k0 bel lt0) (trodAll_cons_mk (Below.trod laidOut (by kernel_rfl) (of_decide_eq_true (by kernel_rfl)) k1 bel lt1) trodAll_mk0)), rfl, bel.frame _, fun h => by cases h⟩

theorem over : Rows.TradeEndsSaid :=
  OpenClaim.holds_of_wide 4 Tryd.f4 rfl rfl rfl rfl rfl rfl rfl ⟨rfl, rfl, rfl, rfl, rfl⟩ rfl rfl rfl rfl rfl (by kernel_rfl) Tryd.func4 (by kernel_rfl)
    (of_decide_eq_true (by kernel_rfl)) (by unfold Func.isWrapper; first | (rw [if_pos (by decide +kernel)]; kernel_rfl) | (rw [if_neg (by decide +kernel)]; exact ⟨rfl, rfl⟩))
    (fun os started H enc _ => lifted os started H enc)

/-- The given statement: the tied card. -/
theorem proved : Rows.TradeEndsCardSaid :=
  Claim7.holds_tied_plain_at .later [] [.handle, .data] true (true, "2b77dcc38a4182b78a73dd2631583c6f797fb6ae126ce060a626d783a5fb59f6") true
    over (fun _ h => by cases h) (by kernel_rfl) (fun _ h => by cases h) tradeEnds_row_tie rfl ⟨rfl, rfl⟩ (by kernel_rfl) rfl
    (fun f fn hf hfn => by
      obtain rfl : f = 4 := Option.some.inj ((show Tryd.prog.funcNamed "quadrille/quadrillekeep.TradeEnds" = some 4 by kernel_rfl).symm.trans hf) |>.symm
      obtain rfl : fn = Tryd.f4 := (Option.some.inj (Tryd.func4.symm.trans hfn)).symm
      refine ⟨by kernel_rfl, fun j t ht => ?_⟩
      rw [Tryd.params4] at ht
      have hm : t ∈ [22, 23] := by
        have := Array.mem_of_getElem? ht
        simpa using this
      have hall : ([22, 23].all fun u => !Tryd.prog.wantsStandIn u) = true := by kernel_rfl
      exact (show Tryd.prog.wantsStandIn t = false by simpa using List.all_eq_true.1 hall t hm))
    (by kernel_rfl)
#print axioms proved
end Go.Proofs.YtlcffeiolpggfaaDoor.tradeEnds
