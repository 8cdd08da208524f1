/-
  One at a time: where one may, and each gives back what it took, at no act do two have it, and all come to their ends. No conditions.
-/
import Derived.Test.YtdfljhechmanlaaDoorQL8
import Derived.Test.YtdfljhechmanlaaDoorQK2
import Derived.Test.YtdfljhechmanlaaDoorRows
import Derived.Test.YtdfljhechmanlaaDoorCards
import Derived.Test.YtdfljhechmanlaaDoorTie
import Derived.WalkKit
import Derived.ProofKit
import Derived.OpenShut
import Derived.ChangeOld
import Derived.Below
import Derived.ChangeSame
import Derived.ChangeVars
import Derived.JoinedOf
import Derived.RowKitTokens
import Derived.LaidLaws
import Derived.LaidHandle
import Derived.Stop.Joined
import Derived.SevenTiedAt
import Derived.Lib.LaidTab
import Derived.Lib.LaidIn
import Derived.ChangeMaps5
import Derived.Test.YtdfljhechmanlaaDoorQE3
import Derived.Test.YtdfljhechmanlaaDoorQE
namespace Go.Proofs.YtdfljhechmanlaaDoor
set_option maxRecDepth 100000
open Go.RowKit Go.Shelf Go.Sort
set_option linter.unusedVariables false
set_option linter.unusedSimpArgs false

/-- Take, give, take, give, .. -/
def altL (t : Nat) : List Bool := (List.range (2 * t)).map fun k => k % 2 == 1
theorem altL_succ (t : Nat) : altL (t + 1) = altL t ++ [false, true] := by
  unfold altL
  rw [show 2 * (t + 1) = 2 * t + 1 + 1 by omega, List.range_succ, List.range_succ, List.map_append, List.map_append, List.append_assoc]
  have h0 : ((2 * t) % 2 == 1) = false := by simp
  have h1 : ((2 * t + 1) % 2 == 1) = true := by
    have : (2 * t + 1) % 2 = 1 := by omega
    rw [this]; rfl
  rw [List.map_cons, List.map_nil, List.map_cons, List.map_nil, h0, h1]
  rfl
theorem altL_len (t : Nat) : (altL t).length = 2 * t := by simp [altL]
theorem altL_at (t k : Nat) : (altL t)[k]? = if k < 2 * t then some (k % 2 == 1) else none := by
  unfold altL
  rw [List.getElem?_map]
  split
  · rw [List.getElem?_range (by assumption)]; rfl
  · rw [List.getElem?_eq_none (by simp; omega)]; rfl
theorem altL_alt (t : Nat) : Alt (altL t) where
  zero h := by
    rw [altL_at] at h
    split at h
    · injection h with h; cases h
    · cases h
  take k h := by
    rw [altL_at] at h
    split at h
    · injection h with h
      have h2 : k % 2 ≠ 1 := fun e => by rw [e] at h; cases h
      rw [altL_at, if_pos (by omega), show (k + 1) % 2 = 1 by omega]
      rfl
    · cases h
  give k h h2 := by
    rw [altL_at] at h h2
    split at h
    · injection h with h
      have h3 : k % 2 = 1 := by simpa using h
      split at h2
      · rw [show (k + 1) % 2 = 0 by omega] at h2
        injection h2 with h2
        cases h2
      · cases h2
    · cases h
def oneLs (n t : Nat) : List (List Bool) := List.replicate n (altL t)
theorem oneLs_len (n t : Nat) : (oneLs n t).length = n := List.length_replicate ..
theorem oneLs_at {n t u : Nat} (hu : u < n) : callsL (oneLs n t) u = altL t := by
  unfold callsL oneLs
  rw [List.getD_eq_getElem?_getD, List.getElem?_replicate, if_pos hu]
  rfl
theorem one_ok {n t : Nat} (hn : n ≤ 6) (ht : t ≤ 6) : SeOk 1 (oneLs n t) := ⟨by decide, by rw [oneLs_len]; omega, fun L hL => by
  rw [(List.mem_replicate.1 hL).2, altL_len]; omega⟩
def oneK {n t : Nat} (hn : n ≤ 6) (ht : t ≤ 6) : KindF semaF (oneLs n t).length (callsL (oneLs n t)) (fun c => ([((1 : Nat) : Int)] : List Int).getD c 0) :=
  (seK (one_ok hn ht)).more (fun S a _ => OneX (oneLs n t).length (callsL (oneLs n t)) S a)
    (onx_new fun u hu => by rw [oneLs_at (by rwa [oneLs_len] at hu)]; exact altL_alt t)
    (fun S a e s v hw hI hX hv _ _ => onx_step hI (fun u hu => by rw [oneLs_at (by rwa [oneLs_len] at hu)]; exact altL_alt t) hw hX hv s)
    (fun S a e v h => h)
theorem one_fact {n t : Nat} (hn : n ≤ 6) (ht : t ≤ 6) {l : List (Int × Bool)} (hp : pokesM l ≤ 500) {m' : Mach} (hf : Fin (behindM 20000 (newM (wholesK semaF (oneLs n t)) [((1 : Nat) : Int)]) l) m') :
    endsM m' = (true, false) ∧ m'.events.length = n * (2 * t) ∧ holdL m'.acts = some (-1) := by
  have hpot : (oneK hn ht).pot (newK fun c => ([((1 : Nat) : Int)] : List Int).getD c 0) ≤ 10600 := seK_pot (one_ok hn ht)
  have hpk : (oneK hn ht).pk = 4 := rfl
  rw [wholesK_at] at hf
  have h0 := ranF_new (K := oneK hn ht) rfl (fun v hv => by
    rw [List.mem_singleton.1 hv]
    exact ⟨by decide, by decide⟩)
  obtain ⟨S1, h1⟩ := ranF_moves l 0 _ _ h0 (by rw [hpk]; omega)
  rw [Nat.zero_add] at h1
  obtain ⟨S, hS, hq⟩ := ranF_fin (by rw [hpk]; omega) h1 hf
  have hI : SemI (oneLs n t).length (callsL (oneLs n t)) (1 : Nat) (seB 1 (oneLs n t)) S m'.acts m'.events := hS.inv.1
  obtain ⟨k1, k2⟩ := onx_over hI hS.sim.wf (fun u hu => by rw [oneLs_at (by rwa [oneLs_len] at hu)]; exact altL_alt t) hS.inv.2 hq
  refine ⟨ends_done fun u hu => ?_, ?_, k2⟩
  · have hu' : u < (oneLs n t).length := by rw [← hS.sim.plen]; exact hu
    rw [hS.ended hu']
    exact (k1 u hu').1
  · rw [ans_len (oneLs n t).length m'.events hI.evs]
    have e : (sumN (oneLs n t).length fun u => (ansOf m'.events u).length) = sumN (oneLs n t).length fun _ => 2 * t := Nat.le_antisymm
      (sumN_le fun u hu => by rw [hI.ans u hu, (k1 u hu).2, oneLs_at (by rwa [oneLs_len] at hu), altL_len]; exact Nat.le_refl _)
      (sumN_le fun u hu => by rw [hI.ans u hu, (k1 u hu).2, oneLs_at (by rwa [oneLs_len] at hu), altL_len]; exact Nat.le_refl _)
    rw [e, sumN_const, oneLs_len]
theorem hold_next {a : List Act6} {i : Nat} (h : holdL a = some (-1)) (hi : i < a.length) : ∃ q q', holdL (a.take i) = some q ∧ holdL (a.take (i + 1)) = some q' ∧ holdA q (a.getD i default) = some q' := by
  obtain ⟨q, hq⟩ := holdL_take h i
  obtain ⟨q', hq'⟩ := holdL_take h (i + 1)
  refine ⟨q, q', hq, hq', ?_⟩
  have e : a.take (i + 1) = a.take i ++ [a.getD i default] := by
    rw [List.take_add_one, List.getElem?_eq_getElem hi, Option.toList_some, List.getD_eq_getElem?_getD, List.getElem?_eq_getElem hi, Option.getD_some]
  rw [e, holdL_snoc, hq] at hq'
  exact hq'

set_option maxHeartbeats 4000000 in
theorem semaOne_any {w : World} (hw : CW w) (n times : Int) (D : Option Addr) (nm cm : Nat) (l : List (Int × Bool)) (hl : Moves w w.heap.size D nm l) :
    Calls Tryd.prog 9 #[.int .i64 n, .int .i64 times, .slice D nm cm] w fun e w' => e = .returned (.bool true) ∧ Below w.heap.size w w' := by
  have HLt := Lib.hid (counted_any hw)
  have HP := Lib.hid (fun w => pick_det n 6 6 w rfl (by decide) (by decide))
  have HP2 := Lib.hid (fun w => pick_det times 7 7 w rfl (by decide) (by decide))
  have p1 := pickI_lo n 6
  have p2 := pickI_hi n 6 (by decide)
  have p3 := pickI_lo times 7
  have p4 := pickI_hi times 7 (by decide)
  obtain ⟨f, hf⟩ : ∃ f : Nat, pickI n 6 = (f : Int) := ⟨(pickI n 6).toNat, by omega⟩
  obtain ⟨d, hd⟩ : ∃ d : Nat, pickI times 7 = (d : Int) := ⟨(pickI times 7).toNat, by omega⟩
  rw [hf] at HP p1 p2
  rw [hd] at HP2 p3 p4
  obtain ⟨N, hN⟩ : ∃ N : Nat, N = f + 1 := ⟨_, rfl⟩
  have hw1 : wrap64 (1 + (f : Int)) = (N : Int) := by unfold wrap64; omega
  have HN6 := Lib.hid (show N ≤ 6 ∧ d ≤ 6 by omega)
  have HMv := Lib.hid hl
  have HML := Lib.hid hl.len
  have HW := Lib.hid hw
  clear hl hw hf hd p1 p2 p3 p4 hN
  go_enter Tryd.func9, Tryd.ntmps9
  go_wp2_with fail
  refine HLt.out.mono ?_
  rintro e w1 ⟨rfl, hb1⟩
  have HB1 := Lib.hid hb1
  clear hb1 HLt
  by_cases h9 : 500 < nm
  · have h9' : (500 : Int) < (nm : Int) := by omega
    go_wp2
    go_ret
    exact ⟨rfl, HB1.out⟩
  have h9' : ¬ (500 : Int) < (nm : Int) := by omega
  have HN5 := Lib.hid (show nm ≤ 500 by omega)
  go_wp2_with fail
  refine (HP.out _).mono ?_
  rintro e w2 ⟨rfl, rfl⟩
  clear HP
  go_wp2_with fail
  refine (HP2.out _).mono ?_
  rintro e w2 ⟨rfl, rfl⟩
  clear HP2
  go_wp2
  --MARKA
  go_loopw [7, 26] (fun v j wr => ∃ k : Nat, k ≤ N ∧ j = .int .i64 k ∧ ∃ A c, v = .slice A k c ∧ SeNest w1 A k c (oneLs k d) wr) (fun _ j _ => N - (intOf j).toNat)
  case atStart => exact ⟨0, Nat.zero_le _, rfl, none, 0, rfl, Nest.nil _ _ _ w1⟩
  case round =>
    obtain ⟨k, hk, rfl, Av, cv, rfl, hNs⟩ := hrel
    by_cases hlt : k < N
    · have hkn : (k : Int) < (N : Int) := by omega
      have HNs := Lib.hid hNs
      have hk6 : k < 6 := by have := HN6.out; omega
      clear hNs
      go_wp2
      --MARKB
      go_loopw [8, 29] (fun v j w2 => ∃ i : Nat, i ≤ d ∧ j = .int .i64 i ∧ ∃ A c, v = .slice A (2 * i) c ∧ RowC wr A (2 * i) c ((altL i).map encS) w2) (fun _ j _ => d - (intOf j).toNat)
      case atStart => exact ⟨0, Nat.zero_le _, rfl, none, 0, rfl, RowC.nil _⟩
      case round =>
        obtain ⟨i, hi, rfl, Ac, cc, rfl, hRow⟩ := hrel
        by_cases hlt2 : i < d
        · have hin : (i : Int) < (d : Int) := by omega
          obtain ⟨A4, c4, w4, hr4, hR4⟩ := hRow.add #[.int .i64 3, .int .i64 0, .int .i64 4, .int .i64 0] 2 (r := [(3, 0), (4, 0)]) rfl rfl (by have := HN6.out; omega) (by decide)
          have e4 : (altL i).map encS ++ [(3, 0), (4, 0)] = (altL (i + 1)).map encS := by rw [altL_succ, List.map_append]; rfl
          rw [e4, show 2 * i + 2 = 2 * (i + 1) by omega] at hR4
          rw [show 2 * i + 2 = 2 * (i + 1) by omega] at hr4
          have HR4 := Lib.hid hR4
          have HRun := Lib.hid hr4
          have hi20 : i < 20 := by have := HN6.out; omega
          clear hRow hr4 hR4 e4
          go_wp2_with (at_builtin; refine Lib.wpList_append_run _ rfl _ _ _ _ rfl _ _ rfl rfl _ _ HRun.out ?_; clear HRun)
          go_roundw
          case rel => exact ⟨i + 1, by omega, by go_num, A4, c4, rfl, HR4.out⟩
          case measure => simp [intOf]; omega
        · have hin : ¬ (i : Int) < (d : Int) := by omega
          obtain rfl : i = d := by omega
          obtain ⟨A4, c4, w4, hr4, hN4⟩ := (HNs.out.grow hRow.bel).add (tS := 26) Tryd.underlying26 infoSCallM (by decide) hRow.own HNs.out.bel.size (by omega)
          have hN5 : SeNest w1 A4 (k + 1) c4 (oneLs (k + 1) i) w4 := by
            unfold SeNest
            have e : ((oneLs (k + 1) i).map (List.map encS)).map (fun (l : List (Int × Int)) => (l.length, cellsC l)) = ((oneLs k i).map (List.map encS)).map (fun (l : List (Int × Int)) => (l.length, cellsC l)) ++ [(2 * i, cellsC ((altL i).map encS))] := by
              unfold oneLs
              rw [List.replicate_succ', List.map_append, List.map_append]
              simp [altL_len]
            rw [e]
            exact hN4
          have HN5' := Lib.hid hN5
          have HRun := Lib.hid hr4
          clear hRow hr4 hN4 hN5 HNs
          go_wp2_with (at_builtin; refine Lib.wpList_append_run _ rfl _ _ _ _ rfl _ _ rfl rfl _ _ HRun.out ?_; clear HRun)
          go_roundw
          case rel => exact ⟨k + 1, by omega, by go_num, A4, c4, rfl, HN5'.out⟩
          case measure => simp [intOf]; omega
    · have hkn : ¬ (k : Int) < (N : Int) := by omega
      obtain rfl : k = N := by omega
      rename_i wr
      have hb2 := hNs.bel
      have hok := one_ok HN6.out.1 HN6.out.2
      have HMd := Lib.hid (semade3 (HW.out.old HB1.out) hb2 hok Av D k cv nm cm hNs.calls l (HMv.out.old HB1.out) HN5.out)
      have HB2 := Lib.hid hb2
      clear hNs hb2 HMv h9 h9'
      go_wp2_with fail
      --MARKC
      refine HMd.out.mono ?_
      rintro e w3 ⟨c, m, rfl, hA, hm0⟩
      have HF := Lib.hid (at_finish hA.at_ hA.big)
      have HM0 := Lib.hid hm0
      clear hA HMd hm0
      go_wp2_with fail
      refine HF.out.mono ?_
      rintro e w4 ⟨m', hf, rfl, hA2, hb2⟩
      rw [HM0.out] at hf
      obtain ⟨f1, f2, f3⟩ := one_fact HN6.out.1 HN6.out.2 (by have := pokesM_le l; have := HML.out; have := HN5.out; omega) hf
      generalize ((m'.steps : Int) - (m.steps : Int)) = dd
      have HA2 := Lib.hid hA2
      have HAc := Lib.hid (at_acts hA2 (by have := hb2.acts; have := hb2.most; omega))
      have HLa := Lib.hid (by have := hb2.acts; have := hb2.most; omega : m'.acts.length ≤ 20000)
      have HFew := Lib.hid hb2.few
      have HFx := Lib.hid (And.intro f1 f2)
      have HHo := Lib.hid f3
      clear hf hA2 hb2 HF HM0 f1 f2 f3
      go_wp2_with fail
      refine HAc.out.mono ?_
      rintro e w5 ⟨A5, c5, rfl, ho5, hg5⟩
      have HA5 := Lib.hid (HA2.out.grow hg5)
      have HR5 := Lib.hid (actRow_own ho5 rfl)
      clear ho5 hg5 HAc HA2
      obtain ⟨ac, hac⟩ : ∃ ac, m'.acts = ac := ⟨_, rfl⟩
      rw [hac] at HR5 HLa HHo ⊢
      clear hac
      obtain ⟨na, hna⟩ : ∃ na, ac.length = na := ⟨_, rfl⟩
      rw [hna] at HR5 HLa ⊢
      have HNa := Lib.hid hna
      clear hna
      go_wp2
      --MARKD
      go_loopw [10, 53] (fun s j w8 => ∃ (i : Nat) (q : Int), i ≤ na ∧ j = .int .i64 i ∧ s = .int .i64 q ∧ holdL (ac.take i) = some q ∧ Below w5.heap.size w5 w8) (fun _ j _ => na - (intOf j).toNat)
      case atStart => exact ⟨0, -1, Nat.zero_le _, rfl, rfl, rfl, Below.refl _ _⟩
      case round =>
        obtain ⟨i, q, hi, rfl, rfl, hq, hm8⟩ := hrel
        by_cases hlt2 : i < na
        · have hin : (i : Int) < (na : Int) := by omega
          obtain ⟨b, off2, hA, x0, x1, x2, x3, x4, x5⟩ := (HR5.out.below hm8) i hlt2
          subst hA
          have hi20 : i < 20000 := by have := HLa.out; omega
          have HM8 := Lib.hid (fun o => hm8.alloc hm8.size o)
          obtain ⟨q1, q2, e1, e2, e3⟩ := hold_next HHo.out (i := i) (by rw [HNa.out]; exact hlt2)
          rw [hq] at e1
          injection e1 with e1
          subst e1
          have HQ2 := Lib.hid e2
          clear hm8 hq e2
          generalize ac.getD i default = x at *
          obtain ⟨v0, v1, v2, v3, v4, v5⟩ := x
          dsimp only at x0 x1 x2 x3 x4 x5
          unfold holdA at e3
          dsimp only at e3
          by_cases h9 : v2 = 9
          · subst h9
            by_cases he : v4 = v5
            · subst he
              have hne : (v4 != v4) = false := by simp
              rw [if_neg (fun h => h.2 rfl), if_neg (by decide)] at e3
              injection e3 with e3
              subst e3
              go_wp2
              go_roundw
              case rel => exact ⟨i + 1, _, by omega, by go_num, rfl, HQ2.out, HM8.out _⟩
              case measure => simp [intOf]; omega
            · have hne : (v4 != v5) = true := by simp [he]
              rw [if_pos ⟨rfl, he⟩] at e3
              by_cases h0 : 0 ≤ q
              · rw [if_pos h0] at e3; cases e3
              · rw [if_neg h0] at e3
                injection e3 with e3
                subst e3
                clear he
                go_wp2
                --MARKE
                go_roundw
                case rel => exact ⟨i + 1, _, by omega, by go_num, rfl, HQ2.out, HM8.out _⟩
                case measure => simp [intOf]; omega
          · have hb9 : (v2 == 9) = false := by simp [h9]
            rw [if_neg (fun h => h9 h.1)] at e3
            by_cases h8 : v2 = 8
            · subst h8
              rw [if_pos rfl] at e3
              by_cases hqv : q = v1
              · subst hqv
                rw [if_neg (fun h => h rfl)] at e3
                injection e3 with e3
                subst e3
                have hqq : (q != q) = false := by simp
                clear h9
                go_wp2
                go_roundw
                case rel => exact ⟨i + 1, _, by omega, by go_num, rfl, HQ2.out, HM8.out _⟩
                case measure => simp [intOf]; omega
              · rw [if_pos hqv] at e3; cases e3
            · have hb8 : (v2 == 8) = false := by simp [h8]
              rw [if_neg h8] at e3
              injection e3 with e3
              subst e3
              clear h8 h9
              go_wp2
              go_roundw
              case rel => exact ⟨i + 1, _, by omega, by go_num, rfl, HQ2.out, HM8.out _⟩
              case measure => simp [intOf]; omega
        · have hin : ¬ (i : Int) < (na : Int) := by omega
          obtain rfl : i = na := by omega
          have hA8 := HA5.out.keepB hm8
          rw [List.take_of_length_le (by rw [HNa.out]; exact Nat.le_refl _), HHo.out] at hq
          injection hq with hq
          subst hq
          have HE := Lib.hid (at_ends hA8 HFew.out)
          rw [HFx.out.1] at HE
          have HA8 := Lib.hid hA8
          obtain ⟨z, hz⟩ : ∃ z : Nat, k * (2 * d) = z := ⟨_, rfl⟩
          obtain ⟨g2, hg2⟩ : ∃ g2 : Nat, 2 * k = g2 := ⟨_, rfl⟩
          have hz72 : z ≤ 72 := by
            rw [← hz]
            have h1 : k * (2 * d) ≤ 6 * 12 := Nat.mul_le_mul HN6.out.1 (by have := HN6.out.2; omega)
            omega
          have hgd : g2 * d = z := by rw [← hz, ← hg2, Nat.mul_comm 2 k, Nat.mul_assoc]
          have hgi : (g2 : Int) * (d : Int) = (z : Int) := by exact_mod_cast hgd
          have w1' : wrap64 (2 * (k : Int)) = (g2 : Int) := by have := HN6.out; unfold wrap64; omega
          have w2' : wrap64 ((g2 : Int) * (d : Int)) = (z : Int) := by rw [hgi]; unfold wrap64; omega
          have HEv0 := Lib.hid (show m'.events.length = z from HFx.out.2.trans hz)
          have hz20 := hz72
          clear hA8 hm8 hz hg2 hgd hgi hz72
          go_wp2_with fail
          refine HE.out.mono ?_
          rintro e w9 ⟨rfl, hg9⟩
          have HA9 := Lib.hid (HA8.out.grow hg9)
          have HEv := Lib.hid (at_events HA9.out (by rw [HEv0.out]; omega))
          rw [HEv0.out] at HEv
          clear hg9 HE HA8
          go_wp2_with fail
          --MARKF
          refine HEv.out.mono ?_
          rintro e w10 ⟨A10, c10, rfl, -, hg10⟩
          have HB10 := Lib.hid (HB1.out.trans ((HB2.out.trans ((HA9.out.grow hg10).bel.mono HB2.out.size)).mono HB1.out.size))
          have hzz : ((z : Int) == (z : Int)) = true := by simp
          clear hg10 HEv HA9
          go_wp2
          --MARKG
          go_ret
          exact ⟨rfl, HB10.out⟩
end Go.Proofs.YtdfljhechmanlaaDoor

namespace Go.Proofs.YtdfljhechmanlaaDoor.semaOne
open Go.ChangeShapes Go.WideShapes Go.ChangeAt Go.RowKit
set_option linter.unusedVariables false

theorem own : ownKnob Tryd.prog.godebug = none := by kernel_rfl
theorem laidOut : laidOutB Tryd.prog = true := by kernel_rfl
theorem tsize : Tryd.prog.types.size = 214 := by kernel_rfl

/-- What the listed variables give the walk. -/
theorem cw_of {W : World} (h : laidMetH Tryd.prog Rows.semaOneRow.laid W) : CW W := by
  have h' : laidMet Tryd.prog (Rows.semaOneRow.laid.filter fun x => x.2.handleName?.isNone) W ∧ handlesMet Tryd.prog (Rows.semaOneRow.laid.filter fun x => x.2.handleName?.isSome) W := h
  exact cw_of_laid h'.1 (List.mem_filter.2 ⟨.tail _ (.head _), rfl⟩)

/-- So many blocks has the settled world. -/
noncomputable def low : Nat := (World.holding Tryd.prog default ⟨#[], #[], []⟩).heap.size
def put (o : Obj) (cs : Array Value) : Obj := match o with
  | .cells _ t frozen => .cells cs t frozen
  | o => o
def tab (k : IntKind) (zs : List Int) : Array Value := (zs.map fun z => Value.int k z).toArray
/-- A world that meets the condition. -/
noncomputable def laidWorld (os : Os) : World :=
  let w0 := World.holding Tryd.prog os ⟨#[], #[], []⟩
  { w0 with heap := ((w0.heap.modify 1 (put · #[.iface 172 (.agg #[.pointer (some ⟨2, 36, none⟩)])])).modify 0 (put · formCells)) }
theorem laidWorld_met (os : Os) (args : Array Value) : laidMetH Tryd.prog Rows.semaOneRow.laid ((laidWorld os).forCall (fun _ _ => 0) ⟨#[], args, []⟩).memory :=
  laidMetH_of_parts (LaidIn.of_run [0] 8 (by kernel_rfl) (by kernel_rfl) (by kernel_rfl) (by kernel_rfl)).met (by kernel_rfl)

/-- The walk. -/
theorem walk (a0 : Int) (a1 : Int) (a2 : Option Addr) (len2 cap2 : Nat) (nods2 : List (Int × Bool)) (w : World) (hw : CW w) (N2 : Moves w w.heap.size a2 len2 nods2) (I2 : True) :
    Calls Tryd.prog 9 #[.int .i64 a0, .int .i64 a1, .slice a2 len2 cap2] w fun e w' => e = .returned (.bool true) ∧ Below w.heap.size w w' := by
  exact semaOne_any hw a0 a1 a2 len2 cap2 nods2 N2

set_option maxRecDepth 100000 in
theorem lifted (os : Os) (started : os.Started) (H : Type) (enc : TypeId × Value → H) :
    ReturnsInHanded {} Tryd.checked os 9 .any (fun w args => (Rows.semaOneSpec.pre enc Tryd.prog Tryd.f9 [] false w args ∧ laidMetH Tryd.prog Rows.semaOneRow.laid w) ∧ sizedMet enc Tryd.prog Tryd.f9 (OpenSpec.ofChange Rows.semaOneSpec) false w args)
      (Rows.semaOneSpec.post enc Tryd.prog Tryd.f9 false true false false) := by
  refine returnsInHanded_of_change_and (C := Tryd.checked) (X := fun w _ => laidMetH Tryd.prog Rows.semaOneRow.laid w) (fun _ _ _ hh h => h.of_heap hh) own started (by kernel_rfl) Tryd.func9
    (ChangeSpec.witness_at (enc := enc) (C := Tryd.checked) (os := os) (X := fun w _ => laidMetH Tryd.prog Rows.semaOneRow.laid w) false (laidWorld os) #[.int .i64 0, .int .i64 0, .slice none 0 0] 8 rfl (by kernel_rfl) (by kernel_rfl) (by kernel_rfl) (by kernel_rfl) (by kernel_rfl) (laidWorld_met os _)) ?_
  intro W base args ds gs before hval0 hW _ _ hL _
  have hval : ∀ (j : Nat) t v, Tryd.f9.params[j]? = some t → args[j]? = some v → Value.okWide Tryd.prog W .any base t v := hval0
  have hW' := hW
  obtain ⟨p, q, hA0, hV0, rfl, hfz, hnd⟩ := hW
  have hA : DataW.TrodAll enc Tryd.prog W 0 (fun _ => true) true Tryd.f9.params.toList args.toList ds p := hA0
  have hV : DataW.TrodVars enc Tryd.prog W (fun _ => true) [] gs q := hV0
  rw [Tryd.params9] at hA hval
  obtain ⟨v0, vs0, d0, ds0, p0, q0, hargs, rfl, rfl, h0, r0⟩ := trodAll_cons hA
  obtain ⟨v1, vs1, d1, ds1, p1, q1, rfl, rfl, rfl, h1, r1⟩ := trodAll_cons r0
  obtain ⟨v2, vs2, d2, ds2, p2, q2, rfl, rfl, rfl, h2, r2⟩ := trodAll_cons r1
  obtain ⟨rfl, rfl, rfl⟩ := trodAll_nil r2
  obtain rfl : args = #[v0, v1, v2] := by cases args; simp_all
  obtain ⟨rfl, rfl⟩ : gs = [] ∧ q = [] := by
    cases gs with
    | nil => exact ⟨rfl, hV⟩
    | cons g r => exact absurd hV (by intro h; cases h)
  obtain ⟨a0, rfl, rfl, rfl, w0⟩ := open_int Tryd.underlying3 (hval 0 3 v0 rfl rfl) h0
  obtain ⟨a1, rfl, rfl, rfl, w1⟩ := open_int Tryd.underlying3 (hval 1 3 v1 rfl rfl) h1
  obtain ⟨a2, len2, cap2, rfl⟩ := okWide_slice Tryd.underlying23 (hval 2 23 v2 rfl rfl)
  have k2 := h2
  have lt2 : ∀ x ∈ p2, x.block < W.heap.size := by obtain ⟨m, hm⟩ := k2; exact DataW.trod_lt m _ _ _ hm
  obtain ⟨nods2, N2, I2⟩ : ∃ nods, Moves W W.heap.size a2 len2 nods ∧ True := by
    obtain ⟨fuel, hf⟩ := h2
    obtain ⟨l, hl⟩ := moves_of (a := a2) (len := len2) (cap := cap2) hf; exact ⟨l, hl, trivial⟩
  have hw := cw_of hL
  clear hA0 hval0
  refine (walk a0 a1 a2 len2 cap2 nods2 W hw N2 I2).mono fun e W' ⟨he, bel⟩ => ?_
  subst he
  exact ⟨_, rfl, _, _, _, [], _, [], hW', trodAll_mk1 (shut_bool Tryd.underlying4 _), (trodAll_cons_mk (shut_int Tryd.underlying3 w0) (trodAll_cons_mk (shut_int Tryd.underlying3 w1) (trodAll_cons_mk (Below.trod laidOut (by kernel_rfl) (of_decide_eq_true (by kernel_rfl)) k2 bel lt2) trodAll_mk0))), rfl, bel.frame _, fun h => by cases h⟩

theorem over : Rows.SemaOneSaid :=
  OpenClaim.holds_of_wide 9 Tryd.f9 rfl rfl rfl rfl rfl rfl rfl ⟨rfl, rfl, rfl, rfl, rfl⟩ rfl rfl rfl rfl rfl (by kernel_rfl) Tryd.func9 (by kernel_rfl)
    (of_decide_eq_true (by kernel_rfl)) (by unfold Func.isWrapper; first | (rw [if_pos (by decide +kernel)]; kernel_rfl) | (rw [if_neg (by decide +kernel)]; exact ⟨rfl, rfl⟩))
    (fun os started H enc _ => lifted os started H enc)

/-- The given statement: the tied card. -/
theorem proved : Rows.SemaOneCardSaid :=
  Claim7.holds_tied_plain_at .later [] [.handle, .data] true (true, "d47da573c139323a2d3ffb97e069444c56f44381508be9b6753f4f5b74787098") true
    over (fun _ h => by cases h) (by kernel_rfl) (fun _ h => by cases h) semaOne_row_tie rfl ⟨rfl, rfl⟩ (by kernel_rfl) rfl
    (fun f fn hf hfn => by
      obtain rfl : f = 9 := Option.some.inj ((show Tryd.prog.funcNamed "quadrille/quadrillekeep.SemaOne" = some 9 by kernel_rfl).symm.trans hf) |>.symm
      obtain rfl : fn = Tryd.f9 := (Option.some.inj (Tryd.func9.symm.trans hfn)).symm
      refine ⟨by kernel_rfl, fun j t ht => ?_⟩
      rw [Tryd.params9] at ht
      have hm : t ∈ [3, 3, 23] := by
        have := Array.mem_of_getElem? ht
        simpa using this
      have hall : ([3, 3, 23].all fun u => !Tryd.prog.wantsStandIn u) = true := by kernel_rfl
      exact (show Tryd.prog.wantsStandIn t = false by simpa using List.all_eq_true.1 hall t hm))
    (by kernel_rfl)
#print axioms proved
end Go.Proofs.YtdfljhechmanlaaDoor.semaOne
