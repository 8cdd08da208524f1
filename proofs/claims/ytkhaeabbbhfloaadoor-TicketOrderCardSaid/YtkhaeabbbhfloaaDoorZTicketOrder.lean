/-
  WHO CAME FIRST IS FIRST: a lock with tickets is freed by whoever drew the tickets, in just the order in which they were drawn: so at all arguments.
-/
import Derived.Test.YtkhaeabbbhfloaaDoorQP
import Derived.Test.YtkhaeabbbhfloaaDoorRows
import Derived.Test.YtkhaeabbbhfloaaDoorCards
import Derived.Test.YtkhaeabbbhfloaaDoorTie
import Derived.WalkKit
import Derived.ProofKit
import Derived.OpenShut
import Derived.ChangeOld
import Derived.Below
import Derived.ChangeSame
import Derived.ChangeVars
import Derived.JoinedOf
import Derived.RowKitTokens
import Derived.LaidLaws
import Derived.LaidHandle
import Derived.Stop.Joined
import Derived.SevenTiedAt
import Derived.Lib.LaidTab
import Derived.Lib.LaidIn
import Derived.ChangeMaps5
import Derived.Test.YtkhaeabbbhfloaaDoorQE3
import Derived.Test.YtkhaeabbbhfloaaDoorQE
namespace Go.Proofs.YtkhaeabbbhfloaaDoor
set_option maxRecDepth 100000
open Go.RowKit Go.Shelf Go.Sort
set_option linter.unusedVariables false
set_option linter.unusedSimpArgs false

theorem drewA_few (a : List Act6) : (drewA a).length ≤ a.length := by
  unfold drewA
  rw [List.length_map]
  exact List.length_filter_le _ _
theorem freedA_few (a : List Act6) : (freedA a).length ≤ a.length := by
  unfold freedA
  rw [List.length_map]
  exact List.length_filter_le _ _
set_option maxHeartbeats 4000000 in
theorem ticketOrder_any {w : World} (hw : CW w) (n times : Int) (D : Option Addr) (nm cm : Nat) (l : List (Int × Bool)) (hl : Moves w w.heap.size D nm l) (done : Bool) :
    Calls Tryd.prog 6 #[.int .i64 n, .int .i64 times, .slice D nm cm, .bool done] w fun e w' => e = .returned (.bool true) ∧ Below w.heap.size w w' := by
  have HLt := Lib.hid (ticketed_any hw)
  have HP := Lib.hid (fun w => pick_det n 8 8 w rfl (by decide) (by decide))
  have HP2 := Lib.hid (fun w => pick_det times 6 6 w rfl (by decide) (by decide))
  have p1 := pickI_lo n 8
  have p2 := pickI_hi n 8 (by decide)
  have p3 := pickI_lo times 6
  have p4 := pickI_hi times 6 (by decide)
  obtain ⟨f, hf⟩ : ∃ f : Nat, pickI n 8 = (f : Int) := ⟨(pickI n 8).toNat, by omega⟩
  obtain ⟨d, hd⟩ : ∃ d : Nat, pickI times 6 = (d : Int) := ⟨(pickI times 6).toNat, by omega⟩
  rw [hf] at HP p1 p2
  rw [hd] at HP2 p3 p4
  obtain ⟨N, hN⟩ : ∃ N : Nat, N = f + 1 := ⟨_, rfl⟩
  have hw1 : wrap64 (1 + (f : Int)) = (N : Int) := by unfold wrap64; omega
  have HN8 := Lib.hid (show N ≤ 8 ∧ d ≤ 5 by omega)
  have HMv := Lib.hid hl
  have HML := Lib.hid hl.len
  have HW := Lib.hid hw
  clear hl hw hf hd p1 p2 p3 p4 hN
  go_enter Tryd.func6, Tryd.ntmps6
  go_wp2_with fail
  refine HLt.out.mono ?_
  rintro e w1 ⟨rfl, hb1⟩
  have HB1 := Lib.hid hb1
  clear hb1 HLt
  by_cases h9 : 600 < nm
  · have h9' : (600 : Int) < (nm : Int) := by omega
    go_wp2
    go_ret
    exact ⟨rfl, HB1.out⟩
  have h9' : ¬ (600 : Int) < (nm : Int) := by omega
  have HN6 := Lib.hid (show nm ≤ 600 by omega)
  go_wp2_with fail
  refine (HP.out _).mono ?_
  rintro e w2 ⟨rfl, rfl⟩
  clear HP
  go_wp2_with fail
  refine (HP2.out _).mono ?_
  rintro e w2 ⟨rfl, rfl⟩
  clear HP2
  go_wp2_with fail
  --MARKA
  refine (lockers_any N d HN8.out.1 HN8.out.2 w1).mono ?_
  rintro e wr ⟨Av, cv, rfl, hNs⟩
  have hb2 := hNs.bel
  have HMd := Lib.hid (timade3 (HW.out.old HB1.out) hb2 (loLs N d) (by rw [loLs_len]; have := HN8.out.1; omega) (loLs_few HN8.out.2) Av D N cv nm cm hNs.calls l (HMv.out.old HB1.out) (by have := HN6.out; omega))
  have HB2 := Lib.hid hb2
  have HPk := Lib.hid (show pokesM l ≤ 600 by have := pokesM_le l; have := HML.out; have := HN6.out; omega)
  clear hNs hb2 HMv h9 h9' hw1
  go_wp2_with fail
  --MARKC
  refine HMd.out.mono ?_
  rintro e w3 ⟨c, rfl, hA⟩
  have hbig := hA.big
  have hat := hA.at_
  clear hA HMd
  cases done
  · obtain ⟨mm, hmm⟩ : ∃ mm, behindM 20000 (newM ((loLs N d).map (wholeK tickF)) [0, 0]) l = mm := ⟨_, rfl⟩
    have hz : (freedA mm.acts).length ≤ (drewA mm.acts).length ∧ freedA mm.acts = (drewA mm.acts).take (freedA mm.acts).length := ti_pre HN8.out.1 HN8.out.2 HPk.out mm (.inl hmm.symm)
    rw [hmm] at hbig hat
    have hA2 := hat
    have hb2 := hbig
    clear hmm hat hbig
    have HLa := Lib.hid (by have := hb2.acts; have := hb2.most; omega : mm.acts.length ≤ 20000)
    have HAc := Lib.hid (at_acts hA2 HLa.out)
    have HA2 := Lib.hid hA2
    have HHo := Lib.hid hz
    clear hA2 hb2 hz
    go_wp2_with fail
    refine HAc.out.mono ?_
    rintro e w5 ⟨A5, c5, rfl, ho5, hg5⟩
    have HA5 := Lib.hid (HA2.out.grow hg5)
    have HR5 := Lib.hid (actRow_own ho5 rfl)
    clear ho5 hg5 HAc HA2
    obtain ⟨ac, hac⟩ : ∃ ac, mm.acts = ac := ⟨_, rfl⟩
    rw [hac] at HR5 HLa HHo ⊢
    clear hac
    obtain ⟨na, hna⟩ : ∃ na, ac.length = na := ⟨_, rfl⟩
    rw [hna] at HR5 HLa ⊢
    have HNa := Lib.hid hna
    clear hna
    go_wp2
    --MARKD
    go_loopw [10, 11, 38] (fun s s2 j w8 => ∃ (i : Nat) (A : Option Addr) (c : Nat) (D : Option Addr) (e : Nat), i ≤ na ∧ j = .int .i64 i ∧ s = .slice A (drewA (ac.take i)).length c ∧ s2 = .slice D (freedA (ac.take i)).length e ∧ TwoR w5 A c (drewA (ac.take i)) D e (freedA (ac.take i)) w8) (fun _ _ j _ => na - (intOf j).toNat)
    case atStart => exact ⟨0, none, 0, none, 0, Nat.zero_le _, rfl, rfl, rfl, TwoR.nil w5⟩
    case round =>
      obtain ⟨i, A, c1, D, e1, hi, rfl, rfl, rfl, hT⟩ := hrel
      by_cases hlt2 : i < na
      · have hin : (i : Int) < (na : Int) := by omega
        obtain ⟨b, off2, hA, x0, x1, x2, x3, x4, x5⟩ := (HR5.out.below hT.bel) i hlt2
        subst hA
        have hi20 : i < 20000 := by have := HLa.out; omega
        have htk : ac.take (i + 1) = ac.take i ++ [ac.getD i default] := by
          rw [List.take_add_one, List.getElem?_eq_getElem (by rw [HNa.out]; exact hlt2), Option.toList_some, List.getD_eq_getElem?_getD, List.getElem?_eq_getElem (by rw [HNa.out]; exact hlt2), Option.getD_some]
        have hl1 : (drewA (ac.take i)).length ≤ 20000 := by
          refine Nat.le_trans (drewA_few _) ?_
          rw [List.length_take]; omega
        have hl2 : (freedA (ac.take i)).length ≤ 20000 := by
          refine Nat.le_trans (freedA_few _) ?_
          rw [List.length_take]; omega
        have hd1 := drewA_one (ac.take i) (ac.getD i default)
        have hd2 := freedA_one (ac.take i) (ac.getD i default)
        rw [← htk] at hd1 hd2
        have HT := Lib.hid (fun o => hT.grow (World.grownBy_alloc _ o none))
        have HOn := Lib.hid (fun b => hT.one.lt b)
        clear hT htk
        generalize ac.getD i default = x at *
        obtain ⟨v0, v1, v2, v3, v4, v5⟩ := x
        dsimp only at x0 x1 x2 x3 x4 x5 hd1 hd2
        generalize drewA (ac.take i) = l1 at *
        generalize freedA (ac.take i) = l2 at *
        by_cases h8 : v2 = 8
        · subst h8
          by_cases h30 : v3 = 0
          · subst h30
            rw [if_pos ⟨rfl, rfl⟩] at hd1
            rw [if_neg (by decide), List.append_nil] at hd2
            obtain ⟨A4, c4, w4, hr4, hT4, hk4⟩ := (HT.out (.cells #[.int .i64 v0, .int .i64 v1, .int .i64 8, .int .i64 0, .int .u64 v4, .int .u64 v5] 36)).fst v1 (by omega)
            rw [World.size_alloc] at hr4
            have HRun := Lib.hid hr4
            have HT4 := Lib.hid hT4
            have HD := Lib.hid (And.intro hd1 hd2)
            have hat4 := heap_alloc_new wr (.cells #[.int .i64 v0, .int .i64 v1, .int .i64 8, .int .i64 0, .int .u64 v4, .int .u64 v5] 36)
            have hb4 : w4.heap[wr.heap.size]? = some (.cells #[.int .i64 v0, .int .i64 v1, .int .i64 8, .int .i64 0, .int .u64 v4, .int .u64 v5] 36) := (hk4 wr.heap.size (by rw [World.size_alloc]; omega) (fun e => by have := (HOn.out _ e.symm).2; omega)).trans hat4
            have hx2 : w4.cell? ⟨wr.heap.size, 2, none⟩ = some (.int .i64 8) := (cell_of_row _ _ 2 _ _ _ hb4).trans rfl
            have hx3 : w4.cell? ⟨wr.heap.size, 3, none⟩ = some (.int .i64 0) := (cell_of_row _ _ 3 _ _ _ hb4).trans rfl
            clear hr4 hT4 hd1 hd2 HT hl1 hl2 hk4 hat4 hb4
            go_wp2_with (at_builtin; refine Lib.wpList_append_run _ rfl _ _ _ _ rfl _ _ rfl rfl _ _ HRun.out ?_; clear HRun)
            go_wp2
            go_roundw
            case rel => exact ⟨i + 1, A4, c4, D, e1, by omega, by go_num, by first | (rw [HD.out.1]; done) | (rw [HD.out.1, List.length_append]; rfl), by first | (rw [HD.out.2]; done) | (rw [HD.out.2, List.length_append]; rfl), by rw [HD.out.1, HD.out.2]; exact HT4.out⟩
            case measure => simp [intOf]; omega
          · have hb30 : (v3 == 0) = false := by simp [h30]
            rw [if_neg (fun h => h30 h.2), List.append_nil] at hd1
            by_cases h31 : v3 = 1
            · subst h31
              rw [if_pos ⟨rfl, rfl⟩] at hd2
              obtain ⟨A4, c4, w4, hr4, hT4, hk4⟩ := (HT.out (.cells #[.int .i64 v0, .int .i64 v1, .int .i64 8, .int .i64 1, .int .u64 v4, .int .u64 v5] 36)).snd v1 (by omega)
              rw [World.size_alloc] at hr4
              have HRun := Lib.hid hr4
              have HT4 := Lib.hid hT4
              have HD := Lib.hid (And.intro hd1 hd2)
              clear hr4 hT4 hd1 hd2 HT hl1 hl2 h30 hk4
              go_wp2_with (at_builtin; refine Lib.wpList_append_run _ rfl _ _ _ _ rfl _ _ rfl rfl _ _ HRun.out ?_; clear HRun)
              go_roundw
              case rel => exact ⟨i + 1, A, c1, A4, c4, by omega, by go_num, by first | (rw [HD.out.1]; done) | (rw [HD.out.1, List.length_append]; rfl), by first | (rw [HD.out.2]; done) | (rw [HD.out.2, List.length_append]; rfl), by rw [HD.out.1, HD.out.2]; exact HT4.out⟩
              case measure => simp [intOf]; omega
            · have hb31 : (v3 == 1) = false := by simp [h31]
              rw [if_neg (fun h => h31 h.2), List.append_nil] at hd2
              have HD := Lib.hid (And.intro hd1 hd2)
              clear hd1 hd2 hl1 hl2 h30 h31
              go_wp2
              go_roundw
              case rel => exact ⟨i + 1, A, c1, D, e1, by omega, by go_num, by first | (rw [HD.out.1]; done) | (rw [HD.out.1, List.length_append]; rfl), by first | (rw [HD.out.2]; done) | (rw [HD.out.2, List.length_append]; rfl), by rw [HD.out.1, HD.out.2]; exact HT.out _⟩
              case measure => simp [intOf]; omega
        · have hb8 : (v2 == 8) = false := by simp [h8]
          rw [if_neg (fun h => h8 h.1), List.append_nil] at hd1 hd2
          have HD := Lib.hid (And.intro hd1 hd2)
          clear hd1 hd2 hl1 hl2 h8
          go_wp2
          go_roundw
          case rel => exact ⟨i + 1, A, c1, D, e1, by omega, by go_num, by first | (rw [HD.out.1]; done) | (rw [HD.out.1, List.length_append]; rfl), by first | (rw [HD.out.2]; done) | (rw [HD.out.2, List.length_append]; rfl), by rw [HD.out.1, HD.out.2]; exact HT.out _⟩
          case measure => simp [intOf]; omega
      · have hin : ¬ (i : Int) < (na : Int) := by omega
        obtain rfl : i = na := by omega
        have HB8 := Lib.hid (fun w9 (hb : Below w5.heap.size w5 w9) => HB1.out.trans ((HB2.out.trans ((HA5.out.keepB hb).bel.mono HB2.out.size)).mono HB1.out.size))
        rw [List.take_of_length_le (by rw [HNa.out]; exact Nat.le_refl _)] at hT ⊢
        have hl1 : (drewA ac).length ≤ 20000 := Nat.le_trans (drewA_few _) (by rw [HNa.out]; exact HLa.out)
        obtain ⟨q1, q2⟩ := HHo.out
        have hT1 := Ints.of_own hT.one
        have hT2 := Ints.of_own hT.two
        have hTb := hT.bel
        generalize drewA ac = l1 at *
        generalize freedA ac = l2 at *
        have hI1 : Ints .i64 _ _ A l2.length l2 := ⟨rfl, fun h0 => by
          obtain ⟨b, off, hA, hb, hx⟩ := hT1.row (by omega)
          refine ⟨b, off, hA, hb, fun i hi => ?_⟩
          rw [hx i (by omega)]
          have e9 : l2[i]? = l1[i]? := (congrArg (fun x : List Int => x[i]?) q2).trans (by rw [List.getElem?_take, if_pos hi])
          rw [List.getD_eq_getElem?_getD, List.getD_eq_getElem?_getD, e9]⟩
        have hcap : l1.length ≤ c1 := by
          rcases hT.one.2 with ⟨h, h0⟩ | ⟨g, cap, cur, h, _, _, h2, _⟩
          · injection h with _ h1 _; omega
          · injection h with _ _ h3; omega
        obtain ⟨k1, hk1⟩ : ∃ k1, l1.length = k1 := ⟨_, rfl⟩
        obtain ⟨k2, hk2⟩ : ∃ k2, l2.length = k2 := ⟨_, rfl⟩
        rw [hk1] at q1 hcap hl1 ⊢
        rw [hk2] at hI1 hT2 q1 ⊢
        have hle : (k2 : Int) ≤ (k1 : Int) := by omega
        have hle2 : (k2 : Int) ≤ (c1 : Int) := by omega
        have HEq := Lib.hid (fun c d => equalI_same D A k2 c d l2 _ (by omega) _ hT2 hI1)
        have HTb := Lib.hid hTb
        have HK2 := Lib.hid hk2
        clear hT hT1 hT2 hTb hI1 q1 q2 hk1 hk2
        by_cases hz0 : c1 = 0
        · subst hz0
          obtain rfl : k1 = 0 := by omega
          obtain rfl : k2 = 0 := by omega
          go_wp2_with fail
          --MARKE
          refine (HEq.out _ _).mono ?_
          rintro e w9 ⟨rfl, q, rfl⟩
          have HB9 := Lib.hid (HB8.out (wr.drewN q) (HTb.out.grown (row := none) ⟨rfl, rfl, rfl, Nat.le_refl _, fun _ _ _ => rfl⟩ HTb.out.size (by intro k hk; cases hk)))
          go_wp2
          go_ret
          exact ⟨rfl, HB9.out⟩
        · have hz1 : ¬ (c1 : Int) = 0 := by omega
          go_wp2_with fail
          --MARKF
          refine (HEq.out _ _).mono ?_
          rintro e w9 ⟨rfl, q, rfl⟩
          have HB9 := Lib.hid (HB8.out (wr.drewN q) (HTb.out.grown (row := none) ⟨rfl, rfl, rfl, Nat.le_refl _, fun _ _ _ => rfl⟩ HTb.out.size (by intro k hk; cases hk)))
          go_wp2
          go_ret
          exact ⟨rfl, HB9.out⟩
  · have HF := Lib.hid (at_finish hat hbig)
    clear hat hbig
    go_wp2_with fail
    refine HF.out.mono ?_
    rintro e w4 ⟨mm, hf, rfl, hA2, hb2⟩
    obtain ⟨z, hz9⟩ : ∃ z : Nat, N * d = z := ⟨_, rfl⟩
    have hz40 : z ≤ 40 := by
      rw [← hz9]
      have h1 : N * d ≤ 8 * 5 := Nat.mul_le_mul HN8.out.1 HN8.out.2
      omega
    have hgi : (N : Int) * (d : Int) = (z : Int) := by exact_mod_cast hz9
    have w2' : wrap64 ((N : Int) * (d : Int)) = (z : Int) := by rw [hgi]; unfold wrap64; omega
    have hz : (freedA mm.acts).length ≤ (drewA mm.acts).length ∧ freedA mm.acts = (drewA mm.acts).take (freedA mm.acts).length ∧ (freedA mm.acts).length = z := by
      obtain ⟨p1, p2⟩ := ti_pre HN8.out.1 HN8.out.2 HPk.out mm (.inr hf)
      exact ⟨p1, p2, (ti_ends HN8.out.1 HN8.out.2 HPk.out hf).2.2.1.trans hz9⟩
    have HWz := Lib.hid w2'
    generalize ((mm.steps : Int) - _) = dd
    clear hf HF hz9 hgi hz40 w2'
    have HLa := Lib.hid (by have := hb2.acts; have := hb2.most; omega : mm.acts.length ≤ 20000)
    have HAc := Lib.hid (at_acts hA2 HLa.out)
    have HA2 := Lib.hid hA2
    have HHo := Lib.hid hz
    clear hA2 hb2 hz
    go_wp2_with fail
    refine HAc.out.mono ?_
    rintro e w5 ⟨A5, c5, rfl, ho5, hg5⟩
    have HA5 := Lib.hid (HA2.out.grow hg5)
    have HR5 := Lib.hid (actRow_own ho5 rfl)
    clear ho5 hg5 HAc HA2
    obtain ⟨ac, hac⟩ : ∃ ac, mm.acts = ac := ⟨_, rfl⟩
    rw [hac] at HR5 HLa HHo ⊢
    clear hac
    obtain ⟨na, hna⟩ : ∃ na, ac.length = na := ⟨_, rfl⟩
    rw [hna] at HR5 HLa ⊢
    have HNa := Lib.hid hna
    clear hna
    go_wp2
    --MARKD
    go_loopw [10, 11, 38] (fun s s2 j w8 => ∃ (i : Nat) (A : Option Addr) (c : Nat) (D : Option Addr) (e : Nat), i ≤ na ∧ j = .int .i64 i ∧ s = .slice A (drewA (ac.take i)).length c ∧ s2 = .slice D (freedA (ac.take i)).length e ∧ TwoR w5 A c (drewA (ac.take i)) D e (freedA (ac.take i)) w8) (fun _ _ j _ => na - (intOf j).toNat)
    case atStart => exact ⟨0, none, 0, none, 0, Nat.zero_le _, rfl, rfl, rfl, TwoR.nil w5⟩
    case round =>
      obtain ⟨i, A, c1, D, e1, hi, rfl, rfl, rfl, hT⟩ := hrel
      by_cases hlt2 : i < na
      · have hin : (i : Int) < (na : Int) := by omega
        obtain ⟨b, off2, hA, x0, x1, x2, x3, x4, x5⟩ := (HR5.out.below hT.bel) i hlt2
        subst hA
        have hi20 : i < 20000 := by have := HLa.out; omega
        have htk : ac.take (i + 1) = ac.take i ++ [ac.getD i default] := by
          rw [List.take_add_one, List.getElem?_eq_getElem (by rw [HNa.out]; exact hlt2), Option.toList_some, List.getD_eq_getElem?_getD, List.getElem?_eq_getElem (by rw [HNa.out]; exact hlt2), Option.getD_some]
        have hl1 : (drewA (ac.take i)).length ≤ 20000 := by
          refine Nat.le_trans (drewA_few _) ?_
          rw [List.length_take]; omega
        have hl2 : (freedA (ac.take i)).length ≤ 20000 := by
          refine Nat.le_trans (freedA_few _) ?_
          rw [List.length_take]; omega
        have hd1 := drewA_one (ac.take i) (ac.getD i default)
        have hd2 := freedA_one (ac.take i) (ac.getD i default)
        rw [← htk] at hd1 hd2
        have HT := Lib.hid (fun o => hT.grow (World.grownBy_alloc _ o none))
        have HOn := Lib.hid (fun b => hT.one.lt b)
        clear hT htk
        generalize ac.getD i default = x at *
        obtain ⟨v0, v1, v2, v3, v4, v5⟩ := x
        dsimp only at x0 x1 x2 x3 x4 x5 hd1 hd2
        generalize drewA (ac.take i) = l1 at *
        generalize freedA (ac.take i) = l2 at *
        by_cases h8 : v2 = 8
        · subst h8
          by_cases h30 : v3 = 0
          · subst h30
            rw [if_pos ⟨rfl, rfl⟩] at hd1
            rw [if_neg (by decide), List.append_nil] at hd2
            obtain ⟨A4, c4, w4, hr4, hT4, hk4⟩ := (HT.out (.cells #[.int .i64 v0, .int .i64 v1, .int .i64 8, .int .i64 0, .int .u64 v4, .int .u64 v5] 36)).fst v1 (by omega)
            rw [World.size_alloc] at hr4
            have HRun := Lib.hid hr4
            have HT4 := Lib.hid hT4
            have HD := Lib.hid (And.intro hd1 hd2)
            have hat4 := heap_alloc_new wr (.cells #[.int .i64 v0, .int .i64 v1, .int .i64 8, .int .i64 0, .int .u64 v4, .int .u64 v5] 36)
            have hb4 : w4.heap[wr.heap.size]? = some (.cells #[.int .i64 v0, .int .i64 v1, .int .i64 8, .int .i64 0, .int .u64 v4, .int .u64 v5] 36) := (hk4 wr.heap.size (by rw [World.size_alloc]; omega) (fun e => by have := (HOn.out _ e.symm).2; omega)).trans hat4
            have hx2 : w4.cell? ⟨wr.heap.size, 2, none⟩ = some (.int .i64 8) := (cell_of_row _ _ 2 _ _ _ hb4).trans rfl
            have hx3 : w4.cell? ⟨wr.heap.size, 3, none⟩ = some (.int .i64 0) := (cell_of_row _ _ 3 _ _ _ hb4).trans rfl
            clear hr4 hT4 hd1 hd2 HT hl1 hl2 hk4 hat4 hb4
            go_wp2_with (at_builtin; refine Lib.wpList_append_run _ rfl _ _ _ _ rfl _ _ rfl rfl _ _ HRun.out ?_; clear HRun)
            go_wp2
            go_roundw
            case rel => exact ⟨i + 1, A4, c4, D, e1, by omega, by go_num, by first | (rw [HD.out.1]; done) | (rw [HD.out.1, List.length_append]; rfl), by first | (rw [HD.out.2]; done) | (rw [HD.out.2, List.length_append]; rfl), by rw [HD.out.1, HD.out.2]; exact HT4.out⟩
            case measure => simp [intOf]; omega
          · have hb30 : (v3 == 0) = false := by simp [h30]
            rw [if_neg (fun h => h30 h.2), List.append_nil] at hd1
            by_cases h31 : v3 = 1
            · subst h31
              rw [if_pos ⟨rfl, rfl⟩] at hd2
              obtain ⟨A4, c4, w4, hr4, hT4, hk4⟩ := (HT.out (.cells #[.int .i64 v0, .int .i64 v1, .int .i64 8, .int .i64 1, .int .u64 v4, .int .u64 v5] 36)).snd v1 (by omega)
              rw [World.size_alloc] at hr4
              have HRun := Lib.hid hr4
              have HT4 := Lib.hid hT4
              have HD := Lib.hid (And.intro hd1 hd2)
              clear hr4 hT4 hd1 hd2 HT hl1 hl2 h30 hk4
              go_wp2_with (at_builtin; refine Lib.wpList_append_run _ rfl _ _ _ _ rfl _ _ rfl rfl _ _ HRun.out ?_; clear HRun)
              go_roundw
              case rel => exact ⟨i + 1, A, c1, A4, c4, by omega, by go_num, by first | (rw [HD.out.1]; done) | (rw [HD.out.1, List.length_append]; rfl), by first | (rw [HD.out.2]; done) | (rw [HD.out.2, List.length_append]; rfl), by rw [HD.out.1, HD.out.2]; exact HT4.out⟩
              case measure => simp [intOf]; omega
            · have hb31 : (v3 == 1) = false := by simp [h31]
              rw [if_neg (fun h => h31 h.2), List.append_nil] at hd2
              have HD := Lib.hid (And.intro hd1 hd2)
              clear hd1 hd2 hl1 hl2 h30 h31
              go_wp2
              go_roundw
              case rel => exact ⟨i + 1, A, c1, D, e1, by omega, by go_num, by first | (rw [HD.out.1]; done) | (rw [HD.out.1, List.length_append]; rfl), by first | (rw [HD.out.2]; done) | (rw [HD.out.2, List.length_append]; rfl), by rw [HD.out.1, HD.out.2]; exact HT.out _⟩
              case measure => simp [intOf]; omega
        · have hb8 : (v2 == 8) = false := by simp [h8]
          rw [if_neg (fun h => h8 h.1), List.append_nil] at hd1 hd2
          have HD := Lib.hid (And.intro hd1 hd2)
          clear hd1 hd2 hl1 hl2 h8
          go_wp2
          go_roundw
          case rel => exact ⟨i + 1, A, c1, D, e1, by omega, by go_num, by first | (rw [HD.out.1]; done) | (rw [HD.out.1, List.length_append]; rfl), by first | (rw [HD.out.2]; done) | (rw [HD.out.2, List.length_append]; rfl), by rw [HD.out.1, HD.out.2]; exact HT.out _⟩
          case measure => simp [intOf]; omega
      · have hin : ¬ (i : Int) < (na : Int) := by omega
        obtain rfl : i = na := by omega
        have HB8 := Lib.hid (fun w9 (hb : Below w5.heap.size w5 w9) => HB1.out.trans ((HB2.out.trans ((HA5.out.keepB hb).bel.mono HB2.out.size)).mono HB1.out.size))
        rw [List.take_of_length_le (by rw [HNa.out]; exact Nat.le_refl _)] at hT ⊢
        have hl1 : (drewA ac).length ≤ 20000 := Nat.le_trans (drewA_few _) (by rw [HNa.out]; exact HLa.out)
        obtain ⟨q1, q2, q3⟩ := HHo.out
        have hT1 := Ints.of_own hT.one
        have hT2 := Ints.of_own hT.two
        have hTb := hT.bel
        generalize drewA ac = l1 at *
        generalize freedA ac = l2 at *
        have hI1 : Ints .i64 _ _ A l2.length l2 := ⟨rfl, fun h0 => by
          obtain ⟨b, off, hA, hb, hx⟩ := hT1.row (by omega)
          refine ⟨b, off, hA, hb, fun i hi => ?_⟩
          rw [hx i (by omega)]
          have e9 : l2[i]? = l1[i]? := (congrArg (fun x : List Int => x[i]?) q2).trans (by rw [List.getElem?_take, if_pos hi])
          rw [List.getD_eq_getElem?_getD, List.getD_eq_getElem?_getD, e9]⟩
        have hcap : l1.length ≤ c1 := by
          rcases hT.one.2 with ⟨h, h0⟩ | ⟨g, cap, cur, h, _, _, h2, _⟩
          · injection h with _ h1 _; omega
          · injection h with _ _ h3; omega
        obtain ⟨k1, hk1⟩ : ∃ k1, l1.length = k1 := ⟨_, rfl⟩
        obtain ⟨k2, hk2⟩ : ∃ k2, l2.length = k2 := ⟨_, rfl⟩
        rw [hk1] at q1 hcap hl1 ⊢
        rw [hk2] at hI1 hT2 q1 ⊢
        have hle : (k2 : Int) ≤ (k1 : Int) := by omega
        have hle2 : (k2 : Int) ≤ (c1 : Int) := by omega
        have HEq := Lib.hid (fun c d => equalI_same D A k2 c d l2 _ (by omega) _ hT2 hI1)
        have HTb := Lib.hid hTb
        have HK2 := Lib.hid hk2
        clear hT hT1 hT2 hTb hI1 q1 q2 hk1 hk2
        have w2' := HWz.out
        have hzk : k2 = z := HK2.out.symm.trans q3
        subst hzk
        have hkk : ((k2 : Int) == (k2 : Int)) = true := by simp
        clear q3 HWz
        by_cases hz0 : c1 = 0
        · subst hz0
          obtain rfl : k1 = 0 := by omega
          obtain rfl : k2 = 0 := by omega
          go_wp2_with fail
          --MARKE
          refine (HEq.out _ _).mono ?_
          rintro e w9 ⟨rfl, q, rfl⟩
          have HB9 := Lib.hid (HB8.out (wr.drewN q) (HTb.out.grown (row := none) ⟨rfl, rfl, rfl, Nat.le_refl _, fun _ _ _ => rfl⟩ HTb.out.size (by intro k hk; cases hk)))
          go_wp2
          go_ret
          exact ⟨rfl, HB9.out⟩
        · have hz1 : ¬ (c1 : Int) = 0 := by omega
          go_wp2_with fail
          --MARKF
          refine (HEq.out _ _).mono ?_
          rintro e w9 ⟨rfl, q, rfl⟩
          have HB9 := Lib.hid (HB8.out (wr.drewN q) (HTb.out.grown (row := none) ⟨rfl, rfl, rfl, Nat.le_refl _, fun _ _ _ => rfl⟩ HTb.out.size (by intro k hk; cases hk)))
          go_wp2
          go_ret
          exact ⟨rfl, HB9.out⟩
end Go.Proofs.YtkhaeabbbhfloaaDoor

namespace Go.Proofs.YtkhaeabbbhfloaaDoor.ticketOrder
open Go.ChangeShapes Go.WideShapes Go.ChangeAt Go.RowKit
set_option linter.unusedVariables false

theorem own : ownKnob Tryd.prog.godebug = none := by kernel_rfl
theorem laidOut : laidOutB Tryd.prog = true := by kernel_rfl
theorem tsize : Tryd.prog.types.size = 203 := by kernel_rfl

/-- What the listed variables give the walk. -/
theorem cw_of {W : World} (h : laidMetH Tryd.prog Rows.ticketOrderRow.laid W) : CW W := by
  have h' : laidMet Tryd.prog (Rows.ticketOrderRow.laid.filter fun x => x.2.handleName?.isNone) W ∧ handlesMet Tryd.prog (Rows.ticketOrderRow.laid.filter fun x => x.2.handleName?.isSome) W := h
  exact cw_of_laid h'.1 (List.mem_filter.2 ⟨.tail _ (.head _), rfl⟩)

/-- So many blocks has the settled world. -/
noncomputable def low : Nat := (World.holding Tryd.prog default ⟨#[], #[], []⟩).heap.size
def put (o : Obj) (cs : Array Value) : Obj := match o with
  | .cells _ t frozen => .cells cs t frozen
  | o => o
def tab (k : IntKind) (zs : List Int) : Array Value := (zs.map fun z => Value.int k z).toArray
/-- A world that meets the condition. -/
noncomputable def laidWorld (os : Os) : World :=
  let w0 := World.holding Tryd.prog os ⟨#[], #[], []⟩
  { w0 with heap := ((w0.heap.modify 1 (put · #[.iface 160 (.agg #[.pointer (some ⟨2, 46, none⟩)])])).modify 0 (put · formCells)) }
theorem laidWorld_met (os : Os) (args : Array Value) : laidMetH Tryd.prog Rows.ticketOrderRow.laid ((laidWorld os).forCall (fun _ _ => 0) ⟨#[], args, []⟩).memory :=
  laidMetH_of_parts (LaidIn.of_run [0] 8 (by kernel_rfl) (by kernel_rfl) (by kernel_rfl) (by kernel_rfl)).met (by kernel_rfl)

/-- The walk. -/
theorem walk (a0 : Int) (a1 : Int) (a2 : Option Addr) (len2 cap2 : Nat) (nods2 : List (Int × Bool)) (a3 : Bool) (w : World) (hw : CW w) (N2 : Moves w w.heap.size a2 len2 nods2) (I2 : True) :
    Calls Tryd.prog 6 #[.int .i64 a0, .int .i64 a1, .slice a2 len2 cap2, .bool a3] w fun e w' => e = .returned (.bool true) ∧ Below w.heap.size w w' := by
  exact ticketOrder_any hw a0 a1 a2 len2 cap2 nods2 N2 a3

set_option maxRecDepth 100000 in
theorem lifted (os : Os) (started : os.Started) (H : Type) (enc : TypeId × Value → H) :
    ReturnsInHanded {} Tryd.checked os 6 .any (fun w args => (Rows.ticketOrderSpec.pre enc Tryd.prog Tryd.f6 [] false w args ∧ laidMetH Tryd.prog Rows.ticketOrderRow.laid w) ∧ sizedMet enc Tryd.prog Tryd.f6 (OpenSpec.ofChange Rows.ticketOrderSpec) false w args)
      (Rows.ticketOrderSpec.post enc Tryd.prog Tryd.f6 false true false false) := by
  refine returnsInHanded_of_change_and (C := Tryd.checked) (X := fun w _ => laidMetH Tryd.prog Rows.ticketOrderRow.laid w) (fun _ _ _ hh h => h.of_heap hh) own started (by kernel_rfl) Tryd.func6
    (ChangeSpec.witness_at (enc := enc) (C := Tryd.checked) (os := os) (X := fun w _ => laidMetH Tryd.prog Rows.ticketOrderRow.laid w) false (laidWorld os) #[.int .i64 0, .int .i64 0, .slice none 0 0, .bool false] 8 rfl (by kernel_rfl) (by kernel_rfl) (by kernel_rfl) (by kernel_rfl) (by kernel_rfl) (laidWorld_met os _)) ?_
  intro W base args ds gs before hval0 hW _ _ hL _
  have hval : ∀ (j : Nat) t v, Tryd.f6.params[j]? = some t → args[j]? = some v → Value.okWide Tryd.prog W .any base t v := hval0
  have hW' := hW
  obtain ⟨p, q, hA0, hV0, rfl, hfz, hnd⟩ := hW
  have hA : DataW.TrodAll enc Tryd.prog W 0 (fun _ => true) true Tryd.f6.params.toList args.toList ds p := hA0
  have hV : DataW.TrodVars enc Tryd.prog W (fun _ => true) [] gs q := hV0
  rw [Tryd.params6] at hA hval
  obtain ⟨v0, vs0, d0, ds0, p0, q0, hargs, rfl, rfl, h0, r0⟩ := trodAll_cons hA
  obtain ⟨v1, vs1, d1, ds1, p1, q1, rfl, rfl, rfl, h1, r1⟩ := trodAll_cons r0
  obtain ⟨v2, vs2, d2, ds2, p2, q2, rfl, rfl, rfl, h2, r2⟩ := trodAll_cons r1
  obtain ⟨v3, vs3, d3, ds3, p3, q3, rfl, rfl, rfl, h3, r3⟩ := trodAll_cons r2
  obtain ⟨rfl, rfl, rfl⟩ := trodAll_nil r3
  obtain rfl : args = #[v0, v1, v2, v3] := by cases args; simp_all
  obtain ⟨rfl, rfl⟩ : gs = [] ∧ q = [] := by
    cases gs with
    | nil => exact ⟨rfl, hV⟩
    | cons g r => exact absurd hV (by intro h; cases h)
  obtain ⟨a0, rfl, rfl, rfl, w0⟩ := open_int Tryd.underlying3 (hval 0 3 v0 rfl rfl) h0
  obtain ⟨a1, rfl, rfl, rfl, w1⟩ := open_int Tryd.underlying3 (hval 1 3 v1 rfl rfl) h1
  obtain ⟨a2, len2, cap2, rfl⟩ := okWide_slice Tryd.underlying22 (hval 2 22 v2 rfl rfl)
  have k2 := h2
  have lt2 : ∀ x ∈ p2, x.block < W.heap.size := by obtain ⟨m, hm⟩ := k2; exact DataW.trod_lt m _ _ _ hm
  obtain ⟨nods2, N2, I2⟩ : ∃ nods, Moves W W.heap.size a2 len2 nods ∧ True := by
    obtain ⟨fuel, hf⟩ := h2
    obtain ⟨l, hl⟩ := moves_of (a := a2) (len := len2) (cap := cap2) hf; exact ⟨l, hl, trivial⟩
  obtain ⟨a3, rfl, rfl, rfl⟩ := Go.RowKit.open_bool Tryd.underlying4 (hval 3 4 v3 rfl rfl) h3
  have hw := cw_of hL
  clear hA0 hval0
  refine (walk a0 a1 a2 len2 cap2 nods2 a3 W hw N2 I2).mono fun e W' ⟨he, bel⟩ => ?_
  subst he
  exact ⟨_, rfl, _, _, _, [], _, [], hW', trodAll_mk1 (shut_bool Tryd.underlying4 _), (trodAll_cons_mk (shut_int Tryd.underlying3 w0) (trodAll_cons_mk (shut_int Tryd.underlying3 w1) (trodAll_cons_mk (Below.trod laidOut (by kernel_rfl) (of_decide_eq_true (by kernel_rfl)) k2 bel lt2) (trodAll_cons_mk (Go.RowKit.shut_bool Tryd.underlying4 _) trodAll_mk0)))), rfl, bel.frame _, fun h => by cases h⟩

theorem over : Rows.TicketOrderSaid :=
  OpenClaim.holds_of_wide 6 Tryd.f6 rfl rfl rfl rfl rfl rfl rfl ⟨rfl, rfl, rfl, rfl, rfl⟩ rfl rfl rfl rfl rfl (by kernel_rfl) Tryd.func6 (by kernel_rfl)
    (of_decide_eq_true (by kernel_rfl)) (by unfold Func.isWrapper; first | (rw [if_pos (by decide +kernel)]; kernel_rfl) | (rw [if_neg (by decide +kernel)]; exact ⟨rfl, rfl⟩))
    (fun os started H enc _ => lifted os started H enc)

/-- The given statement: the tied card. -/
theorem proved : Rows.TicketOrderCardSaid :=
  Claim7.holds_tied_plain_at .later [] [.handle, .data] true (true, "2608b3033910442297c65e2168a80dfa3332f49bdf4635b148b5ba119a09d328") true
    over (fun _ h => by cases h) (by kernel_rfl) (fun _ h => by cases h) ticketOrder_row_tie rfl ⟨rfl, rfl⟩ (by kernel_rfl) rfl
    (fun f fn hf hfn => by
      obtain rfl : f = 6 := Option.some.inj ((show Tryd.prog.funcNamed "quadrille/quadrillekeep.TicketOrder" = some 6 by kernel_rfl).symm.trans hf) |>.symm
      obtain rfl : fn = Tryd.f6 := (Option.some.inj (Tryd.func6.symm.trans hfn)).symm
      refine ⟨by kernel_rfl, fun j t ht => ?_⟩
      rw [Tryd.params6] at ht
      have hm : t ∈ [3, 3, 22, 4] := by
        have := Array.mem_of_getElem? ht
        simpa using this
      have hall : ([3, 3, 22, 4].all fun u => !Tryd.prog.wantsStandIn u) = true := by kernel_rfl
      exact (show Tryd.prog.wantsStandIn t = false by simpa using List.all_eq_true.1 hall t hm))
    (by kernel_rfl)
#print axioms proved
end Go.Proofs.YtkhaeabbbhfloaaDoor.ticketOrder
