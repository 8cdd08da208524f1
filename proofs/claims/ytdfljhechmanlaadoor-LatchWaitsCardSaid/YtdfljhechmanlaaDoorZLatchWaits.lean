/-
  Nobody is let go ahead of the last one: whoever awaits is answered only when the count is nought, whoever goes on when. No conditions.
-/
import Derived.Test.YtdfljhechmanlaaDoorQL4
import Derived.Test.YtdfljhechmanlaaDoorRows
import Derived.Test.YtdfljhechmanlaaDoorCards
import Derived.Test.YtdfljhechmanlaaDoorTie
import Derived.WalkKit
import Derived.ProofKit
import Derived.OpenShut
import Derived.ChangeOld
import Derived.Below
import Derived.ChangeSame
import Derived.ChangeVars
import Derived.JoinedOf
import Derived.RowKitTokens
import Derived.LaidLaws
import Derived.LaidHandle
import Derived.Stop.Joined
import Derived.SevenTiedAt
import Derived.Lib.LaidTab
import Derived.Lib.LaidIn
import Derived.ChangeMaps5
import Derived.Test.YtdfljhechmanlaaDoorQE3
import Derived.Test.YtdfljhechmanlaaDoorQE
import Derived.Test.YtdfljhechmanlaaDoorQL2
namespace Go.Proofs.YtdfljhechmanlaaDoor
set_option maxRecDepth 100000
open Go.RowKit Go.Shelf Go.Sort
set_option linter.unusedVariables false
set_option linter.unusedSimpArgs false

theorem la_waits {f p : Nat} {Ls : List (List Bool)} {h : LaOk f Ls} {m : Mach} (hm : LaM h p m) : ∃ v : Int, m.cells = [v] ∧ 0 ≤ v ∧ v ≤ f ∧ (∀ x ∈ m.events, ∃ s v : Int, ∃ u : Nat, u < Ls.length ∧ x = (s, 3, (u : Int), v)) ∧
    ∀ u, u < Ls.length → (ansOf m.events u).length ≤ (callsL Ls u).length ∧ ∀ k, k < (ansOf m.events u).length → (callsL Ls u)[k]? = some true → v = 0 := by
  obtain ⟨S, hS⟩ := hm
  have hI := laM_inv hS
  refine ⟨S.cell 0, laM_cells hS, hI.cell.1, hI.cell.2, hI.evs, fun u hu => ?_⟩
  rw [(hI.ans u hu).1]
  exact ⟨(hS.sim.wf.th u hu).k, fun k hk hc => hI.awt u k hu hk hc⟩

set_option maxHeartbeats 4000000 in
theorem latchWaits_any {w : World} (hw : CW w) (A : Option Addr) (n cap : Nat) (ls : List (List Int)) (hR : IRows w w.heap.size A n ls) (hcap : n ≤ cap) (first : Int) (D : Option Addr) (nm cm : Nat) (l : List (Int × Bool)) (hl : Moves w w.heap.size D nm l) :
    Calls Tryd.prog 3 #[.slice A n cap, .int .i64 first, .slice D nm cm] w fun e w' => e = .returned (.bool true) ∧ Below w.heap.size w w' := by
  have HLt := Lib.hid (latched_any hw)
  have HP := Lib.hid (fun w => pick_det first 12 12 w rfl (by decide) (by decide))
  have p1 := pickI_lo first 12
  have p2 := pickI_hi first 12 (by decide)
  obtain ⟨f, hf⟩ : ∃ f : Nat, pickI first 12 = (f : Int) := ⟨(pickI first 12).toNat, by omega⟩
  rw [hf] at HP p1 p2
  have HF12 := Lib.hid (show f ≤ 12 by omega)
  have HR := Lib.hid hR
  have HMv := Lib.hid hl
  have HW := Lib.hid hw
  have HCap := Lib.hid hcap
  clear hR hl hw hf p1 p2 hcap
  go_enter Tryd.func3, Tryd.ntmps3
  go_wp2_with fail
  refine HLt.out.mono ?_
  rintro e w1 ⟨rfl, hb1⟩
  have HB1 := Lib.hid hb1
  clear hb1 HLt
  by_cases h9 : 500 < nm
  · have h9' : (500 : Int) < (nm : Int) := by omega
    go_wp2
    go_ret
    exact ⟨rfl, HB1.out⟩
  have h9' : ¬ (500 : Int) < (nm : Int) := by omega
  have HN5 := Lib.hid (show nm ≤ 500 by omega)
  go_wp2_with fail
  refine (HP.out _).mono ?_
  rintro e w2 ⟨rfl, rfl⟩
  clear HP
  go_wp2_with fail
  refine (laasks_any HB1.out A n cap 2 ls HR.out HCap.out [1, 2] (fun x hx => by simpa using hx) #[.int .i64 1, .int .i64 2] rfl rfl (by decide) (by decide)).mono ?_
  rintro e w2 ⟨A2, c2, k2, Ls, rfl, hC, hb2, hLl, hk8, hLs⟩
  have hok := la_ok_of (f := f) HF12.out hLl hk8 hLs
  have HMd := Lib.hid (lamade3 (HW.out.old hb2) (Below.refl w2.heap.size w2) hok A2 none k2 c2 0 0 hC [] ⟨rfl, fun h => absurd h (by omega)⟩ (by omega))
  have HC := Lib.hid hC
  have HB2 := Lib.hid hb2
  have HLl := Lib.hid (And.intro hLl hk8)
  clear hC hb2 hLl hk8 hLs HB1 HR HCap h9 h9'
  go_wp2_with fail
  rw [u64_small (by have := HF12.out; omega)]
  refine HMd.out.mono ?_
  rintro e w3 ⟨c, m0, rfl, hA, -⟩
  have HA := Lib.hid (show LaAt w2 c hok 0 m0 w3 from hA)
  clear hA HMd
  go_wp2
  --MA
  go_loopw [34] (fun j wr => ∃ i : Nat, i ≤ nm ∧ j = .int .i64 i ∧ At w2 c (behindM 20000 m0 (l.take i)) wr) (fun j _ => nm - (intOf j).toNat)
  case atStart => exact ⟨0, Nat.zero_le _, rfl, HA.out.at_⟩
  case round =>
    obtain ⟨i, hi, rfl, hm⟩ := hrel
    by_cases hlt : i < nm
    · have hkn : (i : Int) < (nm : Int) := by omega
      obtain ⟨g, off, hD, hcell⟩ := moves_at (HMv.out.old HB2.out) hm hlt
      subst hD
      have HTk := Lib.hid (behind_take l m0 i (by rw [HMv.out.len]; exact hlt))
      have HM := Lib.hid (fun w' (hg : wr.grownBy w' none) => kmove_any (hm.grow hg) (MBig.behind (l.take i) HA.out.big) (l.getD i default))
      rw [← HTk.out] at HM
      have hpk : pokesM (l.take (i + 1)) ≤ 500 := by
        have h1 := pokesM_le (l.take (i + 1))
        rw [List.length_take] at h1
        have := HN5.out
        omega
      have hla := la_moves HA.out.la (l.take (i + 1)) (by omega)
      have HBig := Lib.hid (MBig.behind (l.take (i + 1)) HA.out.big)
      obtain ⟨v, v1, v2, v3, v4, v5⟩ := la_waits hla
      have hi5 : i < 500 := by have := HN5.out; omega
      clear HTk hm hpk hla
      obtain ⟨m1, hM1⟩ : ∃ m1, behindM 20000 m0 (l.take (i + 1)) = m1 := ⟨_, rfl⟩
      rw [hM1] at HM HBig v1 v4 v5
      have HM1 := Lib.hid hM1
      clear hM1
      have HV := Lib.hid (And.intro v1 (And.intro v4 v5))
      have hv3 : v ≤ (f : Int) := v3
      have hv2 : (0 : Int) ≤ v := v2
      clear v1 v2 v3 v4 v5
      obtain ⟨hc0, hc1⟩ := hcell
      generalize l.getD i default = mv at *
      obtain ⟨t, p⟩ := mv
      dsimp only at hc0 hc1 HM
      cases p
      · simp only [Bool.false_eq_true, ↓reduceIte] at HM
        go_wp2_with fail
        refine (HM.out _ (grown_a (World.grownBy.refl _ none) _)).mono ?_
        rintro e w4 ⟨rfl, hm2⟩
        have H2 := Lib.hid hm2
        generalize (errV (stepM 20000 (behindM 20000 m0 (List.take i l)) t).1) = RV
        clear hm2 HM hc0 hc1
        have hlen1 : m1.cells.length = 1 := by rw [HV.out.1]; rfl
        have HCe := Lib.hid (at_cells H2.out (by rw [hlen1]; decide))
        rw [HV.out.1] at HCe
        have HEv := Lib.hid (show m1.events.length ≤ 20000 by have := HBig.out.events; have := HBig.out.most; omega)
        clear hlen1
        go_wp2_with fail
        refine HCe.out.mono ?_
        rintro e w5 ⟨A5, c5, rfl, ho5, hg5⟩
        have hI5 : Ints .u64 w5 w5.heap.size A5 1 [v] := Ints.of_own ho5
        obtain ⟨b5, off5, hA5, hb5, hx5⟩ := hI5.row (by decide)
        subst hA5
        have hc5 : w5.cell? ⟨b5, off5, none⟩ = some (.int .u64 v) := hx5 0 (by decide)
        have H5 := Lib.hid (H2.out.grow hg5)
        have HI5 := Lib.hid hI5
        have hv64 : ¬ (f : Int) < v := by omega
        have hu := u64_small (f := f) (by have := HF12.out; omega)
        have HAn := Lib.hid (answers_any (n := Ls.length) H5.out HEv.out HV.out.2.1 (by have := HLl.out; omega))
        rw [HLl.out.1] at HAn
        clear ho5 hg5 hI5 hx5 HCe H2
        --MB
        go_wp2_with fail
        --MC
        refine HAn.out.mono ?_
        rintro e w6 ⟨g6, rfl, hAn6⟩
        have hb6 := hAn6.bel
        have H6 := Lib.hid (H5.out.keepB hb6)
        have hcr := (HC.out.below H6.out.bel)
        have hir := hAn6.rows
        have hc6 : w6.cell? ⟨b5, off5, none⟩ = some (.int .u64 v) := (World.cell?_of_block (a := ⟨b5, off5, none⟩) (hb6.block b5 hb5)).trans hc5
        have HCR := Lib.hid hcr
        have HIR := Lib.hid hir
        clear hAn6 hb6 hcr hir HAn H5 hc5 HI5
        go_wp2
        --MD
        go_loopw [66] (fun j w7 => ∃ t : Nat, t ≤ k2 ∧ j = .int .i64 t ∧ w7 = w6) (fun j _ => k2 - (intOf j).toNat)
        case atStart => exact ⟨0, Nat.zero_le _, rfl, rfl⟩
        case round =>
          obtain ⟨t2, ht2, rfl, rfl⟩ := hrel
          by_cases hlt2 : t2 < k2
          · have htn : (t2 : Int) < (k2 : Int) := by omega
            obtain ⟨bc, offc, hAc, _, hxc⟩ := HCR.out.row (by omega)
            subst hAc
            obtain ⟨Ac, cc, hcellc, hrowc⟩ := hxc t2 hlt2
            obtain ⟨bi, offi, hAi, _, hxi⟩ := HIR.out.row (by omega)
            have hgi : bi = g6 ∧ offi = 0 := by injection hAi with h; injection h with h1 h2; exact ⟨h1.symm, h2.symm⟩
            obtain ⟨rfl, rfl⟩ := hgi
            obtain ⟨Ai, ci, hcelli, _, hrowi⟩ := hxi t2 hlt2
            have hei : ((List.range k2).map (ansOf m1.events)).getD t2 [] = ansOf m1.events t2 := by
              rw [List.getD_eq_getElem?_getD, List.getElem?_map, List.getElem?_range hlt2]
              rfl
            have hec : (Ls.map (List.map encL)).getD t2 [] = (callsL Ls t2).map encL := by
              have : t2 < Ls.length := by rw [HLl.out.1]; exact hlt2
              unfold callsL
              rw [List.getD_eq_getElem?_getD, List.getElem?_map, List.getElem?_eq_getElem this, List.getD_eq_getElem?_getD, List.getElem?_eq_getElem this]
              rfl
            rw [hei] at hcelli
            rw [hec] at hcellc hrowc
            obtain ⟨y1, y2⟩ := HV.out.2.2 t2 (by rw [HLl.out.1]; exact hlt2)
            have hcl12 := hok.calls t2
            generalize callsL Ls t2 = L at *
            have hml : (L.map encL).length = L.length := List.length_map _
            rw [hml] at hcellc hrowc
            generalize (ansOf m1.events t2).length = na at *
            have HY := Lib.hid (And.intro y2 hrowc)
            obtain ⟨nl, hnl⟩ : ∃ nl, L.length = nl := ⟨_, rfl⟩
            rw [hnl] at hcellc HY y1 hcl12
            have HNl := Lib.hid hnl
            have ht8 : t2 < 8 := by have := HLl.out.2; omega
            simp only [Nat.zero_add] at hcelli
            clear hxc hxi hrowi hei hec y2 hrowc hml hnl hAi
            go_wp2
            --ME
            go_loopw [73] (fun j w7 => ∃ k : Nat, k ≤ na ∧ j = .int .i64 k ∧ w7 = wr) (fun j _ => na - (intOf j).toNat)
            case atStart => exact ⟨0, Nat.zero_le _, rfl, rfl⟩
            case round =>
              obtain ⟨k, hk, rfl, rfl⟩ := hrel
              by_cases hlt3 : k < na
              · have hkn3 : (k : Int) < (na : Int) := by omega
                have hkl : ¬ ((nl : Int) ≤ (k : Int)) := by omega
                have hkl2 : (k : Int) < (nl : Int) := by omega
                obtain ⟨br, offr, hAr, _, hxr⟩ := HY.out.2.row (by omega)
                subst hAr
                obtain ⟨r0, r1⟩ := hxr k (by omega)
                obtain ⟨b, hb⟩ : ∃ b, L[k]? = some b := ⟨_, List.getElem?_eq_getElem (by rw [HNl.out]; omega)⟩
                have hrd : (L.map encL).getD k default = encL b := by rw [List.getD_eq_getElem?_getD, List.getElem?_map, hb]; rfl
                rw [hrd] at r0 r1
                have hbv := HY.out.1 k hlt3
                rw [hb] at hbv
                cases b
                · have r0' : _ = some (Value.int .i64 1) := r0
                  clear r0 r1 hrd hbv hb hxr
                  go_wp2
                  go_roundw
                  case rel => exact ⟨k + 1, by omega, by go_num, by first | trivial | rfl⟩
                  case measure => simp [intOf]; omega
                · have r0' : _ = some (Value.int .i64 2) := r0
                  have hv0 : v = 0 := hbv rfl
                  have hvn : (v != 0) = false := by rw [hv0]; decide
                  clear r0 r1 hrd hbv hb hxr hv0
                  go_wp2
                  go_roundw
                  case rel => exact ⟨k + 1, by omega, by go_num, by first | trivial | rfl⟩
                  case measure => simp [intOf]; omega
              · have hkn3 : ¬ (k : Int) < (na : Int) := by omega
                go_wp2
                go_roundw
                case rel => exact ⟨t2 + 1, by omega, by go_num, by first | trivial | rfl⟩
                case measure => simp [intOf]; omega
          · have htn : ¬ (t2 : Int) < (k2 : Int) := by omega
            go_wp2
            go_roundw
            case rel => exact ⟨i + 1, by omega, by go_num, by rw [HM1.out]; exact H6.out⟩
            case measure => simp [intOf]; omega
      · simp only [↓reduceIte] at HM
        go_wp2_with fail
        refine (HM.out _ (grown_a (World.grownBy.refl _ none) _)).mono ?_
        rintro e w4 ⟨rfl, hm2⟩
        have H2 := Lib.hid hm2
        generalize (errV (pokeM (behindM 20000 m0 (List.take i l)) t).1) = RV
        clear hm2 HM hc0 hc1
        have hlen1 : m1.cells.length = 1 := by rw [HV.out.1]; rfl
        have HCe := Lib.hid (at_cells H2.out (by rw [hlen1]; decide))
        rw [HV.out.1] at HCe
        have HEv := Lib.hid (show m1.events.length ≤ 20000 by have := HBig.out.events; have := HBig.out.most; omega)
        clear hlen1
        go_wp2_with fail
        refine HCe.out.mono ?_
        rintro e w5 ⟨A5, c5, rfl, ho5, hg5⟩
        have hI5 : Ints .u64 w5 w5.heap.size A5 1 [v] := Ints.of_own ho5
        obtain ⟨b5, off5, hA5, hb5, hx5⟩ := hI5.row (by decide)
        subst hA5
        have hc5 : w5.cell? ⟨b5, off5, none⟩ = some (.int .u64 v) := hx5 0 (by decide)
        have H5 := Lib.hid (H2.out.grow hg5)
        have HI5 := Lib.hid hI5
        have hv64 : ¬ (f : Int) < v := by omega
        have hu := u64_small (f := f) (by have := HF12.out; omega)
        have HAn := Lib.hid (answers_any (n := Ls.length) H5.out HEv.out HV.out.2.1 (by have := HLl.out; omega))
        rw [HLl.out.1] at HAn
        clear ho5 hg5 hI5 hx5 HCe H2
        --MB
        go_wp2_with fail
        --MC
        refine HAn.out.mono ?_
        rintro e w6 ⟨g6, rfl, hAn6⟩
        have hb6 := hAn6.bel
        have H6 := Lib.hid (H5.out.keepB hb6)
        have hcr := (HC.out.below H6.out.bel)
        have hir := hAn6.rows
        have hc6 : w6.cell? ⟨b5, off5, none⟩ = some (.int .u64 v) := (World.cell?_of_block (a := ⟨b5, off5, none⟩) (hb6.block b5 hb5)).trans hc5
        have HCR := Lib.hid hcr
        have HIR := Lib.hid hir
        clear hAn6 hb6 hcr hir HAn H5 hc5 HI5
        go_wp2
        --MD
        go_loopw [66] (fun j w7 => ∃ t : Nat, t ≤ k2 ∧ j = .int .i64 t ∧ w7 = w6) (fun j _ => k2 - (intOf j).toNat)
        case atStart => exact ⟨0, Nat.zero_le _, rfl, rfl⟩
        case round =>
          obtain ⟨t2, ht2, rfl, rfl⟩ := hrel
          by_cases hlt2 : t2 < k2
          · have htn : (t2 : Int) < (k2 : Int) := by omega
            obtain ⟨bc, offc, hAc, _, hxc⟩ := HCR.out.row (by omega)
            subst hAc
            obtain ⟨Ac, cc, hcellc, hrowc⟩ := hxc t2 hlt2
            obtain ⟨bi, offi, hAi, _, hxi⟩ := HIR.out.row (by omega)
            have hgi : bi = g6 ∧ offi = 0 := by injection hAi with h; injection h with h1 h2; exact ⟨h1.symm, h2.symm⟩
            obtain ⟨rfl, rfl⟩ := hgi
            obtain ⟨Ai, ci, hcelli, _, hrowi⟩ := hxi t2 hlt2
            have hei : ((List.range k2).map (ansOf m1.events)).getD t2 [] = ansOf m1.events t2 := by
              rw [List.getD_eq_getElem?_getD, List.getElem?_map, List.getElem?_range hlt2]
              rfl
            have hec : (Ls.map (List.map encL)).getD t2 [] = (callsL Ls t2).map encL := by
              have : t2 < Ls.length := by rw [HLl.out.1]; exact hlt2
              unfold callsL
              rw [List.getD_eq_getElem?_getD, List.getElem?_map, List.getElem?_eq_getElem this, List.getD_eq_getElem?_getD, List.getElem?_eq_getElem this]
              rfl
            rw [hei] at hcelli
            rw [hec] at hcellc hrowc
            obtain ⟨y1, y2⟩ := HV.out.2.2 t2 (by rw [HLl.out.1]; exact hlt2)
            have hcl12 := hok.calls t2
            generalize callsL Ls t2 = L at *
            have hml : (L.map encL).length = L.length := List.length_map _
            rw [hml] at hcellc hrowc
            generalize (ansOf m1.events t2).length = na at *
            have HY := Lib.hid (And.intro y2 hrowc)
            obtain ⟨nl, hnl⟩ : ∃ nl, L.length = nl := ⟨_, rfl⟩
            rw [hnl] at hcellc HY y1 hcl12
            have HNl := Lib.hid hnl
            have ht8 : t2 < 8 := by have := HLl.out.2; omega
            simp only [Nat.zero_add] at hcelli
            clear hxc hxi hrowi hei hec y2 hrowc hml hnl hAi
            go_wp2
            --ME
            go_loopw [73] (fun j w7 => ∃ k : Nat, k ≤ na ∧ j = .int .i64 k ∧ w7 = wr) (fun j _ => na - (intOf j).toNat)
            case atStart => exact ⟨0, Nat.zero_le _, rfl, rfl⟩
            case round =>
              obtain ⟨k, hk, rfl, rfl⟩ := hrel
              by_cases hlt3 : k < na
              · have hkn3 : (k : Int) < (na : Int) := by omega
                have hkl : ¬ ((nl : Int) ≤ (k : Int)) := by omega
                have hkl2 : (k : Int) < (nl : Int) := by omega
                obtain ⟨br, offr, hAr, _, hxr⟩ := HY.out.2.row (by omega)
                subst hAr
                obtain ⟨r0, r1⟩ := hxr k (by omega)
                obtain ⟨b, hb⟩ : ∃ b, L[k]? = some b := ⟨_, List.getElem?_eq_getElem (by rw [HNl.out]; omega)⟩
                have hrd : (L.map encL).getD k default = encL b := by rw [List.getD_eq_getElem?_getD, List.getElem?_map, hb]; rfl
                rw [hrd] at r0 r1
                have hbv := HY.out.1 k hlt3
                rw [hb] at hbv
                cases b
                · have r0' : _ = some (Value.int .i64 1) := r0
                  clear r0 r1 hrd hbv hb hxr
                  go_wp2
                  go_roundw
                  case rel => exact ⟨k + 1, by omega, by go_num, by first | trivial | rfl⟩
                  case measure => simp [intOf]; omega
                · have r0' : _ = some (Value.int .i64 2) := r0
                  have hv0 : v = 0 := hbv rfl
                  have hvn : (v != 0) = false := by rw [hv0]; decide
                  clear r0 r1 hrd hbv hb hxr hv0
                  go_wp2
                  go_roundw
                  case rel => exact ⟨k + 1, by omega, by go_num, by first | trivial | rfl⟩
                  case measure => simp [intOf]; omega
              · have hkn3 : ¬ (k : Int) < (na : Int) := by omega
                go_wp2
                go_roundw
                case rel => exact ⟨t2 + 1, by omega, by go_num, by first | trivial | rfl⟩
                case measure => simp [intOf]; omega
          · have htn : ¬ (t2 : Int) < (k2 : Int) := by omega
            go_wp2
            go_roundw
            case rel => exact ⟨i + 1, by omega, by go_num, by rw [HM1.out]; exact H6.out⟩
            case measure => simp [intOf]; omega
    · have hkn : ¬ (i : Int) < (nm : Int) := by omega
      have HB3 := Lib.hid (HB2.out.trans (hm.bel.mono HB2.out.size))
      clear hm
      go_wp2
      go_ret
      exact ⟨rfl, HB3.out⟩
end Go.Proofs.YtdfljhechmanlaaDoor

namespace Go.Proofs.YtdfljhechmanlaaDoor.latchWaits
open Go.ChangeShapes Go.WideShapes Go.ChangeAt Go.RowKit
set_option linter.unusedVariables false

theorem own : ownKnob Tryd.prog.godebug = none := by kernel_rfl
theorem laidOut : laidOutB Tryd.prog = true := by kernel_rfl
theorem tsize : Tryd.prog.types.size = 214 := by kernel_rfl

/-- What the listed variables give the walk. -/
theorem cw_of {W : World} (h : laidMetH Tryd.prog Rows.latchWaitsRow.laid W) : CW W := by
  have h' : laidMet Tryd.prog (Rows.latchWaitsRow.laid.filter fun x => x.2.handleName?.isNone) W ∧ handlesMet Tryd.prog (Rows.latchWaitsRow.laid.filter fun x => x.2.handleName?.isSome) W := h
  exact cw_of_laid h'.1 (List.mem_filter.2 ⟨.tail _ (.head _), rfl⟩)

/-- So many blocks has the settled world. -/
noncomputable def low : Nat := (World.holding Tryd.prog default ⟨#[], #[], []⟩).heap.size
def put (o : Obj) (cs : Array Value) : Obj := match o with
  | .cells _ t frozen => .cells cs t frozen
  | o => o
def tab (k : IntKind) (zs : List Int) : Array Value := (zs.map fun z => Value.int k z).toArray
/-- A world that meets the condition. -/
noncomputable def laidWorld (os : Os) : World :=
  let w0 := World.holding Tryd.prog os ⟨#[], #[], []⟩
  { w0 with heap := ((w0.heap.modify 1 (put · #[.iface 172 (.agg #[.pointer (some ⟨2, 36, none⟩)])])).modify 0 (put · formCells)) }
theorem laidWorld_met (os : Os) (args : Array Value) : laidMetH Tryd.prog Rows.latchWaitsRow.laid ((laidWorld os).forCall (fun _ _ => 0) ⟨#[], args, []⟩).memory :=
  laidMetH_of_parts (LaidIn.of_run [0] 8 (by kernel_rfl) (by kernel_rfl) (by kernel_rfl) (by kernel_rfl)).met (by kernel_rfl)

/-- The walk. -/
theorem walk (a0 : Option Addr) (len0 cap0 : Nat) (nods0 : List (List Int)) (a1 : Int) (a2 : Option Addr) (len2 cap2 : Nat) (nods2 : List (Int × Bool)) (w : World) (hw : CW w) (N0 : IRows w w.heap.size a0 len0 nods0) (I0 : len0 ≤ cap0) (N2 : Moves w w.heap.size a2 len2 nods2) (I2 : True) :
    Calls Tryd.prog 3 #[.slice a0 len0 cap0, .int .i64 a1, .slice a2 len2 cap2] w fun e w' => e = .returned (.bool true) ∧ Below w.heap.size w w' := by
  exact latchWaits_any hw a0 len0 cap0 nods0 N0 I0 a1 a2 len2 cap2 nods2 N2

set_option maxRecDepth 100000 in
theorem lifted (os : Os) (started : os.Started) (H : Type) (enc : TypeId × Value → H) :
    ReturnsInHanded {} Tryd.checked os 3 .any (fun w args => (Rows.latchWaitsSpec.pre enc Tryd.prog Tryd.f3 [] false w args ∧ laidMetH Tryd.prog Rows.latchWaitsRow.laid w) ∧ sizedMet enc Tryd.prog Tryd.f3 (OpenSpec.ofChange Rows.latchWaitsSpec) false w args)
      (Rows.latchWaitsSpec.post enc Tryd.prog Tryd.f3 false true false false) := by
  refine returnsInHanded_of_change_and (C := Tryd.checked) (X := fun w _ => laidMetH Tryd.prog Rows.latchWaitsRow.laid w) (fun _ _ _ hh h => h.of_heap hh) own started (by kernel_rfl) Tryd.func3
    (ChangeSpec.witness_at (enc := enc) (C := Tryd.checked) (os := os) (X := fun w _ => laidMetH Tryd.prog Rows.latchWaitsRow.laid w) false (laidWorld os) #[.slice none 0 0, .int .i64 0, .slice none 0 0] 8 rfl (by kernel_rfl) (by kernel_rfl) (by kernel_rfl) (by kernel_rfl) (by kernel_rfl) (laidWorld_met os _)) ?_
  intro W base args ds gs before hval0 hW _ _ hL _
  have hval : ∀ (j : Nat) t v, Tryd.f3.params[j]? = some t → args[j]? = some v → Value.okWide Tryd.prog W .any base t v := hval0
  have hW' := hW
  obtain ⟨p, q, hA0, hV0, rfl, hfz, hnd⟩ := hW
  have hA : DataW.TrodAll enc Tryd.prog W 0 (fun _ => true) true Tryd.f3.params.toList args.toList ds p := hA0
  have hV : DataW.TrodVars enc Tryd.prog W (fun _ => true) [] gs q := hV0
  rw [Tryd.params3] at hA hval
  obtain ⟨v0, vs0, d0, ds0, p0, q0, hargs, rfl, rfl, h0, r0⟩ := trodAll_cons hA
  obtain ⟨v1, vs1, d1, ds1, p1, q1, rfl, rfl, rfl, h1, r1⟩ := trodAll_cons r0
  obtain ⟨v2, vs2, d2, ds2, p2, q2, rfl, rfl, rfl, h2, r2⟩ := trodAll_cons r1
  obtain ⟨rfl, rfl, rfl⟩ := trodAll_nil r2
  obtain rfl : args = #[v0, v1, v2] := by cases args; simp_all
  obtain ⟨rfl, rfl⟩ : gs = [] ∧ q = [] := by
    cases gs with
    | nil => exact ⟨rfl, hV⟩
    | cons g r => exact absurd hV (by intro h; cases h)
  obtain ⟨a0, len0, cap0, rfl⟩ := okWide_slice Tryd.underlying22 (hval 0 22 v0 rfl rfl)
  have k0 := h0
  have lt0 : ∀ x ∈ p0, x.block < W.heap.size := by obtain ⟨m, hm⟩ := k0; exact DataW.trod_lt m _ _ _ hm
  obtain ⟨nods0, N0, I0⟩ : ∃ nods, IRows W W.heap.size a0 len0 nods ∧ len0 ≤ cap0 := by
    obtain ⟨fuel, hf⟩ := h0
    obtain ⟨ls, hl⟩ := intss_of (a := a0) (len := len0) (cap := cap0) hf; exact ⟨ls, hl, cap_slice Tryd.underlying22 hf⟩
  obtain ⟨a1, rfl, rfl, rfl, w1⟩ := open_int Tryd.underlying3 (hval 1 3 v1 rfl rfl) h1
  obtain ⟨a2, len2, cap2, rfl⟩ := okWide_slice Tryd.underlying23 (hval 2 23 v2 rfl rfl)
  have k2 := h2
  have lt2 : ∀ x ∈ p2, x.block < W.heap.size := by obtain ⟨m, hm⟩ := k2; exact DataW.trod_lt m _ _ _ hm
  obtain ⟨nods2, N2, I2⟩ : ∃ nods, Moves W W.heap.size a2 len2 nods ∧ True := by
    obtain ⟨fuel, hf⟩ := h2
    obtain ⟨l, hl⟩ := moves_of (a := a2) (len := len2) (cap := cap2) hf; exact ⟨l, hl, trivial⟩
  have hw := cw_of hL
  clear hA0 hval0
  refine (walk a0 len0 cap0 nods0 a1 a2 len2 cap2 nods2 W hw N0 I0 N2 I2).mono fun e W' ⟨he, bel⟩ => ?_
  subst he
  exact ⟨_, rfl, _, _, _, [], _, [], hW', trodAll_mk1 (shut_bool Tryd.underlying4 _), (trodAll_cons_mk (Below.trod laidOut (by kernel_rfl) (of_decide_eq_true (by kernel_rfl)) k0 bel lt0) (trodAll_cons_mk (shut_int Tryd.underlying3 w1) (trodAll_cons_mk (Below.trod laidOut (by kernel_rfl) (of_decide_eq_true (by kernel_rfl)) k2 bel lt2) trodAll_mk0))), rfl, bel.frame _, fun h => by cases h⟩

theorem over : Rows.LatchWaitsSaid :=
  OpenClaim.holds_of_wide 3 Tryd.f3 rfl rfl rfl rfl rfl rfl rfl ⟨rfl, rfl, rfl, rfl, rfl⟩ rfl rfl rfl rfl rfl (by kernel_rfl) Tryd.func3 (by kernel_rfl)
    (of_decide_eq_true (by kernel_rfl)) (by unfold Func.isWrapper; first | (rw [if_pos (by decide +kernel)]; kernel_rfl) | (rw [if_neg (by decide +kernel)]; exact ⟨rfl, rfl⟩))
    (fun os started H enc _ => lifted os started H enc)

/-- The given statement: the tied card. -/
theorem proved : Rows.LatchWaitsCardSaid :=
  Claim7.holds_tied_plain_at .later [] [.handle, .data] true (true, "d47da573c139323a2d3ffb97e069444c56f44381508be9b6753f4f5b74787098") true
    over (fun _ h => by cases h) (by kernel_rfl) (fun _ h => by cases h) latchWaits_row_tie rfl ⟨rfl, rfl⟩ (by kernel_rfl) rfl
    (fun f fn hf hfn => by
      obtain rfl : f = 3 := Option.some.inj ((show Tryd.prog.funcNamed "quadrille/quadrillekeep.LatchWaits" = some 3 by kernel_rfl).symm.trans hf) |>.symm
      obtain rfl : fn = Tryd.f3 := (Option.some.inj (Tryd.func3.symm.trans hfn)).symm
      refine ⟨by kernel_rfl, fun j t ht => ?_⟩
      rw [Tryd.params3] at ht
      have hm : t ∈ [22, 3, 23] := by
        have := Array.mem_of_getElem? ht
        simpa using this
      have hall : ([22, 3, 23].all fun u => !Tryd.prog.wantsStandIn u) = true := by kernel_rfl
      exact (show Tryd.prog.wantsStandIn t = false by simpa using List.all_eq_true.1 hall t hm))
    (by kernel_rfl)
#print axioms proved
end Go.Proofs.YtdfljhechmanlaaDoor.latchWaits
