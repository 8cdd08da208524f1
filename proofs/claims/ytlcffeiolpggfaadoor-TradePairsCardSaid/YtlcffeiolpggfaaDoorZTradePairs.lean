/-
  TWO BY TWO: whichever threads trade, and whoever goes on when, whoever was told what another one had is told of by it, or is yet to be, and it is never its own thread's: for all arguments, without conditions.
-/
import Derived.Test.YtlcffeiolpggfaaDoorQN3
import Derived.Test.YtlcffeiolpggfaaDoorQL4
import Derived.Test.YtlcffeiolpggfaaDoorQL5
import Derived.Test.YtlcffeiolpggfaaDoorRows
import Derived.Test.YtlcffeiolpggfaaDoorCards
import Derived.Test.YtlcffeiolpggfaaDoorTie
import Derived.WalkKit
import Derived.ProofKit
import Derived.OpenShut
import Derived.ChangeOld
import Derived.Below
import Derived.ChangeSame
import Derived.ChangeVars
import Derived.JoinedOf
import Derived.RowKitTokens
import Derived.LaidLaws
import Derived.LaidHandle
import Derived.Stop.Joined
import Derived.SevenTiedAt
import Derived.Lib.LaidTab
import Derived.Lib.LaidIn
import Derived.ChangeMaps5
import Derived.Test.YtlcffeiolpggfaaDoorQE3
import Derived.Test.YtlcffeiolpggfaaDoorQE
import Derived.Test.YtlcffeiolpggfaaDoorQL2
namespace Go.Proofs.YtlcffeiolpggfaaDoor
set_option maxRecDepth 100000
open Go.RowKit Go.Shelf Go.Sort
open Go.WideShapes
set_option linter.unusedVariables false
set_option linter.unusedSimpArgs false

/-- What threads that trade have told. -/
structure TdPair (n : Nat) (qs : List Nat) (e : List Ev4) : Prop where
  evs : ∀ x ∈ e, ∃ s w : Int, ∃ u : Nat, u < n ∧ x = (s, 3, (u : Int), w)
  few : ∀ u, u < n → (ansOf e u).length ≤ qs.getD u 0
  told : ∀ u k, u < n → k < (ansOf e u).length → ∃ v l : Nat, v < n ∧ v ≠ u ∧ l < qs.getD v 0 ∧ (ansOf e u).getD k 0 = ((10 * v + l : Nat) : Int) ∧
    (l < (ansOf e v).length → (ansOf e v).getD l 0 = ((10 * u + k : Nat) : Int)) ∧ ∀ u' k', u' < n → k' < (ansOf e u').length → (ansOf e u').getD k' 0 = ((10 * v + l : Nat) : Int) → u' = u ∧ k' = k
theorem tdRow_at {qs : List Nat} (h8 : qs.length ≤ 8) (h6 : ∀ q ∈ qs, q ≤ 6) {v l : Nat} {d : Trd} (hv : v < qs.length) (hd : (callsT (tdLs qs) v)[l]? = some d) : l < qs.getD v 0 ∧ givT d - 1 = ((10 * v + l : Nat) : Int) ∧ qs.getD v 0 ≤ 6 := by
  have hq : qs.getD v 0 ≤ 6 := by
    rw [List.getD_eq_getElem?_getD, List.getElem?_eq_getElem hv]
    exact h6 _ (List.getElem_mem hv)
  rw [tdLs_at qs v hv] at hd
  unfold tdRow at hd
  have hl : l < qs.getD v 0 := by
    have := (List.getElem?_eq_some_iff.1 hd).1
    simpa using this
  rw [List.getElem?_map, List.getElem?_range hl] at hd
  injection hd with hd
  subst hd
  refine ⟨hl, ?_, hq⟩
  show ((min (10 * v + l) 1000 : Nat) : Int) + 1 - 1 = _
  rw [Nat.min_eq_left (by omega)]
  omega
theorem td_pairs {qs : List Nat} (h8 : qs.length ≤ 8) (h6 : ∀ q ∈ qs, q ≤ 6) {p : Nat} {m : Mach} (hm : TdM (tdLs_ok h8 h6) p m) : TdPair qs.length qs m.events := by
  obtain ⟨S, hS⟩ := hm
  obtain ⟨⟨pr, hG⟩, _⟩ := tdM_inv hS
  have hwf := hS.sim.wf
  have hn : (tdLs qs).length = qs.length := tdLs_len qs
  rw [hn] at hG hwf
  have hk : ∀ u, u < qs.length → (ansOf m.events u).length = (S.th u).k := fun u hu => (hG.ans u hu).1
  have hget : ∀ (l : List Int) (i : Nat) (y : Int), l[i]? = some y → l.getD i 0 = y := fun l i y h => by rw [List.getD_eq_getElem?_getD, h]; rfl
  refine ⟨hG.evs, fun u hu => ?_, fun u k hu hlt => ?_⟩
  · rw [hk u hu]
    have := (hwf.th u hu).k
    rw [tdLs_at qs u hu] at this
    unfold tdRow at this
    simpa using this
  · obtain ⟨v, l, d, hp, hd, hv, hvu, _, ha⟩ := tr_told hG hu (by rw [← hk u hu]; exact hlt)
    obtain ⟨hl, hgd, hq6⟩ := tdRow_at h8 h6 hv hd
    rw [hgd] at ha
    refine ⟨v, l, hv, hvu, hl, hget _ _ _ ha, fun hlv => ?_, fun u' k' hu' hk' he => ?_⟩
    · obtain ⟨v2, l2, d2, hp2, hd2, hv2, _, _, ha2⟩ := tr_told hG hv (by rw [← hk v hv]; exact hlv)
      rw [(hG.sym _ _ _ _ hp).1] at hp2
      injection hp2 with hp2
      injection hp2 with e1 e2
      subst e1 e2
      rw [(tdRow_at h8 h6 hu hd2).2.1] at ha2
      exact hget _ _ _ ha2
    · obtain ⟨v2, l2, d2, hp2, hd2, hv2, _, _, ha2⟩ := tr_told hG hu' (by rw [← hk u' hu']; exact hk')
      obtain ⟨hl2, hgd2, hq62⟩ := tdRow_at h8 h6 hv2 hd2
      rw [hgd2] at ha2
      rw [hget _ _ _ ha2] at he
      obtain ⟨rfl, rfl⟩ : v2 = v ∧ l2 = l := by omega
      have h1 := (hG.sym _ _ _ _ hp2).1
      rw [(hG.sym _ _ _ _ hp).1] at h1
      injection h1 with h1
      injection h1 with e1 e2
      exact ⟨e1.symm, e2.symm⟩

/-- What the map has behind t rows, and i of the next one. -/
def fP (e : List Ev4) (t i : Nat) (x : Int) : Option Int :=
  if 0 ≤ x ∧ (x.toNat / 10 < t ∧ x.toNat % 10 < (ansOf e (x.toNat / 10)).length ∨ x.toNat / 10 = t ∧ x.toNat % 10 < i) then some ((ansOf e (x.toNat / 10)).getD (x.toNat % 10) 0) else none
theorem fP_none (e : List Ev4) : fP e 0 0 = fun _ => none := by
  funext x
  unfold fP
  rw [if_neg (by omega)]
theorem fP_put (e : List Ev4) (t i : Nat) (hi : i < 10) : putAt (fP e t i) ((10 * t + i : Nat) : Int) ((ansOf e t).getD i 0) = fP e t (i + 1) := by
  funext x
  unfold putAt
  by_cases h : x = ((10 * t + i : Nat) : Int)
  · rw [if_pos h]
    unfold fP
    have h1 : x.toNat / 10 = t := by omega
    have h2 : x.toNat % 10 = i := by omega
    rw [h1, h2, if_pos (by omega)]
  · rw [if_neg h]
    unfold fP
    by_cases hc : 0 ≤ x ∧ (x.toNat / 10 < t ∧ x.toNat % 10 < (ansOf e (x.toNat / 10)).length ∨ x.toNat / 10 = t ∧ x.toNat % 10 < i)
    · rw [if_pos hc, if_pos ⟨hc.1, hc.2.imp id fun q => ⟨q.1, by omega⟩⟩]
    · rw [if_neg hc, if_neg]
      rintro ⟨a, b⟩
      refine hc ⟨a, b.imp id fun q => ⟨q.1, ?_⟩⟩
      omega
theorem fP_row (e : List Ev4) (t : Nat) : fP e t (ansOf e t).length = fP e (t + 1) 0 := by
  funext x
  unfold fP
  by_cases hc : 0 ≤ x ∧ (x.toNat / 10 < t ∧ x.toNat % 10 < (ansOf e (x.toNat / 10)).length ∨ x.toNat / 10 = t ∧ x.toNat % 10 < (ansOf e t).length)
  · rw [if_pos hc, if_pos]
    refine ⟨hc.1, .inl ?_⟩
    rcases hc.2 with q | ⟨q1, q2⟩
    · exact ⟨by omega, q.2⟩
    · exact ⟨by omega, by rw [q1]; exact q2⟩
  · rw [if_neg hc, if_neg]
    rintro ⟨a, b⟩
    rcases b with ⟨b1, b2⟩ | ⟨_, b2⟩
    · by_cases q : x.toNat / 10 = t
      · exact hc ⟨a, .inr ⟨q, by rw [q] at b2; exact b2⟩⟩
      · exact hc ⟨a, .inl ⟨by omega, b2⟩⟩
    · omega
theorem fP_of {e : List Ev4} {n : Nat} {x y : Int} (h : fP e n 0 x = some y) : ∃ u k : Nat, x = ((10 * u + k : Nat) : Int) ∧ u < n ∧ k < 10 ∧ k < (ansOf e u).length ∧ y = (ansOf e u).getD k 0 := by
  unfold fP at h
  by_cases hc : 0 ≤ x ∧ (x.toNat / 10 < n ∧ x.toNat % 10 < (ansOf e (x.toNat / 10)).length ∨ x.toNat / 10 = n ∧ x.toNat % 10 < 0)
  · rw [if_pos hc] at h
    injection h with h
    rcases hc.2 with q | q
    · exact ⟨x.toNat / 10, x.toNat % 10, by omega, q.1, by omega, q.2, h.symm⟩
    · omega
  · rw [if_neg hc] at h; cases h
theorem td_back {n : Nat} {qs : List Nat} {e : List Ev4} (h6 : ∀ u, u < n → qs.getD u 0 ≤ 6) (hP : TdPair n qs e) {x y z : Int} (h1 : fP e n 0 x = some y) (h2 : fP e n 0 y = some z) : z = x := by
  obtain ⟨u, k, rfl, hu, hk10, hk, rfl⟩ := fP_of h1
  obtain ⟨v, l, hv, _, hl, e1, e2, _⟩ := hP.told u k hu hk
  obtain ⟨v2, l2, e3, hv2, hl10, hl2, rfl⟩ := fP_of h2
  rw [e1] at e3
  have := h6 v hv
  obtain ⟨rfl, rfl⟩ : v2 = v ∧ l2 = l := by omega
  exact e2 hl2
theorem td_once {n : Nat} {qs : List Nat} {e : List Ev4} (hP : TdPair n qs e) {x v y : Int} (h1 : fP e n 0 x = some y) (h2 : fP e n 0 v = some y) : v = x := by
  obtain ⟨u, k, rfl, hu, hk10, hk, rfl⟩ := fP_of h1
  obtain ⟨v', l, hv, _, hl, e1, _, e2⟩ := hP.told u k hu hk
  obtain ⟨u2, k2, rfl, hu2, hk210, hk2, e3⟩ := fP_of h2
  rw [e1] at e3
  obtain ⟨rfl, rfl⟩ := e2 u2 k2 hu2 hk2 e3.symm
  rfl

theorem IM.lookOk {q : IntKind} {te : TypeId} {w : World} {b m : Nat} {f : Int → Option Int} (h : IM q te w b m f) {t : TypeId} (ht : Tryd.prog.underlying t = some (.map 3 te)) (he : Tryd.prog.underlying te = some (.int q)) (hz : (zeroValue te).run Tryd.prog w = .ok (.int q 0) w) (hz0 : (Lit.int q 0).wf = true) (a : Int) (ha : (Lit.int .i64 a).wf = true) :
    (Instr.lookup t (.map (some b)) (.int .i64 a) true).run Tryd.prog w = .ok (.tuple #[.int q ((f a).getD 0), .bool (f a).isSome]) w := by
  obtain ⟨D, hD, hf⟩ := h
  obtain ⟨v, ps, hrun, hv⟩ := hD.look_ok keyedInt ht hz (plainElem_int he hz0) (Maps.keyOf_int_mk Tryd.underlying3 ha)
  obtain ⟨c, rfl, hc, _⟩ := plainElem_int_inv he hv
  obtain ⟨h1, h2⟩ := hf a ha
  rw [hrun, h1]
  cases hfa : f a with
  | some c' =>
    have h3 := h2 c' hfa (.lit (.int q 0))
    have hc1 : D.atKey (.int .i64 a) (.lit (.int q 0)) = .lit (.int q c) := by injection hc
    rw [h3] at hc1
    injection hc1 with hc1
    injection hc1 with _ hc1
    rw [hc1]
    rfl
  | none =>
    rw [hfa] at h1
    have hc1 : D.atKey (.int .i64 a) (.lit (.int q 0)) = .lit (.int q c) := by injection hc
    rw [Maps.atKey_of_not_has (by simpa using h1)] at hc1
    injection hc1 with hc1
    injection hc1 with _ hc1
    rw [← hc1]
    rfl
theorem td_encs {qs : List Nat} {n : Nat} (hn : qs.length = n) (u : Nat) (hu : u < n) : (((tdLs qs).map (List.map encTr)).getD u []).length = qs.getD u 0 := by
  have h1 : u < (tdLs qs).length := by rw [tdLs_len]; omega
  have h2 := tdLs_at qs u (by omega)
  unfold callsT at h2
  rw [List.getD_eq_getElem?_getD, List.getElem?_eq_getElem h1] at h2
  rw [List.getD_eq_getElem?_getD, List.getElem?_map, List.getElem?_eq_getElem h1]
  show ((tdLs qs)[u].map encTr).length = _
  rw [List.length_map, show (tdLs qs)[u] = tdRow u (qs.getD u 0) from h2]
  unfold tdRow
  simp
theorem zeroInt (W : World) : (zeroValue 3).run Tryd.prog W = .ok (.int .i64 0) W := by kernel_rfl
set_option maxHeartbeats 8000000 in
theorem tradePairs_any {w : World} (hw : CW w) (A : Option Addr) (n cap : Nat) (ls : List (List Int)) (hR : IRows w w.heap.size A n ls) (hcap : n ≤ cap) (D : Option Addr) (nm cm : Nat) (l : List (Int × Bool)) (hl : Moves w w.heap.size D nm l) (dn : Bool) :
    Calls Tryd.prog 3 #[.slice A n cap, .slice D nm cm, .bool dn] w fun e w' => e = .returned (.bool true) ∧ Below w.heap.size w w' := by
  have HLt := Lib.hid (swapped_any hw)
  have HR := Lib.hid hR
  have HMv := Lib.hid hl
  have HW := Lib.hid hw
  have HCap := Lib.hid hcap
  obtain ⟨C, hC, hmk⟩ := make_words
  have HCW := Lib.hid hC
  clear hR hl hw hcap hC
  go_enter Tryd.func3, Tryd.ntmps3
  go_wp2_with fail
  refine HLt.out.mono ?_
  rintro e w1 ⟨rfl, hb1⟩
  have HB1 := Lib.hid hb1
  clear hb1 HLt
  by_cases h9 : 500 < nm
  · have h9' : (500 : Int) < (nm : Int) := by omega
    go_wp2
    go_ret
    exact ⟨rfl, HB1.out⟩
  have h9' : ¬ (500 : Int) < (nm : Int) := by omega
  have HN5 := Lib.hid (show nm ≤ 500 by omega)
  go_wp2_with fail
  refine (trades_any A n cap ls (HR.out.old HB1.out) HCap.out).mono ?_
  rintro e w2 ⟨k2, v2, hk8, rfl, ⟨A2, c2, qs, rfl, hN, hqs, hq6⟩⟩
  have h8 : qs.length ≤ 8 := by omega
  have hok := tdLs_ok h8 hq6
  have hb2 := HB1.out.trans (hN.bel.mono HB1.out.size)
  have HMd := Lib.hid (tdmade3 HW.out hb2 hok A2 D k2 c2 nm cm hN.calls l HMv.out HN5.out C HCW.out)
  have HC := Lib.hid hN.calls
  have HB2 := Lib.hid hb2
  have HQs := Lib.hid hqs
  have HK8 := Lib.hid hk8
  have HQ6 := Lib.hid (show ∀ u, u < k2 → qs.getD u 0 ≤ 6 from fun u hu => by rw [List.getD_eq_getElem?_getD, List.getElem?_eq_getElem (by omega)]; exact hq6 _ (List.getElem_mem _))
  have H86 := Lib.hid (And.intro h8 hq6)
  clear hN hb2 hqs hq6 HB1 HR HCap h9 h9' hk8 h8
  go_wp2_with fail
  --MB
  refine HMd.out.mono ?_
  rintro e w3 ⟨c, m, rfl, hA, -⟩
  cases dn
  · have HA4 := Lib.hid hA.at_
    have HEl := Lib.hid (show m.events.length ≤ 20000 by have := hA.big.events; have := hA.big.most; omega)
    have hP := td_pairs H86.out.1 H86.out.2 (p := pokesM l) (m := m) hA.la
    rw [HQs.out] at hP
    have HP := Lib.hid hP
    clear hA HMd hmk hP
    generalize m = m' at *
    generalize w3 = w4 at *
    have hmk : ∀ W : World, (Instr.makeMap 32 none).run Tryd.prog W = .ok (.map (some W.heap.size)) (W.alloc (.map #[] 0)) := fun W => run_makeMap 32 W
    have HI0 := Lib.hid (IM.made .i64 3 w4)
    have HB0 := Lib.hid ((Below.refl w4.heap.size w4).alloc (Nat.le_refl _) (.map #[] 0))
    have HS0 := Lib.hid (World.size_alloc w4 (.map #[] 0))
    have HAn := Lib.hid (answers_any (n := k2) (HA4.out.keepB HB0.out) HEl.out HP.out.evs (by have := HK8.out; omega))
    go_wp2_with fail
    --MA
    refine HAn.out.mono ?_
    rintro e w5 ⟨g, rfl, hAn5⟩
    have HB5 := Lib.hid (HB0.out.trans (hAn5.bel.mono (by rw [HS0.out]; omega)))
    have HI5 := Lib.hid (HI0.out.kept (row := none) ⟨hAn5.bel.os, hAn5.bel.tape, hAn5.bel.output, hAn5.bel.size, fun k hk _ => hAn5.bel.block k hk⟩ (by simp))
    obtain ⟨xs, hxs⟩ := hAn5.given
    have HR5 := Lib.hid hxs
    clear hxs
    rw [HS0.out] at HR5
    clear hAn5 HAn HI0 HB0 hmk
    go_wp2
    obtain ⟨b0, hb0⟩ : ∃ b0, w4.heap.size = b0 := ⟨_, rfl⟩
    rw [hb0] at HI5 HR5 HB5 ⊢
    have HBE := Lib.hid hb0
    clear hb0 HS0
    obtain ⟨ev, hev⟩ : ∃ ev, m'.events = ev := ⟨_, rfl⟩
    rw [hev] at HR5 HP HEl
    clear hev
    rw [← fP_none ev] at HI5
    go_loopw [42] (fun j wr => ∃ t : Nat, t ≤ k2 ∧ j = .int .i64 t ∧ Hid (IM .i64 3 wr b0 (10 * t) (fP ev t 0) ∧ AnsRows (b0 + 1) g k2 ev xs wr ∧ Below b0 w4 wr)) (fun j _ => k2 - (intOf j).toNat)
    case atStart => exact ⟨0, Nat.zero_le _, rfl, ⟨HI5.out, HR5.out, HB5.out⟩⟩
    case round =>
      obtain ⟨t, ht, rfl, hX⟩ := hrel
      by_cases hlt : t < k2
      · have htn : (t : Int) < (k2 : Int) := by omega
        have ht8 : t < 8 := by have := HK8.out; omega
        obtain ⟨Ai, ci, hxt, hcelli, hrowi⟩ := hX.out.2.1.at hlt
        obtain ⟨bc, offc, hAc, hbcl, hxc⟩ := HC.out.row (by omega)
        subst hAc
        obtain ⟨Ac, cc, hcellc0, hrowc⟩ := hxc t hlt
        rw [td_encs HQs.out t hlt] at hcellc0
        have HBc := Lib.hid hbcl
        have HCc := Lib.hid hcellc0
        have HXc := Lib.hid hxc
        have HCi := Lib.hid hxt
        have HX := Lib.hid hX.out
        have hfew := HP.out.few t hlt
        obtain ⟨na, hna⟩ : ∃ na, (ansOf ev t).length = na := ⟨_, rfl⟩
        obtain ⟨nl, hnl⟩ : ∃ nl, qs.getD t 0 = nl := ⟨_, rfl⟩
        have hnl6 : nl ≤ 6 := by rw [← hnl]; exact HQ6.out t hlt
        rw [hna] at hcelli hfew
        rw [hnl] at HCc hfew
        have HNa := Lib.hid hna
        clear hX hxt hrowi hna hcellc0 hrowc hbcl hxc hnl
        --MC
        go_wp2
        go_loopw [49] (fun j wr => ∃ k : Nat, k ≤ na ∧ j = .int .i64 k ∧ Hid (IM .i64 3 wr b0 (10 * t + k) (fP ev t k) ∧ AnsRows (b0 + 1) g k2 ev xs wr ∧ Below b0 w4 wr)) (fun j _ => na - (intOf j).toNat)
        case atStart => exact ⟨0, Nat.zero_le _, rfl, by first | exact HX.out | exact ⟨HX.out⟩⟩
        case round =>
          obtain ⟨k, hk, rfl, hX2⟩ := hrel
          by_cases hlt3 : k < na
          · have hkn3 : (k : Int) < (na : Int) := by omega
            have hkl : ¬ ((nl : Int) ≤ (k : Int)) := by omega
            have hk6 : k < 6 := by omega
            have hbelc : Below w2.heap.size w2 wr := HA4.out.bel.trans (hX2.out.2.2.mono (by rw [← HBE.out]; exact HA4.out.bel.size))
            have hcellc8 := (World.cell?_of_block (a := ⟨bc, offc + t, none⟩) (hbelc.block bc HBc.out)).trans HCc.out
            obtain ⟨Ai2, ci2, hci2, _, hri2⟩ := hX2.out.2.1.at hlt
            have hAi : Ai2 = Ai ∧ ci2 = ci := by
              rw [HCi.out] at hci2
              injection hci2 with hci2
              injection hci2 with q1 _ q3
              exact ⟨q1.symm, q3.symm⟩
            obtain ⟨rfl, rfl⟩ := hAi
            obtain ⟨bi, offi, hAi, _, hxi⟩ := hri2.row (by rw [HNa.out]; omega)
            subst hAi
            have hval := hxi k (by rw [HNa.out]; exact hlt3)
            obtain ⟨v, l2, hv, hvt, hl2, hy, _, _⟩ := HP.out.told t k hlt (by rw [HNa.out]; exact hlt3)
            have hput := fP_put ev t k (by omega)
            rw [hy] at hval hput
            obtain ⟨Av, cv, hcellv0, _⟩ := HXc.out v hv
            rw [td_encs HQs.out v hv] at hcellv0
            have hcellv := (World.cell?_of_block (a := ⟨bc, offc + v, none⟩) (hbelc.block bc HBc.out)).trans hcellv0
            have hq6 := HQ6.out v hv
            obtain ⟨nv, hnv⟩ : ∃ nv, qs.getD v 0 = nv := ⟨_, rfl⟩
            rw [hnv] at hcellv hl2 hq6
            have hv8 : v < 8 := by have := HK8.out; omega
            have hwf1 : (Lit.int .i64 (10 * (t : Int) + (k : Int))).wf = true := by
              have := cnt_wf (n := 10 * t + k) (by omega)
              rwa [show ((10 * t + k : Nat) : Int) = 10 * (t : Int) + (k : Int) by omega] at this
            have hwf2 : (Lit.int .i64 ((10 * v + l2 : Nat) : Int)).wf = true := cnt_wf (by omega)
            rw [show ((10 * t + k : Nat) : Int) = 10 * (t : Int) + (k : Int) by omega] at hput
            obtain ⟨w9, hup, him, hg9⟩ := hX2.out.1.put Tryd.underlying32 Tryd.underlying3 (by unfold maxLen; omega) (10 * (t : Int) + (k : Int)) ((10 * v + l2 : Nat) : Int) hwf1 hwf2
            rw [hput] at him
            have hb0 := hX2.out.1.lt
            have HNew := Lib.hid (show IM .i64 3 w9 b0 (10 * t + (k + 1)) (fP ev t (k + 1)) ∧ AnsRows (b0 + 1) g k2 ev xs w9 ∧ Below b0 w4 w9 from ⟨him, hX2.out.2.1.kept hg9 (by omega), hX2.out.2.2.grown hg9 (by omega) (by intro q hq; injection hq with hq; omega)⟩)
            have hy1 : ¬ ((10 * v + l2 : Nat) : Int) < 0 := by omega
            have hy2 : ((10 * v + l2 : Nat) : Int) / 10 = (v : Int) := by omega
            have hy3 : ((10 * v + l2 : Nat) : Int) % 10 = (l2 : Int) := by omega
            have hy4 : Int.tdiv ((10 * v + l2 : Nat) : Int) 10 = (v : Int) := by rw [Int.tdiv_eq_ediv_of_nonneg (by omega)]; exact hy2
            have hy5 : Int.tmod ((10 * v + l2 : Nat) : Int) 10 = (l2 : Int) := by rw [Int.tmod_eq_emod_of_nonneg (by omega)]; exact hy3
            have hy6 : ((v : Int) == (t : Int)) = false := by simp; omega
            have hy7 : ¬ (k2 : Int) ≤ (v : Int) := by omega
            have hy8 : ¬ (nv : Int) ≤ (l2 : Int) := by omega
            have hv2 : (v : Int) < (k2 : Int) := by omega
            generalize ((10 * v + l2 : Nat) : Int) = y at *
            clear hbelc hci2 hri2 hxi hy hput hcellv0 hwf1 hwf2 him hg9 hb0 hX2 hnv hq6
            --MD
            go_wp2
            --ME
            go_roundw
            case rel => exact ⟨k + 1, by omega, by go_num, by first | exact HNew.out | exact ⟨HNew.out⟩⟩
            case measure => simp [intOf]; omega
          · have hkn3 : ¬ (k : Int) < (na : Int) := by omega
            obtain rfl : k = na := by omega
            have HNew := Lib.hid (show IM .i64 3 wr b0 (10 * (t + 1)) (fP ev (t + 1) 0) ∧ AnsRows (b0 + 1) g k2 ev xs wr ∧ Below b0 w4 wr from ⟨by
              have h1 := hX2.out.1
              rw [← HNa.out, fP_row] at h1
              exact h1.mono (by have := HNa.out; omega), hX2.out.2⟩)
            clear hX2
            go_wp2
            go_roundw
            case rel => exact ⟨t + 1, by omega, by go_num, by first | exact HNew.out | exact ⟨HNew.out⟩⟩
            case measure => simp [intOf]; omega
      · have htn : ¬ (t : Int) < (k2 : Int) := by omega
        obtain rfl : t = k2 := by omega
        obtain ⟨D, hD, hf⟩ := hX.out.1
        have hDl := hD.lt
        have HF := Lib.hid hf
        have HBl := Lib.hid hX.out.2.2
        have HBk := Lib.hid (fun x y z => td_back (x := x) (y := y) (z := z) HQ6.out HP.out)
        have HOn := Lib.hid (fun x v y => td_once (x := x) (v := v) (y := y) HP.out)
        obtain ⟨F, hF⟩ : ∃ F, fP ev t 0 = F := ⟨_, rfl⟩
        rw [hF] at HF HBk HOn
        have hfx : ∀ (x c : Int), (Lit.int .i64 x).wf = true → (∀ zd : DataW Unit, D.atKey (.int .i64 x) zd = .lit (.int .i64 c)) → F x = some c := fun x c hwx hat => by
          obtain ⟨h1, h2⟩ := HF.out x hwx
          cases e : F x with
          | some c' =>
            have h3 := h2 c' e .nil
            rw [hat .nil] at h3
            injection h3 with h3
            injection h3 with _ h3
            rw [h3]
          | none =>
            rw [e] at h1
            have h3 := Maps.atKey_of_not_has (by simpa using h1) (DataW.nil : DataW Unit)
            rw [hat .nil] at h3
            cases h3
        have HFx := Lib.hid hfx
        generalize 10 * t = M at *
        clear hX hf hF hfx HI5 HR5 HB5
        --MR
        go_wp2_with (at_range; refine wpList_range_own _ rfl _ 32 rfl 3 3 keyedInt Tryd.underlying32 _ b0 M D rfl hD ?_; intro w0 hrg0 hg0 hs0)
        have HB1 := Lib.hid (show Below b0 w4 w0 from HBl.out.grown hg0 (by have := HBl.out.size; omega) (by intro k hk; cases hk))
        have HRG := Lib.hid hrg0
        obtain ⟨r1, hr1⟩ : ∃ r1, wr.heap.size = r1 := ⟨_, rfl⟩
        rw [hr1] at HRG hDl ⊢
        have HR1 := Lib.hid (show b0 < r1 from hDl)
        clear hg0 hs0 hrg0 hD HBl hr1 hDl
        --MS
        go_loopw [14] (fun _ wx => ∃ (left : Lit → Bool) (cnt : Nat), wx.ranges Tryd.prog 3 (plainElem Tryd.prog 3) b0 r1 M D left cnt ∧ Below b0 w4 wx) (fun _ wx => wx.rangeLeft b0 r1)
        case atStart => exact ⟨_, _, HRG.out, HB1.out⟩
        case round =>
          obtain ⟨left, cnt, hrg, hbx⟩ := hrel
          have HBx := Lib.hid hbx
          clear hbx HRG HB1
          go_wp2_with (at_next; refine wpList_next_ranges_ii _ rfl _ rfl 3 3 .i64 .i64 keyedInt Tryd.underlying3 Tryd.underlying3 b0 r1 M _ _ _ rfl hrg ?_ ?_)
          · intro _ hl0
            clear hrg hl0
            have HBz := Lib.hid (HB2.out.trans ((HA4.out.bel.trans (HBx.out.mono (by rw [← HBE.out]; exact HA4.out.bel.size))).mono HB2.out.size))
            go_wp2
            go_ret
            exact ⟨rfl, HBz.out⟩
          · intro x y w1 cnt1 hwx hwc hlx hat hrg1 hlt1 hg1 hs1 hen
            have hxy := HFx.out x y hwx hat
            have hm1 := hrg.left_eq
            have hlk := (show IM .i64 3 w1 b0 M F from ⟨D, hrg1.owns, HF.out⟩).lookOk Tryd.underlying32 Tryd.underlying3 (zeroInt w1) (by decide) y hwc
            have HB1 := Lib.hid (show Below b0 w4 w1 from HBx.out.grown hg1 (by have := HBx.out.size; have := HBE.out; omega) (by intro k hk; injection hk with hk; have := HR1.out; omega))
            have HXY := Lib.hid hxy
            have HM1 := Lib.hid hm1
            have HR := Lib.hid hrg1
            have HLT := Lib.hid hlt1
            have HBy := Lib.hid (HBk.out x y)
            have hD1 := hrg1.owns
            clear hrg hat hg1 hs1 hm1 hxy hrg1 hlt1 HBx hlx hwx hwc
            have hsame : F y = none ∨ F y = some x := by
              cases e : F y with
              | none => exact .inl rfl
              | some z => exact .inr (by rw [HBy.out z HXY.out e])
            have hxx : (x != x) = false := by simp
            rcases hsame with hs | hs
            · rw [hs] at hlk
              clear hs HBy
              simp only [Option.getD_none, Option.getD_some, Option.isSome_none, Option.isSome_some] at hlk
              go_wp2_with (at_range; refine wpList_range_own _ rfl _ 32 rfl 3 3 keyedInt Tryd.underlying32 _ b0 M D rfl hD1 ?_; intro w0 hrg0 hg0 hs0)
              go_frame
              have HB2' := Lib.hid (show Below b0 w4 w0 from HB1.out.grown hg0 (by have := HB1.out.size; have := HBE.out; omega) (by intro k hk; cases hk))
              have HRG := Lib.hid hrg0
              have HRO := Lib.hid (HR.out.kept hg0 (by simp) (by simp))
              have hnew := HR.out.lt
              have hold := HR1.out
              obtain ⟨r2, hr2⟩ : ∃ r2, w1.heap.size = r2 := ⟨_, rfl⟩
              rw [hr2] at HRG hnew ⊢
              have HR2 := Lib.hid (show r1 < r2 ∧ b0 < r2 from ⟨hnew, by omega⟩)
              clear hg0 hs0 hrg0 hD1 HB1 hr2 hnew hold HR hlk
              go_loopw [18] (fun _ wy => ∃ (left2 : Lit → Bool) (cnt2 : Nat), wy.ranges Tryd.prog 3 (plainElem Tryd.prog 3) b0 r2 M D left2 cnt2 ∧ wy.ranges Tryd.prog 3 (plainElem Tryd.prog 3) b0 r1 M D (fun z => left z && !z.sameKey (.int .i64 x)) cnt1 ∧ Below b0 w4 wy) (fun _ wy => wy.rangeLeft b0 r2)
              case atStart => exact ⟨_, _, HRG.out, HRO.out, HB2'.out⟩
              case round =>
                obtain ⟨left2, cnt2, hrg, hro, hby⟩ := hrel
                have HRo := Lib.hid hro
                have HBy := Lib.hid hby
                clear hro hby HRG HRO HB2'
                go_wp2_with (at_next; refine wpList_next_ranges_ii _ rfl _ rfl 3 3 .i64 .i64 keyedInt Tryd.underlying3 Tryd.underlying3 b0 r2 M _ _ _ rfl hrg ?_ ?_)
                · intro _ hl0
                  clear hrg hl0
                  go_wp2
                  go_roundw
                  case rel => exact ⟨_, _, HRo.out, HBy.out⟩
                  case measure => rw [HRo.out.left_eq, HM1.out]; exact HLT.out
                · intro v z w3' cnt3 hwv hwz hlv hatv hrg3 hlt3 hg3 hs3 hen3
                  have hvz := HFx.out v z hwv hatv
                  have HRo3 := Lib.hid (HRo.out.kept hg3 (by have := HR2.out; simp; omega) (by have := HR2.out; simp; omega))
                  have HB3 := Lib.hid (show Below b0 w4 w3' from HBy.out.grown hg3 (by have := HBy.out.size; have := HBE.out; omega) (by intro k hk; injection hk with hk; have := HR2.out; omega))
                  have HR3 := Lib.hid hrg3
                  have hm3 := hrg.left_eq
                  have HM3 := Lib.hid hm3
                  have HL3 := Lib.hid hlt3
                  have hcond : (v = x) ∨ (v ≠ x ∧ (z == y) = false) := by
                    by_cases e : v = x
                    · exact .inl e
                    · right
                      refine ⟨e, ?_⟩
                      cases hzy : (z == y) with
                      | false => rfl
                      | true =>
                        have : z = y := by simpa using hzy
                        subst this
                        exact absurd (HOn.out x v z HXY.out hvz) e
                  clear hrg hatv hg3 hs3 hrg3 hlt3 HRo HBy hlv hwv hwz hvz hm3
                  rcases hcond with rfl | ⟨hne, hzy⟩
                  · have hvv : (v != v) = false := by simp
                    go_wp2
                    go_roundw
                    case rel => exact ⟨_, _, HR3.out, HRo3.out, HB3.out⟩
                    case measure => rw [HR3.out.left_eq, HM3.out]; exact HL3.out
                  · have hvv : (v != x) = true := by simpa using hne
                    clear hne
                    go_wp2
                    go_roundw
                    case rel => exact ⟨_, _, HR3.out, HRo3.out, HB3.out⟩
                    case measure => rw [HR3.out.left_eq, HM3.out]; exact HL3.out
            · rw [hs] at hlk
              clear hs HBy
              simp only [Option.getD_none, Option.getD_some, Option.isSome_none, Option.isSome_some] at hlk
              go_wp2_with (at_range; refine wpList_range_own _ rfl _ 32 rfl 3 3 keyedInt Tryd.underlying32 _ b0 M D rfl hD1 ?_; intro w0 hrg0 hg0 hs0)
              go_frame
              have HB2' := Lib.hid (show Below b0 w4 w0 from HB1.out.grown hg0 (by have := HB1.out.size; have := HBE.out; omega) (by intro k hk; cases hk))
              have HRG := Lib.hid hrg0
              have HRO := Lib.hid (HR.out.kept hg0 (by simp) (by simp))
              have hnew := HR.out.lt
              have hold := HR1.out
              obtain ⟨r2, hr2⟩ : ∃ r2, w1.heap.size = r2 := ⟨_, rfl⟩
              rw [hr2] at HRG hnew ⊢
              have HR2 := Lib.hid (show r1 < r2 ∧ b0 < r2 from ⟨hnew, by omega⟩)
              clear hg0 hs0 hrg0 hD1 HB1 hr2 hnew hold HR hlk
              go_loopw [18] (fun _ wy => ∃ (left2 : Lit → Bool) (cnt2 : Nat), wy.ranges Tryd.prog 3 (plainElem Tryd.prog 3) b0 r2 M D left2 cnt2 ∧ wy.ranges Tryd.prog 3 (plainElem Tryd.prog 3) b0 r1 M D (fun z => left z && !z.sameKey (.int .i64 x)) cnt1 ∧ Below b0 w4 wy) (fun _ wy => wy.rangeLeft b0 r2)
              case atStart => exact ⟨_, _, HRG.out, HRO.out, HB2'.out⟩
              case round =>
                obtain ⟨left2, cnt2, hrg, hro, hby⟩ := hrel
                have HRo := Lib.hid hro
                have HBy := Lib.hid hby
                clear hro hby HRG HRO HB2'
                go_wp2_with (at_next; refine wpList_next_ranges_ii _ rfl _ rfl 3 3 .i64 .i64 keyedInt Tryd.underlying3 Tryd.underlying3 b0 r2 M _ _ _ rfl hrg ?_ ?_)
                · intro _ hl0
                  clear hrg hl0
                  go_wp2
                  go_roundw
                  case rel => exact ⟨_, _, HRo.out, HBy.out⟩
                  case measure => rw [HRo.out.left_eq, HM1.out]; exact HLT.out
                · intro v z w3' cnt3 hwv hwz hlv hatv hrg3 hlt3 hg3 hs3 hen3
                  have hvz := HFx.out v z hwv hatv
                  have HRo3 := Lib.hid (HRo.out.kept hg3 (by have := HR2.out; simp; omega) (by have := HR2.out; simp; omega))
                  have HB3 := Lib.hid (show Below b0 w4 w3' from HBy.out.grown hg3 (by have := HBy.out.size; have := HBE.out; omega) (by intro k hk; injection hk with hk; have := HR2.out; omega))
                  have HR3 := Lib.hid hrg3
                  have hm3 := hrg.left_eq
                  have HM3 := Lib.hid hm3
                  have HL3 := Lib.hid hlt3
                  have hcond : (v = x) ∨ (v ≠ x ∧ (z == y) = false) := by
                    by_cases e : v = x
                    · exact .inl e
                    · right
                      refine ⟨e, ?_⟩
                      cases hzy : (z == y) with
                      | false => rfl
                      | true =>
                        have : z = y := by simpa using hzy
                        subst this
                        exact absurd (HOn.out x v z HXY.out hvz) e
                  clear hrg hatv hg3 hs3 hrg3 hlt3 HRo HBy hlv hwv hwz hvz hm3
                  rcases hcond with rfl | ⟨hne, hzy⟩
                  · have hvv : (v != v) = false := by simp
                    go_wp2
                    go_roundw
                    case rel => exact ⟨_, _, HR3.out, HRo3.out, HB3.out⟩
                    case measure => rw [HR3.out.left_eq, HM3.out]; exact HL3.out
                  · have hvv : (v != x) = true := by simpa using hne
                    clear hne
                    go_wp2
                    go_roundw
                    case rel => exact ⟨_, _, HR3.out, HRo3.out, HB3.out⟩
                    case measure => rw [HR3.out.left_eq, HM3.out]; exact HL3.out
  · have HF := Lib.hid (at_finish hA.at_ hA.big)
    have HL := Lib.hid hA.la
    clear hA HMd hmk
    go_wp2_with fail
    refine HF.out.mono ?_
    rintro e w4 ⟨m', hf, rfl, hA2, hbig⟩
    obtain ⟨S, hS, _⟩ := td_fin HL.out (by have := pokesM_le l; have := HMv.out.len; have := HN5.out; omega) hf
    have hP := td_pairs H86.out.1 H86.out.2 (p := pokesM l) (m := m') ⟨S, hS⟩
    rw [HQs.out] at hP
    have HP := Lib.hid hP
    have HEl := Lib.hid (show m'.events.length ≤ 20000 by have := hbig.events; have := hbig.most; omega)
    have HA4 := Lib.hid hA2
    generalize ((m'.steps : Int) - (m.steps : Int)) = dd
    clear hf hA2 hbig HF HL hP hS
    have hmk : ∀ W : World, (Instr.makeMap 32 none).run Tryd.prog W = .ok (.map (some W.heap.size)) (W.alloc (.map #[] 0)) := fun W => run_makeMap 32 W
    have HI0 := Lib.hid (IM.made .i64 3 w4)
    have HB0 := Lib.hid ((Below.refl w4.heap.size w4).alloc (Nat.le_refl _) (.map #[] 0))
    have HS0 := Lib.hid (World.size_alloc w4 (.map #[] 0))
    have HAn := Lib.hid (answers_any (n := k2) (HA4.out.keepB HB0.out) HEl.out HP.out.evs (by have := HK8.out; omega))
    go_wp2_with fail
    --MA
    refine HAn.out.mono ?_
    rintro e w5 ⟨g, rfl, hAn5⟩
    have HB5 := Lib.hid (HB0.out.trans (hAn5.bel.mono (by rw [HS0.out]; omega)))
    have HI5 := Lib.hid (HI0.out.kept (row := none) ⟨hAn5.bel.os, hAn5.bel.tape, hAn5.bel.output, hAn5.bel.size, fun k hk _ => hAn5.bel.block k hk⟩ (by simp))
    obtain ⟨xs, hxs⟩ := hAn5.given
    have HR5 := Lib.hid hxs
    clear hxs
    rw [HS0.out] at HR5
    clear hAn5 HAn HI0 HB0 hmk
    go_wp2
    obtain ⟨b0, hb0⟩ : ∃ b0, w4.heap.size = b0 := ⟨_, rfl⟩
    rw [hb0] at HI5 HR5 HB5 ⊢
    have HBE := Lib.hid hb0
    clear hb0 HS0
    obtain ⟨ev, hev⟩ : ∃ ev, m'.events = ev := ⟨_, rfl⟩
    rw [hev] at HR5 HP HEl
    clear hev
    rw [← fP_none ev] at HI5
    go_loopw [42] (fun j wr => ∃ t : Nat, t ≤ k2 ∧ j = .int .i64 t ∧ Hid (IM .i64 3 wr b0 (10 * t) (fP ev t 0) ∧ AnsRows (b0 + 1) g k2 ev xs wr ∧ Below b0 w4 wr)) (fun j _ => k2 - (intOf j).toNat)
    case atStart => exact ⟨0, Nat.zero_le _, rfl, ⟨HI5.out, HR5.out, HB5.out⟩⟩
    case round =>
      obtain ⟨t, ht, rfl, hX⟩ := hrel
      by_cases hlt : t < k2
      · have htn : (t : Int) < (k2 : Int) := by omega
        have ht8 : t < 8 := by have := HK8.out; omega
        obtain ⟨Ai, ci, hxt, hcelli, hrowi⟩ := hX.out.2.1.at hlt
        obtain ⟨bc, offc, hAc, hbcl, hxc⟩ := HC.out.row (by omega)
        subst hAc
        obtain ⟨Ac, cc, hcellc0, hrowc⟩ := hxc t hlt
        rw [td_encs HQs.out t hlt] at hcellc0
        have HBc := Lib.hid hbcl
        have HCc := Lib.hid hcellc0
        have HXc := Lib.hid hxc
        have HCi := Lib.hid hxt
        have HX := Lib.hid hX.out
        have hfew := HP.out.few t hlt
        obtain ⟨na, hna⟩ : ∃ na, (ansOf ev t).length = na := ⟨_, rfl⟩
        obtain ⟨nl, hnl⟩ : ∃ nl, qs.getD t 0 = nl := ⟨_, rfl⟩
        have hnl6 : nl ≤ 6 := by rw [← hnl]; exact HQ6.out t hlt
        rw [hna] at hcelli hfew
        rw [hnl] at HCc hfew
        have HNa := Lib.hid hna
        clear hX hxt hrowi hna hcellc0 hrowc hbcl hxc hnl
        --MC
        go_wp2
        go_loopw [49] (fun j wr => ∃ k : Nat, k ≤ na ∧ j = .int .i64 k ∧ Hid (IM .i64 3 wr b0 (10 * t + k) (fP ev t k) ∧ AnsRows (b0 + 1) g k2 ev xs wr ∧ Below b0 w4 wr)) (fun j _ => na - (intOf j).toNat)
        case atStart => exact ⟨0, Nat.zero_le _, rfl, by first | exact HX.out | exact ⟨HX.out⟩⟩
        case round =>
          obtain ⟨k, hk, rfl, hX2⟩ := hrel
          by_cases hlt3 : k < na
          · have hkn3 : (k : Int) < (na : Int) := by omega
            have hkl : ¬ ((nl : Int) ≤ (k : Int)) := by omega
            have hk6 : k < 6 := by omega
            have hbelc : Below w2.heap.size w2 wr := HA4.out.bel.trans (hX2.out.2.2.mono (by rw [← HBE.out]; exact HA4.out.bel.size))
            have hcellc8 := (World.cell?_of_block (a := ⟨bc, offc + t, none⟩) (hbelc.block bc HBc.out)).trans HCc.out
            obtain ⟨Ai2, ci2, hci2, _, hri2⟩ := hX2.out.2.1.at hlt
            have hAi : Ai2 = Ai ∧ ci2 = ci := by
              rw [HCi.out] at hci2
              injection hci2 with hci2
              injection hci2 with q1 _ q3
              exact ⟨q1.symm, q3.symm⟩
            obtain ⟨rfl, rfl⟩ := hAi
            obtain ⟨bi, offi, hAi, _, hxi⟩ := hri2.row (by rw [HNa.out]; omega)
            subst hAi
            have hval := hxi k (by rw [HNa.out]; exact hlt3)
            obtain ⟨v, l2, hv, hvt, hl2, hy, _, _⟩ := HP.out.told t k hlt (by rw [HNa.out]; exact hlt3)
            have hput := fP_put ev t k (by omega)
            rw [hy] at hval hput
            obtain ⟨Av, cv, hcellv0, _⟩ := HXc.out v hv
            rw [td_encs HQs.out v hv] at hcellv0
            have hcellv := (World.cell?_of_block (a := ⟨bc, offc + v, none⟩) (hbelc.block bc HBc.out)).trans hcellv0
            have hq6 := HQ6.out v hv
            obtain ⟨nv, hnv⟩ : ∃ nv, qs.getD v 0 = nv := ⟨_, rfl⟩
            rw [hnv] at hcellv hl2 hq6
            have hv8 : v < 8 := by have := HK8.out; omega
            have hwf1 : (Lit.int .i64 (10 * (t : Int) + (k : Int))).wf = true := by
              have := cnt_wf (n := 10 * t + k) (by omega)
              rwa [show ((10 * t + k : Nat) : Int) = 10 * (t : Int) + (k : Int) by omega] at this
            have hwf2 : (Lit.int .i64 ((10 * v + l2 : Nat) : Int)).wf = true := cnt_wf (by omega)
            rw [show ((10 * t + k : Nat) : Int) = 10 * (t : Int) + (k : Int) by omega] at hput
            obtain ⟨w9, hup, him, hg9⟩ := hX2.out.1.put Tryd.underlying32 Tryd.underlying3 (by unfold maxLen; omega) (10 * (t : Int) + (k : Int)) ((10 * v + l2 : Nat) : Int) hwf1 hwf2
            rw [hput] at him
            have hb0 := hX2.out.1.lt
            have HNew := Lib.hid (show IM .i64 3 w9 b0 (10 * t + (k + 1)) (fP ev t (k + 1)) ∧ AnsRows (b0 + 1) g k2 ev xs w9 ∧ Below b0 w4 w9 from ⟨him, hX2.out.2.1.kept hg9 (by omega), hX2.out.2.2.grown hg9 (by omega) (by intro q hq; injection hq with hq; omega)⟩)
            have hy1 : ¬ ((10 * v + l2 : Nat) : Int) < 0 := by omega
            have hy2 : ((10 * v + l2 : Nat) : Int) / 10 = (v : Int) := by omega
            have hy3 : ((10 * v + l2 : Nat) : Int) % 10 = (l2 : Int) := by omega
            have hy4 : Int.tdiv ((10 * v + l2 : Nat) : Int) 10 = (v : Int) := by rw [Int.tdiv_eq_ediv_of_nonneg (by omega)]; exact hy2
            have hy5 : Int.tmod ((10 * v + l2 : Nat) : Int) 10 = (l2 : Int) := by rw [Int.tmod_eq_emod_of_nonneg (by omega)]; exact hy3
            have hy6 : ((v : Int) == (t : Int)) = false := by simp; omega
            have hy7 : ¬ (k2 : Int) ≤ (v : Int) := by omega
            have hy8 : ¬ (nv : Int) ≤ (l2 : Int) := by omega
            have hv2 : (v : Int) < (k2 : Int) := by omega
            generalize ((10 * v + l2 : Nat) : Int) = y at *
            clear hbelc hci2 hri2 hxi hy hput hcellv0 hwf1 hwf2 him hg9 hb0 hX2 hnv hq6
            --MD
            go_wp2
            --ME
            go_roundw
            case rel => exact ⟨k + 1, by omega, by go_num, by first | exact HNew.out | exact ⟨HNew.out⟩⟩
            case measure => simp [intOf]; omega
          · have hkn3 : ¬ (k : Int) < (na : Int) := by omega
            obtain rfl : k = na := by omega
            have HNew := Lib.hid (show IM .i64 3 wr b0 (10 * (t + 1)) (fP ev (t + 1) 0) ∧ AnsRows (b0 + 1) g k2 ev xs wr ∧ Below b0 w4 wr from ⟨by
              have h1 := hX2.out.1
              rw [← HNa.out, fP_row] at h1
              exact h1.mono (by have := HNa.out; omega), hX2.out.2⟩)
            clear hX2
            go_wp2
            go_roundw
            case rel => exact ⟨t + 1, by omega, by go_num, by first | exact HNew.out | exact ⟨HNew.out⟩⟩
            case measure => simp [intOf]; omega
      · have htn : ¬ (t : Int) < (k2 : Int) := by omega
        obtain rfl : t = k2 := by omega
        obtain ⟨D, hD, hf⟩ := hX.out.1
        have hDl := hD.lt
        have HF := Lib.hid hf
        have HBl := Lib.hid hX.out.2.2
        have HBk := Lib.hid (fun x y z => td_back (x := x) (y := y) (z := z) HQ6.out HP.out)
        have HOn := Lib.hid (fun x v y => td_once (x := x) (v := v) (y := y) HP.out)
        obtain ⟨F, hF⟩ : ∃ F, fP ev t 0 = F := ⟨_, rfl⟩
        rw [hF] at HF HBk HOn
        have hfx : ∀ (x c : Int), (Lit.int .i64 x).wf = true → (∀ zd : DataW Unit, D.atKey (.int .i64 x) zd = .lit (.int .i64 c)) → F x = some c := fun x c hwx hat => by
          obtain ⟨h1, h2⟩ := HF.out x hwx
          cases e : F x with
          | some c' =>
            have h3 := h2 c' e .nil
            rw [hat .nil] at h3
            injection h3 with h3
            injection h3 with _ h3
            rw [h3]
          | none =>
            rw [e] at h1
            have h3 := Maps.atKey_of_not_has (by simpa using h1) (DataW.nil : DataW Unit)
            rw [hat .nil] at h3
            cases h3
        have HFx := Lib.hid hfx
        generalize 10 * t = M at *
        clear hX hf hF hfx HI5 HR5 HB5
        --MR
        go_wp2_with (at_range; refine wpList_range_own _ rfl _ 32 rfl 3 3 keyedInt Tryd.underlying32 _ b0 M D rfl hD ?_; intro w0 hrg0 hg0 hs0)
        have HB1 := Lib.hid (show Below b0 w4 w0 from HBl.out.grown hg0 (by have := HBl.out.size; omega) (by intro k hk; cases hk))
        have HRG := Lib.hid hrg0
        obtain ⟨r1, hr1⟩ : ∃ r1, wr.heap.size = r1 := ⟨_, rfl⟩
        rw [hr1] at HRG hDl ⊢
        have HR1 := Lib.hid (show b0 < r1 from hDl)
        clear hg0 hs0 hrg0 hD HBl hr1 hDl
        --MS
        go_loopw [14] (fun _ wx => ∃ (left : Lit → Bool) (cnt : Nat), wx.ranges Tryd.prog 3 (plainElem Tryd.prog 3) b0 r1 M D left cnt ∧ Below b0 w4 wx) (fun _ wx => wx.rangeLeft b0 r1)
        case atStart => exact ⟨_, _, HRG.out, HB1.out⟩
        case round =>
          obtain ⟨left, cnt, hrg, hbx⟩ := hrel
          have HBx := Lib.hid hbx
          clear hbx HRG HB1
          go_wp2_with (at_next; refine wpList_next_ranges_ii _ rfl _ rfl 3 3 .i64 .i64 keyedInt Tryd.underlying3 Tryd.underlying3 b0 r1 M _ _ _ rfl hrg ?_ ?_)
          · intro _ hl0
            clear hrg hl0
            have HBz := Lib.hid (HB2.out.trans ((HA4.out.bel.trans (HBx.out.mono (by rw [← HBE.out]; exact HA4.out.bel.size))).mono HB2.out.size))
            go_wp2
            go_ret
            exact ⟨rfl, HBz.out⟩
          · intro x y w1 cnt1 hwx hwc hlx hat hrg1 hlt1 hg1 hs1 hen
            have hxy := HFx.out x y hwx hat
            have hm1 := hrg.left_eq
            have hlk := (show IM .i64 3 w1 b0 M F from ⟨D, hrg1.owns, HF.out⟩).lookOk Tryd.underlying32 Tryd.underlying3 (zeroInt w1) (by decide) y hwc
            have HB1 := Lib.hid (show Below b0 w4 w1 from HBx.out.grown hg1 (by have := HBx.out.size; have := HBE.out; omega) (by intro k hk; injection hk with hk; have := HR1.out; omega))
            have HXY := Lib.hid hxy
            have HM1 := Lib.hid hm1
            have HR := Lib.hid hrg1
            have HLT := Lib.hid hlt1
            have HBy := Lib.hid (HBk.out x y)
            have hD1 := hrg1.owns
            clear hrg hat hg1 hs1 hm1 hxy hrg1 hlt1 HBx hlx hwx hwc
            have hsame : F y = none ∨ F y = some x := by
              cases e : F y with
              | none => exact .inl rfl
              | some z => exact .inr (by rw [HBy.out z HXY.out e])
            have hxx : (x != x) = false := by simp
            rcases hsame with hs | hs
            · rw [hs] at hlk
              clear hs HBy
              simp only [Option.getD_none, Option.getD_some, Option.isSome_none, Option.isSome_some] at hlk
              go_wp2_with (at_range; refine wpList_range_own _ rfl _ 32 rfl 3 3 keyedInt Tryd.underlying32 _ b0 M D rfl hD1 ?_; intro w0 hrg0 hg0 hs0)
              go_frame
              have HB2' := Lib.hid (show Below b0 w4 w0 from HB1.out.grown hg0 (by have := HB1.out.size; have := HBE.out; omega) (by intro k hk; cases hk))
              have HRG := Lib.hid hrg0
              have HRO := Lib.hid (HR.out.kept hg0 (by simp) (by simp))
              have hnew := HR.out.lt
              have hold := HR1.out
              obtain ⟨r2, hr2⟩ : ∃ r2, w1.heap.size = r2 := ⟨_, rfl⟩
              rw [hr2] at HRG hnew ⊢
              have HR2 := Lib.hid (show r1 < r2 ∧ b0 < r2 from ⟨hnew, by omega⟩)
              clear hg0 hs0 hrg0 hD1 HB1 hr2 hnew hold HR hlk
              go_loopw [18] (fun _ wy => ∃ (left2 : Lit → Bool) (cnt2 : Nat), wy.ranges Tryd.prog 3 (plainElem Tryd.prog 3) b0 r2 M D left2 cnt2 ∧ wy.ranges Tryd.prog 3 (plainElem Tryd.prog 3) b0 r1 M D (fun z => left z && !z.sameKey (.int .i64 x)) cnt1 ∧ Below b0 w4 wy) (fun _ wy => wy.rangeLeft b0 r2)
              case atStart => exact ⟨_, _, HRG.out, HRO.out, HB2'.out⟩
              case round =>
                obtain ⟨left2, cnt2, hrg, hro, hby⟩ := hrel
                have HRo := Lib.hid hro
                have HBy := Lib.hid hby
                clear hro hby HRG HRO HB2'
                go_wp2_with (at_next; refine wpList_next_ranges_ii _ rfl _ rfl 3 3 .i64 .i64 keyedInt Tryd.underlying3 Tryd.underlying3 b0 r2 M _ _ _ rfl hrg ?_ ?_)
                · intro _ hl0
                  clear hrg hl0
                  go_wp2
                  go_roundw
                  case rel => exact ⟨_, _, HRo.out, HBy.out⟩
                  case measure => rw [HRo.out.left_eq, HM1.out]; exact HLT.out
                · intro v z w3' cnt3 hwv hwz hlv hatv hrg3 hlt3 hg3 hs3 hen3
                  have hvz := HFx.out v z hwv hatv
                  have HRo3 := Lib.hid (HRo.out.kept hg3 (by have := HR2.out; simp; omega) (by have := HR2.out; simp; omega))
                  have HB3 := Lib.hid (show Below b0 w4 w3' from HBy.out.grown hg3 (by have := HBy.out.size; have := HBE.out; omega) (by intro k hk; injection hk with hk; have := HR2.out; omega))
                  have HR3 := Lib.hid hrg3
                  have hm3 := hrg.left_eq
                  have HM3 := Lib.hid hm3
                  have HL3 := Lib.hid hlt3
                  have hcond : (v = x) ∨ (v ≠ x ∧ (z == y) = false) := by
                    by_cases e : v = x
                    · exact .inl e
                    · right
                      refine ⟨e, ?_⟩
                      cases hzy : (z == y) with
                      | false => rfl
                      | true =>
                        have : z = y := by simpa using hzy
                        subst this
                        exact absurd (HOn.out x v z HXY.out hvz) e
                  clear hrg hatv hg3 hs3 hrg3 hlt3 HRo HBy hlv hwv hwz hvz hm3
                  rcases hcond with rfl | ⟨hne, hzy⟩
                  · have hvv : (v != v) = false := by simp
                    go_wp2
                    go_roundw
                    case rel => exact ⟨_, _, HR3.out, HRo3.out, HB3.out⟩
                    case measure => rw [HR3.out.left_eq, HM3.out]; exact HL3.out
                  · have hvv : (v != x) = true := by simpa using hne
                    clear hne
                    go_wp2
                    go_roundw
                    case rel => exact ⟨_, _, HR3.out, HRo3.out, HB3.out⟩
                    case measure => rw [HR3.out.left_eq, HM3.out]; exact HL3.out
            · rw [hs] at hlk
              clear hs HBy
              simp only [Option.getD_none, Option.getD_some, Option.isSome_none, Option.isSome_some] at hlk
              go_wp2_with (at_range; refine wpList_range_own _ rfl _ 32 rfl 3 3 keyedInt Tryd.underlying32 _ b0 M D rfl hD1 ?_; intro w0 hrg0 hg0 hs0)
              go_frame
              have HB2' := Lib.hid (show Below b0 w4 w0 from HB1.out.grown hg0 (by have := HB1.out.size; have := HBE.out; omega) (by intro k hk; cases hk))
              have HRG := Lib.hid hrg0
              have HRO := Lib.hid (HR.out.kept hg0 (by simp) (by simp))
              have hnew := HR.out.lt
              have hold := HR1.out
              obtain ⟨r2, hr2⟩ : ∃ r2, w1.heap.size = r2 := ⟨_, rfl⟩
              rw [hr2] at HRG hnew ⊢
              have HR2 := Lib.hid (show r1 < r2 ∧ b0 < r2 from ⟨hnew, by omega⟩)
              clear hg0 hs0 hrg0 hD1 HB1 hr2 hnew hold HR hlk
              go_loopw [18] (fun _ wy => ∃ (left2 : Lit → Bool) (cnt2 : Nat), wy.ranges Tryd.prog 3 (plainElem Tryd.prog 3) b0 r2 M D left2 cnt2 ∧ wy.ranges Tryd.prog 3 (plainElem Tryd.prog 3) b0 r1 M D (fun z => left z && !z.sameKey (.int .i64 x)) cnt1 ∧ Below b0 w4 wy) (fun _ wy => wy.rangeLeft b0 r2)
              case atStart => exact ⟨_, _, HRG.out, HRO.out, HB2'.out⟩
              case round =>
                obtain ⟨left2, cnt2, hrg, hro, hby⟩ := hrel
                have HRo := Lib.hid hro
                have HBy := Lib.hid hby
                clear hro hby HRG HRO HB2'
                go_wp2_with (at_next; refine wpList_next_ranges_ii _ rfl _ rfl 3 3 .i64 .i64 keyedInt Tryd.underlying3 Tryd.underlying3 b0 r2 M _ _ _ rfl hrg ?_ ?_)
                · intro _ hl0
                  clear hrg hl0
                  go_wp2
                  go_roundw
                  case rel => exact ⟨_, _, HRo.out, HBy.out⟩
                  case measure => rw [HRo.out.left_eq, HM1.out]; exact HLT.out
                · intro v z w3' cnt3 hwv hwz hlv hatv hrg3 hlt3 hg3 hs3 hen3
                  have hvz := HFx.out v z hwv hatv
                  have HRo3 := Lib.hid (HRo.out.kept hg3 (by have := HR2.out; simp; omega) (by have := HR2.out; simp; omega))
                  have HB3 := Lib.hid (show Below b0 w4 w3' from HBy.out.grown hg3 (by have := HBy.out.size; have := HBE.out; omega) (by intro k hk; injection hk with hk; have := HR2.out; omega))
                  have HR3 := Lib.hid hrg3
                  have hm3 := hrg.left_eq
                  have HM3 := Lib.hid hm3
                  have HL3 := Lib.hid hlt3
                  have hcond : (v = x) ∨ (v ≠ x ∧ (z == y) = false) := by
                    by_cases e : v = x
                    · exact .inl e
                    · right
                      refine ⟨e, ?_⟩
                      cases hzy : (z == y) with
                      | false => rfl
                      | true =>
                        have : z = y := by simpa using hzy
                        subst this
                        exact absurd (HOn.out x v z HXY.out hvz) e
                  clear hrg hatv hg3 hs3 hrg3 hlt3 HRo HBy hlv hwv hwz hvz hm3
                  rcases hcond with rfl | ⟨hne, hzy⟩
                  · have hvv : (v != v) = false := by simp
                    go_wp2
                    go_roundw
                    case rel => exact ⟨_, _, HR3.out, HRo3.out, HB3.out⟩
                    case measure => rw [HR3.out.left_eq, HM3.out]; exact HL3.out
                  · have hvv : (v != x) = true := by simpa using hne
                    clear hne
                    go_wp2
                    go_roundw
                    case rel => exact ⟨_, _, HR3.out, HRo3.out, HB3.out⟩
                    case measure => rw [HR3.out.left_eq, HM3.out]; exact HL3.out
end Go.Proofs.YtlcffeiolpggfaaDoor

namespace Go.Proofs.YtlcffeiolpggfaaDoor.tradePairs
open Go.ChangeShapes Go.WideShapes Go.ChangeAt Go.RowKit
set_option linter.unusedVariables false

theorem own : ownKnob Tryd.prog.godebug = none := by kernel_rfl
theorem laidOut : laidOutB Tryd.prog = true := by kernel_rfl
theorem tsize : Tryd.prog.types.size = 203 := by kernel_rfl

/-- What the listed variables give the walk. -/
theorem cw_of {W : World} (h : laidMetH Tryd.prog Rows.tradePairsRow.laid W) : CW W := by
  have h' : laidMet Tryd.prog (Rows.tradePairsRow.laid.filter fun x => x.2.handleName?.isNone) W ∧ handlesMet Tryd.prog (Rows.tradePairsRow.laid.filter fun x => x.2.handleName?.isSome) W := h
  exact cw_of_laid h'.1 (List.mem_filter.2 ⟨.tail _ (.head _), rfl⟩)

/-- So many blocks has the settled world. -/
noncomputable def low : Nat := (World.holding Tryd.prog default ⟨#[], #[], []⟩).heap.size
def put (o : Obj) (cs : Array Value) : Obj := match o with
  | .cells _ t frozen => .cells cs t frozen
  | o => o
def tab (k : IntKind) (zs : List Int) : Array Value := (zs.map fun z => Value.int k z).toArray
/-- A world that meets the condition. -/
noncomputable def laidWorld (os : Os) : World :=
  let w0 := World.holding Tryd.prog os ⟨#[], #[], []⟩
  { w0 with heap := ((w0.heap.modify 1 (put · #[.iface 157 (.agg #[.pointer (some ⟨2, 39, none⟩)])])).modify 0 (put · formCells)) }
theorem laidWorld_met (os : Os) (args : Array Value) : laidMetH Tryd.prog Rows.tradePairsRow.laid ((laidWorld os).forCall (fun _ _ => 0) ⟨#[], args, []⟩).memory :=
  laidMetH_of_parts (LaidIn.of_run [0] 8 (by kernel_rfl) (by kernel_rfl) (by kernel_rfl) (by kernel_rfl)).met (by kernel_rfl)

/-- The walk. -/
theorem walk (a0 : Option Addr) (len0 cap0 : Nat) (nods0 : List (List Int)) (a1 : Option Addr) (len1 cap1 : Nat) (nods1 : List (Int × Bool)) (a2 : Bool) (w : World) (hw : CW w) (N0 : IRows w w.heap.size a0 len0 nods0) (I0 : len0 ≤ cap0) (N1 : Moves w w.heap.size a1 len1 nods1) (I1 : True) :
    Calls Tryd.prog 3 #[.slice a0 len0 cap0, .slice a1 len1 cap1, .bool a2] w fun e w' => e = .returned (.bool true) ∧ Below w.heap.size w w' := by
  exact tradePairs_any hw a0 len0 cap0 nods0 N0 I0 a1 len1 cap1 nods1 N1 a2

set_option maxRecDepth 100000 in
theorem lifted (os : Os) (started : os.Started) (H : Type) (enc : TypeId × Value → H) :
    ReturnsInHanded {} Tryd.checked os 3 .any (fun w args => (Rows.tradePairsSpec.pre enc Tryd.prog Tryd.f3 [] false w args ∧ laidMetH Tryd.prog Rows.tradePairsRow.laid w) ∧ sizedMet enc Tryd.prog Tryd.f3 (OpenSpec.ofChange Rows.tradePairsSpec) false w args)
      (Rows.tradePairsSpec.post enc Tryd.prog Tryd.f3 false true false false) := by
  refine returnsInHanded_of_change_and (C := Tryd.checked) (X := fun w _ => laidMetH Tryd.prog Rows.tradePairsRow.laid w) (fun _ _ _ hh h => h.of_heap hh) own started (by kernel_rfl) Tryd.func3
    (ChangeSpec.witness_at (enc := enc) (C := Tryd.checked) (os := os) (X := fun w _ => laidMetH Tryd.prog Rows.tradePairsRow.laid w) false (laidWorld os) #[.slice none 0 0, .slice none 0 0, .bool false] 8 rfl (by kernel_rfl) (by kernel_rfl) (by kernel_rfl) (by kernel_rfl) (by kernel_rfl) (laidWorld_met os _)) ?_
  intro W base args ds gs before hval0 hW _ _ hL _
  have hval : ∀ (j : Nat) t v, Tryd.f3.params[j]? = some t → args[j]? = some v → Value.okWide Tryd.prog W .any base t v := hval0
  have hW' := hW
  obtain ⟨p, q, hA0, hV0, rfl, hfz, hnd⟩ := hW
  have hA : DataW.TrodAll enc Tryd.prog W 0 (fun _ => true) true Tryd.f3.params.toList args.toList ds p := hA0
  have hV : DataW.TrodVars enc Tryd.prog W (fun _ => true) [] gs q := hV0
  rw [Tryd.params3] at hA hval
  obtain ⟨v0, vs0, d0, ds0, p0, q0, hargs, rfl, rfl, h0, r0⟩ := trodAll_cons hA
  obtain ⟨v1, vs1, d1, ds1, p1, q1, rfl, rfl, rfl, h1, r1⟩ := trodAll_cons r0
  obtain ⟨v2, vs2, d2, ds2, p2, q2, rfl, rfl, rfl, h2, r2⟩ := trodAll_cons r1
  obtain ⟨rfl, rfl, rfl⟩ := trodAll_nil r2
  obtain rfl : args = #[v0, v1, v2] := by cases args; simp_all
  obtain ⟨rfl, rfl⟩ : gs = [] ∧ q = [] := by
    cases gs with
    | nil => exact ⟨rfl, hV⟩
    | cons g r => exact absurd hV (by intro h; cases h)
  obtain ⟨a0, len0, cap0, rfl⟩ := okWide_slice Tryd.underlying22 (hval 0 22 v0 rfl rfl)
  have k0 := h0
  have lt0 : ∀ x ∈ p0, x.block < W.heap.size := by obtain ⟨m, hm⟩ := k0; exact DataW.trod_lt m _ _ _ hm
  obtain ⟨nods0, N0, I0⟩ : ∃ nods, IRows W W.heap.size a0 len0 nods ∧ len0 ≤ cap0 := by
    obtain ⟨fuel, hf⟩ := h0
    obtain ⟨ls, hl⟩ := intss_of (a := a0) (len := len0) (cap := cap0) hf; exact ⟨ls, hl, cap_slice Tryd.underlying22 hf⟩
  obtain ⟨a1, len1, cap1, rfl⟩ := okWide_slice Tryd.underlying23 (hval 1 23 v1 rfl rfl)
  have k1 := h1
  have lt1 : ∀ x ∈ p1, x.block < W.heap.size := by obtain ⟨m, hm⟩ := k1; exact DataW.trod_lt m _ _ _ hm
  obtain ⟨nods1, N1, I1⟩ : ∃ nods, Moves W W.heap.size a1 len1 nods ∧ True := by
    obtain ⟨fuel, hf⟩ := h1
    obtain ⟨l, hl⟩ := moves_of (a := a1) (len := len1) (cap := cap1) hf; exact ⟨l, hl, trivial⟩
  obtain ⟨a2, rfl, rfl, rfl⟩ := Go.RowKit.open_bool Tryd.underlying4 (hval 2 4 v2 rfl rfl) h2
  have hw := cw_of hL
  clear hA0 hval0
  refine (walk a0 len0 cap0 nods0 a1 len1 cap1 nods1 a2 W hw N0 I0 N1 I1).mono fun e W' ⟨he, bel⟩ => ?_
  subst he
  exact ⟨_, rfl, _, _, _, [], _, [], hW', trodAll_mk1 (shut_bool Tryd.underlying4 _), (trodAll_cons_mk (Below.trod laidOut (by kernel_rfl) (of_decide_eq_true (by kernel_rfl)) k0 bel lt0) (trodAll_cons_mk (Below.trod laidOut (by kernel_rfl) (of_decide_eq_true (by kernel_rfl)) k1 bel lt1) (trodAll_cons_mk (Go.RowKit.shut_bool Tryd.underlying4 _) trodAll_mk0))), rfl, bel.frame _, fun h => by cases h⟩

theorem over : Rows.TradePairsSaid :=
  OpenClaim.holds_of_wide 3 Tryd.f3 rfl rfl rfl rfl rfl rfl rfl ⟨rfl, rfl, rfl, rfl, rfl⟩ rfl rfl rfl rfl rfl (by kernel_rfl) Tryd.func3 (by kernel_rfl)
    (of_decide_eq_true (by kernel_rfl)) (by unfold Func.isWrapper; first | (rw [if_pos (by decide +kernel)]; kernel_rfl) | (rw [if_neg (by decide +kernel)]; exact ⟨rfl, rfl⟩))
    (fun os started H enc _ => lifted os started H enc)

/-- The given statement: the tied card. -/
theorem proved : Rows.TradePairsCardSaid :=
  Claim7.holds_tied_plain_at .later [] [.handle, .data] true (true, "2b77dcc38a4182b78a73dd2631583c6f797fb6ae126ce060a626d783a5fb59f6") true
    over (fun _ h => by cases h) (by kernel_rfl) (fun _ h => by cases h) tradePairs_row_tie rfl ⟨rfl, rfl⟩ (by kernel_rfl) rfl
    (fun f fn hf hfn => by
      obtain rfl : f = 3 := Option.some.inj ((show Tryd.prog.funcNamed "quadrille/quadrillekeep.TradePairs" = some 3 by kernel_rfl).symm.trans hf) |>.symm
      obtain rfl : fn = Tryd.f3 := (Option.some.inj (Tryd.func3.symm.trans hfn)).symm
      refine ⟨by kernel_rfl, fun j t ht => ?_⟩
      rw [Tryd.params3] at ht
      have hm : t ∈ [22, 23, 4] := by
        have := Array.mem_of_getElem? ht
        simpa using this
      have hall : ([22, 23, 4].all fun u => !Tryd.prog.wantsStandIn u) = true := by kernel_rfl
      exact (show Tryd.prog.wantsStandIn t = false by simpa using List.all_eq_true.1 hall t hm))
    (by kernel_rfl)
#print axioms proved
end Go.Proofs.YtlcffeiolpggfaaDoor.tradePairs
