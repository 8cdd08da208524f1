/-
  Who is missing is found out: where one that came is left out, and somebody goes of its round later, the judge finds it. No conditions.
-/
import Derived.Test.YtaagdmompaphiaaGreatDoorQN2
import Derived.Test.YtaagdmompaphiaaGreatDoorQN3
import Derived.Test.YtaagdmompaphiaaGreatDoorQM2
import Derived.Test.YtaagdmompaphiaaGreatDoorQO
import Derived.Test.YtaagdmompaphiaaGreatDoorRows
import Derived.Test.YtaagdmompaphiaaGreatDoorCards
import Derived.Test.YtaagdmompaphiaaGreatDoorTie
import Derived.WalkKit
import Derived.ProofKit
import Derived.OpenShut
import Derived.ChangeOld
import Derived.Below
import Derived.ChangeSame
import Derived.ChangeVars
import Derived.JoinedOf
import Derived.RowKitTokens
import Derived.LaidLaws
import Derived.LaidHandle
import Derived.Stop.Joined
import Derived.SevenTiedAt
import Derived.Lib.LaidTab
import Derived.Lib.LaidIn
import Derived.Test.YtaagdmompaphiaaGreatDoorQA
import Derived.ChangeMaps5
import Derived.Test.YtaagdmompaphiaaGreatDoorQE3
import Derived.Test.YtaagdmompaphiaaGreatDoorQE
import Derived.Test.YtaagdmompaphiaaGreatDoorQN
namespace Go.Proofs.YtaagdmompaphiaaGreatDoor
set_option maxRecDepth 100000
open Go.RowKit Go.Shelf Go.Sort
set_option linter.unusedVariables false
set_option linter.unusedSimpArgs false

set_option maxHeartbeats 400000 in
theorem pick_big (a : Int) (n : Nat) (h0 : 0 < n) (hn : n ≤ 20000) : ∃ u : Nat, u < n ∧ ∀ w, Calls Tryz.prog 10 #[.int .i64 a, .int .i64 (n : Nat)] w fun e w' => e = .returned (.int .i64 (u : Nat)) ∧ w = w' := by
  have h1 := pickI_lo a n
  have h2 := pickI_hi a n h0
  refine ⟨(pickI a n).toNat, by omega, fun w => ?_⟩
  have hd : (IntKind.u64.wrap a).tmod n = pickI a n := rfl
  have H := Lib.hid (And.intro h1 (And.intro h2 hd))
  clear h1 h2 hd
  go_enter Tryz.func10, Tryz.ntmps10
  go_wp2
  go_ret
  refine ⟨ret_int ?_, rfl⟩
  obtain ⟨h1, h2, h3⟩ := H.out
  rw [h3]
  unfold wrap64
  omega
theorem EvRow.tail {w : World} {b off n k : Nat} {l : List Ev4} (h : EvRow w (some ⟨b, off, none⟩) n l) (hk : k ≤ n) : EvRow w (some ⟨b, off + k * 4, none⟩) (n - k) (l.drop k) := fun i hi => by
  obtain ⟨b1, off1, e, c0, c1, c2, c3⟩ := h (k + i) (by omega)
  obtain ⟨rfl, rfl⟩ : b = b1 ∧ off = off1 := by injection e with e; injection e with h1 h2; exact ⟨h1, h2⟩
  have ed : (l.drop k).getD i default = l.getD (k + i) default := by rw [List.getD_eq_getElem?_getD, List.getElem?_drop, ← List.getD_eq_getElem?_getD]
  rw [ed]
  have ea : off + k * 4 + i * 4 = off + (k + i) * 4 := by omega
  refine ⟨b, off + k * 4, rfl, ?_, ?_, ?_, ?_⟩
  · rw [ea]; exact c0
  · rw [ea]; exact c1
  · rw [ea]; exact c2
  · rw [ea]; exact c3
/-- One that comes is missing, of whose round somebody goes later. -/
theorem missing_no {n u : Nat} {E : List Ev4} (h : OkEv n E) (hu : u < E.length) (hx : (E.getD u default).2.1 = 1) (hl : (E.drop (u + 1)).any (fun e => e.2.1 == 2 && e.2.2.2 == (E.getD u default).2.2.2) = true) : judgeP n [] (E.eraseIdx u) ≠ none := by
  intro hj
  rw [judge_ok] at hj
  have e0 : E.getD u default = E[u] := by rw [List.getD_eq_getElem?_getD, List.getElem?_eq_getElem hu]; rfl
  have eE : E = E.take u ++ E.getD u default :: E.drop (u + 1) := by
    rw [e0, ← List.drop_eq_getElem_cons hu, List.take_append_drop]
  rw [List.any_eq_true] at hl
  obtain ⟨e, he, h2⟩ := hl
  simp only [Bool.and_eq_true, beq_iff_eq] at h2
  rw [List.eraseIdx_eq_take_drop_succ] at hj
  generalize E.getD u default = x at *
  rw [eE] at h
  exact judge_missing h hx he h2.1 h2.2 hj

set_option maxHeartbeats 1000000 in
theorem judgeMissingc_any {w : World} {g1 g2 b off len cap u : Nat} {v : Int} (h1 : w.cell? ⟨g1, 0, none⟩ = some (.slice (some ⟨b, off, none⟩) len cap)) (h2 : w.cell? ⟨g2, 0, none⟩ = some (.int .i64 (u : Nat))) (hu : u < len) (h3 : w.cell? ⟨b, off + u * 4 + 3, none⟩ = some (.int .i64 v)) (t : Ev4) :
    Calls Tryz.prog 20 #[evD t, .pointer (some ⟨g1, 0, none⟩), .pointer (some ⟨g2, 0, none⟩)] w fun e w' => e = .returned (.bool (t.2.1 == 2 && t.2.2.2 == v)) ∧ w.grownBy w' none := by
  have hga := grown_a (World.grownBy.refl w none) (.cells #[.int .i64 t.1, .int .i64 t.2.1, .int .i64 t.2.2.1, .int .i64 t.2.2.2] 53)
  have k1 := hga.cell h1 (by simp)
  have k2 := hga.cell h2 (by simp)
  have k3 := hga.cell h3 (by simp)
  have HG := Lib.hid hga
  have hul : (u : Int) < (len : Int) := by omega
  clear h1 h2 h3 hga hu
  unfold evD
  obtain ⟨t1, t2, t3, t4⟩ := t
  dsimp only at k1 k2 k3 HG
  go_enter Tryz.func20, Tryz.ntmps20
  by_cases ht : t2 = 2
  · subst ht
    go_wp2
    --CA
    go_region
    all_goals
      go_wp2
      go_ret
      exact ⟨by simp, HG.out.andThen (grown_drewJ _ 1) (by intro k hk; cases hk)⟩
  · have hb : (t2 == 2) = false := by simpa using ht
    go_wp2
    --CB
    go_region
    all_goals
      go_wp2
      go_ret
      exact ⟨by simp [hb], HG.out.andThen (grown_drewJ _ 1) (by intro k hk; cases hk)⟩
set_option maxHeartbeats 4000000 in
theorem judgeMissing_any {w : World} (H : DanceOK) (hw : DW w) (k n rounds : Int) (D : Option Addr) (nm cm : Nat) (l : List (Int × Bool)) (hl : Moves w w.heap.size D nm l) (at_ : Int) :
    Calls Tryz.prog 5 #[.int .i64 k, .int .i64 n, .int .i64 rounds, .slice D nm cm, .int .i64 at_] w fun e w' => e = .returned (.bool true) ∧ Below w.heap.size w w' := by
  have HJd := Lib.hid (judged_any hw.ev)
  have HDn := Lib.hid (fun w1 (hb : Below w.heap.size w w1) => danced_any H (hw.old hb))
  have HBall := Lib.hid (fun w => ball_is k n rounds w)
  have d := ball_dims k n rounds
  generalize ballK k = k1 at *
  generalize ballN n = n1 at *
  generalize ballR rounds = r1 at *
  have HD := Lib.hid d
  have HFl := Lib.hid (fun w1 (hb : Below w.heap.size w w1) (hnm : nm ≤ 900) => floor_his (cm := cm) H hw hb d hl hnm)
  have HPk := Lib.hid (fun L (h0 : 0 < L) (h2 : L ≤ 20000) => pick_big at_ L h0 h2)
  clear hw hl d
  go_enter Tryz.func5, Tryz.ntmps5
  go_wp2_with fail
  refine HJd.out.mono ?_
  rintro e w1 ⟨rfl, hb1⟩
  have HB1 := Lib.hid hb1
  clear hb1 HJd
  go_wp2_with fail
  refine (HDn.out _ HB1.out).mono ?_
  rintro e w2 ⟨rfl, hb2⟩
  have HB2 := Lib.hid (HB1.out.trans (hb2.mono HB1.out.size))
  clear hb2 HDn HB1
  by_cases h9 : 600 < nm
  · have h9' : (600 : Int) < (nm : Int) := by omega
    go_wp2
    go_ret
    exact ⟨rfl, HB2.out⟩
  have h9' : ¬ (600 : Int) < (nm : Int) := by omega
  have HNm := Lib.hid (show nm ≤ 900 by omega)
  clear h9
  go_wp2_with fail
  refine (HBall.out _).mono ?_
  rintro e w3 ⟨rfl, rfl⟩
  go_wp2_with fail
  --MA
  refine (HFl.out _ HB2.out HNm.out).mono ?_
  rintro e w4 ⟨c, m, p, rfl, hF, hp, hH⟩
  have HF := Lib.hid hF
  clear hF hp hH HFl HB2 HBall h9' HNm
  go_wp2_with fail
  --MB
  refine (flo_events HF.out).mono ?_
  rintro e w5 ⟨A, cap, rfl, hown, hg5⟩
  have HOk := Lib.hid HF.out.dn.ok
  have HLen := Lib.hid HF.out.few.1
  have HB5 := Lib.hid (HF.out.bel.grown hg5 HF.out.bel.size (by intro k hk; cases hk))
  have HRow := Lib.hid (evRow_own hown rfl)
  clear hg5 HF
  generalize m.events = E at *
  have hga := World.grownBy_alloc w5 (.cells #[.slice A E.length cap] 49) none
  by_cases h0 : E.length = 0
  · have h0' : ((E.length : Nat) : Int) = 0 := by omega
    have HBa := Lib.hid (HB5.out.grown hga HB5.out.size (by intro k hk; cases hk))
    clear hown HRow HPk h0 hga
    generalize E.length = len at *
    obtain rfl : len = 0 := by omega
    go_wp2
    --MC
    go_ret
    exact ⟨rfl, HBa.out⟩
  have h0' : ¬ ((E.length : Nat) : Int) = 0 := by omega
  obtain ⟨b, cap2, hv, hbl, hblt⟩ := hown.form (by omega)
  obtain ⟨rfl, rfl⟩ : A = some ⟨b, 0, none⟩ ∧ cap = cap2 := by injection hv with h1 _ h3; exact ⟨h1, h3⟩
  obtain ⟨cur, _, _, hcl, hcm, _, _⟩ := own_partsEv hown
  unfold maxLen at hcm
  obtain ⟨u, hu, hPu⟩ := HPk.out E.length (by omega) HLen.out
  have HPu := Lib.hid hPu
  obtain ⟨u2, hu2⟩ : ∃ u2, u2 = u + 1 := ⟨_, rfl⟩
  have HU2 := Lib.hid hu2
  have HUw := Lib.hid (show wrap64 ((u : Int) + 1) = (u2 : Int) by have h1 := HLen.out; clear hown hga hcm hv; unfold wrap64; omega)
  have hgb := World.grownBy_alloc (w5.alloc (.cells #[.slice (some ⟨b, 0, none⟩) E.length cap] 49)) (.cells #[.int .i64 (u : Nat)] 3) none
  have hgc := hga.andThen hgb (by intro k hk; cases hk)
  obtain ⟨g1, hg1e⟩ : ∃ g1, g1 = w5.heap.size := ⟨_, rfl⟩
  have hx1 := heap_alloc_new w5 (.cells #[.slice (some ⟨b, 0, none⟩) E.length cap] 49)
  have hx2 := heap_alloc_new (w5.alloc (.cells #[.slice (some ⟨b, 0, none⟩) E.length cap] 49)) (.cells #[.int .i64 (u : Nat)] 3)
  have hx1' := (hgb.block _ (Array.getElem?_eq_some_iff.1 hx1).1 (by simp)).trans hx1
  rw [World.size_alloc] at hx2
  have HBox := Lib.hid (fun W (hg : ((w5.alloc (.cells #[.slice (some ⟨b, 0, none⟩) E.length cap] 49)).alloc (.cells #[.int .i64 (u : Nat)] 3)).grownBy W none) => show W.cell? ⟨w5.heap.size, 0, none⟩ = some (.slice (some ⟨b, 0, none⟩) E.length cap) ∧ W.cell? ⟨w5.heap.size + 1, 0, none⟩ = some (.int .i64 (u : Nat)) ∧ EvRow W (some ⟨b, 0, none⟩) E.length E ∧ Below w.heap.size w W from
    ⟨(cell_of_row _ _ 0 _ _ _ ((hg.block _ (Array.getElem?_eq_some_iff.1 hx1').1 (by simp)).trans hx1')).trans rfl, (cell_of_row _ _ 0 _ _ _ ((hg.block _ (Array.getElem?_eq_some_iff.1 hx2).1 (by simp)).trans hx2)).trans rfl, HRow.out.grow (hgc.andThen hg (by intro k hk; cases hk)), HB5.out.grown (hgc.andThen hg (by intro k hk; cases hk)) HB5.out.size (by intro k hk; cases hk)⟩)
  have HUn := Lib.hid (And.intro hu (And.intro hcl hcm))
  clear hown hv hbl hblt hga hgb hgc hg1e hx1 hx1' hx2 HRow HB5 HPk hPu h0
  have hul : (u2 : Int) ≤ (E.length : Int) := by omega
  have huc : (u2 : Int) ≤ (cap : Int) := by omega
  clear hu hcl hcm hu2
  go_wp2_with fail
  --MD
  refine (HPu.out _).mono ?_
  rintro e w6 ⟨rfl, rfl⟩
  have hv3 := fun W (hg : ((w5.alloc (.cells #[.slice (some ⟨b, 0, none⟩) E.length cap] 49)).alloc (.cells #[.int .i64 (u : Nat)] 3)).grownBy W none) => (show W.cell? ⟨b, 0 + u * 4 + 3, none⟩ = some (.int .i64 (E.getD u default).2.2.2) ∧ W.cell? ⟨b, u * 4 + 1, none⟩ = some (.int .i64 (E.getD u default).2.1) by
    obtain ⟨b1, off1, e, c0, c1, c2, c3⟩ := (HBox.out W hg).2.2.1 u HUn.out.1
    obtain ⟨rfl, rfl⟩ : b = b1 ∧ 0 = off1 := by injection e with e; injection e with h1 h2; exact ⟨h1, h2⟩
    exact ⟨c3, by simpa using c1⟩)
  have HV3 := Lib.hid hv3
  obtain ⟨lt, hlt⟩ : ∃ lt, lt = (E.drop u2).any (fun e => e.2.1 == 2 && e.2.2.2 == (E.getD u default).2.2.2) := ⟨_, rfl⟩
  have hdl : (E.drop u2).length = E.length - u2 := List.length_drop
  have HCF := Lib.hid (fun A' cc (hr : EvRow ((w5.alloc (.cells #[.slice (some ⟨b, 0, none⟩) E.length cap] 49)).alloc (.cells #[.int .i64 (u : Nat)] 3)) A' (E.length - u2) (E.drop u2)) => show Calls Tryz.prog 19 #[.slice A' (E.length - u2) cc, .func (.func 20) #[] #[.pointer (some ⟨w5.heap.size, 0, none⟩), .pointer (some ⟨w5.heap.size + 1, 0, none⟩)]] ((w5.alloc (.cells #[.slice (some ⟨b, 0, none⟩) E.length cap] 49)).alloc (.cells #[.int .i64 (u : Nat)] 3)) (fun e w' => e = .returned (.bool lt) ∧ ((w5.alloc (.cells #[.slice (some ⟨b, 0, none⟩) E.length cap] 49)).alloc (.cells #[.int .i64 (u : Nat)] 3)).grownBy w' none) by
    rw [← hdl] at hr ⊢
    rw [hlt]
    exact containsFuncE_any A' cc (E.drop u2) hr (by have := HLen.out; omega) _ 20 #[.pointer (some ⟨w5.heap.size, 0, none⟩), .pointer (some ⟨w5.heap.size + 1, 0, none⟩)] (fun args w => by kernel_rfl) (fun W t hg => judgeMissingc_any (HBox.out W hg).1 (HBox.out W hg).2.1 HUn.out.1 (hv3 W hg).1 t))
  have HTail := Lib.hid (show EvRow ((w5.alloc (.cells #[.slice (some ⟨b, 0, none⟩) E.length cap] 49)).alloc (.cells #[.int .i64 (u : Nat)] 3)) (some ⟨b, u2 * 4, none⟩) (E.length - u2) (E.drop u2) by
    have h := ((HBox.out _ (World.grownBy.refl _ none)).2.2.1).tail (k := u2) (by omega)
    rwa [Nat.zero_add] at h)
  have HMiss := Lib.hid (fun (h1 : (E.getD u default).2.1 = 1) (h2 : lt = true) => missing_no HOk.out HUn.out.1 h1 (by rw [HU2.out, ] at hlt; rw [← hlt]; exact h2))
  have HClone := Lib.hid (fun w7 W (h7 : ((w5.alloc (.cells #[.slice (some ⟨b, 0, none⟩) E.length cap] 49)).alloc (.cells #[.int .i64 (u : Nat)] 3)).grownBy w7 none) (hg : w7.grownBy W none) => (cloneEv_any (w := W) ⟨b, 0, none⟩ E.length cap E (HBox.out W (h7.andThen hg (by intro k hk; cases hk))).2.2.1 rfl HLen.out).mono (R' := fun e w' => ∃ g c', e = .returned (.slice (some ⟨g, 0, none⟩) E.length c') ∧ w7.heap.size ≤ g ∧ w'.ownsRow w7.heap.size 53 4 (.slice (some ⟨g, 0, none⟩) E.length c') E.length (cellsE E) ∧ w7.grownBy w' none) (by
    rintro e w' ⟨v', rfl, ho, hg2⟩
    obtain ⟨g, c', rfl, hgb, _⟩ := ho.form (by have := HUn.out.1; omega)
    exact ⟨g, c', rfl, Nat.le_trans hg.size hgb, own_low ho hg.size, hg.andThen hg2 (by intro k hk; cases hk)⟩))
  have HDel := Lib.hid (fun (w7 W : World) (g c' : Nat) (hg : w7.grownBy W none) (hgb : w7.heap.size ≤ g) (ho : W.ownsRow w7.heap.size 53 4 (.slice (some ⟨g, 0, none⟩) E.length c') E.length (cellsE E)) => show Calls Tryz.prog 22 #[.slice (some ⟨g, 0, none⟩) E.length c', .int .i64 (u : Nat), .int .i64 (u2 : Nat)] W (fun e w' => e = .returned (.slice (some ⟨g, 0, none⟩) (E.eraseIdx u).length c') ∧ EvRow w' (some ⟨g, 0, none⟩) (E.eraseIdx u).length (E.eraseIdx u) ∧ w7.grownBy w' none) by
    have h := deleteEv_any ho u HUn.out.1
    rw [show ((u : Int) + 1) = (u2 : Int) by have := HU2.out; omega] at h
    refine h.mono ?_
    rintro e w' ⟨rfl, ho2, hg2⟩
    exact ⟨rfl, evRow_own ho2 rfl, hg.andThen hg2 (by intro k hk; injection hk with hk; left; omega)⟩)
  have HChk := Lib.hid (fun (w7 W : World) (g c' : Nat) (hg : w7.grownBy W none) (hr : EvRow W (some ⟨g, 0, none⟩) (E.eraseIdx u).length (E.eraseIdx u)) => (jcheck_any (w := W) (some ⟨g, 0, none⟩) c' n1 (E.eraseIdx u) (by have h1 := HLen.out; have h2 := List.length_eraseIdx_le E u; omega) hr HD.out.n1 HD.out.n16).mono (R' := fun e w' => ∃ v, e = .returned v ∧ w7.grownBy w' none ∧ ((v = .nilIface ∧ judgeP n1 [] (E.eraseIdx u) = none) ∨ ∃ p, v = .iface 89 (.pointer (some ⟨p, 0, none⟩)))) (by
    rintro e w' ⟨hb, ⟨hj, rfl⟩ | ⟨c, i, v, hj, rfl, p, rfl, _, _⟩⟩
    · exact ⟨_, rfl, hg.andThen (grown_belJ hb) (by intro k hk; cases hk), .inl ⟨rfl, hj⟩⟩
    · exact ⟨_, rfl, hg.andThen (grown_belJ hb) (by intro k hk; cases hk), .inr ⟨p, rfl⟩⟩))
  clear hv3 hdl hlt
  generalize (E.getD u default).2.1 = wh at *
  generalize (E.eraseIdx u).length = L2 at *
  have huw := HUw.out
  have huw2 : IntKind.i64.wrap ((u : Int) + 1) = (u2 : Int) := by have h1 := HUn.out; have h2 := HU2.out; have h3 := HLen.out; clear huw hul huc; simp [IntKind.wrap, IntKind.signed, IntKind.bits]; omega
  by_cases hcu : cap = u2
  · subst hcu
    go_wp2_with fail
    refine (HCF.out _ _ (show EvRow _ (some ⟨b, 0, none⟩) (E.length - cap) (E.drop cap) from fun i hi => absurd hi (by have := HUn.out.2.1; omega))).mono ?_
    rintro e w7 ⟨rfl, hg7⟩
    have HBx := Lib.hid (fun W (hg : w7.grownBy W none) => HBox.out W (hg7.andThen hg (by intro k hk; cases hk)))
    have HVx := Lib.hid (fun W (hg : w7.grownBy W none) => HV3.out W (hg7.andThen hg (by intro k hk; cases hk)))
    have HCl := Lib.hid (fun W (hg : w7.grownBy W none) => HClone.out w7 W hg7 hg)
    have HDl := Lib.hid (HDel.out w7)
    have HCk := Lib.hid (HChk.out w7)
    have HUx := Lib.hid (show (u : Int) < (E.length : Int) by have := HUn.out.1; omega)
    clear hg7 HBox HV3 HClone HDel HChk HCF HTail
    go_wp2_with fail
    generalize w5.heap.size + 1 = g2 at *
    generalize w5.heap.size = g1 at *
    generalize E.length = len at *
    --MG
    refine region_heldH (S := (fun x => x.cell? ⟨g1, 0, none⟩ = some (.slice (some ⟨b, 0, none⟩) len cap) ∧ x.cell? ⟨g2, 0, none⟩ = some (.int .i64 (u : Nat)))) 9 rfl (by kernel_rfl) ⟨(HBx.out _ (grown_dJ (World.grownBy.refl _ none))).1, (HBx.out _ (grown_dJ (World.grownBy.refl _ none))).2.1⟩ (fun hHeld => ?_)
    refine heldH_take (n := 8) (i := 0) (oi := _) (v := ?va0) (dst := some 55) rfl rfl rfl (by kernel_rfl) (by kernel_rfl) (by kernel_rfl) (fun _ _ _ h => h) (Or.inl ⟨by rfl, ?hya0⟩) (by assumption) ?resta0
    case hya0 => intro u hSu; (try dsimp only at hSu); go_simp; try (with_reducible rfl)
    simp only [Act.put, List.setIfInBounds_toArray, List.set_cons_zero, List.set_cons_succ]
    refine heldH_take (n := 7) (i := 2) (oi := _) (v := ?va2) (dst := some 57) rfl rfl rfl (by kernel_rfl) (by kernel_rfl) (by kernel_rfl) (fun _ _ _ h => h) (Or.inl ⟨by rfl, ?hya2⟩) (by assumption) ?resta2
    case hya2 => intro u hSu; (try dsimp only at hSu); go_simp; try (with_reducible rfl)
    simp only [Act.put, List.setIfInBounds_toArray, List.set_cons_zero, List.set_cons_succ]
    refine heldH_take (n := 6) (i := 3) (oi := _) (v := ?va3) (dst := some 58) rfl rfl rfl (by kernel_rfl) (by kernel_rfl) (by kernel_rfl) (fun _ _ _ h => h) (Or.inl ⟨by rfl, ?hya3⟩) (by assumption) ?resta3
    case hya3 => intro u hSu; (try dsimp only at hSu); go_simp; try (with_reducible rfl)
    simp only [Act.put, List.setIfInBounds_toArray, List.set_cons_zero, List.set_cons_succ]
    refine heldH_take (n := 5) (i := 4) (oi := _) (v := ?va4) (dst := some 59) rfl rfl rfl (by kernel_rfl) (by kernel_rfl) (by kernel_rfl) (fun _ _ _ h => h) (Or.inl ⟨by rfl, ?hya4⟩) (by assumption) ?resta4
    case hya4 => intro u hSu; (try dsimp only at hSu); go_simp; try (with_reducible rfl)
    simp only [Act.put, List.setIfInBounds_toArray, List.set_cons_zero, List.set_cons_succ]
    refine heldH_take (n := 4) (i := 6) (oi := _) (v := ?va6) (dst := some 61) rfl rfl rfl (by kernel_rfl) (by kernel_rfl) (by kernel_rfl) (fun _ _ _ h => h) (Or.inl ⟨by rfl, ?hya6⟩) (by assumption) ?resta6
    case hya6 => intro u hSu; (try dsimp only at hSu); go_simp; try (with_reducible rfl)
    simp only [Act.put, List.setIfInBounds_toArray, List.set_cons_zero, List.set_cons_succ]
    refine heldH_step (n := 3) (i := 1) (o := _) rfl (by kernel_rfl) rfl (fun K hK => ?_)
    have HK2 := Lib.hid hK
    clear hK
    go_simp
    refine (HCl.out _ (by repeat (first | assumption | exact World.grownBy.refl _ none | refine grown_dJ ?_ | refine grown_aJ ?_ _))).mono ?_
    rintro e x1 ⟨gc, cc, rfl, hgc, hoc, hg1⟩
    go_simp
    refine HK2.out _ _ ⟨(HBx.out x1 hg1).1, (HBx.out x1 hg1).2.1⟩ (fun hHeld => ?_)
    clear HK2 K
    refine heldH_step (n := 2) (i := 5) (o := _) rfl (by kernel_rfl) rfl (fun K hK => ?_)
    have HK2 := Lib.hid hK
    clear hK
    go_simp
    refine (HDl.out _ _ _ hg1 hgc hoc).mono ?_
    rintro e x2 ⟨rfl, hrd, hg2⟩
    go_simp
    refine HK2.out _ _ ⟨(HBx.out x2 hg2).1, (HBx.out x2 hg2).2.1⟩ (fun hHeld => ?_)
    clear HK2 K
    refine heldH_step (n := 1) (i := 7) (o := _) rfl (by kernel_rfl) rfl (fun K hK => ?_)
    have HK2 := Lib.hid hK
    clear hK
    go_simp
    refine (HCk.out _ _ _ hg2 hrd).mono ?_
    rintro e x3 ⟨v, rfl, hg3, hv⟩
    go_simp
    refine HK2.out _ _ ⟨(HBx.out x3 hg3).1, (HBx.out x3 hg3).2.1⟩ (fun hHeld => ?_)
    clear HK2 K
    refine heldH_take (n := 0) (i := 8) (oi := _) (v := ?va8) (dst := some 15) rfl rfl rfl (by kernel_rfl) (by kernel_rfl) (by kernel_rfl) (fun _ _ _ h => h) (Or.inl ⟨by rfl, ?hya8⟩) (by assumption) ?resta8
    case hya8 => intro u hSu; (try dsimp only at hSu); go_simp; try (with_reducible rfl)
    simp only [Act.put, List.setIfInBounds_toArray, List.set_cons_zero, List.set_cons_succ]
    refine wpAnyH_done (by kernel_rfl) ?_ _
    --MH
    all_goals
      obtain ⟨k1', k2', _, hbF⟩ := HBx.out _ hg3
      obtain ⟨_, k3'⟩ := HVx.out _ hg3
      have HFin := Lib.hid hbF
      have hux := HUx.out
      clear hHeld hg1 hg2 hg3 hoc hrd hgc hbF HBx HVx HCl HDl HCk
      by_cases hw1 : wh = 1
      · subst hw1
        cases lt with
        | false =>
          go_wp2
          go_ret
          exact ⟨rfl, HFin.out⟩
        | true =>
          rcases hv with ⟨rfl, hj⟩ | ⟨p, rfl⟩
          · exact absurd hj (HMiss.out rfl rfl)
          · go_wp2
            go_ret
            exact ⟨rfl, HFin.out⟩
      · go_wp2
        go_ret
        exact ⟨rfl, HFin.out⟩
  · go_wp2_with fail
    refine (HCF.out _ _ HTail.out).mono ?_
    rintro e w7 ⟨rfl, hg7⟩
    have HBx := Lib.hid (fun W (hg : w7.grownBy W none) => HBox.out W (hg7.andThen hg (by intro k hk; cases hk)))
    have HVx := Lib.hid (fun W (hg : w7.grownBy W none) => HV3.out W (hg7.andThen hg (by intro k hk; cases hk)))
    have HCl := Lib.hid (fun W (hg : w7.grownBy W none) => HClone.out w7 W hg7 hg)
    have HDl := Lib.hid (HDel.out w7)
    have HCk := Lib.hid (HChk.out w7)
    have HUx := Lib.hid (show (u : Int) < (E.length : Int) by have := HUn.out.1; omega)
    clear hg7 HBox HV3 HClone HDel HChk HCF HTail
    go_wp2_with fail
    generalize w5.heap.size + 1 = g2 at *
    generalize w5.heap.size = g1 at *
    generalize E.length = len at *
    --MG
    refine region_heldH (S := (fun x => x.cell? ⟨g1, 0, none⟩ = some (.slice (some ⟨b, 0, none⟩) len cap) ∧ x.cell? ⟨g2, 0, none⟩ = some (.int .i64 (u : Nat)))) 9 rfl (by kernel_rfl) ⟨(HBx.out _ (grown_dJ (World.grownBy.refl _ none))).1, (HBx.out _ (grown_dJ (World.grownBy.refl _ none))).2.1⟩ (fun hHeld => ?_)
    refine heldH_take (n := 8) (i := 0) (oi := _) (v := ?vb0) (dst := some 55) rfl rfl rfl (by kernel_rfl) (by kernel_rfl) (by kernel_rfl) (fun _ _ _ h => h) (Or.inl ⟨by rfl, ?hyb0⟩) (by assumption) ?restb0
    case hyb0 => intro u hSu; (try dsimp only at hSu); go_simp; try (with_reducible rfl)
    simp only [Act.put, List.setIfInBounds_toArray, List.set_cons_zero, List.set_cons_succ]
    refine heldH_take (n := 7) (i := 2) (oi := _) (v := ?vb2) (dst := some 57) rfl rfl rfl (by kernel_rfl) (by kernel_rfl) (by kernel_rfl) (fun _ _ _ h => h) (Or.inl ⟨by rfl, ?hyb2⟩) (by assumption) ?restb2
    case hyb2 => intro u hSu; (try dsimp only at hSu); go_simp; try (with_reducible rfl)
    simp only [Act.put, List.setIfInBounds_toArray, List.set_cons_zero, List.set_cons_succ]
    refine heldH_take (n := 6) (i := 3) (oi := _) (v := ?vb3) (dst := some 58) rfl rfl rfl (by kernel_rfl) (by kernel_rfl) (by kernel_rfl) (fun _ _ _ h => h) (Or.inl ⟨by rfl, ?hyb3⟩) (by assumption) ?restb3
    case hyb3 => intro u hSu; (try dsimp only at hSu); go_simp; try (with_reducible rfl)
    simp only [Act.put, List.setIfInBounds_toArray, List.set_cons_zero, List.set_cons_succ]
    refine heldH_take (n := 5) (i := 4) (oi := _) (v := ?vb4) (dst := some 59) rfl rfl rfl (by kernel_rfl) (by kernel_rfl) (by kernel_rfl) (fun _ _ _ h => h) (Or.inl ⟨by rfl, ?hyb4⟩) (by assumption) ?restb4
    case hyb4 => intro u hSu; (try dsimp only at hSu); go_simp; try (with_reducible rfl)
    simp only [Act.put, List.setIfInBounds_toArray, List.set_cons_zero, List.set_cons_succ]
    refine heldH_take (n := 4) (i := 6) (oi := _) (v := ?vb6) (dst := some 61) rfl rfl rfl (by kernel_rfl) (by kernel_rfl) (by kernel_rfl) (fun _ _ _ h => h) (Or.inl ⟨by rfl, ?hyb6⟩) (by assumption) ?restb6
    case hyb6 => intro u hSu; (try dsimp only at hSu); go_simp; try (with_reducible rfl)
    simp only [Act.put, List.setIfInBounds_toArray, List.set_cons_zero, List.set_cons_succ]
    refine heldH_step (n := 3) (i := 1) (o := _) rfl (by kernel_rfl) rfl (fun K hK => ?_)
    have HK2 := Lib.hid hK
    clear hK
    go_simp
    refine (HCl.out _ (by repeat (first | assumption | exact World.grownBy.refl _ none | refine grown_dJ ?_ | refine grown_aJ ?_ _))).mono ?_
    rintro e x1 ⟨gc, cc, rfl, hgc, hoc, hg1⟩
    go_simp
    refine HK2.out _ _ ⟨(HBx.out x1 hg1).1, (HBx.out x1 hg1).2.1⟩ (fun hHeld => ?_)
    clear HK2 K
    refine heldH_step (n := 2) (i := 5) (o := _) rfl (by kernel_rfl) rfl (fun K hK => ?_)
    have HK2 := Lib.hid hK
    clear hK
    go_simp
    refine (HDl.out _ _ _ hg1 hgc hoc).mono ?_
    rintro e x2 ⟨rfl, hrd, hg2⟩
    go_simp
    refine HK2.out _ _ ⟨(HBx.out x2 hg2).1, (HBx.out x2 hg2).2.1⟩ (fun hHeld => ?_)
    clear HK2 K
    refine heldH_step (n := 1) (i := 7) (o := _) rfl (by kernel_rfl) rfl (fun K hK => ?_)
    have HK2 := Lib.hid hK
    clear hK
    go_simp
    refine (HCk.out _ _ _ hg2 hrd).mono ?_
    rintro e x3 ⟨v, rfl, hg3, hv⟩
    go_simp
    refine HK2.out _ _ ⟨(HBx.out x3 hg3).1, (HBx.out x3 hg3).2.1⟩ (fun hHeld => ?_)
    clear HK2 K
    refine heldH_take (n := 0) (i := 8) (oi := _) (v := ?vb8) (dst := some 15) rfl rfl rfl (by kernel_rfl) (by kernel_rfl) (by kernel_rfl) (fun _ _ _ h => h) (Or.inl ⟨by rfl, ?hyb8⟩) (by assumption) ?restb8
    case hyb8 => intro u hSu; (try dsimp only at hSu); go_simp; try (with_reducible rfl)
    simp only [Act.put, List.setIfInBounds_toArray, List.set_cons_zero, List.set_cons_succ]
    refine wpAnyH_done (by kernel_rfl) ?_ _
    --MH
    all_goals
      obtain ⟨k1', k2', _, hbF⟩ := HBx.out _ hg3
      obtain ⟨_, k3'⟩ := HVx.out _ hg3
      have HFin := Lib.hid hbF
      have hux := HUx.out
      clear hHeld hg1 hg2 hg3 hoc hrd hgc hbF HBx HVx HCl HDl HCk
      by_cases hw1 : wh = 1
      · subst hw1
        cases lt with
        | false =>
          go_wp2
          go_ret
          exact ⟨rfl, HFin.out⟩
        | true =>
          rcases hv with ⟨rfl, hj⟩ | ⟨p, rfl⟩
          · exact absurd hj (HMiss.out rfl rfl)
          · go_wp2
            go_ret
            exact ⟨rfl, HFin.out⟩
      · go_wp2
        go_ret
        exact ⟨rfl, HFin.out⟩
end Go.Proofs.YtaagdmompaphiaaGreatDoor

namespace Go.Proofs.YtaagdmompaphiaaGreatDoor.judgeMissing
open Go.ChangeShapes Go.WideShapes Go.ChangeAt Go.RowKit
set_option linter.unusedVariables false

theorem own : ownKnob Tryz.prog.godebug = none := by kernel_rfl
theorem laidOut : laidOutB Tryz.prog = true := by kernel_rfl
theorem tsize : Tryz.prog.types.size = 265 := by kernel_rfl

theorem et : Tryz.prog.globalNamed "errors.errorType" = some 1 := by kernel_rfl
theorem rt : (Tryz.prog.cutTypes.find? (·.1 == "internal/reflectlite.rtype")).map (·.2) = some 183 := by kernel_rfl
theorem oneRow : ((List.range 265).filter fun t => Tryz.prog.rowNamed t [101, 114, 114, 111, 114]) = [29] := by kernel_rfl

/-- What the listed variables give the walk. -/
theorem cw_of {W : World} (h : laidMetH Tryz.prog Rows.judgeMissingRow.laid W) : CW W := by
  have h' : laidMet Tryz.prog (Rows.judgeMissingRow.laid.filter fun x => x.2.handleName?.isNone) W ∧ handlesMet Tryz.prog (Rows.judgeMissingRow.laid.filter fun x => x.2.handleName?.isSome) W := h
  exact cw_of_laid h'.1 (List.mem_filter.2 ⟨.tail _ (.tail _ (.tail _ (.head _))), rfl⟩)
theorem handle_of_laid {W : World} (h : laidMetH Tryz.prog Rows.judgeMissingRow.laid W) : ErrVar W := by
  have h' : laidMet Tryz.prog (Rows.judgeMissingRow.laid.filter fun x => x.2.handleName?.isNone) W ∧ handlesMet Tryz.prog (Rows.judgeMissingRow.laid.filter fun x => x.2.handleName?.isSome) W := h
  obtain ⟨name, u, ty, e1, e2, e3, e4, e5⟩ := h'.2 ("errors.errorType", Rows.laid_errors_errorType) (List.mem_filter.2 ⟨.tail _ (.tail _ (.head _)), rfl⟩)
  have en : name = [101, 114, 114, 111, 114] := (Option.some.inj e1).symm
  subst en
  obtain rfl := Option.some.inj (rt.symm.trans e2)
  have hm : ty ∈ (List.range 265).filter fun t => Tryz.prog.rowNamed t [101, 114, 114, 111, 114] := List.mem_filter.2 ⟨List.mem_range.2 (by rw [← tsize]; exact e3), e4⟩
  rw [oneRow] at hm
  obtain rfl := List.mem_singleton.1 hm
  have hh : typeHandle Tryz.prog 29 = .pointer (some ⟨8, 29, none⟩) := by kernel_rfl
  rw [hh] at e5
  have := World.var?_cell et e5 0
  unfold ErrVar
  simpa using this
theorem tz_of {W : World} (h : laidMetH Tryz.prog Rows.judgeMissingRow.laid W) : TzVar W := by
  have h' : laidMet Tryz.prog (Rows.judgeMissingRow.laid.filter fun x => x.2.handleName?.isNone) W ∧ handlesMet Tryz.prog (Rows.judgeMissingRow.laid.filter fun x => x.2.handleName?.isSome) W := h
  exact tz_of_laid h'.1 (List.mem_filter.2 ⟨.tail _ (.head _), rfl⟩)

/-- So many blocks has the settled world. -/
noncomputable def low : Nat := (World.holding Tryz.prog default ⟨#[], #[], []⟩).heap.size
def put (o : Obj) (cs : Array Value) : Obj := match o with
  | .cells _ t frozen => .cells cs t frozen
  | o => o
def tab (k : IntKind) (zs : List Int) : Array Value := (zs.map fun z => Value.int k z).toArray
/-- A world that meets the condition. -/
noncomputable def laidWorld (os : Os) : World :=
  let w0 := World.holding Tryz.prog os ⟨#[], #[], []⟩
  { w0 with heap := ((((w0.heap.modify 1 (put · #[.iface 183 (.agg #[.pointer (some ⟨8, 29, none⟩)])])).modify 0 (put · formCells)).modify 6 (put · (tab .u8 [0, 1, 28, 2, 29, 14, 24, 3, 30, 22, 20, 15, 25, 17, 4, 8, 31, 27, 13, 23, 21, 19, 16, 7, 26, 12, 18, 6, 11, 5, 10, 9]))).modify 7 (put · (tab .u8 [0, 1, 56, 2, 57, 49, 28, 3, 61, 58, 42, 50, 38, 29, 17, 4, 62, 47, 59, 36, 45, 43, 51, 22, 53, 39, 33, 30, 24, 18, 12, 5, 63, 55, 48, 27, 60, 41, 37, 16, 46, 35, 44, 21, 52, 32, 23, 11, 54, 26, 40, 15, 34, 20, 31, 10, 25, 14, 19, 9, 13, 8, 7, 6]))) }
theorem laidWorld_met (os : Os) (args : Array Value) : laidMetH Tryz.prog Rows.judgeMissingRow.laid ((laidWorld os).forCall (fun _ _ => 0) ⟨#[], args, []⟩).memory :=
  laidMetH_of_parts (LaidIn.of_run [0, 6, 7] 8 (by kernel_rfl) (by kernel_rfl) (by kernel_rfl) (by kernel_rfl)).met (by kernel_rfl)

/-- The walk. -/
theorem walk (a0 : Int) (a1 : Int) (a2 : Int) (a3 : Option Addr) (len3 cap3 : Nat) (nods3 : List (Int × Bool)) (a4 : Int) (w : World) (hw : CW w) (hg : ErrVar w) (ht : TzVar w) (N3 : Moves w w.heap.size a3 len3 nods3) (I3 : True) :
    Calls Tryz.prog 5 #[.int .i64 a0, .int .i64 a1, .int .i64 a2, .slice a3 len3 cap3, .int .i64 a4] w fun e w' => e = .returned (.bool true) ∧ Below w.heap.size w w' := by
  exact judgeMissing_any danceOK ⟨hw, hg, ht⟩ a0 a1 a2 a3 len3 cap3 nods3 N3 a4

set_option maxRecDepth 100000 in
theorem lifted (os : Os) (started : os.Started) (H : Type) (enc : TypeId × Value → H) :
    ReturnsInHanded {} Tryz.checked os 5 .any (fun w args => (Rows.judgeMissingSpec.pre enc Tryz.prog Tryz.f5 [] false w args ∧ laidMetH Tryz.prog Rows.judgeMissingRow.laid w) ∧ sizedMet enc Tryz.prog Tryz.f5 (OpenSpec.ofChange Rows.judgeMissingSpec) false w args)
      (Rows.judgeMissingSpec.post enc Tryz.prog Tryz.f5 false true false false) := by
  refine returnsInHanded_of_change_and (C := Tryz.checked) (X := fun w _ => laidMetH Tryz.prog Rows.judgeMissingRow.laid w) (fun _ _ _ hh h => h.of_heap hh) own started (by kernel_rfl) Tryz.func5
    (ChangeSpec.witness_at (enc := enc) (C := Tryz.checked) (os := os) (X := fun w _ => laidMetH Tryz.prog Rows.judgeMissingRow.laid w) false (laidWorld os) #[.int .i64 0, .int .i64 0, .int .i64 0, .slice none 0 0, .int .i64 0] 8 rfl (by kernel_rfl) (by kernel_rfl) (by kernel_rfl) (by kernel_rfl) (by kernel_rfl) (laidWorld_met os _)) ?_
  intro W base args ds gs before hval0 hW _ _ hL _
  have hval : ∀ (j : Nat) t v, Tryz.f5.params[j]? = some t → args[j]? = some v → Value.okWide Tryz.prog W .any base t v := hval0
  have hW' := hW
  obtain ⟨p, q, hA0, hV0, rfl, hfz, hnd⟩ := hW
  have hA : DataW.TrodAll enc Tryz.prog W 0 (fun _ => true) true Tryz.f5.params.toList args.toList ds p := hA0
  have hV : DataW.TrodVars enc Tryz.prog W (fun _ => true) [] gs q := hV0
  rw [Tryz.params5] at hA hval
  obtain ⟨v0, vs0, d0, ds0, p0, q0, hargs, rfl, rfl, h0, r0⟩ := trodAll_cons hA
  obtain ⟨v1, vs1, d1, ds1, p1, q1, rfl, rfl, rfl, h1, r1⟩ := trodAll_cons r0
  obtain ⟨v2, vs2, d2, ds2, p2, q2, rfl, rfl, rfl, h2, r2⟩ := trodAll_cons r1
  obtain ⟨v3, vs3, d3, ds3, p3, q3, rfl, rfl, rfl, h3, r3⟩ := trodAll_cons r2
  obtain ⟨v4, vs4, d4, ds4, p4, q4, rfl, rfl, rfl, h4, r4⟩ := trodAll_cons r3
  obtain ⟨rfl, rfl, rfl⟩ := trodAll_nil r4
  obtain rfl : args = #[v0, v1, v2, v3, v4] := by cases args; simp_all
  obtain ⟨rfl, rfl⟩ : gs = [] ∧ q = [] := by
    cases gs with
    | nil => exact ⟨rfl, hV⟩
    | cons g r => exact absurd hV (by intro h; cases h)
  obtain ⟨a0, rfl, rfl, rfl, w0⟩ := open_int Tryz.underlying3 (hval 0 3 v0 rfl rfl) h0
  obtain ⟨a1, rfl, rfl, rfl, w1⟩ := open_int Tryz.underlying3 (hval 1 3 v1 rfl rfl) h1
  obtain ⟨a2, rfl, rfl, rfl, w2⟩ := open_int Tryz.underlying3 (hval 2 3 v2 rfl rfl) h2
  obtain ⟨a3, len3, cap3, rfl⟩ := okWide_slice Tryz.underlying48 (hval 3 48 v3 rfl rfl)
  have k3 := h3
  have lt3 : ∀ x ∈ p3, x.block < W.heap.size := by obtain ⟨m, hm⟩ := k3; exact DataW.trod_lt m _ _ _ hm
  obtain ⟨nods3, N3, I3⟩ : ∃ nods, Moves W W.heap.size a3 len3 nods ∧ True := by
    obtain ⟨fuel, hf⟩ := h3
    obtain ⟨l, hl⟩ := moves_of (a := a3) (len := len3) (cap := cap3) hf; exact ⟨l, hl, trivial⟩
  obtain ⟨a4, rfl, rfl, rfl, w4⟩ := open_int Tryz.underlying3 (hval 4 3 v4 rfl rfl) h4
  have hw := cw_of hL
  have hg := handle_of_laid hL
  have ht := tz_of hL
  clear hA0 hval0
  refine (walk a0 a1 a2 a3 len3 cap3 nods3 a4 W hw hg ht N3 I3).mono fun e W' ⟨he, bel⟩ => ?_
  subst he
  exact ⟨_, rfl, _, _, _, [], _, [], hW', trodAll_mk1 (shut_bool Tryz.underlying4 _), (trodAll_cons_mk (shut_int Tryz.underlying3 w0) (trodAll_cons_mk (shut_int Tryz.underlying3 w1) (trodAll_cons_mk (shut_int Tryz.underlying3 w2) (trodAll_cons_mk (Below.trod laidOut (by kernel_rfl) (of_decide_eq_true (by kernel_rfl)) k3 bel lt3) (trodAll_cons_mk (shut_int Tryz.underlying3 w4) trodAll_mk0))))), rfl, bel.frame _, fun h => by cases h⟩

theorem over : Rows.JudgeMissingSaid :=
  OpenClaim.holds_of_wide 5 Tryz.f5 rfl rfl rfl rfl rfl rfl rfl ⟨rfl, rfl, rfl, rfl, rfl⟩ rfl rfl rfl rfl rfl (by kernel_rfl) Tryz.func5 (by kernel_rfl)
    (of_decide_eq_true (by kernel_rfl)) (by unfold Func.isWrapper; first | (rw [if_pos (by decide +kernel)]; kernel_rfl) | (rw [if_neg (by decide +kernel)]; exact ⟨rfl, rfl⟩))
    (fun os started H enc _ => lifted os started H enc)

/-- The given statement: the tied card. -/
theorem proved : Rows.JudgeMissingCardSaid :=
  Claim7.holds_tied_plain_at .later [] [.data, .data, .handle, .data] true (true, "f3e498f15f0599c51ef48d4ca70d22bb4f2448dde73826260ef777617b4d9a2b") true
    over (fun _ h => by cases h) (by kernel_rfl) (fun _ h => by cases h) judgeMissing_row_tie rfl ⟨rfl, rfl⟩ (by kernel_rfl) rfl
    (fun f fn hf hfn => by
      obtain rfl : f = 5 := Option.some.inj ((show Tryz.prog.funcNamed "quadrille/quadrillekeep.JudgeMissing" = some 5 by kernel_rfl).symm.trans hf) |>.symm
      obtain rfl : fn = Tryz.f5 := (Option.some.inj (Tryz.func5.symm.trans hfn)).symm
      refine ⟨by kernel_rfl, fun j t ht => ?_⟩
      rw [Tryz.params5] at ht
      have hm : t ∈ [3, 3, 3, 48, 3] := by
        have := Array.mem_of_getElem? ht
        simpa using this
      have hall : ([3, 3, 3, 48, 3].all fun u => !Tryz.prog.wantsStandIn u) = true := by kernel_rfl
      exact (show Tryz.prog.wantsStandIn t = false by simpa using List.all_eq_true.1 hall t hm))
    (by kernel_rfl)
#print axioms proved
end Go.Proofs.YtaagdmompaphiaaGreatDoor.judgeMissing
