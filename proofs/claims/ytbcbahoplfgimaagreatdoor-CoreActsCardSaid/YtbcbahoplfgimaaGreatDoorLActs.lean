/-
  WHAT WAS DONE TELLS ALL.
-/
import Derived.Test.YtbcbahoplfgimaaGreatDoorLSame
namespace Go.Proofs.YtbcbahoplfgimaaGreatDoor
set_option maxRecDepth 100000
open Go.RowKit Go.Shelf Go.Sort
set_option linter.unusedVariables false
set_option linter.unusedSimpArgs false

theorem replay_step {n : Nat} {b last0 : Int} {l : List Act6} {w0 : List Int} {r : List Int × Int} (h : replay n b l w0 last0 = some r) {k : Nat} (hk : k < l.length) {ws : List Int} {last : Int} (hp : replay n b (l.take k) w0 last0 = some (ws, last)) :
    ∃ a, l.getD k default = a ∧ 0 ≤ a.2.2.2.1 ∧ a.2.2.2.1 < ws.length ∧ a.2.2.2.2.1 = ws.getD a.2.2.2.1.toNat 0 ∧ last < a.1 ∧ a.1 ≤ b ∧ 0 ≤ a.2.1 ∧ a.2.1 < n ∧ (a.2.2.1 = 6 → a.2.2.2.2.2 = a.2.2.2.2.1) ∧
      replay n b (l.take (k + 1)) w0 last0 = some (ws.set a.2.2.2.1.toNat a.2.2.2.2.2, a.1) := by
  obtain ⟨a, ha⟩ : ∃ a, l.getD k default = a := ⟨_, rfl⟩
  have hl : l = l.take k ++ (a :: l.drop (k + 1)) := by
    have h1 : l.drop k = l[k] :: l.drop (k + 1) := List.drop_eq_getElem_cons hk
    have h2 : a = l[k] := by rw [← ha, List.getD_eq_getElem?_getD, List.getElem?_eq_getElem hk]; rfl
    rw [h2, ← h1, List.take_append_drop]
  have ht : l.take (k + 1) = l.take k ++ [a] := by
    rw [List.take_add_one, List.getElem?_eq_getElem hk]
    have h2 : a = l[k] := by rw [← ha, List.getD_eq_getElem?_getD, List.getElem?_eq_getElem hk]; rfl
    rw [h2]
    rfl
  rw [hl, replay_append, hp] at h
  simp only [Option.bind_some, replay] at h
  refine ⟨a, ha, ?_⟩
  split at h
  · cases h
  · rename_i h1
    split at h
    · cases h
    · rename_i h2
      refine ⟨by omega, by omega, ?_, by omega, by omega, by omega, by omega, fun e => ?_, ?_⟩
      · by_cases e : a.2.2.2.2.1 = ws.getD a.2.2.2.1.toNat 0
        · exact e
        · exact absurd (.inr (.inr (.inl e))) h1
      · by_cases e2 : a.2.2.2.2.2 = a.2.2.2.2.1
        · exact e2
        · exact absurd ⟨e, e2⟩ h2
      · rw [ht, replay_append, hp]
        simp only [Option.bind_some, replay]
        rw [if_neg h1, if_neg h2]

/-- The machine, all of whose blocks lie below U. -/
def AtU (w : World) (c : Nat) (m : Mach) (U : Nat) (wr : World) : Prop := ∃ S X, X.c = c ∧ Core wr w.heap.size S X m ∧ Below w.heap.size w wr ∧ ∀ k, S k → k < U
theorem At.upTo {w wr : World} {c : Nat} {m : Mach} (h : At w c m wr) : AtU w c m wr.heap.size wr := by
  obtain ⟨S, X, e, hC, hB⟩ := h
  exact ⟨S, X, e, hC, hB, fun k hk => (hC.slo k hk).2⟩
theorem AtU.at_ {w wr : World} {c U : Nat} {m : Mach} (h : AtU w c m U wr) : At w c m wr := by
  obtain ⟨S, X, e, hC, hB, _⟩ := h
  exact ⟨S, X, e, hC, hB⟩
theorem AtU.grow {w wr w' : World} {c U : Nat} {m : Mach} (h : AtU w c m U wr) (hg : wr.grownBy w' none) : AtU w c m U w' := by
  have hb := (h.at_.grow hg).bel
  obtain ⟨S, X, e, hC, hB, hU⟩ := h
  exact ⟨S, X, e, hC.grow hg, hb, hU⟩
theorem AtU.set {w wr : World} {c U : Nat} {m : Mach} (h : AtU w c m U wr) (a : Addr) (v : Value) (ha : U ≤ a.block) (hw : w.heap.size ≤ a.block) : AtU w c m U (wr.setCell a v) := by
  obtain ⟨S, X, e, hC, hB, hU⟩ := h
  exact ⟨S, X, e, hC.keeps (keeps_setCell wr a v) (fun k hk e => by have := hU k hk; omega), hB.trans (below_of_keeps (keeps_setCell wr a v) (fun k hk => by omega) hB.size), hU⟩

set_option maxHeartbeats 4000000 in
theorem coreActs_any {w : World} (hw : CW w) (hg : ErrVar w) (A C D : Option Addr) (n c nc cc nm cm : Nat) (ps : List (List Ins5)) (cells : List Int) (l : List (Int × Bool)) (hn : n ≤ 9223372036854775807)
    (hp : Progs w w.heap.size A n ps) (hc : Ints .u64 w w.heap.size C nc cells) (hcU : ∀ v ∈ cells, okU v) (hl : Moves w w.heap.size D nm l) :
    Calls Tryz.prog 4 #[.slice A n c, .slice C nc cc, .slice D nm cm] w fun e w' => e = .returned (.bool true) ∧ Below w.heap.size w w' := by
  have HG := Lib.hid (gone_any hw)
  have HW := Lib.hid (fun w1 (hb : Below w.heap.size w w1) => written_true w1 (hw.old hb))
  have HF := Lib.hid (fun w1 (hb : Below w.heap.size w w1) => kfits_any (hw.old hb) A C n c nc cc ps (hp.old hb) hn)
  have HBH := Lib.hid (fun w1 (hb : Below w.heap.size w w1) (hf : Fit ps nc) (hnm : nm ≤ 300) => kbehind_any (hw.old hb) A C D n c nc cc nm cm ps cells l (hp.old hb) (hc.old hb) (hl.old hb) hf hcU (by omega))
  have hlen := hp.len
  have hclen := hc.len
  have HBig := Lib.hid (fun (hf : Fit ps nc) => MBig.behind l (newM_big (cells := cells) (by rw [hclen]; exact hf) hcU))
  have HLN := Lib.hid hlen
  have HCL := Lib.hid hclen
  have HIN := Lib.hid (fun x (hb : Below w.heap.size w x) => hc.old hb)
  clear hp hc hw hl hcU hlen hclen
  go_enter Tryz.func4, Tryz.ntmps4
  go_wp2_with fail
  refine HG.out.mono ?_
  rintro e w1 ⟨rfl, hb1⟩
  have HB1 := Lib.hid hb1
  clear hb1 HG
  go_wp2_with fail
  refine (HW.out w1 HB1.out).mono ?_
  rintro e w2 ⟨rfl, hb2⟩
  have HB2 := Lib.hid (HB1.out.trans (hb2.mono HB1.out.size))
  clear hb2 HB1 HW
  by_cases h3 : 300 < nm
  · have h3' : (300 : Int) < (nm : Int) := by omega
    go_wp2
    go_ret
    exact ⟨rfl, HB2.out⟩
  have h3' : ¬ (300 : Int) < (nm : Int) := by omega
  have hz3 : decide ((300 : Int) < (nm : Int)) = false := by simp; omega
  go_wp2_with fail
  refine (HF.out w2 HB2.out).mono ?_
  rintro e w3 ⟨⟨rfl, hf⟩ | rfl, hb3⟩
  rotate_left
  · have HB3 := Lib.hid (HB2.out.trans (hb3.mono HB2.out.size))
    clear hb3 HB2
    go_wp2
    go_ret
    exact ⟨rfl, HB3.out⟩
  have HB3 := Lib.hid (HB2.out.trans (hb3.mono HB2.out.size))
  have HFit := Lib.hid hf
  clear hb3 HB2 HF hf
  go_wp2_with fail
  refine (HBH.out w3 HB3.out HFit.out (by omega)).mono ?_
  rintro e w4 ⟨b, rfl, hA⟩
  have HA := Lib.hid (hA.old HB3.out)
  have HM := Lib.hid (HBig.out HFit.out)
  have hpl : (behindM 20000 (newM ps cells) l).progs = ps := behindM_progs _ _ _
  have HPL := Lib.hid (show (behindM 20000 (newM ps cells) l).progs.length = n by rw [hpl]; exact HLN.out)
  have hn16 : n ≤ 16 := by have := HFit.out.1; rw [HLN.out] at this; exact this
  have hnc3 : nc ≤ 100 := HFit.out.2.1
  clear hA HBH HBig HFit hpl
  generalize behindM 20000 (newM ps cells) l = m at *
  go_wp2_with fail
  refine (cloneU_any C nc cc cells (HIN.out w4 HA.out.bel) (by omega)).mono ?_
  rintro e w5 ⟨v, rfl, hv, hg5⟩
  obtain ⟨A5, c5, rfl⟩ := slice_of_own hv
  have HV := Lib.hid hv
  have HVL := Lib.hid (fun g hg => (hv.lt g hg).2)
  have HU5 := Lib.hid (HA.out.upTo.grow hg5)
  have HA5 := Lib.hid (HA.out.grow hg5)
  have HS4 := Lib.hid HA.out.size
  clear hv hg5 HA
  have hna : m.acts.length ≤ 20000 := Nat.le_trans HM.out.acts HM.out.most
  go_wp2_with fail
  refine (at_acts HA5.out hna).mono ?_
  rintro e w6 ⟨A6, c6, rfl, ho6, hg6⟩
  have HU6 := Lib.hid (HU5.out.grow hg6)
  have HV6 := Lib.hid (own_grown HV.out hg6)
  have HO6 := Lib.hid ho6
  clear ho6 hg6 HA5 HV HU5
  obtain ⟨last0, hrep, _⟩ := HM.out.ok.acts
  have HREP := Lib.hid hrep
  rw [HPL.out] at HREP
  clear hrep
  have HNC := Lib.hid HCL.out
  go_wp2
  go_loopw [9, 38] (fun a j wr => ∃ (k : Nat) (ws : List Int) (last : Int), k ≤ m.acts.length ∧ j = .int .i64 k ∧ a = .int .i64 last ∧ Hid (replay n m.steps (m.acts.take k) cells 0 = some (ws, last)) ∧ Hid (AtU w b m w4.heap.size wr) ∧ Hid (wr.ownsRow w4.heap.size 41 1 (.slice A5 nc c5) nc (ws.map (Value.int .u64))) ∧ Hid (wr.ownsRow w5.heap.size 45 6 (.slice A6 m.acts.length c6) m.acts.length (cellsA m.acts))) (fun _ j _ => m.acts.length - (intOf j).toNat)
  case atStart => exact ⟨0, cells, 0, Nat.zero_le _, rfl, rfl, Lib.hid rfl, HU6, HV6, HO6⟩
  case round =>
    obtain ⟨k, ws, last, hk, rfl, rfl, hR, hU, hV, hO⟩ := hrel
    by_cases hlt : k < m.acts.length
    · have hkn : (k : Int) < (m.acts.length : Int) := by omega
      obtain ⟨a, ha, a1, a2, a3, a4, a5, a6, a7, a8, a9⟩ := replay_step HREP.out hlt hR.out
      obtain ⟨g6, off6, e6, x1, x2, x3, x4, x5, x6⟩ := actRow_own hO.out rfl k hlt
      subst e6
      rw [ha] at x1 x2 x3 x4 x5 x6
      have hwl : ws.length = nc := by have := hV.out.1; simpa using this
      obtain ⟨g5, c5', e5, hg5, hl5⟩ := hV.out.form (by omega)
      obtain ⟨q, hq⟩ := nat_of a1
      injection e5 with e5 e5b e5c
      subst e5 e5c
      have y1 := hV.out.cellAt q (by omega)
      have y2 := hV.out.frozenAt q
      have hyq : (ws.map (Value.int .u64))[q]? = some (.int .u64 (ws.getD q 0)) := by
        rw [List.getElem?_map, List.getD_eq_getElem?_getD, List.getElem?_eq_getElem (by omega)]
        rfl
      rw [hyq] at y1
      have hstep := Lib.hid a9
      have hop := Lib.hid a8
      rw [hq] at x4 a3
      rw [show ((q : Int)).toNat = q from rfl] at a3
      have hcell : (q : Int) < (nc : Int) := by omega
      rw [hq] at hstep
      rw [show ((q : Int)).toNat = q from rfl] at hstep
      generalize ws.getD q 0 = z at *
      rw [a3] at x5
      have hop2 := Lib.hid (show a.2.2.1 = 6 → a.2.2.2.2.2 = z from fun h => by rw [← a3]; exact hop.out h)
      obtain ⟨z1, z2, z3, z4, z5, z6⟩ := a
      dsimp only at x1 x2 x3 x5 x6 a4 a5 a6 a7 hop2 hstep
      have n1 : ¬ z1 ≤ last := by omega
      have n2 : ¬ (m.steps : Int) < z1 := by omega
      have n3 : ¬ z2 < 0 := by omega
      have n4 : ¬ (n : Int) ≤ z2 := by omega
      have hzz : (z != z) = false := by simp
      have d1 : decide ((q : Int) < 0) = false := decide_eq_false (by omega)
      have d2 : decide ((nc : Int) ≤ (q : Int)) = false := decide_eq_false (by omega)
      have d2n : decide (nc ≤ q) = false := decide_eq_false (by omega)
      have d3 : decide (z1 ≤ last) = false := decide_eq_false n1
      have d4 : decide ((m.steps : Int) < z1) = false := decide_eq_false n2
      have d5 : decide (z2 < 0) = false := decide_eq_false n3
      have d6 : decide ((n : Int) ≤ z2) = false := decide_eq_false n4
      clear ha hq hyq a1 a2 a3 a4 a5 a6 a7 a8 a9 hop hR
      have hsteps : ∀ u, wr.grownBy u none → Calls Tryz.prog 15 #[.pointer (some ⟨b, 0, none⟩)] u fun e u' => e = .returned (.int .i64 (m.steps : Int)) ∧ u = u' := fun u hg => at_steps (hU.out.at_.grow hg)
      have HST := Lib.hid hsteps
      clear hsteps
      have hgrow : ∀ (o : Obj) (q : Nat), wr.grownBy ((wr.alloc o).drewN q) none := fun o q => (grown_a (World.grownBy.refl _ none) o).andThen (grown_drewN _ q) (fun j hj => by cases hj)
      have HGR := Lib.hid hgrow
      clear hgrow
      go_wp2
      go_quiet ((go_at_call 15; refine Calls.quiet_of_same ((HST.out _ (HGR.out _ _)).mono fun e u' ⟨he, hu⟩ => ⟨he, hu.symm⟩)))
      have hg3 := HGR.out (.cells #[.int .i64 z1, .int .i64 z2, .int .i64 z3, .int .i64 (q : Int), .int .u64 z, .int .u64 z6] 45) nq
      have HU3 := Lib.hid (hU.out.grow hg3)
      have HV3 := Lib.hid (own_grown hV.out hg3)
      have HO3 := Lib.hid (own_grown hO.out hg3)
      have hne : g5 ≠ wr.heap.size := by have := (hV.out.lt g5 rfl).2; omega
      have hne2 : wr.heap.size ≠ g5 := fun h => hne h.symm
      have hW0 : ((wr.alloc (.cells #[.int .i64 z1, .int .i64 z2, .int .i64 z3, .int .i64 (q : Int), .int .u64 z, .int .u64 z6] 45)).drewN nq).cell? ⟨wr.heap.size, 0, none⟩ = some (.int .i64 z1) := by simp
      have hW3 : ((wr.alloc (.cells #[.int .i64 z1, .int .i64 z2, .int .i64 z3, .int .i64 (q : Int), .int .u64 z, .int .u64 z6] 45)).drewN nq).cell? ⟨wr.heap.size, 3, none⟩ = some (.int .i64 (q : Int)) := by simp
      have hW5 : ((wr.alloc (.cells #[.int .i64 z1, .int .i64 z2, .int .i64 z3, .int .i64 (q : Int), .int .u64 z, .int .u64 z6] 45)).drewN nq).cell? ⟨wr.heap.size, 5, none⟩ = some (.int .u64 z6) := by simp
      have hWq : ((wr.alloc (.cells #[.int .i64 z1, .int .i64 z2, .int .i64 z3, .int .i64 (q : Int), .int .u64 z, .int .u64 z6] 45)).drewN nq).cell? ⟨g5, q, none⟩ = some (.int .u64 z) := hg3.cell y1 (by simp)
      have hWf : ((wr.alloc (.cells #[.int .i64 z1, .int .i64 z2, .int .i64 z3, .int .i64 (q : Int), .int .u64 z, .int .u64 z6] 45)).drewN nq).frozen? ⟨g5, q, none⟩ = false := HV3.out.frozenAt q
      clear hg3 HGR HST x1 x2 x3 x4 x5 x6 y1 y2 hV hU hO
      by_cases h6 : z3 = 6
      · have hz6 := hop2.out h6
        subst hz6
        subst h6
        go_wp2
        generalize hWW : (wr.alloc (.cells #[.int .i64 z1, .int .i64 z2, .int .i64 6, .int .i64 (q : Int), .int .u64 z6, .int .u64 z6] 45)).drewN nq = W at *
        generalize wr.heap.size = t at *
        go_region
        go_wp2
        go_roundw
        case rel =>
          have hb1 := (HV3.out.lt g5 rfl).1
          have hb2 := HVL.out g5 rfl
          have hst := (HV3.out.stored q (.int .u64 z6)).1
          rw [← List.map_set] at hst
          refine ⟨k + 1, ws.set q z6, z1, by omega, by go_num, rfl, hstep, Lib.hid ((HU3.out.set ⟨g5, q, none⟩ (.int .u64 z6) hb1 (by have := HS4.out; dsimp only; omega)).grow (grown_drew _)), Lib.hid hst.drew, Lib.hid (own_keeps HO3.out (keeps_setCell W _ _) (fun g hg e => ?_)).drew⟩
          have := (HO3.out.lt g hg).1
          dsimp only at e
          omega
        case measure => simp [intOf]; omega
      · go_wp2
        generalize hWW : (wr.alloc (.cells #[.int .i64 z1, .int .i64 z2, .int .i64 z3, .int .i64 (q : Int), .int .u64 z, .int .u64 z6] 45)).drewN nq = W at *
        generalize wr.heap.size = t at *
        go_region
        go_wp2
        go_roundw
        case rel =>
          have hb1 := (HV3.out.lt g5 rfl).1
          have hb2 := HVL.out g5 rfl
          have hst := (HV3.out.stored q (.int .u64 z6)).1
          rw [← List.map_set] at hst
          refine ⟨k + 1, ws.set q z6, z1, by omega, by go_num, rfl, hstep, Lib.hid ((HU3.out.set ⟨g5, q, none⟩ (.int .u64 z6) hb1 (by have := HS4.out; dsimp only; omega)).grow (grown_drew _)), Lib.hid hst.drew, Lib.hid (own_keeps HO3.out (keeps_setCell W _ _) (fun g hg e => ?_)).drew⟩
          have := (HO3.out.lt g hg).1
          dsimp only at e
          omega
        case measure => simp [intOf]; omega
    · have hkn : ¬ (k : Int) < (m.acts.length : Int) := by omega
      obtain rfl : k = m.acts.length := by omega
      have hRR := hR.out
      rw [List.take_length, HREP.out] at hRR
      injection hRR with hRR
      injection hRR with hR1 hR2
      subst hR1
      have hlc : m.cells.length = nc := HM.out.ok.lc.trans HCL.out
      have HU7 := Lib.hid hU.out
      have HV7 := Lib.hid hV.out
      clear hU hV hO hR HO6 HV6 HU6 hR2
      go_wp2_with fail
      refine (at_cells HU7.out.at_ (by omega)).mono ?_
      rintro e w7 ⟨A7, c7, rfl, ho7, hg7⟩
      have HB7 := Lib.hid (HU7.out.grow hg7).at_.bel
      rw [hlc] at ho7 ⊢
      have HEQ := Lib.hid (equalU_same A5 A7 nc c5 c7 m.cells w7 (by omega) _ (Ints.of_own (own_grown HV7.out hg7)) (Ints.of_own ho7))
      clear ho7 hg7 HV7 HU7
      go_wp2_with fail
      refine HEQ.out.mono ?_
      rintro e w8 ⟨rfl, q8, rfl⟩
      go_wp2
      go_ret
      exact ⟨rfl, HB7.out.grown (grown_drewN _ q8) (by have := HB7.out.size; omega) (fun k hk => by cases hk)⟩
end Go.Proofs.YtbcbahoplfgimaaGreatDoor
