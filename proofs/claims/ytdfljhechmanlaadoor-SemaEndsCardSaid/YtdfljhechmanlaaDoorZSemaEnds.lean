/-
  As many as there are: in the game that the law makes, all threads come to their ends just when what may be taken at first, and what is given, covers all that is taken; the rest is what is left. No conditions.
-/
import Derived.Test.YtdfljhechmanlaaDoorQL8
import Derived.Test.YtdfljhechmanlaaDoorRows
import Derived.Test.YtdfljhechmanlaaDoorCards
import Derived.Test.YtdfljhechmanlaaDoorTie
import Derived.WalkKit
import Derived.ProofKit
import Derived.OpenShut
import Derived.ChangeOld
import Derived.Below
import Derived.ChangeSame
import Derived.ChangeVars
import Derived.JoinedOf
import Derived.RowKitTokens
import Derived.LaidLaws
import Derived.LaidHandle
import Derived.Stop.Joined
import Derived.SevenTiedAt
import Derived.Lib.LaidTab
import Derived.Lib.LaidIn
import Derived.ChangeMaps5
import Derived.Test.YtdfljhechmanlaaDoorQE3
import Derived.Test.YtdfljhechmanlaaDoorQE
import Derived.Test.YtdfljhechmanlaaDoorQL2
namespace Go.Proofs.YtdfljhechmanlaaDoor
set_option maxRecDepth 100000
open Go.RowKit Go.Shelf Go.Sort
set_option linter.unusedVariables false
set_option linter.unusedSimpArgs false

theorem sum_rows (g : List Bool → Nat) (Ls : List (List Bool)) : (sumN Ls.length fun u => g (callsL Ls u)) = (Ls.map g).sum := by
  unfold sumN callsL
  congr 1
  refine List.ext_getElem (by simp) fun i h1 h2 => ?_
  have hi : i < Ls.length := by simpa using h1
  simp [List.getD_eq_getElem?_getD, List.getElem?_eq_getElem hi]
theorem cnt_takes (L : List Bool) : cntC 3 (L.map encS) = cntB false L L.length := by
  unfold cntC cntB
  rw [List.take_length, List.countP_map]
  show _ = L.countP _
  congr 1
  funext b
  cases b <;> rfl
theorem all_takes (Ls : List (List Bool)) : cntAll 3 (Ls.map (List.map encS)) = sumN Ls.length fun u => cntB false (callsL Ls u) (callsL Ls u).length := by
  rw [sum_rows (fun L => cntB false L L.length)]
  unfold cntAll
  rw [List.map_map]
  congr 1
  exact List.map_congr_left fun L _ => cnt_takes L
theorem cntB_mono (b : Bool) (l : List Bool) {k k' : Nat} (h : k ≤ k') : cntB b l k ≤ cntB b l k' := by
  unfold cntB
  exact List.Sublist.count_le _ (by
    have : l.take k = (l.take k').take k := by rw [List.take_take, Nat.min_eq_left h]
    rw [this]
    exact List.take_sublist _ _)
theorem cntB_same {b : Bool} {l : List Bool} (h : ∀ x ∈ l, x = b) {k : Nat} (hk : k ≤ l.length) : cntB b l k = k := by
  unfold cntB
  have e : l.take k = List.replicate k b := by
    rw [List.eq_replicate_iff]
    exact ⟨by rw [List.length_take]; omega, fun x hx => h x (List.mem_of_mem_take hx)⟩
  rw [e, List.count_replicate_self]
theorem cntB_none {b : Bool} {l : List Bool} (h : ∀ x ∈ l, x ≠ b) (k : Nat) : cntB b l k = 0 := by
  unfold cntB
  rw [List.count_eq_zero]
  intro hb
  exact h b (List.mem_of_mem_take hb) rfl

theorem se_ends_fact {f d p : Nat} {Ls : List (List Bool)} {m m' : Mach} (h : SeOk f (Ls ++ [List.replicate d true])) (hLs : ∀ L ∈ Ls, ∀ b ∈ L, b = false) (hm : SeM h p m) (hp : p ≤ 500) (hf : Fin m m') (z : Nat) (hz : cntAll 3 ((Ls ++ [List.replicate d true]).map (List.map encS)) = z) :
    endsM m' = (decide (0 ≤ (f : Int) + d - z), decide ((f : Int) + d - z < 0)) ∧ m'.cells = [max 0 ((f : Int) + d - z)] := by
  obtain ⟨S, hS, hq⟩ := se_fin hm hp hf
  have hI := seM_inv hS
  obtain ⟨h1, h2, h3⟩ := sem_over hI hS.sim.wf hq
  have hn : (Ls ++ [List.replicate d true]).length = Ls.length + 1 := by simp
  have hlow : ∀ u, u < Ls.length → callsL (Ls ++ [List.replicate d true]) u = Ls.getD u [] := fun u hu => by
    unfold callsL
    rw [List.getD_eq_getElem?_getD, List.getElem?_append_left hu, List.getD_eq_getElem?_getD]
  have hlast : callsL (Ls ++ [List.replicate d true]) Ls.length = List.replicate d true := by
    unfold callsL
    rw [List.getD_eq_getElem?_getD, List.getElem?_append_right (Nat.le_refl _), Nat.sub_self]
    rfl
  have hmem : ∀ u, u < Ls.length → Ls.getD u [] ∈ Ls := fun u hu => by rw [List.getD_eq_getElem?_getD, List.getElem?_eq_getElem hu]; exact List.getElem_mem hu
  have hall0 : ∀ u, u < Ls.length → ∀ x ∈ callsL (Ls ++ [List.replicate d true]) u, x = false := fun u hu x hx => by
    rw [hlow u hu] at hx
    exact hLs _ (hmem u hu) x hx
  have hkl : ∀ u, u < Ls.length + 1 → (S.th u).k ≤ (callsL (Ls ++ [List.replicate d true]) u).length := fun u hu => (hS.sim.wf.th u (by omega)).k
  have hk : (S.th Ls.length).en = true ∧ (S.th Ls.length).k = d := by
    rcases h1 Ls.length (by omega) with ⟨a, b⟩ | ⟨_, b⟩
    · rw [hlast, List.length_replicate] at b
      exact ⟨a, b⟩
    · rw [hlast] at b
      have := List.mem_of_getElem? b
      have := (List.mem_replicate.1 this).2
      cases this
  -- what was given
  have hG : (sumN (Ls ++ [List.replicate d true]).length fun u => cntB true (callsL (Ls ++ [List.replicate d true]) u) (S.th u).k) = d := by
    rw [hn, sumN_succ]
    have e1 : (sumN Ls.length fun u => cntB true (callsL (Ls ++ [List.replicate d true]) u) (S.th u).k) = 0 := sumN_zero fun u hu => cntB_none (fun x hx e => by rw [hall0 u hu x hx] at e; cases e) _
    rw [e1, hlast, hk.2, cntB_same (fun x hx => (List.mem_replicate.1 hx).2) (by simp)]
    omega
  -- what was taken
  have hT : (sumN (Ls ++ [List.replicate d true]).length fun u => cntB false (callsL (Ls ++ [List.replicate d true]) u) (S.th u).k) = sumN Ls.length fun u => (S.th u).k := by
    rw [hn, sumN_succ, hlast, cntB_none (fun x hx e => by rw [(List.mem_replicate.1 hx).2] at e; cases e)]
    exact Nat.le_antisymm (by rw [Nat.add_zero]; exact sumN_le fun u hu => by rw [cntB_same (hall0 u hu) (hkl u (by omega))]; exact Nat.le_refl _) (by rw [Nat.add_zero]; exact sumN_le fun u hu => by rw [cntB_same (hall0 u hu) (hkl u (by omega))]; exact Nat.le_refl _)
  have hZ : z = sumN Ls.length fun u => (callsL (Ls ++ [List.replicate d true]) u).length := by
    rw [← hz, all_takes, hn, sumN_succ, hlast, cntB_none (fun x hx e => by rw [(List.mem_replicate.1 hx).2] at e; cases e), Nat.add_zero]
    exact Nat.le_antisymm (sumN_le fun u hu => by rw [cntB_same (hall0 u hu) (Nat.le_refl _)]; exact Nat.le_refl _) (sumN_le fun u hu => by rw [cntB_same (hall0 u hu) (Nat.le_refl _)]; exact Nat.le_refl _)
  rw [hG, hT] at h3
  have hTz : (sumN Ls.length fun u => (S.th u).k) ≤ z := by rw [hZ]; exact sumN_le fun u hu => hkl u (by omega)
  have hc := hI.cell
  have hcell := seM_cells hS
  have hfull : (∀ u, u < Ls.length → (S.th u).k = (callsL (Ls ++ [List.replicate d true]) u).length) → ∀ u, u < (Ls ++ [List.replicate d true]).length → (S.th u).en = true := fun hx u hu => by
    rcases h1 u hu with ⟨a, _⟩ | ⟨_, b⟩
    · exact a
    · rw [hn] at hu
      rcases (by omega : u < Ls.length ∨ u = Ls.length) with e | e
      · rw [hx u e, List.getElem?_eq_none (Nat.le_refl _)] at b; cases b
      · rw [e]; exact hk.1
  have hends : (∀ u, u < (Ls ++ [List.replicate d true]).length → (S.th u).en = true) → endsM m' = (true, false) := fun hx => ends_done fun t ht => by
    rw [hS.sim.plen] at ht
    rw [seM_ended hS ht]
    exact hx t ht
  by_cases hz0 : S.cell 0 = 0
  · by_cases hlt : (sumN Ls.length fun u => (S.th u).k) < z
    · have hr : (f : Int) + d - z < 0 := by omega
      have hno : ¬ (0 : Int) ≤ (f : Int) + d - z := by omega
      have hall : allTo m' m'.progs.length = false := by
        cases ha : allTo m' m'.progs.length with
        | false => rfl
        | true =>
          exfalso
          have hen := (seM_all hS).1 ha
          have : (sumN Ls.length fun u => (S.th u).k) = z := by
            rw [hZ]
            refine Nat.le_antisymm (sumN_le fun u hu => hkl u (by omega)) (sumN_le fun u hu => ?_)
            rcases h1 u (by omega) with ⟨_, b⟩ | ⟨_, b⟩
            · rw [b]; exact Nat.le_refl _
            · have := (hS.sim.wf.th u (by omega)).fin (hen u (by omega))
              rw [b] at this; cases this
          omega
      refine ⟨?_, ?_⟩
      · unfold endsM
        rw [hall, seM_stuck hS hq, decide_eq_false hno, decide_eq_true hr]
        rfl
      · rw [hcell, hz0, show max 0 ((f : Int) + d - z) = 0 by omega]
    · have heq : (sumN Ls.length fun u => (S.th u).k) = z := by omega
      have hx : ∀ u, u < Ls.length → (S.th u).k = (callsL (Ls ++ [List.replicate d true]) u).length := fun u hu => by
        have h5 := hkl u (by omega)
        rcases Nat.lt_or_ge (S.th u).k (callsL (Ls ++ [List.replicate d true]) u).length with h6 | h6
        · exfalso
          have := sumN_drop (f := fun u => (S.th u).k) (g := fun u => (callsL (Ls ++ [List.replicate d true]) u).length) (d := 1) hu (fun v hv _ => hkl v (by omega)) (by omega)
          omega
        · omega
      have hr : (0 : Int) ≤ (f : Int) + d - z := by omega
      have hno : ¬ (f : Int) + d - z < 0 := by omega
      refine ⟨by rw [hends (hfull hx), decide_eq_true hr, decide_eq_false hno], by rw [hcell, hz0, show max 0 ((f : Int) + d - z) = 0 by omega]⟩
  · have hen := h2 hz0
    have hx : ∀ u, u < Ls.length → (S.th u).k = (callsL (Ls ++ [List.replicate d true]) u).length := fun u hu => by
      rcases h1 u (by omega) with ⟨_, b⟩ | ⟨_, b⟩
      · exact b
      · have := (hS.sim.wf.th u (by omega)).fin (hen u (by omega))
        rw [b] at this; cases this
    have heq : (sumN Ls.length fun u => (S.th u).k) = z := by
      rw [hZ]
      exact Nat.le_antisymm (sumN_le fun u hu => hkl u (by omega)) (sumN_le fun u hu => by rw [hx u hu]; exact Nat.le_refl _)
    have hr : (0 : Int) ≤ (f : Int) + d - z := by omega
    have hno : ¬ (f : Int) + d - z < 0 := by omega
    refine ⟨by rw [hends hen, decide_eq_true hr, decide_eq_false hno], by rw [hcell, show max 0 ((f : Int) + d - z) = S.cell 0 by omega]⟩

set_option maxHeartbeats 2000000 in
theorem semaEnds_any {w : World} (hw : CW w) (A : Option Addr) (n cap : Nat) (ls : List (List Int)) (hR : IRows w w.heap.size A n ls) (hcap : n ≤ cap) (first gives : Int) (D : Option Addr) (nm cm : Nat) (l : List (Int × Bool)) (hl : Moves w w.heap.size D nm l) :
    Calls Tryd.prog 8 #[.slice A n cap, .int .i64 first, .int .i64 gives, .slice D nm cm] w fun e w' => e = .returned (.bool true) ∧ Below w.heap.size w w' := by
  have HLt := Lib.hid (counted_any hw)
  have HP := Lib.hid (fun w => pick_det first 5 5 w rfl (by decide) (by decide))
  have HP2 := Lib.hid (fun w => pick_det gives 13 13 w rfl (by decide) (by decide))
  have p1 := pickI_lo first 5
  have p2 := pickI_hi first 5 (by decide)
  have p3 := pickI_lo gives 13
  have p4 := pickI_hi gives 13 (by decide)
  obtain ⟨f, hf⟩ : ∃ f : Nat, pickI first 5 = (f : Int) := ⟨(pickI first 5).toNat, by omega⟩
  obtain ⟨d, hd⟩ : ∃ d : Nat, pickI gives 13 = (d : Int) := ⟨(pickI gives 13).toNat, by omega⟩
  rw [hf] at HP p1 p2
  rw [hd] at HP2 p3 p4
  have HF12 := Lib.hid (show f ≤ 4 ∧ d ≤ 12 by omega)
  have HR := Lib.hid hR
  have HMv := Lib.hid hl
  have HW := Lib.hid hw
  have HCap := Lib.hid hcap
  have hmin : min (d : Int) 12 = (d : Int) := by omega
  clear hR hl hw hf hd p1 p2 p3 p4 hcap
  go_enter Tryd.func8, Tryd.ntmps8
  go_wp2_with fail
  refine HLt.out.mono ?_
  rintro e w1 ⟨rfl, hb1⟩
  have HB1 := Lib.hid hb1
  clear hb1 HLt
  by_cases h9 : 500 < nm
  · have h9' : (500 : Int) < (nm : Int) := by omega
    go_wp2
    go_ret
    exact ⟨rfl, HB1.out⟩
  have h9' : ¬ (500 : Int) < (nm : Int) := by omega
  have HN5 := Lib.hid (show nm ≤ 500 by omega)
  go_wp2_with fail
  refine (HP.out _).mono ?_
  rintro e w2 ⟨rfl, rfl⟩
  clear HP
  go_wp2_with fail
  refine (HP2.out _).mono ?_
  rintro e w2 ⟨rfl, rfl⟩
  clear HP2
  go_wp2_with fail
  refine (seasksN_any HB1.out A n cap 1 ls HR.out HCap.out [3] (fun x hx => by simpa using Or.inl hx) #[.int .i64 3] rfl rfl (by decide) (by decide)).mono ?_
  rintro e w2 ⟨A2, c2, k2, Ls, rfl, hN2, hLl, hk8, hLs⟩
  have HN2 := Lib.hid hN2
  have HLs := Lib.hid (And.intro hLl (And.intro hk8 hLs))
  clear hN2 hLl hk8 hLs HB1 HR HCap h9 h9'
  go_wp2
  go_loopw [10, 31] (fun v j wr => ∃ i : Nat, i ≤ d ∧ j = .int .i64 i ∧ ∃ A c, v = .slice A i c ∧ RowC w2 A i c (List.replicate i (4, 0)) wr) (fun _ j _ => d - (intOf j).toNat)
  case atStart => exact ⟨0, Nat.zero_le _, rfl, none, 0, rfl, RowC.nil _⟩
  case round =>
    obtain ⟨i, hi, rfl, Ac, cc, rfl, hRow⟩ := hrel
    by_cases hlt : i < d
    · have hin : (i : Int) < (d : Int) := by omega
      obtain ⟨A4, c4, w4, hr4, hR4⟩ := hRow.add #[.int .i64 4, .int .i64 0] 1 (r := [(4, 0)]) rfl rfl (by have := HF12.out; omega) (by decide)
      rw [← List.replicate_succ'] at hR4
      have HR4 := Lib.hid hR4
      have HRun := Lib.hid hr4
      have hi20 : i < 20 := by have := HF12.out; omega
      clear hRow hr4 hR4
      go_wp2_with (at_builtin; refine Lib.wpList_append_run _ rfl _ _ _ _ rfl _ _ rfl rfl _ _ HRun.out ?_; clear HRun)
      go_roundw
      case rel => exact ⟨i + 1, by omega, by go_num, A4, c4, rfl, HR4.out⟩
      case measure => simp [intOf]; omega
    · have hin : ¬ (i : Int) < (d : Int) := by omega
      obtain rfl : i = d := by omega
      rename_i wr
      obtain ⟨A4, c4, w4, hr4, hN4⟩ := (HN2.out.grow hRow.bel).add (tS := 26) Tryd.underlying26 infoSCallM (by decide) hRow.own HN2.out.bel.size (by have := HLs.out; omega)
      have hN5 : SeNest w A4 (k2 + 1) c4 (Ls ++ [List.replicate i true]) w4 := by
        unfold SeNest
        have e : ((Ls ++ [List.replicate i true]).map (List.map encS)).map (fun (l : List (Int × Int)) => (l.length, cellsC l)) = (Ls.map (List.map encS)).map (fun (l : List (Int × Int)) => (l.length, cellsC l)) ++ [(i, cellsC (List.replicate i ((4 : Int), (0 : Int))))] := by
          simp [encS]
        rw [e]
        exact hN4
      have hok : SeOk f (Ls ++ [List.replicate i true]) := by
        obtain ⟨q1, q2, q3⟩ := HLs.out
        refine ⟨by have := HF12.out; omega, by simp; omega, fun L hL => ?_⟩
        rcases List.mem_append.1 hL with hL | hL
        · have := (q3 L hL).1; omega
        · rw [List.mem_singleton.1 hL, List.length_replicate]; have := HF12.out; omega
      have HC5 := Lib.hid hN5.calls
      have HB5 := Lib.hid hN5.bel
      have HMd := Lib.hid (semade3 HW.out hN5.bel hok A4 D (k2 + 1) c4 nm cm hN5.calls l HMv.out HN5.out)
      have HRun := Lib.hid hr4
      clear hRow hr4 hN4 hN5
      go_wp2_with (at_builtin; refine Lib.wpList_append_run _ rfl _ _ _ _ rfl _ _ rfl rfl _ _ HRun.out ?_; clear HRun)
      --MB
      rw [u64_small (by have := HF12.out; omega)]
      refine HMd.out.mono ?_
      rintro e w6 ⟨c, m, rfl, hA, -⟩
      have HF := Lib.hid (at_finish hA.at_ hA.big)
      have HL := Lib.hid hA.la
      clear hA HMd
      go_wp2_with fail
      refine HF.out.mono ?_
      rintro e w7 ⟨m', hf, rfl, hA2, hb2⟩
      obtain ⟨z, hz⟩ : ∃ z, cntAll 3 ((Ls ++ [List.replicate i true]).map (List.map encS)) = z := ⟨_, rfl⟩
      obtain ⟨f1, f2⟩ := se_ends_fact hok (fun L hL b hb => by
        have := (HLs.out.2.2 L hL).2 b hb
        simp only [List.mem_singleton] at this
        cases b with
        | false => rfl
        | true => cases this) HL.out (by have := pokesM_le l; have := HMv.out.len; have := HN5.out; omega) hf z hz
      have hz200 : z ≤ 200 := by
        rw [← hz]
        have := cntAll_few 3 ((Ls ++ [List.replicate i true]).map (List.map encS)) (fun l hl => by
          obtain ⟨L', hL', rfl⟩ := List.mem_map.1 hl
          rw [List.length_map]
          exact hok.l12 L' hL')
        rw [List.length_map] at this
        have := hok.n9
        omega
      have HZ := Lib.hid hz
      obtain ⟨rest, hrest⟩ : ∃ rest : Int, (f : Int) + i - z = rest := ⟨_, rfl⟩
      rw [hrest] at f1 f2
      have hw2 : wrap64 ((f : Int) + (i : Int)) = (f : Int) + (i : Int) := by have := HF12.out; unfold wrap64; omega
      have hw3 : wrap64 ((f : Int) + (i : Int) - (z : Int)) = rest := by have := HF12.out; unfold wrap64; omega
      have hrr : -1000 ≤ rest ∧ rest ≤ 1000 := by have := HF12.out; omega
      have hmw : wrap64 (max 0 rest) = max 0 rest := by unfold wrap64; omega
      have HWs := Lib.hid (And.intro hw2 (And.intro hw3 hmw))
      obtain ⟨b1, hb1⟩ : ∃ b1 : Bool, decide (0 ≤ rest) = b1 := ⟨_, rfl⟩
      obtain ⟨b2, hb2'⟩ : ∃ b2 : Bool, decide (rest < 0) = b2 := ⟨_, rfl⟩
      have HE := Lib.hid (at_ends hA2 (hb2.few))
      rw [f1, hb1, hb2'] at HE
      have HBB := Lib.hid (And.intro hb1 hb2')
      have HA2 := Lib.hid hA2
      have HF2 := Lib.hid f2
      generalize ((m'.steps : Int) - (m.steps : Int)) = dd
      clear hf hA2 hb2 HF HL f1 f2 hz hrest hw2 hw3 hmw hrr hb1 hb2' hz200
      go_wp2_with fail
      refine HE.out.mono ?_
      rintro e w8 ⟨rfl, hg8⟩
      have HA8 := Lib.hid (HA2.out.grow hg8)
      clear hg8 HA2 HE
      have HCt := Lib.hid (count_any A4 (k2 + 1) c4 _ (HC5.out.old HA8.out.bel) (fun L hL => by
        obtain ⟨L', hL', rfl⟩ := List.mem_map.1 hL
        rw [List.length_map]
        exact hok.l12 L' hL') (by have := HLs.out; omega) 3)
      rw [HZ.out] at HCt
      clear HC5
      go_wp2_with fail
      --MC
      refine HCt.out.mono ?_
      rintro e w9 ⟨rfl, hb9⟩
      have HA9 := Lib.hid (HA8.out.keepB hb9)
      have HCe := Lib.hid (at_cells HA9.out (by rw [HF2.out]; exact Nat.le_of_ble_eq_true rfl))
      rw [HF2.out] at HCe
      obtain ⟨hw2, hw3, hmw⟩ := HWs.out
      clear hb9 HCt HA8
      go_wp2_with fail
      --MD
      refine HCe.out.mono ?_
      rintro e w10 ⟨A10, c10, rfl, ho10, hg10⟩
      have hI10 : Ints .u64 w10 w10.heap.size A10 1 [max 0 rest] := Ints.of_own ho10
      obtain ⟨b10, off10, hA10, _, hx10⟩ := hI10.row (by decide)
      subst hA10
      have hc10 : w10.cell? ⟨b10, off10, none⟩ = some (.int .u64 (max 0 rest)) := hx10 0 (by decide)
      have HB10 := Lib.hid (HB5.out.trans ((HA9.out.grow hg10).bel.mono HB5.out.size))
      have hmm : (max 0 rest == max 0 rest) = true := by simp
      obtain ⟨hb1, hb2⟩ := HBB.out
      clear hI10 hx10 ho10 hg10 HCe HA9
      by_cases hr : (0 : Int) ≤ rest
      · have hr2 : ¬ rest < 0 := by omega
        have e1 : b1 = true := by rw [← hb1, decide_eq_true hr]
        have e2 : b2 = false := by rw [← hb2, decide_eq_false hr2]
        subst e1 e2
        clear hb1 hb2
        go_wp2
        go_ret
        exact ⟨congrArg (fun x => Ending.returned (Value.bool x)) (show (!decide (rest < 0)) = true by rw [decide_eq_false (show ¬ rest < 0 by omega)]; rfl), HB10.out⟩
      · have hr2 : rest < 0 := by omega
        have e1 : b1 = false := by rw [← hb1, decide_eq_false hr]
        have e2 : b2 = true := by rw [← hb2, decide_eq_true hr2]
        subst e1 e2
        clear hb1 hb2
        go_wp2
        go_ret
        exact ⟨congrArg (fun x => Ending.returned (Value.bool x)) (show (!decide (0 ≤ rest)) = true by rw [decide_eq_false (show ¬ (0 : Int) ≤ rest by omega)]; rfl), HB10.out⟩
end Go.Proofs.YtdfljhechmanlaaDoor

namespace Go.Proofs.YtdfljhechmanlaaDoor.semaEnds
open Go.ChangeShapes Go.WideShapes Go.ChangeAt Go.RowKit
set_option linter.unusedVariables false

theorem own : ownKnob Tryd.prog.godebug = none := by kernel_rfl
theorem laidOut : laidOutB Tryd.prog = true := by kernel_rfl
theorem tsize : Tryd.prog.types.size = 214 := by kernel_rfl

/-- What the listed variables give the walk. -/
theorem cw_of {W : World} (h : laidMetH Tryd.prog Rows.semaEndsRow.laid W) : CW W := by
  have h' : laidMet Tryd.prog (Rows.semaEndsRow.laid.filter fun x => x.2.handleName?.isNone) W ∧ handlesMet Tryd.prog (Rows.semaEndsRow.laid.filter fun x => x.2.handleName?.isSome) W := h
  exact cw_of_laid h'.1 (List.mem_filter.2 ⟨.tail _ (.head _), rfl⟩)

/-- So many blocks has the settled world. -/
noncomputable def low : Nat := (World.holding Tryd.prog default ⟨#[], #[], []⟩).heap.size
def put (o : Obj) (cs : Array Value) : Obj := match o with
  | .cells _ t frozen => .cells cs t frozen
  | o => o
def tab (k : IntKind) (zs : List Int) : Array Value := (zs.map fun z => Value.int k z).toArray
/-- A world that meets the condition. -/
noncomputable def laidWorld (os : Os) : World :=
  let w0 := World.holding Tryd.prog os ⟨#[], #[], []⟩
  { w0 with heap := ((w0.heap.modify 1 (put · #[.iface 172 (.agg #[.pointer (some ⟨2, 36, none⟩)])])).modify 0 (put · formCells)) }
theorem laidWorld_met (os : Os) (args : Array Value) : laidMetH Tryd.prog Rows.semaEndsRow.laid ((laidWorld os).forCall (fun _ _ => 0) ⟨#[], args, []⟩).memory :=
  laidMetH_of_parts (LaidIn.of_run [0] 8 (by kernel_rfl) (by kernel_rfl) (by kernel_rfl) (by kernel_rfl)).met (by kernel_rfl)

/-- The walk. -/
theorem walk (a0 : Option Addr) (len0 cap0 : Nat) (nods0 : List (List Int)) (a1 : Int) (a2 : Int) (a3 : Option Addr) (len3 cap3 : Nat) (nods3 : List (Int × Bool)) (w : World) (hw : CW w) (N0 : IRows w w.heap.size a0 len0 nods0) (I0 : len0 ≤ cap0) (N3 : Moves w w.heap.size a3 len3 nods3) (I3 : True) :
    Calls Tryd.prog 8 #[.slice a0 len0 cap0, .int .i64 a1, .int .i64 a2, .slice a3 len3 cap3] w fun e w' => e = .returned (.bool true) ∧ Below w.heap.size w w' := by
  exact semaEnds_any hw a0 len0 cap0 nods0 N0 I0 a1 a2 a3 len3 cap3 nods3 N3

set_option maxRecDepth 100000 in
theorem lifted (os : Os) (started : os.Started) (H : Type) (enc : TypeId × Value → H) :
    ReturnsInHanded {} Tryd.checked os 8 .any (fun w args => (Rows.semaEndsSpec.pre enc Tryd.prog Tryd.f8 [] false w args ∧ laidMetH Tryd.prog Rows.semaEndsRow.laid w) ∧ sizedMet enc Tryd.prog Tryd.f8 (OpenSpec.ofChange Rows.semaEndsSpec) false w args)
      (Rows.semaEndsSpec.post enc Tryd.prog Tryd.f8 false true false false) := by
  refine returnsInHanded_of_change_and (C := Tryd.checked) (X := fun w _ => laidMetH Tryd.prog Rows.semaEndsRow.laid w) (fun _ _ _ hh h => h.of_heap hh) own started (by kernel_rfl) Tryd.func8
    (ChangeSpec.witness_at (enc := enc) (C := Tryd.checked) (os := os) (X := fun w _ => laidMetH Tryd.prog Rows.semaEndsRow.laid w) false (laidWorld os) #[.slice none 0 0, .int .i64 0, .int .i64 0, .slice none 0 0] 8 rfl (by kernel_rfl) (by kernel_rfl) (by kernel_rfl) (by kernel_rfl) (by kernel_rfl) (laidWorld_met os _)) ?_
  intro W base args ds gs before hval0 hW _ _ hL _
  have hval : ∀ (j : Nat) t v, Tryd.f8.params[j]? = some t → args[j]? = some v → Value.okWide Tryd.prog W .any base t v := hval0
  have hW' := hW
  obtain ⟨p, q, hA0, hV0, rfl, hfz, hnd⟩ := hW
  have hA : DataW.TrodAll enc Tryd.prog W 0 (fun _ => true) true Tryd.f8.params.toList args.toList ds p := hA0
  have hV : DataW.TrodVars enc Tryd.prog W (fun _ => true) [] gs q := hV0
  rw [Tryd.params8] at hA hval
  obtain ⟨v0, vs0, d0, ds0, p0, q0, hargs, rfl, rfl, h0, r0⟩ := trodAll_cons hA
  obtain ⟨v1, vs1, d1, ds1, p1, q1, rfl, rfl, rfl, h1, r1⟩ := trodAll_cons r0
  obtain ⟨v2, vs2, d2, ds2, p2, q2, rfl, rfl, rfl, h2, r2⟩ := trodAll_cons r1
  obtain ⟨v3, vs3, d3, ds3, p3, q3, rfl, rfl, rfl, h3, r3⟩ := trodAll_cons r2
  obtain ⟨rfl, rfl, rfl⟩ := trodAll_nil r3
  obtain rfl : args = #[v0, v1, v2, v3] := by cases args; simp_all
  obtain ⟨rfl, rfl⟩ : gs = [] ∧ q = [] := by
    cases gs with
    | nil => exact ⟨rfl, hV⟩
    | cons g r => exact absurd hV (by intro h; cases h)
  obtain ⟨a0, len0, cap0, rfl⟩ := okWide_slice Tryd.underlying22 (hval 0 22 v0 rfl rfl)
  have k0 := h0
  have lt0 : ∀ x ∈ p0, x.block < W.heap.size := by obtain ⟨m, hm⟩ := k0; exact DataW.trod_lt m _ _ _ hm
  obtain ⟨nods0, N0, I0⟩ : ∃ nods, IRows W W.heap.size a0 len0 nods ∧ len0 ≤ cap0 := by
    obtain ⟨fuel, hf⟩ := h0
    obtain ⟨ls, hl⟩ := intss_of (a := a0) (len := len0) (cap := cap0) hf; exact ⟨ls, hl, cap_slice Tryd.underlying22 hf⟩
  obtain ⟨a1, rfl, rfl, rfl, w1⟩ := open_int Tryd.underlying3 (hval 1 3 v1 rfl rfl) h1
  obtain ⟨a2, rfl, rfl, rfl, w2⟩ := open_int Tryd.underlying3 (hval 2 3 v2 rfl rfl) h2
  obtain ⟨a3, len3, cap3, rfl⟩ := okWide_slice Tryd.underlying23 (hval 3 23 v3 rfl rfl)
  have k3 := h3
  have lt3 : ∀ x ∈ p3, x.block < W.heap.size := by obtain ⟨m, hm⟩ := k3; exact DataW.trod_lt m _ _ _ hm
  obtain ⟨nods3, N3, I3⟩ : ∃ nods, Moves W W.heap.size a3 len3 nods ∧ True := by
    obtain ⟨fuel, hf⟩ := h3
    obtain ⟨l, hl⟩ := moves_of (a := a3) (len := len3) (cap := cap3) hf; exact ⟨l, hl, trivial⟩
  have hw := cw_of hL
  clear hA0 hval0
  refine (walk a0 len0 cap0 nods0 a1 a2 a3 len3 cap3 nods3 W hw N0 I0 N3 I3).mono fun e W' ⟨he, bel⟩ => ?_
  subst he
  exact ⟨_, rfl, _, _, _, [], _, [], hW', trodAll_mk1 (shut_bool Tryd.underlying4 _), (trodAll_cons_mk (Below.trod laidOut (by kernel_rfl) (of_decide_eq_true (by kernel_rfl)) k0 bel lt0) (trodAll_cons_mk (shut_int Tryd.underlying3 w1) (trodAll_cons_mk (shut_int Tryd.underlying3 w2) (trodAll_cons_mk (Below.trod laidOut (by kernel_rfl) (of_decide_eq_true (by kernel_rfl)) k3 bel lt3) trodAll_mk0)))), rfl, bel.frame _, fun h => by cases h⟩

theorem over : Rows.SemaEndsSaid :=
  OpenClaim.holds_of_wide 8 Tryd.f8 rfl rfl rfl rfl rfl rfl rfl ⟨rfl, rfl, rfl, rfl, rfl⟩ rfl rfl rfl rfl rfl (by kernel_rfl) Tryd.func8 (by kernel_rfl)
    (of_decide_eq_true (by kernel_rfl)) (by unfold Func.isWrapper; first | (rw [if_pos (by decide +kernel)]; kernel_rfl) | (rw [if_neg (by decide +kernel)]; exact ⟨rfl, rfl⟩))
    (fun os started H enc _ => lifted os started H enc)

/-- The given statement: the tied card. -/
theorem proved : Rows.SemaEndsCardSaid :=
  Claim7.holds_tied_plain_at .later [] [.handle, .data] true (true, "d47da573c139323a2d3ffb97e069444c56f44381508be9b6753f4f5b74787098") true
    over (fun _ h => by cases h) (by kernel_rfl) (fun _ h => by cases h) semaEnds_row_tie rfl ⟨rfl, rfl⟩ (by kernel_rfl) rfl
    (fun f fn hf hfn => by
      obtain rfl : f = 8 := Option.some.inj ((show Tryd.prog.funcNamed "quadrille/quadrillekeep.SemaEnds" = some 8 by kernel_rfl).symm.trans hf) |>.symm
      obtain rfl : fn = Tryd.f8 := (Option.some.inj (Tryd.func8.symm.trans hfn)).symm
      refine ⟨by kernel_rfl, fun j t ht => ?_⟩
      rw [Tryd.params8] at ht
      have hm : t ∈ [22, 3, 3, 23] := by
        have := Array.mem_of_getElem? ht
        simpa using this
      have hall : ([22, 3, 3, 23].all fun u => !Tryd.prog.wantsStandIn u) = true := by kernel_rfl
      exact (show Tryd.prog.wantsStandIn t = false by simpa using List.all_eq_true.1 hall t hm))
    (by kernel_rfl)
#print axioms proved
end Go.Proofs.YtdfljhechmanlaaDoor.semaEnds
