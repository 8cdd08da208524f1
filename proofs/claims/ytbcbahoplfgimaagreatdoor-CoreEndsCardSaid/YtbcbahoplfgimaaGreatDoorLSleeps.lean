/-
  WHO SLEEPS WAITS.
-/
import Derived.Test.YtbcbahoplfgimaaGreatDoorMGoneW
import Derived.Test.YtbcbahoplfgimaaGreatDoorPickI
import Derived.Test.YtbcbahoplfgimaaGreatDoorTell
import Derived.Test.YtbcbahoplfgimaaGreatDoorRegP
namespace Go.Proofs.YtbcbahoplfgimaaGreatDoor
set_option maxRecDepth 100000
open Go.RowKit Go.Shelf Go.Sort
set_option linter.unusedVariables false
set_option linter.unusedSimpArgs false

theorem errVar_old2 {w w' : World} (hg : ErrVar w) (hb : Below w.heap.size w w') : ErrVar w' := by
  unfold ErrVar at *
  exact (World.cell?_of_block (hb.block _ (World.block_lt_of_cell? w _ hg))).trans hg

theorem sleeps_facts {cells0 : List Int} {m : Mach} (hb : MBig cells0 m) {k : Nat} (hk : k < m.progs.length) :
    ((atM m k).2.2 ≠ 0 ∨ (atM m k).2.2 = 0 ∧ (atM m k).2.1 < 0) ∧ (pokeM m k).1 = 6 ∨
    (atM m k).2.2 = 0 ∧ 0 ≤ (atM m k).2.1 ∧ (m.progs.getD k []).length ≤ 600 ∧ ∃ j : Nat, (atM m k).1 = (j : Int) + 1 ∧ j + 1 < (m.progs.getD k []).length ∧ ((m.progs.getD k []).getD j default).1 = 14 ∧ ((m.progs.getD k []).getD j default).2.1 = (atM m k).2.1 ∧
      stepM 20000 m k = (8, m) ∧ (pokeM m k).1 = 0 ∧ (atM (pokeM m k).2 k).1 = (atM m k).1 ∧ (atM (pokeM m k).2 k).2.1 = -1 ∧ (atM (pokeM m k).2 k).2.2 = 0 ∧ readyE (pokeM m k).2 k = 0 := by
  by_cases ha : 0 ≤ cellM m k
  · right
    obtain ⟨h1, h2, h3, h4, h5, h6, h7⟩ := sleeper hb.ok k ha
    obtain ⟨p1, p2, p3, p4, p5, p6⟩ := sleeper_poked 20000 hb.ok k ha
    have hu : underE m (k : Int) = 0 := by
      unfold underE
      rw [if_neg (by omega), Int.toNat_natCast, h2]
      rfl
    have hp : (pokeM m k).2.progs = m.progs := by
      unfold pokeM
      repeat' split
      all_goals rfl
    have hu2 : underE (pokeM m k).2 (k : Int) = 0 := by
      unfold underE
      rw [hp, p4, if_neg (by omega), Int.toNat_natCast, h2]
      rfl
    have hat : atM m k = (m.at_.getD k 0, cellM m k, 0) := by
      unfold atM
      rw [if_pos hu, Int.toNat_natCast]
    have hat2 : atM (pokeM m k).2 k = (m.at_.getD k 0, -1, 0) := by
      unfold atM
      rw [if_pos hu2, Int.toNat_natCast, p3, p5]
    rw [hat, hat2]
    obtain ⟨-, -, -, r3, -⟩ := hb.ok.right k hk
    refine ⟨rfl, ha, r3, (m.at_.getD k 0 - 1).toNat, by dsimp only; omega, by omega, h6, h7, p1, p2, rfl, rfl, rfl, ?_⟩
    unfold readyE
    rw [hp, p4, p5, if_neg (by omega), Int.toNat_natCast, h2]
    rfl
  · left
    have hs : asleepM m k = false := by
      cases h : asleepM m (k : Int) with
      | false => rfl
      | true => exact absurd ((asleep_cell hb.ok k).1 h) ha
    refine ⟨?_, ?_⟩
    · unfold atM
      by_cases hu : underE m k = 0
      · rw [if_pos hu]
        exact .inr ⟨rfl, by dsimp only; omega⟩
      · rw [if_neg hu]
        exact .inl hu
    · unfold pokeM
      rw [if_neg (by omega), hs]
      rfl

set_option maxHeartbeats 4000000 in
theorem coreSleeps_any {w : World} (hw : CW w) (hg : ErrVar w) (A C D : Option Addr) (n c nc cc nm cm : Nat) (ps : List (List Ins5)) (cells : List Int) (l : List (Int × Bool)) (t : Int) (hn : n ≤ 9223372036854775807)
    (hp : Progs w w.heap.size A n ps) (hc : Ints .u64 w w.heap.size C nc cells) (hcU : ∀ v ∈ cells, okU v) (hl : Moves w w.heap.size D nm l) :
    Calls Tryz.prog 7 #[.slice A n c, .slice C nc cc, .slice D nm cm, .int .i64 t] w fun e w' => e = .returned (.bool true) ∧ Below w.heap.size w w' := by
  have HG := Lib.hid (gone_any hw)
  have HW := Lib.hid (fun w1 (hb : Below w.heap.size w w1) => written_true w1 (hw.old hb))
  have HF := Lib.hid (fun w1 (hb : Below w.heap.size w w1) => kfits_any (hw.old hb) A C n c nc cc ps (hp.old hb) hn)
  have HBH := Lib.hid (fun w1 (hb : Below w.heap.size w w1) (hf : Fit ps nc) (hnm : nm ≤ 300) => kbehind_any (hw.old hb) A C D n c nc cc nm cm ps cells l (hp.old hb) (hc.old hb) (hl.old hb) hf hcU (by omega))
  have hlen := hp.len
  have hclen := hc.len
  have HBig := Lib.hid (fun (hf : Fit ps nc) => MBig.behind l (newM_big (cells := cells) (by rw [hclen]; exact hf) hcU))
  have HLN := Lib.hid hlen
  have HPR := Lib.hid (fun x (hb : Below w.heap.size w x) => hp.old hb)
  clear hp hc hw hl hcU hlen hclen
  go_enter Tryz.func7, Tryz.ntmps7
  go_wp2_with fail
  refine HG.out.mono ?_
  rintro e w1 ⟨rfl, hb1⟩
  have HB1 := Lib.hid hb1
  clear hb1 HG
  go_wp2_with fail
  refine (HW.out w1 HB1.out).mono ?_
  rintro e w2 ⟨rfl, hb2⟩
  have HB2 := Lib.hid (HB1.out.trans (hb2.mono HB1.out.size))
  clear hb2 HB1 HW
  by_cases h0 : n = 0
  · subst h0
    go_wp2
    go_ret
    exact ⟨rfl, HB2.out⟩
  have h0' : ¬ (n : Int) = 0 := by omega
  have hz0 : ((n : Int) == 0) = false := by simp; omega
  by_cases h3 : 300 < nm
  · have h3' : (300 : Int) < (nm : Int) := by omega
    go_wp2
    go_ret
    exact ⟨rfl, HB2.out⟩
  have h3' : ¬ (300 : Int) < (nm : Int) := by omega
  have hz3 : decide ((300 : Int) < (nm : Int)) = false := by simp; omega
  go_wp2_with fail
  refine (HF.out w2 HB2.out).mono ?_
  rintro e w3 ⟨⟨rfl, hf⟩ | rfl, hb3⟩
  rotate_left
  · have HB3 := Lib.hid (HB2.out.trans (hb3.mono HB2.out.size))
    clear hb3 HB2
    go_wp2
    go_ret
    exact ⟨rfl, HB3.out⟩
  have HB3 := Lib.hid (HB2.out.trans (hb3.mono HB2.out.size))
  have HFit := Lib.hid hf
  clear hb3 HB2 HF hf
  go_wp2_with fail
  refine (HBH.out w3 HB3.out HFit.out (by omega)).mono ?_
  rintro e w4 ⟨b, rfl, hA⟩
  have HA := Lib.hid (hA.old HB3.out)
  have HM := Lib.hid (HBig.out HFit.out)
  have hpl : (behindM 20000 (newM ps cells) l).progs = ps := behindM_progs _ _ _
  have HPL := Lib.hid hpl
  have hn16 : n ≤ 16 := by have := HFit.out.1; rw [HLN.out] at this; exact this
  clear hA HBH HBig HFit HB3 hpl
  generalize behindM 20000 (newM ps cells) l = m at *
  go_wp2_with fail
  refine (pick_det t n n _ rfl (by omega) (by omega)).mono ?_
  rintro e w5 ⟨rfl, rfl⟩
  obtain ⟨tk, htk⟩ := nat_of (pickI_lo t n)
  have htn := pickI_hi t n (by omega)
  rw [htk] at htn ⊢
  clear htk
  go_wp2_with fail
  have HFA := Lib.hid (sleeps_facts HM.out (k := tk) (by rw [HPL.out, HLN.out]; omega))
  refine (at_at HA.out tk).mono ?_
  rintro e w5 ⟨rfl, hg5⟩
  have HA5 := Lib.hid (HA.out.grow hg5)
  clear hg5 HA
  rcases HFA.out with ⟨hno, hpk⟩ | ⟨y1, y2, yl, j, y3, y4, y5, y6, y7, y8, y9, y10, y11, y12⟩
  · have HP := Lib.hid (at_poke HA5.out HM.out tk)
    rw [hpk] at HP
    clear HFA hpk HM HPR
    have hno' : (∃ v, errV (atM m tk).2.2 = .iface 37 (.int .i64 v)) ∨ (errV (atM m tk).2.2 = .nilIface ∧ (atM m tk).2.1 < 0) := by
      rcases hno with h | ⟨h, h'⟩
      · exact .inl ⟨_, errV_pos h⟩
      · exact .inr ⟨by rw [h]; rfl, h'⟩
    clear hno
    generalize (atM m tk).2.1 = z1 at *
    generalize (atM m tk).1 = z0 at *
    generalize errV (atM m tk).2.2 = q at *
    rcases hno' with ⟨v, rfl⟩ | ⟨rfl, hz1⟩
    · go_wp2_with fail
      refine HP.out.mono ?_
      rintro e w6 ⟨rfl, hA6⟩
      have HE := Lib.hid (errVar_old2 hg hA6.bel)
      have HB6 := Lib.hid hA6.bel
      clear hA6 HP HA5
      rw [errV_pos (show (6 : Nat) ≠ 0 by decide)]
      go_wp2_with fail
      refine (tell_errno 6 _ HE.out).mono ?_
      rintro e w7 ⟨rfl, hg7⟩
      have HB7 := Lib.hid (HB6.out.grown hg7 HB6.out.size (by intro k hk; cases hk))
      clear hg7 HB6 HE
      go_wp2
      go_ret
      exact ⟨rfl, HB7.out⟩
    · have hz1' : decide (z1 < 0) = true := by simp; omega
      go_wp2_with fail
      refine HP.out.mono ?_
      rintro e w6 ⟨rfl, hA6⟩
      have HE := Lib.hid (errVar_old2 hg hA6.bel)
      have HB6 := Lib.hid hA6.bel
      clear hA6 HP HA5
      rw [errV_pos (show (6 : Nat) ≠ 0 by decide)]
      go_wp2_with fail
      refine (tell_errno 6 _ HE.out).mono ?_
      rintro e w7 ⟨rfl, hg7⟩
      have HB7 := Lib.hid (HB6.out.grown hg7 HB6.out.size (by intro k hk; cases hk))
      clear hg7 HB6 HE
      go_wp2
      go_ret
      exact ⟨rfl, HB7.out⟩
  · clear HFA
    obtain ⟨bA, oA, eA, hlA, hxA⟩ := (HPR.out w5 HA5.out.bel).row (by omega)
    obtain ⟨Ai, ci, hrow, hins⟩ := hxA tk (by omega)
    obtain ⟨bi, oi, ei, hli, hxi⟩ := hins.row (by rw [HPL.out] at y4; omega)
    rw [HPL.out] at y4 y5 y6 yl
    obtain ⟨h5a, h5b, -⟩ := hxi j (by omega)
    rw [y5] at h5a
    rw [y6] at h5b
    subst eA ei
    have HSI := Lib.hid (at_step HA5.out HM.out tk)
    rw [y7] at HSI
    have HPK := Lib.hid (fun x (hx : At w b m x) => at_poke hx HM.out tk)
    rw [y8] at HPK
    have HAT := Lib.hid (fun x (hx : At w b (pokeM m tk).2 x) => at_at hx tk)
    rw [y9, y10, y11] at HAT
    have HCN := Lib.hid (fun x (hx : At w b (pokeM m tk).2 x) => at_can hx tk)
    rw [y12] at HCN
    rw [y1, y3]
    rw [y3] at HAT
    obtain ⟨np, hnp⟩ : ∃ q, (ps.getD tk []).length = q := ⟨_, rfl⟩
    rw [hnp] at hrow y4 yl
    have hk0 : decide ((atM m tk).2.1 < 0) = false := by simp; omega
    have hcc : ((atM m tk).2.1 == (atM m tk).2.1) = true := by simp
    generalize (atM m tk).2.1 = z1 at *
    have hw1 : wrap64 ((j : Int) + 1 - 1) = (j : Int) := by unfold wrap64; omega
    clear y1 y2 y3 y5 y6 y7 y8 y9 y10 y11 y12 hxA hxi hins hnp HPR HM HPL hlA hli HLN
    rw [errV_zero]
    go_wp2_with fail
    refine HSI.out.mono ?_
    rintro e w6 ⟨rfl, hA6⟩
    have HA6 := Lib.hid hA6
    clear hA6 HSI HA5 hrow h5a h5b
    rw [errV_pos (show (8 : Nat) ≠ 0 by decide)]
    go_wp2_with fail
    refine (HPK.out _ HA6.out).mono ?_
    rintro e w7 ⟨rfl, hA7⟩
    have HA7 := Lib.hid hA7
    clear hA7 HPK HA6
    rw [errV_zero]
    go_wp2_with fail
    refine (HAT.out _ HA7.out).mono ?_
    rintro e w8 ⟨rfl, hg8⟩
    have HA8 := Lib.hid (HA7.out.grow hg8)
    have HE8 := Lib.hid (errVar_old2 hg HA8.out.bel)
    clear hg8 HAT HA7
    rw [errV_zero]
    have hjj : ((j : Int) + 1 == (j : Int) + 1) = true := by simp
    go_wp2_with fail
    refine (tell_errno 8 _ HE8.out).mono ?_
    rintro e w9 ⟨rfl, hg9⟩
    have HA9 := Lib.hid (HA8.out.grow hg9)
    clear hg9 HE8 HA8
    go_wp2_with fail
    refine (HCN.out _ HA9.out).mono ?_
    rintro e w10 ⟨rfl, hg10⟩
    have HB10 := Lib.hid (HA9.out.grow hg10).bel
    clear hg10 HCN HA9
    go_wp2
    go_ret
    exact ⟨rfl, HB10.out⟩
end Go.Proofs.YtbcbahoplfgimaaGreatDoor
