/-
  THE SAME AGAIN.
-/
import Derived.Test.YtbcbahoplfgimaaGreatDoorLSleeps
namespace Go.Proofs.YtbcbahoplfgimaaGreatDoor
set_option maxRecDepth 100000
open Go.RowKit Go.Shelf Go.Sort
set_option linter.unusedVariables false
set_option linter.unusedSimpArgs false

theorem At.keepB {w wr w' : World} {c : Nat} {m : Mach} (h : At w c m wr) (hb : Below wr.heap.size wr w') : At w c m w' := by
  obtain ⟨S, X, e, hC, hB⟩ := h
  exact ⟨S, X, e, hC.below hb (Nat.le_refl _), hB.trans (hb.mono hB.size)⟩
theorem own_grown {w w' : World} {B e sz n : Nat} {v : Value} {xs : List Value} (h : w.ownsRow B e sz v n xs) (hg : w.grownBy w' none) : w'.ownsRow B e sz v n xs := h.kept hg (Classical.em _)
theorem tell_any (u : Nat) (w : World) (hg0 : ErrVar w) : Calls Tryz.prog 18 #[errV u] w fun e w' => e = .returned (.int .i64 (u : Int)) ∧ w.grownBy w' none := by
  by_cases h : u = 0
  · subst h
    exact (tell_nil w).mono fun e w' ⟨he, hw⟩ => ⟨he, hw ▸ World.grownBy.refl _ _⟩
  · rw [errV_pos h]
    exact tell_errno u w hg0

set_option maxHeartbeats 4000000 in
theorem coreSame_any {w : World} (hw : CW w) (hg : ErrVar w) (A C D : Option Addr) (n c nc cc nm cm : Nat) (ps : List (List Ins5)) (cells : List Int) (l : List (Int × Bool)) (hn : n ≤ 9223372036854775807)
    (hp : Progs w w.heap.size A n ps) (hc : Ints .u64 w w.heap.size C nc cells) (hcU : ∀ v ∈ cells, okU v) (hl : Moves w w.heap.size D nm l) :
    Calls Tryz.prog 8 #[.slice A n c, .slice C nc cc, .slice D nm cm] w fun e w' => e = .returned (.bool true) ∧ Below w.heap.size w w' := by
  have HG := Lib.hid (gone_any hw)
  have HW := Lib.hid (fun w1 (hb : Below w.heap.size w w1) => written_true w1 (hw.old hb))
  have HF := Lib.hid (fun w1 (hb : Below w.heap.size w w1) => kfits_any (hw.old hb) A C n c nc cc ps (hp.old hb) hn)
  have HBH := Lib.hid (fun w1 (hb : Below w.heap.size w w1) (hf : Fit ps nc) (hnm : nm ≤ 300) => kbehind_any (hw.old hb) A C D n c nc cc nm cm ps cells l (hp.old hb) (hc.old hb) (hl.old hb) hf hcU (by omega))
  have hlen := hp.len
  have hclen := hc.len
  have HBig := Lib.hid (fun (hf : Fit ps nc) => MBig.behind l (newM_big (cells := cells) (by rw [hclen]; exact hf) hcU))
  have HLN := Lib.hid hlen
  have HCL := Lib.hid hclen
  clear hp hc hw hl hcU hlen hclen
  go_enter Tryz.func8, Tryz.ntmps8
  go_wp2_with fail
  refine HG.out.mono ?_
  rintro e w1 ⟨rfl, hb1⟩
  have HB1 := Lib.hid hb1
  clear hb1 HG
  go_wp2_with fail
  refine (HW.out w1 HB1.out).mono ?_
  rintro e w2 ⟨rfl, hb2⟩
  have HB2 := Lib.hid (HB1.out.trans (hb2.mono HB1.out.size))
  clear hb2 HB1 HW
  by_cases h3 : 300 < nm
  · have h3' : (300 : Int) < (nm : Int) := by omega
    go_wp2
    go_ret
    exact ⟨rfl, HB2.out⟩
  have h3' : ¬ (300 : Int) < (nm : Int) := by omega
  have hz3 : decide ((300 : Int) < (nm : Int)) = false := by simp; omega
  go_wp2_with fail
  refine (HF.out w2 HB2.out).mono ?_
  rintro e w3 ⟨⟨rfl, hf⟩ | rfl, hb3⟩
  rotate_left
  · have HB3 := Lib.hid (HB2.out.trans (hb3.mono HB2.out.size))
    clear hb3 HB2
    go_wp2
    go_ret
    exact ⟨rfl, HB3.out⟩
  have HB3 := Lib.hid (HB2.out.trans (hb3.mono HB2.out.size))
  have HFit := Lib.hid hf
  clear hb3 HB2 HF hf
  go_wp2_with fail
  refine (HBH.out w3 HB3.out HFit.out (by omega)).mono ?_
  rintro e w4 ⟨b, rfl, hA⟩
  have HA := Lib.hid (hA.old HB3.out)
  clear hA HB3
  go_wp2_with fail
  refine (HBH.out w4 HA.out.bel HFit.out (by omega)).mono ?_
  rintro e w5 ⟨d, rfl, hA2⟩
  have HA5 := Lib.hid (HA.out.keepB hA2.bel)
  have HD5 := Lib.hid (hA2.old HA.out.bel)
  have HM := Lib.hid (HBig.out HFit.out)
  have hpl : (behindM 20000 (newM ps cells) l).progs = ps := behindM_progs _ _ _
  have HPL := Lib.hid (show (behindM 20000 (newM ps cells) l).progs.length = n by rw [hpl]; exact HLN.out)
  have hn16 : n ≤ 16 := by have := HFit.out.1; rw [HLN.out] at this; exact this
  have HFC := Lib.hid (show cells.length ≤ 300 by have := HFit.out.2.1; rw [HCL.out]; omega)
  clear hA2 HA HBH HBig HFit hpl
  generalize behindM 20000 (newM ps cells) l = m at *
  go_wp2
  go_loopw [47] (fun j wr => ∃ k : Nat, k ≤ n ∧ j = .int .i64 k ∧ At w b m wr ∧ At w d m wr) (fun j _ => n - (intOf j).toNat)
  case atStart => exact ⟨0, Nat.zero_le _, rfl, HA5.out, HD5.out⟩
  case round =>
    obtain ⟨k, hk, rfl, hA, hD⟩ := hrel
    by_cases hlt : k < n
    · have hkn : (k : Int) < (n : Int) := by omega
      have HA6 := Lib.hid hA
      have HD6 := Lib.hid hD
      clear hA hD HA5 HD5 HM
      go_wp2_with fail
      refine (at_at HA6.out k).mono ?_
      rintro e w6 ⟨rfl, hg6⟩
      have HA7 := Lib.hid (HA6.out.grow hg6)
      have HD7 := Lib.hid (HD6.out.grow hg6)
      clear hg6 HA6 HD6
      go_wp2_with fail
      refine (at_at HD7.out k).mono ?_
      rintro e w7 ⟨rfl, hg7⟩
      have HA8 := Lib.hid (HA7.out.grow hg7)
      have HD8 := Lib.hid (HD7.out.grow hg7)
      clear hg7 HA7 HD7
      have HE := Lib.hid (errVar_old2 hg HA8.out.bel)
      have HT := Lib.hid (fun x (hx : ErrVar x) => tell_any (atM m k).2.2 x hx)
      generalize (atM m k).1 = z0 at *
      generalize (atM m k).2.1 = z1 at *
      generalize (atM m k).2.2 = u at *
      generalize errV u = q at *
      have hz0 : (z0 != z0) = false := by simp
      have hz1 : (z1 != z1) = false := by simp
      have huu : ((u : Int) != (u : Int)) = false := by simp
      go_wp2_with fail
      refine (HT.out _ HE.out).mono ?_
      rintro e w8 ⟨rfl, hg8⟩
      have HA9 := Lib.hid (HA8.out.grow hg8)
      have HD9 := Lib.hid (HD8.out.grow hg8)
      have HE9 := Lib.hid (errVar_old2 hg HA9.out.bel)
      clear hg8 HA8 HD8 HE
      go_wp2_with fail
      refine (HT.out _ HE9.out).mono ?_
      rintro e w9 ⟨rfl, hg9⟩
      have HA10 := Lib.hid (HA9.out.grow hg9)
      have HD10 := Lib.hid (HD9.out.grow hg9)
      clear hg9 HA9 HD9 HE9 HT
      go_wp2
      go_roundw
      case rel => exact ⟨k + 1, by omega, by go_num, HA10.out, HD10.out⟩
      case measure => simp [intOf]; omega
    · have hkn : ¬ (k : Int) < (n : Int) := by omega
      have HA6 := Lib.hid hA
      have HD6 := Lib.hid hD
      have hna : m.acts.length ≤ 20000 := Nat.le_trans HM.out.acts HM.out.most
      have hne : m.events.length ≤ 20000 := Nat.le_trans HM.out.events HM.out.most
      have hnc : m.cells.length ≤ 300 := by obtain ⟨k0, hk0⟩ : ∃ q, q = m.cells.length := ⟨_, rfl⟩; have := HM.out.ok.lc; have := HFC.out; omega
      clear hA hD HA5 HD5 HM
      go_wp2_with fail
      refine (at_acts HA6.out hna).mono ?_
      rintro e w6 ⟨A1, c1, rfl, ho1, hg6⟩
      have HA7 := Lib.hid (HA6.out.grow hg6)
      have HD7 := Lib.hid (HD6.out.grow hg6)
      have HO1 := Lib.hid ho1
      clear hg6 HA6 HD6 ho1
      go_wp2_with fail
      refine (at_acts HD7.out hna).mono ?_
      rintro e w7 ⟨A2, c2, rfl, ho2, hg7⟩
      have HA8 := Lib.hid (HA7.out.grow hg7)
      have HD8 := Lib.hid (HD7.out.grow hg7)
      have HEQ := Lib.hid (equalA_same A1 A2 m.acts.length c1 c2 m.acts w7 (by omega) (actRow_own (own_grown HO1.out hg7) rfl) (actRow_own ho2 rfl))
      clear hg7 HA7 HD7 HO1 ho2
      go_wp2_with fail
      refine HEQ.out.mono ?_
      rintro e w8 ⟨rfl, q8, rfl⟩
      have HA9 := Lib.hid (HA8.out.grow (grown_drewN _ q8))
      have HD9 := Lib.hid (HD8.out.grow (grown_drewN _ q8))
      clear HA8 HD8 HEQ
      generalize w7.drewN q8 = w9 at *
      go_wp2_with fail
      refine (at_events HA9.out hne).mono ?_
      rintro e w10 ⟨A3, c3, rfl, ho3, hg10⟩
      have HA10 := Lib.hid (HA9.out.grow hg10)
      have HD10 := Lib.hid (HD9.out.grow hg10)
      have HO3 := Lib.hid ho3
      clear hg10 HA9 HD9 ho3
      go_wp2_with fail
      refine (at_events HD10.out hne).mono ?_
      rintro e w11 ⟨A4, c4, rfl, ho4, hg11⟩
      have HA11 := Lib.hid (HA10.out.grow hg11)
      have HD11 := Lib.hid (HD10.out.grow hg11)
      have HEQ := Lib.hid (equalE_same A3 A4 m.events.length c3 c4 m.events w11 (by omega) (evRow_own (own_grown HO3.out hg11) rfl) (evRow_own ho4 rfl))
      clear hg11 HA10 HD10 HO3 ho4
      go_wp2_with fail
      refine HEQ.out.mono ?_
      rintro e w12 ⟨rfl, q12, rfl⟩
      have HA12 := Lib.hid (HA11.out.grow (grown_drewN _ q12))
      have HD12 := Lib.hid (HD11.out.grow (grown_drewN _ q12))
      clear HA11 HD11 HEQ
      generalize w11.drewN q12 = w13 at *
      go_wp2_with fail
      refine (at_cells HA12.out hnc).mono ?_
      rintro e w14 ⟨A5, c5, rfl, ho5, hg14⟩
      have HA14 := Lib.hid (HA12.out.grow hg14)
      have HD14 := Lib.hid (HD12.out.grow hg14)
      have HO5 := Lib.hid ho5
      clear hg14 HA12 HD12 ho5
      go_wp2_with fail
      refine (at_cells HD14.out hnc).mono ?_
      rintro e w15 ⟨A6, c6, rfl, ho6, hg15⟩
      have HA15 := Lib.hid (HA14.out.grow hg15)
      have HD15 := Lib.hid (HD14.out.grow hg15)
      have HEQ := Lib.hid (equalU_same A5 A6 m.cells.length c5 c6 m.cells w15 (by omega) _ (Ints.of_own (own_grown HO5.out hg15)) (Ints.of_own ho6))
      clear hg15 HA14 HD14 HO5 ho6
      go_wp2_with fail
      refine HEQ.out.mono ?_
      rintro e w16 ⟨rfl, q16, rfl⟩
      have HA16 := Lib.hid (HA15.out.grow (grown_drewN _ q16))
      have HD16 := Lib.hid (HD15.out.grow (grown_drewN _ q16))
      clear HA15 HD15 HEQ
      generalize w15.drewN q16 = w17 at *
      go_wp2_with fail
      refine (at_steps HA16.out).mono ?_
      rintro e w18 ⟨rfl, rfl⟩
      go_wp2_with fail
      refine (at_steps HD16.out).mono ?_
      rintro e w18 ⟨rfl, rfl⟩
      have hss : ((m.steps : Int) == (m.steps : Int)) = true := by simp
      go_wp2
      go_ret
      exact ⟨rfl, HA16.out.bel⟩
end Go.Proofs.YtbcbahoplfgimaaGreatDoor
