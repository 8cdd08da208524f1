/-
  ONE AT A TIME.
-/
import Derived.Test.YtbcbahoplfgimaaGreatDoorMGoneW
import Derived.Test.YtbcbahoplfgimaaGreatDoorPickI
import Derived.Test.YtbcbahoplfgimaaGreatDoorTell
import Derived.Test.YtbcbahoplfgimaaGreatDoorRegP
namespace Go.Proofs.YtbcbahoplfgimaaGreatDoor
set_option maxRecDepth 100000
open Go.RowKit Go.Shelf Go.Sort
set_option linter.unusedVariables false
set_option linter.unusedSimpArgs false

theorem errVar_old {w w' : World} (hg : ErrVar w) (hb : Below w.heap.size w w') : ErrVar w' := by
  unfold ErrVar at *
  exact (World.cell?_of_block (hb.block _ (World.block_lt_of_cell? w _ hg))).trans hg

theorem apart_facts {cells0 : List Int} {m : Mach} (hb : MBig cells0 m) {tk ok n : Nat} (hpl : m.progs.length = n) (htn : tk < n) (hon : ok < n) (hne : tk ≠ ok) :
    (atM (stepM 20000 m tk).2 ok).1 = (atM m ok).1 ∧ (atM (stepM 20000 m tk).2 ok).2.2 = (atM m ok).2.2 ∧ ((atM (stepM 20000 m tk).2 ok).2.1 = (atM m ok).2.1 ∨ (atM (stepM 20000 m tk).2 ok).2.1 = -1) ∧
    ((stepM 20000 m tk).2.steps = m.steps + 1 ∧ readyE m tk = 0 ∧ m.steps < 20000 ∧ ((stepM 20000 m tk).1 = 0 ∨ (stepM 20000 m tk).1 = 13) ∨
      (stepM 20000 m tk).2.steps = m.steps ∧ (readyE m tk ≠ 0 ∨ 20000 ≤ m.steps) ∧ (stepM 20000 m tk).1 ≠ 0 ∧ (stepM 20000 m tk).1 ≠ 13) := by
  obtain ⟨h1, h2, h3⟩ := apart_step 20000 hb.ok (tk : Int) ok (by omega)
  have hp := stepM_progs 20000 m tk
  have hu : underE (stepM 20000 m tk).2 ok = underE m ok := by
    unfold underE
    rw [hp, Int.toNat_natCast, h1]
  refine ⟨?_, ?_, ?_, ?_⟩
  · unfold atM
    rw [hu]
    split
    · rw [Int.toNat_natCast]; exact h2
    · rfl
  · unfold atM
    rw [hu]
    split <;> rfl
  · unfold atM
    rw [hu]
    split
    · exact h3
    · exact .inl rfl
  · by_cases hr : readyE m tk = 0
    · by_cases hs : 20000 ≤ m.steps
      · rw [step_most hb.ok hr hs]
        exact .inr ⟨rfl, .inr hs, by simp, by simp⟩
      · rw [step_does hb.ok hr (by omega)]
        exact .inl ⟨doEff_steps _ _ _ _, hr, by omega, errEff_done _⟩
    · rw [step_ready hb.ok tk hr]
      refine .inr ⟨rfl, .inl hr, hr, ?_⟩
      unfold readyE
      repeat' split
      all_goals simp

set_option maxHeartbeats 4000000 in
theorem coreApart_any {w : World} (hw : CW w) (hg : ErrVar w) (A C D : Option Addr) (n c nc cc nm cm : Nat) (ps : List (List Ins5)) (cells : List Int) (l : List (Int × Bool)) (t o : Int) (hn : n ≤ 9223372036854775807)
    (hp : Progs w w.heap.size A n ps) (hc : Ints .u64 w w.heap.size C nc cells) (hcU : ∀ v ∈ cells, okU v) (hl : Moves w w.heap.size D nm l) :
    Calls Tryz.prog 3 #[.slice A n c, .slice C nc cc, .slice D nm cm, .int .i64 t, .int .i64 o] w fun e w' => e = .returned (.bool true) ∧ Below w.heap.size w w' := by
  have HG := Lib.hid (gone_any hw)
  have HW := Lib.hid (fun w1 (hb : Below w.heap.size w w1) => written_true w1 (hw.old hb))
  have HF := Lib.hid (fun w1 (hb : Below w.heap.size w w1) => kfits_any (hw.old hb) A C n c nc cc ps (hp.old hb) hn)
  have HBH := Lib.hid (fun w1 (hb : Below w.heap.size w w1) (hf : Fit ps nc) (hnm : nm ≤ 300) => kbehind_any (hw.old hb) A C D n c nc cc nm cm ps cells l (hp.old hb) (hc.old hb) (hl.old hb) hf hcU (by omega))
  have hlen := hp.len
  have hclen := hc.len
  have HBig := Lib.hid (fun (hf : Fit ps nc) => MBig.behind l (newM_big (cells := cells) (by rw [hclen]; exact hf) hcU))
  have HLN := Lib.hid hlen
  clear hp hc hw hl hcU hlen hclen
  go_enter Tryz.func3, Tryz.ntmps3
  go_wp2_with fail
  refine HG.out.mono ?_
  rintro e w1 ⟨rfl, hb1⟩
  have HB1 := Lib.hid hb1
  clear hb1 HG
  go_wp2_with fail
  refine (HW.out w1 HB1.out).mono ?_
  rintro e w2 ⟨rfl, hb2⟩
  have HB2 := Lib.hid (HB1.out.trans (hb2.mono HB1.out.size))
  clear hb2 HB1 HW
  by_cases h0 : n = 0
  · subst h0
    go_wp2
    go_ret
    exact ⟨rfl, HB2.out⟩
  have h0' : ¬ (n : Int) = 0 := by omega
  by_cases h3 : 300 < nm
  · have h3' : (300 : Int) < (nm : Int) := by omega
    go_wp2
    go_ret
    exact ⟨rfl, HB2.out⟩
  have h3' : ¬ (300 : Int) < (nm : Int) := by omega
  have hz0 : ((n : Int) == 0) = false := by simp; omega
  have hz3 : decide ((300 : Int) < (nm : Int)) = false := by simp; omega
  go_wp2_with fail
  refine (HF.out w2 HB2.out).mono ?_
  rintro e w3 ⟨⟨rfl, hf⟩ | rfl, hb3⟩
  · have HB3 := Lib.hid (HB2.out.trans (hb3.mono HB2.out.size))
    have HFit := Lib.hid hf
    clear hb3 HB2 HF hf
    go_wp2_with fail
    refine (HBH.out w3 HB3.out HFit.out (by omega)).mono ?_
    rintro e w4 ⟨b, rfl, hA⟩
    have HA := Lib.hid (hA.old HB3.out)
    have HM := Lib.hid (HBig.out HFit.out)
    have hpl : (behindM 20000 (newM ps cells) l).progs = ps := behindM_progs _ _ _
    have HPL := Lib.hid (show (behindM 20000 (newM ps cells) l).progs.length = n by rw [hpl]; exact HLN.out)
    have hn16 : n ≤ 16 := by have := HFit.out.1; rw [HLN.out] at this; exact this
    clear hA HBH HBig HFit HB3 hpl
    generalize behindM 20000 (newM ps cells) l = m at *
    go_wp2_with fail
    refine (pick_det t n n _ rfl (by omega) (by omega)).mono ?_
    rintro e w5 ⟨rfl, rfl⟩
    go_wp2_with fail
    refine (pick_det o n n _ rfl (by omega) (by omega)).mono ?_
    rintro e w5 ⟨rfl, rfl⟩
    obtain ⟨tk, htk⟩ := nat_of (pickI_lo t n)
    obtain ⟨ok, hok⟩ := nat_of (pickI_lo o n)
    have htn := pickI_hi t n (by omega)
    have hon := pickI_hi o n (by omega)
    rw [htk] at htn ⊢
    rw [hok] at hon ⊢
    clear htk hok
    by_cases heq : tk = ok
    · subst heq
      have HBL := Lib.hid HA.out.bel
      clear HA
      go_wp2
      go_ret
      exact ⟨rfl, HBL.out⟩
    have heq' : ((tk : Int) == (ok : Int)) = false := by simp; omega
    have heq2 : ¬ (tk : Int) = (ok : Int) := by omega
    go_wp2_with fail
    obtain ⟨f1, f2, f3, f4⟩ := apart_facts HM.out HPL.out (by omega) (by omega) heq
    refine (at_at HA.out ok).mono ?_
    rintro e w5 ⟨rfl, hg5⟩
    have HA5 := Lib.hid (HA.out.grow hg5)
    clear hg5 HA
    go_wp2_with fail
    refine (at_steps HA5.out).mono ?_
    rintro e w6 ⟨rfl, rfl⟩
    go_wp2_with fail
    refine (at_can HA5.out tk).mono ?_
    rintro e w6 ⟨rfl, hg6⟩
    have HA6 := Lib.hid (HA5.out.grow hg6)
    clear hg6 HA5
    go_wp2_with fail
    refine (at_step HA6.out HM.out tk).mono ?_
    rintro e w7 ⟨rfl, hA7⟩
    have HA7 := Lib.hid hA7
    clear hA7 HA6
    go_wp2_with fail
    refine (at_at HA7.out ok).mono ?_
    rintro e w8 ⟨rfl, hg8⟩
    have HA8 := Lib.hid (HA7.out.grow hg8)
    have HE8 := Lib.hid (show ErrVar w8 from errVar_old hg HA8.out.bel)
    clear hg8 HA7
    rw [f1, f2]
    obtain ⟨r, hr⟩ : ∃ r, (stepM 20000 m tk).1 = r := ⟨_, rfl⟩
    rw [hr] at f4 ⊢
    obtain ⟨u, hu⟩ : ∃ u, (atM m ok).2.2 = u := ⟨_, rfl⟩
    rw [hu]
    obtain ⟨rd, hrd⟩ : ∃ u, readyE m tk = u := ⟨_, rfl⟩
    rw [hrd] at f4 ⊢
    generalize (atM m ok).1 = za at *
    generalize (atM m ok).2.1 = zx at *
    generalize (atM (stepM 20000 m tk).2 ok).2.1 = zy at *
    have HST := Lib.hid (fun x (hx : w8.grownBy x none) => at_steps (HA8.out.grow hx))
    obtain ⟨s1, hs1⟩ : ∃ s1, (stepM 20000 m tk).2.steps = s1 := ⟨_, rfl⟩
    rw [hs1] at HST f4
    have HBL := Lib.hid (fun x (hx : w8.grownBy x none) => (HA8.out.grow hx).bel)
    have HTE := Lib.hid (fun x (hx : w8.grownBy x none) k => tell_errno k x (errVar_old hg (HBL.out x hx)))
    obtain ⟨s0, hs0⟩ : ∃ s0, m.steps = s0 := ⟨_, rfl⟩
    rw [hs0] at f4 ⊢
    have hmost : s0 ≤ 20000 := by rw [← hs0]; exact HM.out.most
    clear f1 f2 HA8 hr hu hrd hs1 hs0 HM HPL HE8
    have hw1 : IntKind.i64.wrap ((s0 : Int) + 1) = (s0 : Int) + 1 := by rw [IntWalk.i64_left]; unfold wrap64; omega
    have hzz : (za == za) = true := by simp
    have hs00 : ((s0 : Int) == (s0 : Int) + 1) = false := by simp; omega
    have hs11 : (((s0 + 1 : Nat) : Int) == (s0 : Int) + 1) = true := by simp
    obtain ⟨q, hq⟩ : ∃ q, errV u = q := ⟨_, rfl⟩
    have hq2 : q = .nilIface ∨ ∃ k, q = .iface 37 (.int .i64 k) := by
      rw [← hq]
      by_cases hu0 : u = 0
      · exact .inl (by rw [hu0]; rfl)
      · exact .inr ⟨_, errV_pos hu0⟩
    rw [hq]
    clear hq
    rcases hq2 with rfl | ⟨k, rfl⟩
    · rcases (show zy = zx ∨ (zy = -1 ∧ ¬ zx = -1) by omega) with rfl | ⟨hy, hx1⟩
      · have hxx : (zy == zy) = true := by simp
        rcases f4 with ⟨rfl, rfl, h20, rfl | rfl⟩ | ⟨he, h20, hr0, hr13⟩
        · have h20t : decide ((s0 : Int) < 20000) = true := by simp; omega
          rw [errV_zero]
          go_wp2_with fail
          refine region_begin (by kernel_rfl) (by kernel_rfl) (by kernel_rfl) fun hNS hAP => ?_
          refine any_take [(0, .nilIface), (1, .bool true), (2, .nilIface), (3, .bool true), (4, .bool true), (5, .bool true), (6, .int .i64 za), (7, .int .i64 za)] hNS hAP (by kernel_rfl) (fun d _ _ _ _ h => by cases d <;> exact h) (fun w => by kernel_rfl) ?_
          refine any_told 8 (.bool true) rfl hNS hAP (by kernel_rfl) (fun d _ _ _ _ h => by cases d <;> exact h) (by kernel_rfl) (told_if hzz fun w => by kernel_rfl) ?_
          refine any_take [(9, .bool true), (10, .bool true), (11, .int .i64 zy), (12, .int .i64 zy)] hNS hAP (by kernel_rfl) (fun d _ _ _ _ h => by cases d <;> exact h) (fun w => by kernel_rfl) ?_
          refine any_told 13 (.bool true) rfl hNS hAP (by kernel_rfl) (fun d _ _ _ _ h => by cases d <;> exact h) (by kernel_rfl) (told_if hxx fun w => by kernel_rfl) ?_
          refine any_take [(14, .bool true), (15, undef), (16, undef), (17, .bool true), (18, .bool true), (19, .bool true), (20, .pointer (some ⟨b, 0, none⟩)), (22, .int .i64 (s0 : Int))] hNS hAP (by kernel_rfl) (fun d _ _ _ _ h => by cases d <;> exact h) (fun w => by kernel_rfl) ?_
          refine any_told 23 (.int .i64 ((s0 : Int) + 1)) rfl hNS hAP (by kernel_rfl) (fun d _ _ _ _ h => by cases d <;> exact h) (by kernel_rfl) (told_as (congrArg (Value.int .i64) hw1) fun w => by kernel_rfl) ?_
          refine any_take [(25, .bool true)] hNS hAP (by kernel_rfl) (fun d _ _ _ _ h => by cases d <;> exact h) (fun w => by kernel_rfl) ?_
          refine any_call 21 (f := 15) (args := #[.pointer (some ⟨b, 0, none⟩)]) rfl (by kernel_rfl) (by kernel_rfl) (by kernel_rfl) ?_
          refine (HST.out _ (grown_d (World.grownBy.refl _ none))).mono ?_
          rintro e x1 ⟨rfl, rfl⟩
          show wpAny _ _ _ _ _ _ _ _
          refine any_told 24 (.bool true) rfl hNS hAP (by kernel_rfl) (fun d _ _ _ _ h => by cases d <;> exact h) (by kernel_rfl) (told_if hs11 fun w => by kernel_rfl) ?_
          refine any_take [(26, .bool true), (27, .int .i64 (s0 : Int))] hNS hAP (by kernel_rfl) (fun d _ _ _ _ h => by cases d <;> exact h) (fun w => by kernel_rfl) ?_
          refine any_told 28 (.bool true) rfl hNS hAP (by kernel_rfl) (fun d _ _ _ _ h => by cases d <;> exact h) (by kernel_rfl) (told_if h20t fun w => by kernel_rfl) ?_
          refine any_take [(29, .bool true), (30, .bool true), (31, .bool true), (32, .bool true), (33, .nilIface), (34, .bool true), (35, .bool true), (36, undef), (37, undef), (38, undef), (39, .bool true), (40, .pointer (some ⟨b, 0, none⟩)), (42, .int .i64 (s0 : Int))] hNS hAP (by kernel_rfl) (fun d _ _ _ _ h => by cases d <;> exact h) (fun w => by kernel_rfl) ?_
          refine any_told 43 (.int .i64 ((s0 : Int) + 1)) rfl hNS hAP (by kernel_rfl) (fun d _ _ _ _ h => by cases d <;> exact h) (by kernel_rfl) (told_as (congrArg (Value.int .i64) hw1) fun w => by kernel_rfl) ?_
          refine any_call 41 (f := 15) (args := #[.pointer (some ⟨b, 0, none⟩)]) rfl (by kernel_rfl) (by kernel_rfl) (by kernel_rfl) ?_
          refine (HST.out _ (grown_d (World.grownBy.refl _ none))).mono ?_
          rintro e x3 ⟨rfl, rfl⟩
          show wpAny _ _ _ _ _ _ _ _
          refine any_told 44 (.bool true) rfl hNS hAP (by kernel_rfl) (fun d _ _ _ _ h => by cases d <;> exact h) (by kernel_rfl) (told_if hs11 fun w => by kernel_rfl) ?_
          refine any_take [(45, .bool true), (46, .bool true), (47, .bool true)] hNS hAP (by kernel_rfl) (fun d _ _ _ _ h => by cases d <;> exact h) (fun w => by kernel_rfl) ?_
          refine wpAny_done (by kernel_rfl) ?_ _
          exact ret_known (.bool true) (by assumption) (by kernel_rfl) (by kernel_rfl) (And.intro rfl (HBL.out _ (grown_d (World.grownBy.refl _ none))))
        · have h20t : decide ((s0 : Int) < 20000) = true := by simp; omega
          rw [errV_pos (show (13 : Nat) ≠ 0 by decide)]
          go_wp2_with fail
          refine region_begin (by kernel_rfl) (by kernel_rfl) (by kernel_rfl) fun hNS hAP => ?_
          refine any_take [(0, .nilIface), (1, .bool true), (2, .nilIface), (3, .bool true), (4, .bool true), (5, .bool true), (6, .int .i64 za), (7, .int .i64 za)] hNS hAP (by kernel_rfl) (fun d _ _ _ _ h => by cases d <;> exact h) (fun w => by kernel_rfl) ?_
          refine any_told 8 (.bool true) rfl hNS hAP (by kernel_rfl) (fun d _ _ _ _ h => by cases d <;> exact h) (by kernel_rfl) (told_if hzz fun w => by kernel_rfl) ?_
          refine any_take [(9, .bool true), (10, .bool true), (11, .int .i64 zy), (12, .int .i64 zy)] hNS hAP (by kernel_rfl) (fun d _ _ _ _ h => by cases d <;> exact h) (fun w => by kernel_rfl) ?_
          refine any_told 13 (.bool true) rfl hNS hAP (by kernel_rfl) (fun d _ _ _ _ h => by cases d <;> exact h) (by kernel_rfl) (told_if hxx fun w => by kernel_rfl) ?_
          refine any_take [(14, .bool true), (15, undef), (16, undef), (17, .bool true), (18, .bool true), (19, .bool true), (20, .pointer (some ⟨b, 0, none⟩)), (22, .int .i64 (s0 : Int))] hNS hAP (by kernel_rfl) (fun d _ _ _ _ h => by cases d <;> exact h) (fun w => by kernel_rfl) ?_
          refine any_told 23 (.int .i64 ((s0 : Int) + 1)) rfl hNS hAP (by kernel_rfl) (fun d _ _ _ _ h => by cases d <;> exact h) (by kernel_rfl) (told_as (congrArg (Value.int .i64) hw1) fun w => by kernel_rfl) ?_
          refine any_take [(25, .bool true)] hNS hAP (by kernel_rfl) (fun d _ _ _ _ h => by cases d <;> exact h) (fun w => by kernel_rfl) ?_
          refine any_call 21 (f := 15) (args := #[.pointer (some ⟨b, 0, none⟩)]) rfl (by kernel_rfl) (by kernel_rfl) (by kernel_rfl) ?_
          refine (HST.out _ (grown_d (World.grownBy.refl _ none))).mono ?_
          rintro e x1 ⟨rfl, rfl⟩
          show wpAny _ _ _ _ _ _ _ _
          refine any_told 24 (.bool true) rfl hNS hAP (by kernel_rfl) (fun d _ _ _ _ h => by cases d <;> exact h) (by kernel_rfl) (told_if hs11 fun w => by kernel_rfl) ?_
          refine any_take [(26, .bool true), (27, .int .i64 (s0 : Int))] hNS hAP (by kernel_rfl) (fun d _ _ _ _ h => by cases d <;> exact h) (fun w => by kernel_rfl) ?_
          refine any_told 28 (.bool true) rfl hNS hAP (by kernel_rfl) (fun d _ _ _ _ h => by cases d <;> exact h) (by kernel_rfl) (told_if h20t fun w => by kernel_rfl) ?_
          refine any_take [(29, .bool true), (30, .bool true), (31, .bool true), (32, .bool true), (33, .iface 37 (.int .i64 13)), (34, .bool false), (35, .bool false), (36, .iface 37 (.int .i64 13)), (40, .pointer (some ⟨b, 0, none⟩)), (42, .int .i64 (s0 : Int))] hNS hAP (by kernel_rfl) (fun d _ _ _ _ h => by cases d <;> exact h) (fun w => by kernel_rfl) ?_
          refine any_told 43 (.int .i64 ((s0 : Int) + 1)) rfl hNS hAP (by kernel_rfl) (fun d _ _ _ _ h => by cases d <;> exact h) (by kernel_rfl) (told_as (congrArg (Value.int .i64) hw1) fun w => by kernel_rfl) ?_
          refine any_call 37 (f := 18) (args := #[.iface 37 (.int .i64 13)]) rfl (by kernel_rfl) (by kernel_rfl) (by kernel_rfl) ?_
          refine (HTE.out _ (grown_d (World.grownBy.refl _ none)) 13).mono ?_
          rintro e x2 ⟨rfl, hx2⟩
          have hg2 := World.grownBy.trans (grown_d (World.grownBy.refl w8 none)) hx2
          show wpAny _ _ _ _ _ _ _ _
          refine any_take [(38, .bool true), (39, .bool true)] hNS hAP (by kernel_rfl) (fun d _ _ _ _ h => by cases d <;> exact h) (fun w => by kernel_rfl) ?_
          refine any_call 41 (f := 15) (args := #[.pointer (some ⟨b, 0, none⟩)]) rfl (by kernel_rfl) (by kernel_rfl) (by kernel_rfl) ?_
          refine (HST.out _ hg2).mono ?_
          rintro e x3 ⟨rfl, rfl⟩
          show wpAny _ _ _ _ _ _ _ _
          refine any_told 44 (.bool true) rfl hNS hAP (by kernel_rfl) (fun d _ _ _ _ h => by cases d <;> exact h) (by kernel_rfl) (told_if hs11 fun w => by kernel_rfl) ?_
          refine any_take [(45, .bool true), (46, .bool true), (47, .bool true)] hNS hAP (by kernel_rfl) (fun d _ _ _ _ h => by cases d <;> exact h) (fun w => by kernel_rfl) ?_
          refine wpAny_done (by kernel_rfl) ?_ _
          exact ret_known (.bool true) (by assumption) (by kernel_rfl) (by kernel_rfl) (And.intro rfl (HBL.out _ hg2))
        · rw [errV_pos hr0]
          obtain rfl := he.symm
          have hr13f : ((r : Int) == 13) = false := by simp; omega
          by_cases hrd : rd = 0
          · subst hrd
            have h20f : decide ((s0 : Int) < 20000) = false := by simp; omega
            go_wp2_with fail
            refine region_begin (by kernel_rfl) (by kernel_rfl) (by kernel_rfl) fun hNS hAP => ?_
            refine any_take [(0, .nilIface), (1, .bool true), (2, .nilIface), (3, .bool true), (4, .bool true), (5, .bool true), (6, .int .i64 za), (7, .int .i64 za)] hNS hAP (by kernel_rfl) (fun d _ _ _ _ h => by cases d <;> exact h) (fun w => by kernel_rfl) ?_
            refine any_told 8 (.bool true) rfl hNS hAP (by kernel_rfl) (fun d _ _ _ _ h => by cases d <;> exact h) (by kernel_rfl) (told_if hzz fun w => by kernel_rfl) ?_
            refine any_take [(9, .bool true), (10, .bool true), (11, .int .i64 zy), (12, .int .i64 zy)] hNS hAP (by kernel_rfl) (fun d _ _ _ _ h => by cases d <;> exact h) (fun w => by kernel_rfl) ?_
            refine any_told 13 (.bool true) rfl hNS hAP (by kernel_rfl) (fun d _ _ _ _ h => by cases d <;> exact h) (by kernel_rfl) (told_if hxx fun w => by kernel_rfl) ?_
            refine any_take [(14, .bool true), (15, undef), (16, undef), (17, .bool true), (18, .bool true), (19, .bool true), (20, .pointer (some ⟨b, 0, none⟩)), (22, .int .i64 (s0 : Int))] hNS hAP (by kernel_rfl) (fun d _ _ _ _ h => by cases d <;> exact h) (fun w => by kernel_rfl) ?_
            refine any_told 23 (.int .i64 ((s0 : Int) + 1)) rfl hNS hAP (by kernel_rfl) (fun d _ _ _ _ h => by cases d <;> exact h) (by kernel_rfl) (told_as (congrArg (Value.int .i64) hw1) fun w => by kernel_rfl) ?_
            refine any_take [(25, .bool true)] hNS hAP (by kernel_rfl) (fun d _ _ _ _ h => by cases d <;> exact h) (fun w => by kernel_rfl) ?_
            refine any_call 21 (f := 15) (args := #[.pointer (some ⟨b, 0, none⟩)]) rfl (by kernel_rfl) (by kernel_rfl) (by kernel_rfl) ?_
            refine (HST.out _ (grown_d (World.grownBy.refl _ none))).mono ?_
            rintro e x1 ⟨rfl, rfl⟩
            show wpAny _ _ _ _ _ _ _ _
            refine any_told 24 (.bool false) rfl hNS hAP (by kernel_rfl) (fun d _ _ _ _ h => by cases d <;> exact h) (by kernel_rfl) (told_if hs00 fun w => by kernel_rfl) ?_
            refine any_take [(26, .bool true), (27, .int .i64 (s0 : Int))] hNS hAP (by kernel_rfl) (fun d _ _ _ _ h => by cases d <;> exact h) (fun w => by kernel_rfl) ?_
            refine any_told 28 (.bool false) rfl hNS hAP (by kernel_rfl) (fun d _ _ _ _ h => by cases d <;> exact h) (by kernel_rfl) (told_if h20f fun w => by kernel_rfl) ?_
            refine any_take [(29, .bool false), (30, .bool true), (31, .bool true), (32, .bool true), (33, .iface 37 (.int .i64 (r : Int))), (34, .bool false), (35, .bool false), (36, .iface 37 (.int .i64 (r : Int))), (40, .pointer (some ⟨b, 0, none⟩)), (42, .int .i64 (s0 : Int))] hNS hAP (by kernel_rfl) (fun d _ _ _ _ h => by cases d <;> exact h) (fun w => by kernel_rfl) ?_
            refine any_told 43 (.int .i64 ((s0 : Int) + 1)) rfl hNS hAP (by kernel_rfl) (fun d _ _ _ _ h => by cases d <;> exact h) (by kernel_rfl) (told_as (congrArg (Value.int .i64) hw1) fun w => by kernel_rfl) ?_
            refine any_call 37 (f := 18) (args := #[.iface 37 (.int .i64 (r : Int))]) rfl (by kernel_rfl) (by kernel_rfl) (by kernel_rfl) ?_
            refine (HTE.out _ (grown_d (World.grownBy.refl _ none)) (r : Int)).mono ?_
            rintro e x2 ⟨rfl, hx2⟩
            have hg2 := World.grownBy.trans (grown_d (World.grownBy.refl w8 none)) hx2
            show wpAny _ _ _ _ _ _ _ _
            refine any_told 38 (.bool false) rfl hNS hAP (by kernel_rfl) (fun d _ _ _ _ h => by cases d <;> exact h) (by kernel_rfl) (told_if hr13f fun w => by kernel_rfl) ?_
            refine any_take [(39, .bool false)] hNS hAP (by kernel_rfl) (fun d _ _ _ _ h => by cases d <;> exact h) (fun w => by kernel_rfl) ?_
            refine any_call 41 (f := 15) (args := #[.pointer (some ⟨b, 0, none⟩)]) rfl (by kernel_rfl) (by kernel_rfl) (by kernel_rfl) ?_
            refine (HST.out _ hg2).mono ?_
            rintro e x3 ⟨rfl, rfl⟩
            show wpAny _ _ _ _ _ _ _ _
            refine any_told 44 (.bool false) rfl hNS hAP (by kernel_rfl) (fun d _ _ _ _ h => by cases d <;> exact h) (by kernel_rfl) (told_if hs00 fun w => by kernel_rfl) ?_
            refine any_take [(45, .bool true), (46, .bool true), (47, .bool true)] hNS hAP (by kernel_rfl) (fun d _ _ _ _ h => by cases d <;> exact h) (fun w => by kernel_rfl) ?_
            refine wpAny_done (by kernel_rfl) ?_ _
            exact ret_known (.bool true) (by assumption) (by kernel_rfl) (by kernel_rfl) (And.intro rfl (HBL.out _ hg2))
          · have hrdf : (rd == 0) = false := by simp; omega
            rw [hrdf]
            go_wp2_with fail
            refine region_begin (by kernel_rfl) (by kernel_rfl) (by kernel_rfl) fun hNS hAP => ?_
            refine any_take [(0, .nilIface), (1, .bool true), (2, .nilIface), (3, .bool true), (4, .bool true), (5, .bool true), (6, .int .i64 za), (7, .int .i64 za)] hNS hAP (by kernel_rfl) (fun d _ _ _ _ h => by cases d <;> exact h) (fun w => by kernel_rfl) ?_
            refine any_told 8 (.bool true) rfl hNS hAP (by kernel_rfl) (fun d _ _ _ _ h => by cases d <;> exact h) (by kernel_rfl) (told_if hzz fun w => by kernel_rfl) ?_
            refine any_take [(9, .bool true), (10, .bool true), (11, .int .i64 zy), (12, .int .i64 zy)] hNS hAP (by kernel_rfl) (fun d _ _ _ _ h => by cases d <;> exact h) (fun w => by kernel_rfl) ?_
            refine any_told 13 (.bool true) rfl hNS hAP (by kernel_rfl) (fun d _ _ _ _ h => by cases d <;> exact h) (by kernel_rfl) (told_if hxx fun w => by kernel_rfl) ?_
            refine any_take [(14, .bool true), (15, undef), (16, undef), (17, .bool true), (18, .bool true), (19, .bool true), (20, .pointer (some ⟨b, 0, none⟩)), (22, .int .i64 (s0 : Int))] hNS hAP (by kernel_rfl) (fun d _ _ _ _ h => by cases d <;> exact h) (fun w => by kernel_rfl) ?_
            refine any_told 23 (.int .i64 ((s0 : Int) + 1)) rfl hNS hAP (by kernel_rfl) (fun d _ _ _ _ h => by cases d <;> exact h) (by kernel_rfl) (told_as (congrArg (Value.int .i64) hw1) fun w => by kernel_rfl) ?_
            refine any_take [(25, .bool false)] hNS hAP (by kernel_rfl) (fun d _ _ _ _ h => by cases d <;> exact h) (fun w => by kernel_rfl) ?_
            refine any_call 21 (f := 15) (args := #[.pointer (some ⟨b, 0, none⟩)]) rfl (by kernel_rfl) (by kernel_rfl) (by kernel_rfl) ?_
            refine (HST.out _ (grown_d (World.grownBy.refl _ none))).mono ?_
            rintro e x1 ⟨rfl, rfl⟩
            show wpAny _ _ _ _ _ _ _ _
            refine any_told 24 (.bool false) rfl hNS hAP (by kernel_rfl) (fun d _ _ _ _ h => by cases d <;> exact h) (by kernel_rfl) (told_if hs00 fun w => by kernel_rfl) ?_
            refine any_take [(26, .bool false), (27, undef), (28, undef), (29, .bool false), (30, .bool true), (31, .bool true), (32, .bool true), (33, .iface 37 (.int .i64 (r : Int))), (34, .bool false), (35, .bool false), (36, .iface 37 (.int .i64 (r : Int))), (40, .pointer (some ⟨b, 0, none⟩)), (42, .int .i64 (s0 : Int))] hNS hAP (by kernel_rfl) (fun d _ _ _ _ h => by cases d <;> exact h) (fun w => by kernel_rfl) ?_
            refine any_told 43 (.int .i64 ((s0 : Int) + 1)) rfl hNS hAP (by kernel_rfl) (fun d _ _ _ _ h => by cases d <;> exact h) (by kernel_rfl) (told_as (congrArg (Value.int .i64) hw1) fun w => by kernel_rfl) ?_
            refine any_call 37 (f := 18) (args := #[.iface 37 (.int .i64 (r : Int))]) rfl (by kernel_rfl) (by kernel_rfl) (by kernel_rfl) ?_
            refine (HTE.out _ (grown_d (World.grownBy.refl _ none)) (r : Int)).mono ?_
            rintro e x2 ⟨rfl, hx2⟩
            have hg2 := World.grownBy.trans (grown_d (World.grownBy.refl w8 none)) hx2
            show wpAny _ _ _ _ _ _ _ _
            refine any_told 38 (.bool false) rfl hNS hAP (by kernel_rfl) (fun d _ _ _ _ h => by cases d <;> exact h) (by kernel_rfl) (told_if hr13f fun w => by kernel_rfl) ?_
            refine any_take [(39, .bool false)] hNS hAP (by kernel_rfl) (fun d _ _ _ _ h => by cases d <;> exact h) (fun w => by kernel_rfl) ?_
            refine any_call 41 (f := 15) (args := #[.pointer (some ⟨b, 0, none⟩)]) rfl (by kernel_rfl) (by kernel_rfl) (by kernel_rfl) ?_
            refine (HST.out _ hg2).mono ?_
            rintro e x3 ⟨rfl, rfl⟩
            show wpAny _ _ _ _ _ _ _ _
            refine any_told 44 (.bool false) rfl hNS hAP (by kernel_rfl) (fun d _ _ _ _ h => by cases d <;> exact h) (by kernel_rfl) (told_if hs00 fun w => by kernel_rfl) ?_
            refine any_take [(45, .bool true), (46, .bool true), (47, .bool true)] hNS hAP (by kernel_rfl) (fun d _ _ _ _ h => by cases d <;> exact h) (fun w => by kernel_rfl) ?_
            refine wpAny_done (by kernel_rfl) ?_ _
            exact ret_known (.bool true) (by assumption) (by kernel_rfl) (by kernel_rfl) (And.intro rfl (HBL.out _ hg2))
      · subst hy
        have hxf : (zx == (-1 : Int)) = false := by simp; omega
        rcases f4 with ⟨rfl, rfl, h20, rfl | rfl⟩ | ⟨he, h20, hr0, hr13⟩
        · have h20t : decide ((s0 : Int) < 20000) = true := by simp; omega
          rw [errV_zero]
          go_wp2_with fail
          refine region_begin (by kernel_rfl) (by kernel_rfl) (by kernel_rfl) fun hNS hAP => ?_
          refine any_take [(0, .nilIface), (1, .bool true), (2, .nilIface), (3, .bool true), (4, .bool true), (5, .bool true), (6, .int .i64 za), (7, .int .i64 za)] hNS hAP (by kernel_rfl) (fun d _ _ _ _ h => by cases d <;> exact h) (fun w => by kernel_rfl) ?_
          refine any_told 8 (.bool true) rfl hNS hAP (by kernel_rfl) (fun d _ _ _ _ h => by cases d <;> exact h) (by kernel_rfl) (told_if hzz fun w => by kernel_rfl) ?_
          refine any_take [(9, .bool true), (10, .bool true), (11, .int .i64 zx), (12, .int .i64 (-1))] hNS hAP (by kernel_rfl) (fun d _ _ _ _ h => by cases d <;> exact h) (fun w => by kernel_rfl) ?_
          refine any_told 13 (.bool false) rfl hNS hAP (by kernel_rfl) (fun d _ _ _ _ h => by cases d <;> exact h) (by kernel_rfl) (told_if hxf fun w => by kernel_rfl) ?_
          refine any_take [(14, .bool false), (15, .int .i64 (-1)), (16, .bool true), (17, .bool true), (18, .bool true), (19, .bool true), (20, .pointer (some ⟨b, 0, none⟩)), (22, .int .i64 (s0 : Int))] hNS hAP (by kernel_rfl) (fun d _ _ _ _ h => by cases d <;> exact h) (fun w => by kernel_rfl) ?_
          refine any_told 23 (.int .i64 ((s0 : Int) + 1)) rfl hNS hAP (by kernel_rfl) (fun d _ _ _ _ h => by cases d <;> exact h) (by kernel_rfl) (told_as (congrArg (Value.int .i64) hw1) fun w => by kernel_rfl) ?_
          refine any_take [(25, .bool true)] hNS hAP (by kernel_rfl) (fun d _ _ _ _ h => by cases d <;> exact h) (fun w => by kernel_rfl) ?_
          refine any_call 21 (f := 15) (args := #[.pointer (some ⟨b, 0, none⟩)]) rfl (by kernel_rfl) (by kernel_rfl) (by kernel_rfl) ?_
          refine (HST.out _ (grown_d (World.grownBy.refl _ none))).mono ?_
          rintro e x1 ⟨rfl, rfl⟩
          show wpAny _ _ _ _ _ _ _ _
          refine any_told 24 (.bool true) rfl hNS hAP (by kernel_rfl) (fun d _ _ _ _ h => by cases d <;> exact h) (by kernel_rfl) (told_if hs11 fun w => by kernel_rfl) ?_
          refine any_take [(26, .bool true), (27, .int .i64 (s0 : Int))] hNS hAP (by kernel_rfl) (fun d _ _ _ _ h => by cases d <;> exact h) (fun w => by kernel_rfl) ?_
          refine any_told 28 (.bool true) rfl hNS hAP (by kernel_rfl) (fun d _ _ _ _ h => by cases d <;> exact h) (by kernel_rfl) (told_if h20t fun w => by kernel_rfl) ?_
          refine any_take [(29, .bool true), (30, .bool true), (31, .bool true), (32, .bool true), (33, .nilIface), (34, .bool true), (35, .bool true), (36, undef), (37, undef), (38, undef), (39, .bool true), (40, .pointer (some ⟨b, 0, none⟩)), (42, .int .i64 (s0 : Int))] hNS hAP (by kernel_rfl) (fun d _ _ _ _ h => by cases d <;> exact h) (fun w => by kernel_rfl) ?_
          refine any_told 43 (.int .i64 ((s0 : Int) + 1)) rfl hNS hAP (by kernel_rfl) (fun d _ _ _ _ h => by cases d <;> exact h) (by kernel_rfl) (told_as (congrArg (Value.int .i64) hw1) fun w => by kernel_rfl) ?_
          refine any_call 41 (f := 15) (args := #[.pointer (some ⟨b, 0, none⟩)]) rfl (by kernel_rfl) (by kernel_rfl) (by kernel_rfl) ?_
          refine (HST.out _ (grown_d (World.grownBy.refl _ none))).mono ?_
          rintro e x3 ⟨rfl, rfl⟩
          show wpAny _ _ _ _ _ _ _ _
          refine any_told 44 (.bool true) rfl hNS hAP (by kernel_rfl) (fun d _ _ _ _ h => by cases d <;> exact h) (by kernel_rfl) (told_if hs11 fun w => by kernel_rfl) ?_
          refine any_take [(45, .bool true), (46, .bool true), (47, .bool true)] hNS hAP (by kernel_rfl) (fun d _ _ _ _ h => by cases d <;> exact h) (fun w => by kernel_rfl) ?_
          refine wpAny_done (by kernel_rfl) ?_ _
          exact ret_known (.bool true) (by assumption) (by kernel_rfl) (by kernel_rfl) (And.intro rfl (HBL.out _ (grown_d (World.grownBy.refl _ none))))
        · have h20t : decide ((s0 : Int) < 20000) = true := by simp; omega
          rw [errV_pos (show (13 : Nat) ≠ 0 by decide)]
          go_wp2_with fail
          refine region_begin (by kernel_rfl) (by kernel_rfl) (by kernel_rfl) fun hNS hAP => ?_
          refine any_take [(0, .nilIface), (1, .bool true), (2, .nilIface), (3, .bool true), (4, .bool true), (5, .bool true), (6, .int .i64 za), (7, .int .i64 za)] hNS hAP (by kernel_rfl) (fun d _ _ _ _ h => by cases d <;> exact h) (fun w => by kernel_rfl) ?_
          refine any_told 8 (.bool true) rfl hNS hAP (by kernel_rfl) (fun d _ _ _ _ h => by cases d <;> exact h) (by kernel_rfl) (told_if hzz fun w => by kernel_rfl) ?_
          refine any_take [(9, .bool true), (10, .bool true), (11, .int .i64 zx), (12, .int .i64 (-1))] hNS hAP (by kernel_rfl) (fun d _ _ _ _ h => by cases d <;> exact h) (fun w => by kernel_rfl) ?_
          refine any_told 13 (.bool false) rfl hNS hAP (by kernel_rfl) (fun d _ _ _ _ h => by cases d <;> exact h) (by kernel_rfl) (told_if hxf fun w => by kernel_rfl) ?_
          refine any_take [(14, .bool false), (15, .int .i64 (-1)), (16, .bool true), (17, .bool true), (18, .bool true), (19, .bool true), (20, .pointer (some ⟨b, 0, none⟩)), (22, .int .i64 (s0 : Int))] hNS hAP (by kernel_rfl) (fun d _ _ _ _ h => by cases d <;> exact h) (fun w => by kernel_rfl) ?_
          refine any_told 23 (.int .i64 ((s0 : Int) + 1)) rfl hNS hAP (by kernel_rfl) (fun d _ _ _ _ h => by cases d <;> exact h) (by kernel_rfl) (told_as (congrArg (Value.int .i64) hw1) fun w => by kernel_rfl) ?_
          refine any_take [(25, .bool true)] hNS hAP (by kernel_rfl) (fun d _ _ _ _ h => by cases d <;> exact h) (fun w => by kernel_rfl) ?_
          refine any_call 21 (f := 15) (args := #[.pointer (some ⟨b, 0, none⟩)]) rfl (by kernel_rfl) (by kernel_rfl) (by kernel_rfl) ?_
          refine (HST.out _ (grown_d (World.grownBy.refl _ none))).mono ?_
          rintro e x1 ⟨rfl, rfl⟩
          show wpAny _ _ _ _ _ _ _ _
          refine any_told 24 (.bool true) rfl hNS hAP (by kernel_rfl) (fun d _ _ _ _ h => by cases d <;> exact h) (by kernel_rfl) (told_if hs11 fun w => by kernel_rfl) ?_
          refine any_take [(26, .bool true), (27, .int .i64 (s0 : Int))] hNS hAP (by kernel_rfl) (fun d _ _ _ _ h => by cases d <;> exact h) (fun w => by kernel_rfl) ?_
          refine any_told 28 (.bool true) rfl hNS hAP (by kernel_rfl) (fun d _ _ _ _ h => by cases d <;> exact h) (by kernel_rfl) (told_if h20t fun w => by kernel_rfl) ?_
          refine any_take [(29, .bool true), (30, .bool true), (31, .bool true), (32, .bool true), (33, .iface 37 (.int .i64 13)), (34, .bool false), (35, .bool false), (36, .iface 37 (.int .i64 13)), (40, .pointer (some ⟨b, 0, none⟩)), (42, .int .i64 (s0 : Int))] hNS hAP (by kernel_rfl) (fun d _ _ _ _ h => by cases d <;> exact h) (fun w => by kernel_rfl) ?_
          refine any_told 43 (.int .i64 ((s0 : Int) + 1)) rfl hNS hAP (by kernel_rfl) (fun d _ _ _ _ h => by cases d <;> exact h) (by kernel_rfl) (told_as (congrArg (Value.int .i64) hw1) fun w => by kernel_rfl) ?_
          refine any_call 37 (f := 18) (args := #[.iface 37 (.int .i64 13)]) rfl (by kernel_rfl) (by kernel_rfl) (by kernel_rfl) ?_
          refine (HTE.out _ (grown_d (World.grownBy.refl _ none)) 13).mono ?_
          rintro e x2 ⟨rfl, hx2⟩
          have hg2 := World.grownBy.trans (grown_d (World.grownBy.refl w8 none)) hx2
          show wpAny _ _ _ _ _ _ _ _
          refine any_take [(38, .bool true), (39, .bool true)] hNS hAP (by kernel_rfl) (fun d _ _ _ _ h => by cases d <;> exact h) (fun w => by kernel_rfl) ?_
          refine any_call 41 (f := 15) (args := #[.pointer (some ⟨b, 0, none⟩)]) rfl (by kernel_rfl) (by kernel_rfl) (by kernel_rfl) ?_
          refine (HST.out _ hg2).mono ?_
          rintro e x3 ⟨rfl, rfl⟩
          show wpAny _ _ _ _ _ _ _ _
          refine any_told 44 (.bool true) rfl hNS hAP (by kernel_rfl) (fun d _ _ _ _ h => by cases d <;> exact h) (by kernel_rfl) (told_if hs11 fun w => by kernel_rfl) ?_
          refine any_take [(45, .bool true), (46, .bool true), (47, .bool true)] hNS hAP (by kernel_rfl) (fun d _ _ _ _ h => by cases d <;> exact h) (fun w => by kernel_rfl) ?_
          refine wpAny_done (by kernel_rfl) ?_ _
          exact ret_known (.bool true) (by assumption) (by kernel_rfl) (by kernel_rfl) (And.intro rfl (HBL.out _ hg2))
        · rw [errV_pos hr0]
          obtain rfl := he.symm
          have hr13f : ((r : Int) == 13) = false := by simp; omega
          by_cases hrd : rd = 0
          · subst hrd
            have h20f : decide ((s0 : Int) < 20000) = false := by simp; omega
            go_wp2_with fail
            refine region_begin (by kernel_rfl) (by kernel_rfl) (by kernel_rfl) fun hNS hAP => ?_
            refine any_take [(0, .nilIface), (1, .bool true), (2, .nilIface), (3, .bool true), (4, .bool true), (5, .bool true), (6, .int .i64 za), (7, .int .i64 za)] hNS hAP (by kernel_rfl) (fun d _ _ _ _ h => by cases d <;> exact h) (fun w => by kernel_rfl) ?_
            refine any_told 8 (.bool true) rfl hNS hAP (by kernel_rfl) (fun d _ _ _ _ h => by cases d <;> exact h) (by kernel_rfl) (told_if hzz fun w => by kernel_rfl) ?_
            refine any_take [(9, .bool true), (10, .bool true), (11, .int .i64 zx), (12, .int .i64 (-1))] hNS hAP (by kernel_rfl) (fun d _ _ _ _ h => by cases d <;> exact h) (fun w => by kernel_rfl) ?_
            refine any_told 13 (.bool false) rfl hNS hAP (by kernel_rfl) (fun d _ _ _ _ h => by cases d <;> exact h) (by kernel_rfl) (told_if hxf fun w => by kernel_rfl) ?_
            refine any_take [(14, .bool false), (15, .int .i64 (-1)), (16, .bool true), (17, .bool true), (18, .bool true), (19, .bool true), (20, .pointer (some ⟨b, 0, none⟩)), (22, .int .i64 (s0 : Int))] hNS hAP (by kernel_rfl) (fun d _ _ _ _ h => by cases d <;> exact h) (fun w => by kernel_rfl) ?_
            refine any_told 23 (.int .i64 ((s0 : Int) + 1)) rfl hNS hAP (by kernel_rfl) (fun d _ _ _ _ h => by cases d <;> exact h) (by kernel_rfl) (told_as (congrArg (Value.int .i64) hw1) fun w => by kernel_rfl) ?_
            refine any_take [(25, .bool true)] hNS hAP (by kernel_rfl) (fun d _ _ _ _ h => by cases d <;> exact h) (fun w => by kernel_rfl) ?_
            refine any_call 21 (f := 15) (args := #[.pointer (some ⟨b, 0, none⟩)]) rfl (by kernel_rfl) (by kernel_rfl) (by kernel_rfl) ?_
            refine (HST.out _ (grown_d (World.grownBy.refl _ none))).mono ?_
            rintro e x1 ⟨rfl, rfl⟩
            show wpAny _ _ _ _ _ _ _ _
            refine any_told 24 (.bool false) rfl hNS hAP (by kernel_rfl) (fun d _ _ _ _ h => by cases d <;> exact h) (by kernel_rfl) (told_if hs00 fun w => by kernel_rfl) ?_
            refine any_take [(26, .bool true), (27, .int .i64 (s0 : Int))] hNS hAP (by kernel_rfl) (fun d _ _ _ _ h => by cases d <;> exact h) (fun w => by kernel_rfl) ?_
            refine any_told 28 (.bool false) rfl hNS hAP (by kernel_rfl) (fun d _ _ _ _ h => by cases d <;> exact h) (by kernel_rfl) (told_if h20f fun w => by kernel_rfl) ?_
            refine any_take [(29, .bool false), (30, .bool true), (31, .bool true), (32, .bool true), (33, .iface 37 (.int .i64 (r : Int))), (34, .bool false), (35, .bool false), (36, .iface 37 (.int .i64 (r : Int))), (40, .pointer (some ⟨b, 0, none⟩)), (42, .int .i64 (s0 : Int))] hNS hAP (by kernel_rfl) (fun d _ _ _ _ h => by cases d <;> exact h) (fun w => by kernel_rfl) ?_
            refine any_told 43 (.int .i64 ((s0 : Int) + 1)) rfl hNS hAP (by kernel_rfl) (fun d _ _ _ _ h => by cases d <;> exact h) (by kernel_rfl) (told_as (congrArg (Value.int .i64) hw1) fun w => by kernel_rfl) ?_
            refine any_call 37 (f := 18) (args := #[.iface 37 (.int .i64 (r : Int))]) rfl (by kernel_rfl) (by kernel_rfl) (by kernel_rfl) ?_
            refine (HTE.out _ (grown_d (World.grownBy.refl _ none)) (r : Int)).mono ?_
            rintro e x2 ⟨rfl, hx2⟩
            have hg2 := World.grownBy.trans (grown_d (World.grownBy.refl w8 none)) hx2
            show wpAny _ _ _ _ _ _ _ _
            refine any_told 38 (.bool false) rfl hNS hAP (by kernel_rfl) (fun d _ _ _ _ h => by cases d <;> exact h) (by kernel_rfl) (told_if hr13f fun w => by kernel_rfl) ?_
            refine any_take [(39, .bool false)] hNS hAP (by kernel_rfl) (fun d _ _ _ _ h => by cases d <;> exact h) (fun w => by kernel_rfl) ?_
            refine any_call 41 (f := 15) (args := #[.pointer (some ⟨b, 0, none⟩)]) rfl (by kernel_rfl) (by kernel_rfl) (by kernel_rfl) ?_
            refine (HST.out _ hg2).mono ?_
            rintro e x3 ⟨rfl, rfl⟩
            show wpAny _ _ _ _ _ _ _ _
            refine any_told 44 (.bool false) rfl hNS hAP (by kernel_rfl) (fun d _ _ _ _ h => by cases d <;> exact h) (by kernel_rfl) (told_if hs00 fun w => by kernel_rfl) ?_
            refine any_take [(45, .bool true), (46, .bool true), (47, .bool true)] hNS hAP (by kernel_rfl) (fun d _ _ _ _ h => by cases d <;> exact h) (fun w => by kernel_rfl) ?_
            refine wpAny_done (by kernel_rfl) ?_ _
            exact ret_known (.bool true) (by assumption) (by kernel_rfl) (by kernel_rfl) (And.intro rfl (HBL.out _ hg2))
          · have hrdf : (rd == 0) = false := by simp; omega
            rw [hrdf]
            go_wp2_with fail
            refine region_begin (by kernel_rfl) (by kernel_rfl) (by kernel_rfl) fun hNS hAP => ?_
            refine any_take [(0, .nilIface), (1, .bool true), (2, .nilIface), (3, .bool true), (4, .bool true), (5, .bool true), (6, .int .i64 za), (7, .int .i64 za)] hNS hAP (by kernel_rfl) (fun d _ _ _ _ h => by cases d <;> exact h) (fun w => by kernel_rfl) ?_
            refine any_told 8 (.bool true) rfl hNS hAP (by kernel_rfl) (fun d _ _ _ _ h => by cases d <;> exact h) (by kernel_rfl) (told_if hzz fun w => by kernel_rfl) ?_
            refine any_take [(9, .bool true), (10, .bool true), (11, .int .i64 zx), (12, .int .i64 (-1))] hNS hAP (by kernel_rfl) (fun d _ _ _ _ h => by cases d <;> exact h) (fun w => by kernel_rfl) ?_
            refine any_told 13 (.bool false) rfl hNS hAP (by kernel_rfl) (fun d _ _ _ _ h => by cases d <;> exact h) (by kernel_rfl) (told_if hxf fun w => by kernel_rfl) ?_
            refine any_take [(14, .bool false), (15, .int .i64 (-1)), (16, .bool true), (17, .bool true), (18, .bool true), (19, .bool true), (20, .pointer (some ⟨b, 0, none⟩)), (22, .int .i64 (s0 : Int))] hNS hAP (by kernel_rfl) (fun d _ _ _ _ h => by cases d <;> exact h) (fun w => by kernel_rfl) ?_
            refine any_told 23 (.int .i64 ((s0 : Int) + 1)) rfl hNS hAP (by kernel_rfl) (fun d _ _ _ _ h => by cases d <;> exact h) (by kernel_rfl) (told_as (congrArg (Value.int .i64) hw1) fun w => by kernel_rfl) ?_
            refine any_take [(25, .bool false)] hNS hAP (by kernel_rfl) (fun d _ _ _ _ h => by cases d <;> exact h) (fun w => by kernel_rfl) ?_
            refine any_call 21 (f := 15) (args := #[.pointer (some ⟨b, 0, none⟩)]) rfl (by kernel_rfl) (by kernel_rfl) (by kernel_rfl) ?_
            refine (HST.out _ (grown_d (World.grownBy.refl _ none))).mono ?_
            rintro e x1 ⟨rfl, rfl⟩
            show wpAny _ _ _ _ _ _ _ _
            refine any_told 24 (.bool false) rfl hNS hAP (by kernel_rfl) (fun d _ _ _ _ h => by cases d <;> exact h) (by kernel_rfl) (told_if hs00 fun w => by kernel_rfl) ?_
            refine any_take [(26, .bool false), (27, undef), (28, undef), (29, .bool false), (30, .bool true), (31, .bool true), (32, .bool true), (33, .iface 37 (.int .i64 (r : Int))), (34, .bool false), (35, .bool false), (36, .iface 37 (.int .i64 (r : Int))), (40, .pointer (some ⟨b, 0, none⟩)), (42, .int .i64 (s0 : Int))] hNS hAP (by kernel_rfl) (fun d _ _ _ _ h => by cases d <;> exact h) (fun w => by kernel_rfl) ?_
            refine any_told 43 (.int .i64 ((s0 : Int) + 1)) rfl hNS hAP (by kernel_rfl) (fun d _ _ _ _ h => by cases d <;> exact h) (by kernel_rfl) (told_as (congrArg (Value.int .i64) hw1) fun w => by kernel_rfl) ?_
            refine any_call 37 (f := 18) (args := #[.iface 37 (.int .i64 (r : Int))]) rfl (by kernel_rfl) (by kernel_rfl) (by kernel_rfl) ?_
            refine (HTE.out _ (grown_d (World.grownBy.refl _ none)) (r : Int)).mono ?_
            rintro e x2 ⟨rfl, hx2⟩
            have hg2 := World.grownBy.trans (grown_d (World.grownBy.refl w8 none)) hx2
            show wpAny _ _ _ _ _ _ _ _
            refine any_told 38 (.bool false) rfl hNS hAP (by kernel_rfl) (fun d _ _ _ _ h => by cases d <;> exact h) (by kernel_rfl) (told_if hr13f fun w => by kernel_rfl) ?_
            refine any_take [(39, .bool false)] hNS hAP (by kernel_rfl) (fun d _ _ _ _ h => by cases d <;> exact h) (fun w => by kernel_rfl) ?_
            refine any_call 41 (f := 15) (args := #[.pointer (some ⟨b, 0, none⟩)]) rfl (by kernel_rfl) (by kernel_rfl) (by kernel_rfl) ?_
            refine (HST.out _ hg2).mono ?_
            rintro e x3 ⟨rfl, rfl⟩
            show wpAny _ _ _ _ _ _ _ _
            refine any_told 44 (.bool false) rfl hNS hAP (by kernel_rfl) (fun d _ _ _ _ h => by cases d <;> exact h) (by kernel_rfl) (told_if hs00 fun w => by kernel_rfl) ?_
            refine any_take [(45, .bool true), (46, .bool true), (47, .bool true)] hNS hAP (by kernel_rfl) (fun d _ _ _ _ h => by cases d <;> exact h) (fun w => by kernel_rfl) ?_
            refine wpAny_done (by kernel_rfl) ?_ _
            exact ret_known (.bool true) (by assumption) (by kernel_rfl) (by kernel_rfl) (And.intro rfl (HBL.out _ hg2))
    · rcases (show zy = zx ∨ (zy = -1 ∧ ¬ zx = -1) by omega) with rfl | ⟨hy, hx1⟩
      · have hxx : (zy == zy) = true := by simp
        rcases f4 with ⟨rfl, rfl, h20, rfl | rfl⟩ | ⟨he, h20, hr0, hr13⟩
        · have h20t : decide ((s0 : Int) < 20000) = true := by simp; omega
          rw [errV_zero]
          go_wp2_with fail
          refine region_begin (by kernel_rfl) (by kernel_rfl) (by kernel_rfl) fun hNS hAP => ?_
          refine any_take [(0, .iface 37 (.int .i64 k)), (1, .bool false), (2, .iface 37 (.int .i64 k)), (3, .bool false), (4, .bool true), (5, .bool true), (6, .int .i64 za), (7, .int .i64 za)] hNS hAP (by kernel_rfl) (fun d _ _ _ _ h => by cases d <;> exact h) (fun w => by kernel_rfl) ?_
          refine any_told 8 (.bool true) rfl hNS hAP (by kernel_rfl) (fun d _ _ _ _ h => by cases d <;> exact h) (by kernel_rfl) (told_if hzz fun w => by kernel_rfl) ?_
          refine any_take [(9, .bool true), (10, .bool true), (11, .int .i64 zy), (12, .int .i64 zy)] hNS hAP (by kernel_rfl) (fun d _ _ _ _ h => by cases d <;> exact h) (fun w => by kernel_rfl) ?_
          refine any_told 13 (.bool true) rfl hNS hAP (by kernel_rfl) (fun d _ _ _ _ h => by cases d <;> exact h) (by kernel_rfl) (told_if hxx fun w => by kernel_rfl) ?_
          refine any_take [(14, .bool true), (15, undef), (16, undef), (17, .bool true), (18, .bool true), (19, .bool true), (20, .pointer (some ⟨b, 0, none⟩)), (22, .int .i64 (s0 : Int))] hNS hAP (by kernel_rfl) (fun d _ _ _ _ h => by cases d <;> exact h) (fun w => by kernel_rfl) ?_
          refine any_told 23 (.int .i64 ((s0 : Int) + 1)) rfl hNS hAP (by kernel_rfl) (fun d _ _ _ _ h => by cases d <;> exact h) (by kernel_rfl) (told_as (congrArg (Value.int .i64) hw1) fun w => by kernel_rfl) ?_
          refine any_take [(25, .bool true)] hNS hAP (by kernel_rfl) (fun d _ _ _ _ h => by cases d <;> exact h) (fun w => by kernel_rfl) ?_
          refine any_call 21 (f := 15) (args := #[.pointer (some ⟨b, 0, none⟩)]) rfl (by kernel_rfl) (by kernel_rfl) (by kernel_rfl) ?_
          refine (HST.out _ (grown_d (World.grownBy.refl _ none))).mono ?_
          rintro e x1 ⟨rfl, rfl⟩
          show wpAny _ _ _ _ _ _ _ _
          refine any_told 24 (.bool true) rfl hNS hAP (by kernel_rfl) (fun d _ _ _ _ h => by cases d <;> exact h) (by kernel_rfl) (told_if hs11 fun w => by kernel_rfl) ?_
          refine any_take [(26, .bool true), (27, .int .i64 (s0 : Int))] hNS hAP (by kernel_rfl) (fun d _ _ _ _ h => by cases d <;> exact h) (fun w => by kernel_rfl) ?_
          refine any_told 28 (.bool true) rfl hNS hAP (by kernel_rfl) (fun d _ _ _ _ h => by cases d <;> exact h) (by kernel_rfl) (told_if h20t fun w => by kernel_rfl) ?_
          refine any_take [(29, .bool true), (30, .bool true), (31, .bool true), (32, .bool true), (33, .nilIface), (34, .bool true), (35, .bool true), (36, undef), (37, undef), (38, undef), (39, .bool true), (40, .pointer (some ⟨b, 0, none⟩)), (42, .int .i64 (s0 : Int))] hNS hAP (by kernel_rfl) (fun d _ _ _ _ h => by cases d <;> exact h) (fun w => by kernel_rfl) ?_
          refine any_told 43 (.int .i64 ((s0 : Int) + 1)) rfl hNS hAP (by kernel_rfl) (fun d _ _ _ _ h => by cases d <;> exact h) (by kernel_rfl) (told_as (congrArg (Value.int .i64) hw1) fun w => by kernel_rfl) ?_
          refine any_call 41 (f := 15) (args := #[.pointer (some ⟨b, 0, none⟩)]) rfl (by kernel_rfl) (by kernel_rfl) (by kernel_rfl) ?_
          refine (HST.out _ (grown_d (World.grownBy.refl _ none))).mono ?_
          rintro e x3 ⟨rfl, rfl⟩
          show wpAny _ _ _ _ _ _ _ _
          refine any_told 44 (.bool true) rfl hNS hAP (by kernel_rfl) (fun d _ _ _ _ h => by cases d <;> exact h) (by kernel_rfl) (told_if hs11 fun w => by kernel_rfl) ?_
          refine any_take [(45, .bool true), (46, .bool true), (47, .bool true)] hNS hAP (by kernel_rfl) (fun d _ _ _ _ h => by cases d <;> exact h) (fun w => by kernel_rfl) ?_
          refine wpAny_done (by kernel_rfl) ?_ _
          exact ret_known (.bool true) (by assumption) (by kernel_rfl) (by kernel_rfl) (And.intro rfl (HBL.out _ (grown_d (World.grownBy.refl _ none))))
        · have h20t : decide ((s0 : Int) < 20000) = true := by simp; omega
          rw [errV_pos (show (13 : Nat) ≠ 0 by decide)]
          go_wp2_with fail
          refine region_begin (by kernel_rfl) (by kernel_rfl) (by kernel_rfl) fun hNS hAP => ?_
          refine any_take [(0, .iface 37 (.int .i64 k)), (1, .bool false), (2, .iface 37 (.int .i64 k)), (3, .bool false), (4, .bool true), (5, .bool true), (6, .int .i64 za), (7, .int .i64 za)] hNS hAP (by kernel_rfl) (fun d _ _ _ _ h => by cases d <;> exact h) (fun w => by kernel_rfl) ?_
          refine any_told 8 (.bool true) rfl hNS hAP (by kernel_rfl) (fun d _ _ _ _ h => by cases d <;> exact h) (by kernel_rfl) (told_if hzz fun w => by kernel_rfl) ?_
          refine any_take [(9, .bool true), (10, .bool true), (11, .int .i64 zy), (12, .int .i64 zy)] hNS hAP (by kernel_rfl) (fun d _ _ _ _ h => by cases d <;> exact h) (fun w => by kernel_rfl) ?_
          refine any_told 13 (.bool true) rfl hNS hAP (by kernel_rfl) (fun d _ _ _ _ h => by cases d <;> exact h) (by kernel_rfl) (told_if hxx fun w => by kernel_rfl) ?_
          refine any_take [(14, .bool true), (15, undef), (16, undef), (17, .bool true), (18, .bool true), (19, .bool true), (20, .pointer (some ⟨b, 0, none⟩)), (22, .int .i64 (s0 : Int))] hNS hAP (by kernel_rfl) (fun d _ _ _ _ h => by cases d <;> exact h) (fun w => by kernel_rfl) ?_
          refine any_told 23 (.int .i64 ((s0 : Int) + 1)) rfl hNS hAP (by kernel_rfl) (fun d _ _ _ _ h => by cases d <;> exact h) (by kernel_rfl) (told_as (congrArg (Value.int .i64) hw1) fun w => by kernel_rfl) ?_
          refine any_take [(25, .bool true)] hNS hAP (by kernel_rfl) (fun d _ _ _ _ h => by cases d <;> exact h) (fun w => by kernel_rfl) ?_
          refine any_call 21 (f := 15) (args := #[.pointer (some ⟨b, 0, none⟩)]) rfl (by kernel_rfl) (by kernel_rfl) (by kernel_rfl) ?_
          refine (HST.out _ (grown_d (World.grownBy.refl _ none))).mono ?_
          rintro e x1 ⟨rfl, rfl⟩
          show wpAny _ _ _ _ _ _ _ _
          refine any_told 24 (.bool true) rfl hNS hAP (by kernel_rfl) (fun d _ _ _ _ h => by cases d <;> exact h) (by kernel_rfl) (told_if hs11 fun w => by kernel_rfl) ?_
          refine any_take [(26, .bool true), (27, .int .i64 (s0 : Int))] hNS hAP (by kernel_rfl) (fun d _ _ _ _ h => by cases d <;> exact h) (fun w => by kernel_rfl) ?_
          refine any_told 28 (.bool true) rfl hNS hAP (by kernel_rfl) (fun d _ _ _ _ h => by cases d <;> exact h) (by kernel_rfl) (told_if h20t fun w => by kernel_rfl) ?_
          refine any_take [(29, .bool true), (30, .bool true), (31, .bool true), (32, .bool true), (33, .iface 37 (.int .i64 13)), (34, .bool false), (35, .bool false), (36, .iface 37 (.int .i64 13)), (40, .pointer (some ⟨b, 0, none⟩)), (42, .int .i64 (s0 : Int))] hNS hAP (by kernel_rfl) (fun d _ _ _ _ h => by cases d <;> exact h) (fun w => by kernel_rfl) ?_
          refine any_told 43 (.int .i64 ((s0 : Int) + 1)) rfl hNS hAP (by kernel_rfl) (fun d _ _ _ _ h => by cases d <;> exact h) (by kernel_rfl) (told_as (congrArg (Value.int .i64) hw1) fun w => by kernel_rfl) ?_
          refine any_call 37 (f := 18) (args := #[.iface 37 (.int .i64 13)]) rfl (by kernel_rfl) (by kernel_rfl) (by kernel_rfl) ?_
          refine (HTE.out _ (grown_d (World.grownBy.refl _ none)) 13).mono ?_
          rintro e x2 ⟨rfl, hx2⟩
          have hg2 := World.grownBy.trans (grown_d (World.grownBy.refl w8 none)) hx2
          show wpAny _ _ _ _ _ _ _ _
          refine any_take [(38, .bool true), (39, .bool true)] hNS hAP (by kernel_rfl) (fun d _ _ _ _ h => by cases d <;> exact h) (fun w => by kernel_rfl) ?_
          refine any_call 41 (f := 15) (args := #[.pointer (some ⟨b, 0, none⟩)]) rfl (by kernel_rfl) (by kernel_rfl) (by kernel_rfl) ?_
          refine (HST.out _ hg2).mono ?_
          rintro e x3 ⟨rfl, rfl⟩
          show wpAny _ _ _ _ _ _ _ _
          refine any_told 44 (.bool true) rfl hNS hAP (by kernel_rfl) (fun d _ _ _ _ h => by cases d <;> exact h) (by kernel_rfl) (told_if hs11 fun w => by kernel_rfl) ?_
          refine any_take [(45, .bool true), (46, .bool true), (47, .bool true)] hNS hAP (by kernel_rfl) (fun d _ _ _ _ h => by cases d <;> exact h) (fun w => by kernel_rfl) ?_
          refine wpAny_done (by kernel_rfl) ?_ _
          exact ret_known (.bool true) (by assumption) (by kernel_rfl) (by kernel_rfl) (And.intro rfl (HBL.out _ hg2))
        · rw [errV_pos hr0]
          obtain rfl := he.symm
          have hr13f : ((r : Int) == 13) = false := by simp; omega
          by_cases hrd : rd = 0
          · subst hrd
            have h20f : decide ((s0 : Int) < 20000) = false := by simp; omega
            go_wp2_with fail
            refine region_begin (by kernel_rfl) (by kernel_rfl) (by kernel_rfl) fun hNS hAP => ?_
            refine any_take [(0, .iface 37 (.int .i64 k)), (1, .bool false), (2, .iface 37 (.int .i64 k)), (3, .bool false), (4, .bool true), (5, .bool true), (6, .int .i64 za), (7, .int .i64 za)] hNS hAP (by kernel_rfl) (fun d _ _ _ _ h => by cases d <;> exact h) (fun w => by kernel_rfl) ?_
            refine any_told 8 (.bool true) rfl hNS hAP (by kernel_rfl) (fun d _ _ _ _ h => by cases d <;> exact h) (by kernel_rfl) (told_if hzz fun w => by kernel_rfl) ?_
            refine any_take [(9, .bool true), (10, .bool true), (11, .int .i64 zy), (12, .int .i64 zy)] hNS hAP (by kernel_rfl) (fun d _ _ _ _ h => by cases d <;> exact h) (fun w => by kernel_rfl) ?_
            refine any_told 13 (.bool true) rfl hNS hAP (by kernel_rfl) (fun d _ _ _ _ h => by cases d <;> exact h) (by kernel_rfl) (told_if hxx fun w => by kernel_rfl) ?_
            refine any_take [(14, .bool true), (15, undef), (16, undef), (17, .bool true), (18, .bool true), (19, .bool true), (20, .pointer (some ⟨b, 0, none⟩)), (22, .int .i64 (s0 : Int))] hNS hAP (by kernel_rfl) (fun d _ _ _ _ h => by cases d <;> exact h) (fun w => by kernel_rfl) ?_
            refine any_told 23 (.int .i64 ((s0 : Int) + 1)) rfl hNS hAP (by kernel_rfl) (fun d _ _ _ _ h => by cases d <;> exact h) (by kernel_rfl) (told_as (congrArg (Value.int .i64) hw1) fun w => by kernel_rfl) ?_
            refine any_take [(25, .bool true)] hNS hAP (by kernel_rfl) (fun d _ _ _ _ h => by cases d <;> exact h) (fun w => by kernel_rfl) ?_
            refine any_call 21 (f := 15) (args := #[.pointer (some ⟨b, 0, none⟩)]) rfl (by kernel_rfl) (by kernel_rfl) (by kernel_rfl) ?_
            refine (HST.out _ (grown_d (World.grownBy.refl _ none))).mono ?_
            rintro e x1 ⟨rfl, rfl⟩
            show wpAny _ _ _ _ _ _ _ _
            refine any_told 24 (.bool false) rfl hNS hAP (by kernel_rfl) (fun d _ _ _ _ h => by cases d <;> exact h) (by kernel_rfl) (told_if hs00 fun w => by kernel_rfl) ?_
            refine any_take [(26, .bool true), (27, .int .i64 (s0 : Int))] hNS hAP (by kernel_rfl) (fun d _ _ _ _ h => by cases d <;> exact h) (fun w => by kernel_rfl) ?_
            refine any_told 28 (.bool false) rfl hNS hAP (by kernel_rfl) (fun d _ _ _ _ h => by cases d <;> exact h) (by kernel_rfl) (told_if h20f fun w => by kernel_rfl) ?_
            refine any_take [(29, .bool false), (30, .bool true), (31, .bool true), (32, .bool true), (33, .iface 37 (.int .i64 (r : Int))), (34, .bool false), (35, .bool false), (36, .iface 37 (.int .i64 (r : Int))), (40, .pointer (some ⟨b, 0, none⟩)), (42, .int .i64 (s0 : Int))] hNS hAP (by kernel_rfl) (fun d _ _ _ _ h => by cases d <;> exact h) (fun w => by kernel_rfl) ?_
            refine any_told 43 (.int .i64 ((s0 : Int) + 1)) rfl hNS hAP (by kernel_rfl) (fun d _ _ _ _ h => by cases d <;> exact h) (by kernel_rfl) (told_as (congrArg (Value.int .i64) hw1) fun w => by kernel_rfl) ?_
            refine any_call 37 (f := 18) (args := #[.iface 37 (.int .i64 (r : Int))]) rfl (by kernel_rfl) (by kernel_rfl) (by kernel_rfl) ?_
            refine (HTE.out _ (grown_d (World.grownBy.refl _ none)) (r : Int)).mono ?_
            rintro e x2 ⟨rfl, hx2⟩
            have hg2 := World.grownBy.trans (grown_d (World.grownBy.refl w8 none)) hx2
            show wpAny _ _ _ _ _ _ _ _
            refine any_told 38 (.bool false) rfl hNS hAP (by kernel_rfl) (fun d _ _ _ _ h => by cases d <;> exact h) (by kernel_rfl) (told_if hr13f fun w => by kernel_rfl) ?_
            refine any_take [(39, .bool false)] hNS hAP (by kernel_rfl) (fun d _ _ _ _ h => by cases d <;> exact h) (fun w => by kernel_rfl) ?_
            refine any_call 41 (f := 15) (args := #[.pointer (some ⟨b, 0, none⟩)]) rfl (by kernel_rfl) (by kernel_rfl) (by kernel_rfl) ?_
            refine (HST.out _ hg2).mono ?_
            rintro e x3 ⟨rfl, rfl⟩
            show wpAny _ _ _ _ _ _ _ _
            refine any_told 44 (.bool false) rfl hNS hAP (by kernel_rfl) (fun d _ _ _ _ h => by cases d <;> exact h) (by kernel_rfl) (told_if hs00 fun w => by kernel_rfl) ?_
            refine any_take [(45, .bool true), (46, .bool true), (47, .bool true)] hNS hAP (by kernel_rfl) (fun d _ _ _ _ h => by cases d <;> exact h) (fun w => by kernel_rfl) ?_
            refine wpAny_done (by kernel_rfl) ?_ _
            exact ret_known (.bool true) (by assumption) (by kernel_rfl) (by kernel_rfl) (And.intro rfl (HBL.out _ hg2))
          · have hrdf : (rd == 0) = false := by simp; omega
            rw [hrdf]
            go_wp2_with fail
            refine region_begin (by kernel_rfl) (by kernel_rfl) (by kernel_rfl) fun hNS hAP => ?_
            refine any_take [(0, .iface 37 (.int .i64 k)), (1, .bool false), (2, .iface 37 (.int .i64 k)), (3, .bool false), (4, .bool true), (5, .bool true), (6, .int .i64 za), (7, .int .i64 za)] hNS hAP (by kernel_rfl) (fun d _ _ _ _ h => by cases d <;> exact h) (fun w => by kernel_rfl) ?_
            refine any_told 8 (.bool true) rfl hNS hAP (by kernel_rfl) (fun d _ _ _ _ h => by cases d <;> exact h) (by kernel_rfl) (told_if hzz fun w => by kernel_rfl) ?_
            refine any_take [(9, .bool true), (10, .bool true), (11, .int .i64 zy), (12, .int .i64 zy)] hNS hAP (by kernel_rfl) (fun d _ _ _ _ h => by cases d <;> exact h) (fun w => by kernel_rfl) ?_
            refine any_told 13 (.bool true) rfl hNS hAP (by kernel_rfl) (fun d _ _ _ _ h => by cases d <;> exact h) (by kernel_rfl) (told_if hxx fun w => by kernel_rfl) ?_
            refine any_take [(14, .bool true), (15, undef), (16, undef), (17, .bool true), (18, .bool true), (19, .bool true), (20, .pointer (some ⟨b, 0, none⟩)), (22, .int .i64 (s0 : Int))] hNS hAP (by kernel_rfl) (fun d _ _ _ _ h => by cases d <;> exact h) (fun w => by kernel_rfl) ?_
            refine any_told 23 (.int .i64 ((s0 : Int) + 1)) rfl hNS hAP (by kernel_rfl) (fun d _ _ _ _ h => by cases d <;> exact h) (by kernel_rfl) (told_as (congrArg (Value.int .i64) hw1) fun w => by kernel_rfl) ?_
            refine any_take [(25, .bool false)] hNS hAP (by kernel_rfl) (fun d _ _ _ _ h => by cases d <;> exact h) (fun w => by kernel_rfl) ?_
            refine any_call 21 (f := 15) (args := #[.pointer (some ⟨b, 0, none⟩)]) rfl (by kernel_rfl) (by kernel_rfl) (by kernel_rfl) ?_
            refine (HST.out _ (grown_d (World.grownBy.refl _ none))).mono ?_
            rintro e x1 ⟨rfl, rfl⟩
            show wpAny _ _ _ _ _ _ _ _
            refine any_told 24 (.bool false) rfl hNS hAP (by kernel_rfl) (fun d _ _ _ _ h => by cases d <;> exact h) (by kernel_rfl) (told_if hs00 fun w => by kernel_rfl) ?_
            refine any_take [(26, .bool false), (27, undef), (28, undef), (29, .bool false), (30, .bool true), (31, .bool true), (32, .bool true), (33, .iface 37 (.int .i64 (r : Int))), (34, .bool false), (35, .bool false), (36, .iface 37 (.int .i64 (r : Int))), (40, .pointer (some ⟨b, 0, none⟩)), (42, .int .i64 (s0 : Int))] hNS hAP (by kernel_rfl) (fun d _ _ _ _ h => by cases d <;> exact h) (fun w => by kernel_rfl) ?_
            refine any_told 43 (.int .i64 ((s0 : Int) + 1)) rfl hNS hAP (by kernel_rfl) (fun d _ _ _ _ h => by cases d <;> exact h) (by kernel_rfl) (told_as (congrArg (Value.int .i64) hw1) fun w => by kernel_rfl) ?_
            refine any_call 37 (f := 18) (args := #[.iface 37 (.int .i64 (r : Int))]) rfl (by kernel_rfl) (by kernel_rfl) (by kernel_rfl) ?_
            refine (HTE.out _ (grown_d (World.grownBy.refl _ none)) (r : Int)).mono ?_
            rintro e x2 ⟨rfl, hx2⟩
            have hg2 := World.grownBy.trans (grown_d (World.grownBy.refl w8 none)) hx2
            show wpAny _ _ _ _ _ _ _ _
            refine any_told 38 (.bool false) rfl hNS hAP (by kernel_rfl) (fun d _ _ _ _ h => by cases d <;> exact h) (by kernel_rfl) (told_if hr13f fun w => by kernel_rfl) ?_
            refine any_take [(39, .bool false)] hNS hAP (by kernel_rfl) (fun d _ _ _ _ h => by cases d <;> exact h) (fun w => by kernel_rfl) ?_
            refine any_call 41 (f := 15) (args := #[.pointer (some ⟨b, 0, none⟩)]) rfl (by kernel_rfl) (by kernel_rfl) (by kernel_rfl) ?_
            refine (HST.out _ hg2).mono ?_
            rintro e x3 ⟨rfl, rfl⟩
            show wpAny _ _ _ _ _ _ _ _
            refine any_told 44 (.bool false) rfl hNS hAP (by kernel_rfl) (fun d _ _ _ _ h => by cases d <;> exact h) (by kernel_rfl) (told_if hs00 fun w => by kernel_rfl) ?_
            refine any_take [(45, .bool true), (46, .bool true), (47, .bool true)] hNS hAP (by kernel_rfl) (fun d _ _ _ _ h => by cases d <;> exact h) (fun w => by kernel_rfl) ?_
            refine wpAny_done (by kernel_rfl) ?_ _
            exact ret_known (.bool true) (by assumption) (by kernel_rfl) (by kernel_rfl) (And.intro rfl (HBL.out _ hg2))
      · subst hy
        have hxf : (zx == (-1 : Int)) = false := by simp; omega
        rcases f4 with ⟨rfl, rfl, h20, rfl | rfl⟩ | ⟨he, h20, hr0, hr13⟩
        · have h20t : decide ((s0 : Int) < 20000) = true := by simp; omega
          rw [errV_zero]
          go_wp2_with fail
          refine region_begin (by kernel_rfl) (by kernel_rfl) (by kernel_rfl) fun hNS hAP => ?_
          refine any_take [(0, .iface 37 (.int .i64 k)), (1, .bool false), (2, .iface 37 (.int .i64 k)), (3, .bool false), (4, .bool true), (5, .bool true), (6, .int .i64 za), (7, .int .i64 za)] hNS hAP (by kernel_rfl) (fun d _ _ _ _ h => by cases d <;> exact h) (fun w => by kernel_rfl) ?_
          refine any_told 8 (.bool true) rfl hNS hAP (by kernel_rfl) (fun d _ _ _ _ h => by cases d <;> exact h) (by kernel_rfl) (told_if hzz fun w => by kernel_rfl) ?_
          refine any_take [(9, .bool true), (10, .bool true), (11, .int .i64 zx), (12, .int .i64 (-1))] hNS hAP (by kernel_rfl) (fun d _ _ _ _ h => by cases d <;> exact h) (fun w => by kernel_rfl) ?_
          refine any_told 13 (.bool false) rfl hNS hAP (by kernel_rfl) (fun d _ _ _ _ h => by cases d <;> exact h) (by kernel_rfl) (told_if hxf fun w => by kernel_rfl) ?_
          refine any_take [(14, .bool false), (15, .int .i64 (-1)), (16, .bool true), (17, .bool true), (18, .bool true), (19, .bool true), (20, .pointer (some ⟨b, 0, none⟩)), (22, .int .i64 (s0 : Int))] hNS hAP (by kernel_rfl) (fun d _ _ _ _ h => by cases d <;> exact h) (fun w => by kernel_rfl) ?_
          refine any_told 23 (.int .i64 ((s0 : Int) + 1)) rfl hNS hAP (by kernel_rfl) (fun d _ _ _ _ h => by cases d <;> exact h) (by kernel_rfl) (told_as (congrArg (Value.int .i64) hw1) fun w => by kernel_rfl) ?_
          refine any_take [(25, .bool true)] hNS hAP (by kernel_rfl) (fun d _ _ _ _ h => by cases d <;> exact h) (fun w => by kernel_rfl) ?_
          refine any_call 21 (f := 15) (args := #[.pointer (some ⟨b, 0, none⟩)]) rfl (by kernel_rfl) (by kernel_rfl) (by kernel_rfl) ?_
          refine (HST.out _ (grown_d (World.grownBy.refl _ none))).mono ?_
          rintro e x1 ⟨rfl, rfl⟩
          show wpAny _ _ _ _ _ _ _ _
          refine any_told 24 (.bool true) rfl hNS hAP (by kernel_rfl) (fun d _ _ _ _ h => by cases d <;> exact h) (by kernel_rfl) (told_if hs11 fun w => by kernel_rfl) ?_
          refine any_take [(26, .bool true), (27, .int .i64 (s0 : Int))] hNS hAP (by kernel_rfl) (fun d _ _ _ _ h => by cases d <;> exact h) (fun w => by kernel_rfl) ?_
          refine any_told 28 (.bool true) rfl hNS hAP (by kernel_rfl) (fun d _ _ _ _ h => by cases d <;> exact h) (by kernel_rfl) (told_if h20t fun w => by kernel_rfl) ?_
          refine any_take [(29, .bool true), (30, .bool true), (31, .bool true), (32, .bool true), (33, .nilIface), (34, .bool true), (35, .bool true), (36, undef), (37, undef), (38, undef), (39, .bool true), (40, .pointer (some ⟨b, 0, none⟩)), (42, .int .i64 (s0 : Int))] hNS hAP (by kernel_rfl) (fun d _ _ _ _ h => by cases d <;> exact h) (fun w => by kernel_rfl) ?_
          refine any_told 43 (.int .i64 ((s0 : Int) + 1)) rfl hNS hAP (by kernel_rfl) (fun d _ _ _ _ h => by cases d <;> exact h) (by kernel_rfl) (told_as (congrArg (Value.int .i64) hw1) fun w => by kernel_rfl) ?_
          refine any_call 41 (f := 15) (args := #[.pointer (some ⟨b, 0, none⟩)]) rfl (by kernel_rfl) (by kernel_rfl) (by kernel_rfl) ?_
          refine (HST.out _ (grown_d (World.grownBy.refl _ none))).mono ?_
          rintro e x3 ⟨rfl, rfl⟩
          show wpAny _ _ _ _ _ _ _ _
          refine any_told 44 (.bool true) rfl hNS hAP (by kernel_rfl) (fun d _ _ _ _ h => by cases d <;> exact h) (by kernel_rfl) (told_if hs11 fun w => by kernel_rfl) ?_
          refine any_take [(45, .bool true), (46, .bool true), (47, .bool true)] hNS hAP (by kernel_rfl) (fun d _ _ _ _ h => by cases d <;> exact h) (fun w => by kernel_rfl) ?_
          refine wpAny_done (by kernel_rfl) ?_ _
          exact ret_known (.bool true) (by assumption) (by kernel_rfl) (by kernel_rfl) (And.intro rfl (HBL.out _ (grown_d (World.grownBy.refl _ none))))
        · have h20t : decide ((s0 : Int) < 20000) = true := by simp; omega
          rw [errV_pos (show (13 : Nat) ≠ 0 by decide)]
          go_wp2_with fail
          refine region_begin (by kernel_rfl) (by kernel_rfl) (by kernel_rfl) fun hNS hAP => ?_
          refine any_take [(0, .iface 37 (.int .i64 k)), (1, .bool false), (2, .iface 37 (.int .i64 k)), (3, .bool false), (4, .bool true), (5, .bool true), (6, .int .i64 za), (7, .int .i64 za)] hNS hAP (by kernel_rfl) (fun d _ _ _ _ h => by cases d <;> exact h) (fun w => by kernel_rfl) ?_
          refine any_told 8 (.bool true) rfl hNS hAP (by kernel_rfl) (fun d _ _ _ _ h => by cases d <;> exact h) (by kernel_rfl) (told_if hzz fun w => by kernel_rfl) ?_
          refine any_take [(9, .bool true), (10, .bool true), (11, .int .i64 zx), (12, .int .i64 (-1))] hNS hAP (by kernel_rfl) (fun d _ _ _ _ h => by cases d <;> exact h) (fun w => by kernel_rfl) ?_
          refine any_told 13 (.bool false) rfl hNS hAP (by kernel_rfl) (fun d _ _ _ _ h => by cases d <;> exact h) (by kernel_rfl) (told_if hxf fun w => by kernel_rfl) ?_
          refine any_take [(14, .bool false), (15, .int .i64 (-1)), (16, .bool true), (17, .bool true), (18, .bool true), (19, .bool true), (20, .pointer (some ⟨b, 0, none⟩)), (22, .int .i64 (s0 : Int))] hNS hAP (by kernel_rfl) (fun d _ _ _ _ h => by cases d <;> exact h) (fun w => by kernel_rfl) ?_
          refine any_told 23 (.int .i64 ((s0 : Int) + 1)) rfl hNS hAP (by kernel_rfl) (fun d _ _ _ _ h => by cases d <;> exact h) (by kernel_rfl) (told_as (congrArg (Value.int .i64) hw1) fun w => by kernel_rfl) ?_
          refine any_take [(25, .bool true)] hNS hAP (by kernel_rfl) (fun d _ _ _ _ h => by cases d <;> exact h) (fun w => by kernel_rfl) ?_
          refine any_call 21 (f := 15) (args := #[.pointer (some ⟨b, 0, none⟩)]) rfl (by kernel_rfl) (by kernel_rfl) (by kernel_rfl) ?_
          refine (HST.out _ (grown_d (World.grownBy.refl _ none))).mono ?_
          rintro e x1 ⟨rfl, rfl⟩
          show wpAny _ _ _ _ _ _ _ _
          refine any_told 24 (.bool true) rfl hNS hAP (by kernel_rfl) (fun d _ _ _ _ h => by cases d <;> exact h) (by kernel_rfl) (told_if hs11 fun w => by kernel_rfl) ?_
          refine any_take [(26, .bool true), (27, .int .i64 (s0 : Int))] hNS hAP (by kernel_rfl) (fun d _ _ _ _ h => by cases d <;> exact h) (fun w => by kernel_rfl) ?_
          refine any_told 28 (.bool true) rfl hNS hAP (by kernel_rfl) (fun d _ _ _ _ h => by cases d <;> exact h) (by kernel_rfl) (told_if h20t fun w => by kernel_rfl) ?_
          refine any_take [(29, .bool true), (30, .bool true), (31, .bool true), (32, .bool true), (33, .iface 37 (.int .i64 13)), (34, .bool false), (35, .bool false), (36, .iface 37 (.int .i64 13)), (40, .pointer (some ⟨b, 0, none⟩)), (42, .int .i64 (s0 : Int))] hNS hAP (by kernel_rfl) (fun d _ _ _ _ h => by cases d <;> exact h) (fun w => by kernel_rfl) ?_
          refine any_told 43 (.int .i64 ((s0 : Int) + 1)) rfl hNS hAP (by kernel_rfl) (fun d _ _ _ _ h => by cases d <;> exact h) (by kernel_rfl) (told_as (congrArg (Value.int .i64) hw1) fun w => by kernel_rfl) ?_
          refine any_call 37 (f := 18) (args := #[.iface 37 (.int .i64 13)]) rfl (by kernel_rfl) (by kernel_rfl) (by kernel_rfl) ?_
          refine (HTE.out _ (grown_d (World.grownBy.refl _ none)) 13).mono ?_
          rintro e x2 ⟨rfl, hx2⟩
          have hg2 := World.grownBy.trans (grown_d (World.grownBy.refl w8 none)) hx2
          show wpAny _ _ _ _ _ _ _ _
          refine any_take [(38, .bool true), (39, .bool true)] hNS hAP (by kernel_rfl) (fun d _ _ _ _ h => by cases d <;> exact h) (fun w => by kernel_rfl) ?_
          refine any_call 41 (f := 15) (args := #[.pointer (some ⟨b, 0, none⟩)]) rfl (by kernel_rfl) (by kernel_rfl) (by kernel_rfl) ?_
          refine (HST.out _ hg2).mono ?_
          rintro e x3 ⟨rfl, rfl⟩
          show wpAny _ _ _ _ _ _ _ _
          refine any_told 44 (.bool true) rfl hNS hAP (by kernel_rfl) (fun d _ _ _ _ h => by cases d <;> exact h) (by kernel_rfl) (told_if hs11 fun w => by kernel_rfl) ?_
          refine any_take [(45, .bool true), (46, .bool true), (47, .bool true)] hNS hAP (by kernel_rfl) (fun d _ _ _ _ h => by cases d <;> exact h) (fun w => by kernel_rfl) ?_
          refine wpAny_done (by kernel_rfl) ?_ _
          exact ret_known (.bool true) (by assumption) (by kernel_rfl) (by kernel_rfl) (And.intro rfl (HBL.out _ hg2))
        · rw [errV_pos hr0]
          obtain rfl := he.symm
          have hr13f : ((r : Int) == 13) = false := by simp; omega
          by_cases hrd : rd = 0
          · subst hrd
            have h20f : decide ((s0 : Int) < 20000) = false := by simp; omega
            go_wp2_with fail
            refine region_begin (by kernel_rfl) (by kernel_rfl) (by kernel_rfl) fun hNS hAP => ?_
            refine any_take [(0, .iface 37 (.int .i64 k)), (1, .bool false), (2, .iface 37 (.int .i64 k)), (3, .bool false), (4, .bool true), (5, .bool true), (6, .int .i64 za), (7, .int .i64 za)] hNS hAP (by kernel_rfl) (fun d _ _ _ _ h => by cases d <;> exact h) (fun w => by kernel_rfl) ?_
            refine any_told 8 (.bool true) rfl hNS hAP (by kernel_rfl) (fun d _ _ _ _ h => by cases d <;> exact h) (by kernel_rfl) (told_if hzz fun w => by kernel_rfl) ?_
            refine any_take [(9, .bool true), (10, .bool true), (11, .int .i64 zx), (12, .int .i64 (-1))] hNS hAP (by kernel_rfl) (fun d _ _ _ _ h => by cases d <;> exact h) (fun w => by kernel_rfl) ?_
            refine any_told 13 (.bool false) rfl hNS hAP (by kernel_rfl) (fun d _ _ _ _ h => by cases d <;> exact h) (by kernel_rfl) (told_if hxf fun w => by kernel_rfl) ?_
            refine any_take [(14, .bool false), (15, .int .i64 (-1)), (16, .bool true), (17, .bool true), (18, .bool true), (19, .bool true), (20, .pointer (some ⟨b, 0, none⟩)), (22, .int .i64 (s0 : Int))] hNS hAP (by kernel_rfl) (fun d _ _ _ _ h => by cases d <;> exact h) (fun w => by kernel_rfl) ?_
            refine any_told 23 (.int .i64 ((s0 : Int) + 1)) rfl hNS hAP (by kernel_rfl) (fun d _ _ _ _ h => by cases d <;> exact h) (by kernel_rfl) (told_as (congrArg (Value.int .i64) hw1) fun w => by kernel_rfl) ?_
            refine any_take [(25, .bool true)] hNS hAP (by kernel_rfl) (fun d _ _ _ _ h => by cases d <;> exact h) (fun w => by kernel_rfl) ?_
            refine any_call 21 (f := 15) (args := #[.pointer (some ⟨b, 0, none⟩)]) rfl (by kernel_rfl) (by kernel_rfl) (by kernel_rfl) ?_
            refine (HST.out _ (grown_d (World.grownBy.refl _ none))).mono ?_
            rintro e x1 ⟨rfl, rfl⟩
            show wpAny _ _ _ _ _ _ _ _
            refine any_told 24 (.bool false) rfl hNS hAP (by kernel_rfl) (fun d _ _ _ _ h => by cases d <;> exact h) (by kernel_rfl) (told_if hs00 fun w => by kernel_rfl) ?_
            refine any_take [(26, .bool true), (27, .int .i64 (s0 : Int))] hNS hAP (by kernel_rfl) (fun d _ _ _ _ h => by cases d <;> exact h) (fun w => by kernel_rfl) ?_
            refine any_told 28 (.bool false) rfl hNS hAP (by kernel_rfl) (fun d _ _ _ _ h => by cases d <;> exact h) (by kernel_rfl) (told_if h20f fun w => by kernel_rfl) ?_
            refine any_take [(29, .bool false), (30, .bool true), (31, .bool true), (32, .bool true), (33, .iface 37 (.int .i64 (r : Int))), (34, .bool false), (35, .bool false), (36, .iface 37 (.int .i64 (r : Int))), (40, .pointer (some ⟨b, 0, none⟩)), (42, .int .i64 (s0 : Int))] hNS hAP (by kernel_rfl) (fun d _ _ _ _ h => by cases d <;> exact h) (fun w => by kernel_rfl) ?_
            refine any_told 43 (.int .i64 ((s0 : Int) + 1)) rfl hNS hAP (by kernel_rfl) (fun d _ _ _ _ h => by cases d <;> exact h) (by kernel_rfl) (told_as (congrArg (Value.int .i64) hw1) fun w => by kernel_rfl) ?_
            refine any_call 37 (f := 18) (args := #[.iface 37 (.int .i64 (r : Int))]) rfl (by kernel_rfl) (by kernel_rfl) (by kernel_rfl) ?_
            refine (HTE.out _ (grown_d (World.grownBy.refl _ none)) (r : Int)).mono ?_
            rintro e x2 ⟨rfl, hx2⟩
            have hg2 := World.grownBy.trans (grown_d (World.grownBy.refl w8 none)) hx2
            show wpAny _ _ _ _ _ _ _ _
            refine any_told 38 (.bool false) rfl hNS hAP (by kernel_rfl) (fun d _ _ _ _ h => by cases d <;> exact h) (by kernel_rfl) (told_if hr13f fun w => by kernel_rfl) ?_
            refine any_take [(39, .bool false)] hNS hAP (by kernel_rfl) (fun d _ _ _ _ h => by cases d <;> exact h) (fun w => by kernel_rfl) ?_
            refine any_call 41 (f := 15) (args := #[.pointer (some ⟨b, 0, none⟩)]) rfl (by kernel_rfl) (by kernel_rfl) (by kernel_rfl) ?_
            refine (HST.out _ hg2).mono ?_
            rintro e x3 ⟨rfl, rfl⟩
            show wpAny _ _ _ _ _ _ _ _
            refine any_told 44 (.bool false) rfl hNS hAP (by kernel_rfl) (fun d _ _ _ _ h => by cases d <;> exact h) (by kernel_rfl) (told_if hs00 fun w => by kernel_rfl) ?_
            refine any_take [(45, .bool true), (46, .bool true), (47, .bool true)] hNS hAP (by kernel_rfl) (fun d _ _ _ _ h => by cases d <;> exact h) (fun w => by kernel_rfl) ?_
            refine wpAny_done (by kernel_rfl) ?_ _
            exact ret_known (.bool true) (by assumption) (by kernel_rfl) (by kernel_rfl) (And.intro rfl (HBL.out _ hg2))
          · have hrdf : (rd == 0) = false := by simp; omega
            rw [hrdf]
            go_wp2_with fail
            refine region_begin (by kernel_rfl) (by kernel_rfl) (by kernel_rfl) fun hNS hAP => ?_
            refine any_take [(0, .iface 37 (.int .i64 k)), (1, .bool false), (2, .iface 37 (.int .i64 k)), (3, .bool false), (4, .bool true), (5, .bool true), (6, .int .i64 za), (7, .int .i64 za)] hNS hAP (by kernel_rfl) (fun d _ _ _ _ h => by cases d <;> exact h) (fun w => by kernel_rfl) ?_
            refine any_told 8 (.bool true) rfl hNS hAP (by kernel_rfl) (fun d _ _ _ _ h => by cases d <;> exact h) (by kernel_rfl) (told_if hzz fun w => by kernel_rfl) ?_
            refine any_take [(9, .bool true), (10, .bool true), (11, .int .i64 zx), (12, .int .i64 (-1))] hNS hAP (by kernel_rfl) (fun d _ _ _ _ h => by cases d <;> exact h) (fun w => by kernel_rfl) ?_
            refine any_told 13 (.bool false) rfl hNS hAP (by kernel_rfl) (fun d _ _ _ _ h => by cases d <;> exact h) (by kernel_rfl) (told_if hxf fun w => by kernel_rfl) ?_
            refine any_take [(14, .bool false), (15, .int .i64 (-1)), (16, .bool true), (17, .bool true), (18, .bool true), (19, .bool true), (20, .pointer (some ⟨b, 0, none⟩)), (22, .int .i64 (s0 : Int))] hNS hAP (by kernel_rfl) (fun d _ _ _ _ h => by cases d <;> exact h) (fun w => by kernel_rfl) ?_
            refine any_told 23 (.int .i64 ((s0 : Int) + 1)) rfl hNS hAP (by kernel_rfl) (fun d _ _ _ _ h => by cases d <;> exact h) (by kernel_rfl) (told_as (congrArg (Value.int .i64) hw1) fun w => by kernel_rfl) ?_
            refine any_take [(25, .bool false)] hNS hAP (by kernel_rfl) (fun d _ _ _ _ h => by cases d <;> exact h) (fun w => by kernel_rfl) ?_
            refine any_call 21 (f := 15) (args := #[.pointer (some ⟨b, 0, none⟩)]) rfl (by kernel_rfl) (by kernel_rfl) (by kernel_rfl) ?_
            refine (HST.out _ (grown_d (World.grownBy.refl _ none))).mono ?_
            rintro e x1 ⟨rfl, rfl⟩
            show wpAny _ _ _ _ _ _ _ _
            refine any_told 24 (.bool false) rfl hNS hAP (by kernel_rfl) (fun d _ _ _ _ h => by cases d <;> exact h) (by kernel_rfl) (told_if hs00 fun w => by kernel_rfl) ?_
            refine any_take [(26, .bool false), (27, undef), (28, undef), (29, .bool false), (30, .bool true), (31, .bool true), (32, .bool true), (33, .iface 37 (.int .i64 (r : Int))), (34, .bool false), (35, .bool false), (36, .iface 37 (.int .i64 (r : Int))), (40, .pointer (some ⟨b, 0, none⟩)), (42, .int .i64 (s0 : Int))] hNS hAP (by kernel_rfl) (fun d _ _ _ _ h => by cases d <;> exact h) (fun w => by kernel_rfl) ?_
            refine any_told 43 (.int .i64 ((s0 : Int) + 1)) rfl hNS hAP (by kernel_rfl) (fun d _ _ _ _ h => by cases d <;> exact h) (by kernel_rfl) (told_as (congrArg (Value.int .i64) hw1) fun w => by kernel_rfl) ?_
            refine any_call 37 (f := 18) (args := #[.iface 37 (.int .i64 (r : Int))]) rfl (by kernel_rfl) (by kernel_rfl) (by kernel_rfl) ?_
            refine (HTE.out _ (grown_d (World.grownBy.refl _ none)) (r : Int)).mono ?_
            rintro e x2 ⟨rfl, hx2⟩
            have hg2 := World.grownBy.trans (grown_d (World.grownBy.refl w8 none)) hx2
            show wpAny _ _ _ _ _ _ _ _
            refine any_told 38 (.bool false) rfl hNS hAP (by kernel_rfl) (fun d _ _ _ _ h => by cases d <;> exact h) (by kernel_rfl) (told_if hr13f fun w => by kernel_rfl) ?_
            refine any_take [(39, .bool false)] hNS hAP (by kernel_rfl) (fun d _ _ _ _ h => by cases d <;> exact h) (fun w => by kernel_rfl) ?_
            refine any_call 41 (f := 15) (args := #[.pointer (some ⟨b, 0, none⟩)]) rfl (by kernel_rfl) (by kernel_rfl) (by kernel_rfl) ?_
            refine (HST.out _ hg2).mono ?_
            rintro e x3 ⟨rfl, rfl⟩
            show wpAny _ _ _ _ _ _ _ _
            refine any_told 44 (.bool false) rfl hNS hAP (by kernel_rfl) (fun d _ _ _ _ h => by cases d <;> exact h) (by kernel_rfl) (told_if hs00 fun w => by kernel_rfl) ?_
            refine any_take [(45, .bool true), (46, .bool true), (47, .bool true)] hNS hAP (by kernel_rfl) (fun d _ _ _ _ h => by cases d <;> exact h) (fun w => by kernel_rfl) ?_
            refine wpAny_done (by kernel_rfl) ?_ _
            exact ret_known (.bool true) (by assumption) (by kernel_rfl) (by kernel_rfl) (And.intro rfl (HBL.out _ hg2))
  · have HB3 := Lib.hid (HB2.out.trans (hb3.mono HB2.out.size))
    clear hb3 HB2
    go_wp2
    go_ret
    exact ⟨rfl, HB3.out⟩
end Go.Proofs.YtbcbahoplfgimaaGreatDoor
