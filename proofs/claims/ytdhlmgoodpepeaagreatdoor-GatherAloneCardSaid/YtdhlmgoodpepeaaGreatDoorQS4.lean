/-
  gather's pieces: who passes, or watches Programs of a phaser: gather.Code. Programs of a phaser may be.
-/
import Derived.Test.YtdhlmgoodpepeaaGreatDoorQS2
import Derived.Test.YtdhlmgoodpepeaaGreatDoorQS
import Derived.Test.YtdhlmgoodpepeaaGreatDoorQL
import Derived.Test.YtdhlmgoodpepeaaGreatDoorQR5
namespace Go.Proofs.YtdhlmgoodpepeaaGreatDoor
set_option maxRecDepth 100000
open Go.RowKit Go.Shelf Go.Sort
set_option linter.unusedVariables false
set_option linter.unusedSimpArgs false

def passP (q : Int) : List In5 := (comeR q (-1) (wrap64 (q + 38))).flatten ++ untilP (wrap64 (q + 29))
set_option maxHeartbeats 2000000 in
theorem gapass_any (q : Int) (w : World) : Calls Tryz.prog 97 #[.int .i64 q] w (OwnOf (passP q) w) := by
  have HU := Lib.hid (fun w => gauntil_any (wrap64 (q + 29)) w)
  have HC := Lib.hid (fun w => gacome_any q (-1) (wrap64 (q + 38)) w)
  have HN := Lib.hid (show (comeR q (-1) (wrap64 (q + 38))).flatten.length + (untilP (wrap64 (q + 29))).length ≤ 100000 from Nat.le_of_ble_eq_true rfl)
  unfold passP
  generalize (comeR q (-1) (wrap64 (q + 38))).flatten = L1 at *
  generalize untilP (wrap64 (q + 29)) = L2 at *
  go_enter Tryz.func97, Tryz.ntmps97
  go_wp2_with fail
  refine (HC.out _).mono ?_
  rintro e x1 ⟨A1, c1, rfl, hO1, hg1⟩
  have HO1 := Lib.hid hO1
  have G1 := Lib.hid hg1
  clear hO1 hg1 HC
  go_wp2_with fail
  refine (HU.out _).mono ?_
  rintro e x2 ⟨A2, c2, rfl, hO2, hg2⟩
  have ho := own_gr HO1.out hg2
  have hI := Inss.of_own hO2 rfl
  have hgx := gr_then G1.out hg2
  obtain ⟨v3, y, hr, hO, hg⟩ := run_appendP (c := c2) ho hI HN.out hgx.size 82
  have hgg := hgx.andThen hg (fun k hk => .inl (ho.lt k hk).1)
  obtain ⟨A, c, rfl⟩ := slice_of_own hO
  rw [← List.length_append] at hO
  have HRn := Lib.hid hr
  have HR := Lib.hid (And.intro hO hgg)
  have HLn := Lib.hid (@List.length_append _ L1 L2)
  clear hr hO hg hgg ho hI hgx hO2 hg2 HO1 G1 HN HU
  go_wp2_with (at_builtin; refine Lib.wpList_append_run _ rfl _ _ _ _ rfl _ _ rfl rfl _ _ HRn.out ?_; clear HRn)
  go_ret
  exact ⟨A, c, congrArg (fun k => Ending.returned (.slice A k c)) HLn.out.symm, HR.out.1, HR.out.2⟩
def watchP (q n : Int) : List In5 := [(1, 5, n, 0, 0)] ++ untilP (wrap64 (q + 1))
set_option maxHeartbeats 2000000 in
theorem gawatch_any (q n : Int) (w : World) : Calls Tryz.prog 96 #[.int .i64 q, .int .i64 n] w (OwnOf (watchP q n) w) := by
  have HU := Lib.hid (fun w => gauntil_any (wrap64 (q + 1)) w)
  have HN := Lib.hid (show 1 + (untilP (wrap64 (q + 1))).length ≤ 100000 from Nat.le_of_ble_eq_true rfl)
  have HO1 := Lib.hid (own_lit (w := w) (cs := #[.int .i64 1, .int .i64 5, .int .i64 n, .int .i64 0, .int .i64 0]) (l := [(1, 5, n, 0, 0)]) (n := 1) rfl rfl (by decide) w.heap.size (Nat.le_refl _))
  have G1 := Lib.hid (World.grownBy_alloc w (.cells #[.int .i64 1, .int .i64 5, .int .i64 n, .int .i64 0, .int .i64 0] 88) none)
  unfold watchP
  generalize untilP (wrap64 (q + 1)) = L2 at *
  go_enter Tryz.func96, Tryz.ntmps96
  go_wp2_with fail
  refine (HU.out _).mono ?_
  rintro e x2 ⟨A2, c2, rfl, hO2, hg2⟩
  have ho := own_gr HO1.out hg2
  have hI := Inss.of_own hO2 rfl
  have hgx := gr_then G1.out hg2
  obtain ⟨v3, y, hr, hO, hg⟩ := run_appendP (c := c2) ho hI HN.out hgx.size 82
  have hgg := hgx.andThen hg (fun k hk => .inl (ho.lt k hk).1)
  obtain ⟨A, c, rfl⟩ := slice_of_own hO
  have HLn := Lib.hid (show ([(1, 5, n, 0, 0)] ++ L2 : List In5).length = 1 + L2.length by rw [List.length_append]; rfl)
  rw [← HLn.out] at hO
  have HRn := Lib.hid hr
  have HR := Lib.hid (And.intro hO hgg)
  clear hr hO hg hgg ho hI hgx hO2 hg2 HO1 G1 HN HU
  go_wp2_with (at_builtin; refine Lib.wpList_append_run _ rfl _ _ _ _ rfl _ _ rfl rfl _ _ HRn.out ?_; clear HRn)
  go_ret
  exact ⟨A, c, congrArg (fun k => Ending.returned (.slice A k c)) HLn.out.symm, HR.out.1, HR.out.2⟩
end Go.Proofs.YtdhlmgoodpepeaaGreatDoor

namespace Go.Proofs.YtdhlmgoodpepeaaGreatDoor
set_option maxRecDepth 100000
open Go.RowKit Go.Shelf Go.Sort
set_option linter.unusedVariables false
set_option linter.unusedSimpArgs false

theorem wr_add (p k : Nat) (hp : p ≤ 1000) (hk : k ≤ 100) : wrap64 ((p : Int) + (k : Int)) = (p : Int) + (k : Int) := by unfold wrap64; omega
theorem wr_add2 (p a b c : Nat) (hp : p ≤ 1000) (hk : c ≤ 100) (h : a + b = c) : wrap64 ((p : Int) + (a : Int) + (b : Int)) = (p : Int) + (c : Int) := by subst h; unfold wrap64; omega
theorem wr_sub (n : Int) (h1 : 1 ≤ n) (h2 : n ≤ 65535) : wrap64 (65535 - n) = 65535 - n := by unfold wrap64; omega
theorem wr_mul (n : Int) (h1 : 1 ≤ n) (h2 : n ≤ 65535) : wrap64 (65537 * n) = 65537 * n := by unfold wrap64; omega
theorem ga_pass (p : Nat) (hp : p ≤ 1000) : (gather0 ⟨9, 0⟩).map (shiftI p) = passP (p : Int) := by
  have e0 : wrap64 ((p : Int) + 25) = (p : Int) + 25 := wr_add p 25 hp (by decide)
  have e1 : wrap64 ((p : Int) + 27) = (p : Int) + 27 := wr_add p 27 hp (by decide)
  have e2 : wrap64 ((p : Int) + 8) = (p : Int) + 8 := wr_add p 8 hp (by decide)
  have e3 : wrap64 ((p : Int) + 18) = (p : Int) + 18 := wr_add p 18 hp (by decide)
  have e4 : wrap64 ((p : Int) + 23) = (p : Int) + 23 := wr_add p 23 hp (by decide)
  have e5 : wrap64 ((p : Int) + 29) = (p : Int) + 29 := wr_add p 29 hp (by decide)
  have e6 : wrap64 ((p : Int) + 8 + 9) = (p : Int) + 17 := wr_add2 p 8 9 17 hp (by decide) rfl
  have e7 : wrap64 ((p : Int) + 8 + 7) = (p : Int) + 15 := wr_add2 p 8 7 15 hp (by decide) rfl
  have e8 : wrap64 ((p : Int) + 38) = (p : Int) + 38 := wr_add p 38 hp (by decide)
  have e9 : wrap64 ((p : Int) + 29 + 8) = (p : Int) + 37 := wr_add2 p 29 8 37 hp (by decide) rfl
  have e10 : wrap64 ((p : Int) + 29 + 6) = (p : Int) + 35 := wr_add2 p 29 6 35 hp (by decide) rfl
  have e11 : wrap64 ((p : Int) + 29 + 9) = (p : Int) + 38 := wr_add2 p 29 9 38 hp (by decide) rfl
  simp only [passP, untilP, comeR, lookP, goOnP, changeP, answerP, e0, e1, e2, e3, e4, e5, e6, e7, e8, e9, e10, e11]
  rfl
theorem ga_arr (p : Nat) (hp : p ≤ 1000) : (gather0 ⟨7, 0⟩).map (shiftI p) = arriveP (p : Int) (-1) := by
  have e0 : wrap64 ((p : Int) + 25) = (p : Int) + 25 := wr_add p 25 hp (by decide)
  have e1 : wrap64 ((p : Int) + 27) = (p : Int) + 27 := wr_add p 27 hp (by decide)
  have e2 : wrap64 ((p : Int) + 8) = (p : Int) + 8 := wr_add p 8 hp (by decide)
  have e3 : wrap64 ((p : Int) + 18) = (p : Int) + 18 := wr_add p 18 hp (by decide)
  have e4 : wrap64 ((p : Int) + 23) = (p : Int) + 23 := wr_add p 23 hp (by decide)
  have e5 : wrap64 ((p : Int) + 29) = (p : Int) + 29 := wr_add p 29 hp (by decide)
  have e6 : wrap64 ((p : Int) + 8 + 9) = (p : Int) + 17 := wr_add2 p 8 9 17 hp (by decide) rfl
  have e7 : wrap64 ((p : Int) + 8 + 7) = (p : Int) + 15 := wr_add2 p 8 7 15 hp (by decide) rfl
  have e8 : wrap64 ((p : Int) + 30) = (p : Int) + 30 := wr_add p 30 hp (by decide)
  simp only [arriveP, comeR, lookP, goOnP, changeP, answerP, e0, e1, e2, e3, e4, e5, e6, e7, e8]
  rfl
theorem ga_leave (p : Nat) (hp : p ≤ 1000) : (gather0 ⟨8, 0⟩).map (shiftI p) = arriveP (p : Int) (-65537) := by
  have e0 : wrap64 ((p : Int) + 25) = (p : Int) + 25 := wr_add p 25 hp (by decide)
  have e1 : wrap64 ((p : Int) + 27) = (p : Int) + 27 := wr_add p 27 hp (by decide)
  have e2 : wrap64 ((p : Int) + 8) = (p : Int) + 8 := wr_add p 8 hp (by decide)
  have e3 : wrap64 ((p : Int) + 18) = (p : Int) + 18 := wr_add p 18 hp (by decide)
  have e4 : wrap64 ((p : Int) + 23) = (p : Int) + 23 := wr_add p 23 hp (by decide)
  have e5 : wrap64 ((p : Int) + 29) = (p : Int) + 29 := wr_add p 29 hp (by decide)
  have e6 : wrap64 ((p : Int) + 8 + 9) = (p : Int) + 17 := wr_add2 p 8 9 17 hp (by decide) rfl
  have e7 : wrap64 ((p : Int) + 8 + 7) = (p : Int) + 15 := wr_add2 p 8 7 15 hp (by decide) rfl
  have e8 : wrap64 ((p : Int) + 30) = (p : Int) + 30 := wr_add p 30 hp (by decide)
  simp only [arriveP, comeR, lookP, goOnP, changeP, answerP, e0, e1, e2, e3, e4, e5, e6, e7, e8]
  rfl
theorem ga_watch (p : Nat) (hp : p ≤ 1000) (n : Int) : (gather0 ⟨10, n⟩).map (shiftI p) = watchP (p : Int) n := by
  have e0 : wrap64 ((p : Int) + 1) = (p : Int) + 1 := wr_add p 1 hp (by decide)
  have e1 : wrap64 ((p : Int) + 1 + 8) = (p : Int) + 9 := wr_add2 p 1 8 9 hp (by decide) rfl
  have e2 : wrap64 ((p : Int) + 1 + 6) = (p : Int) + 7 := wr_add2 p 1 6 7 hp (by decide) rfl
  have e3 : wrap64 ((p : Int) + 1 + 9) = (p : Int) + 10 := wr_add2 p 1 9 10 hp (by decide) rfl
  simp only [watchP, untilP, lookP, e0, e1, e2, e3]
  rfl
theorem ga_reg (p : Nat) (hp : p ≤ 1000) (n : Int) (h1 : 1 ≤ n) (h2 : n ≤ 65535) : (gather0 ⟨6, n⟩).map (shiftI p) = (regR (p : Int) n).flatten := by
  have e0 : wrap64 ((p : Int) + 11) = (p : Int) + 11 := wr_add p 11 hp (by decide)
  have e1 : wrap64 ((p : Int) + 13) = (p : Int) + 13 := wr_add p 13 hp (by decide)
  have e2 : wrap64 ((p : Int) + 14) = (p : Int) + 14 := wr_add p 14 hp (by decide)
  have e3 : wrap64 (65535 - n) = 65535 - n := wr_sub n h1 h2
  have e4 : wrap64 (65537 * n) = 65537 * n := wr_mul n h1 h2
  simp only [regR, lookP, changeP, answerP, e0, e1, e2, e3, e4]
  rfl
theorem ga_close (p : Nat) (hp : p ≤ 1000) : (gather0 ⟨11, 0⟩).map (shiftI p) = (closeR (p : Int)).flatten := by
  have e0 : wrap64 ((p : Int) + 9) = (p : Int) + 9 := wr_add p 9 hp (by decide)
  have e1 : wrap64 ((p : Int) + 10) = (p : Int) + 10 := wr_add p 10 hp (by decide)
  simp only [closeR, lookP, changeP, answerP, e0, e1]
  rfl

def encG (c : GC) : Int × Int := ((c.w : Int), c.n)
theorem gr_of {w w' : World} (h : Below w.heap.size w w') : w.grownBy w' none := ⟨h.os, h.tape, h.output, h.size, fun k hk _ => h.block k hk⟩
set_option maxHeartbeats 1000000 in
theorem gacall_6 (p : Nat) (hp : p ≤ 1000) (n : Int) (h1 : 1 ≤ n) (h2 : n ≤ 65535) (w : World) : Calls Tryz.prog 69 #[.agg #[.int .i64 6, .int .i64 n], .int .i64 (p : Nat)] w (CallOf (gatherF.code ⟨6, n⟩ p) w) := by
  have HF := Lib.hid (fun W => fits_yes 6 n W (by unfold fitsC; omega))
  have hL : gatherF.code ⟨6, n⟩ p = (regR ((p : Nat) : Int) n).flatten := ga_reg p hp n h1 h2
  rw [hL]
  have HP := Lib.hid (fun w => gareg_any (p : Nat) n w)
  clear hL hp
  generalize (regR ((p : Nat) : Int) n).flatten = L at *
  go_enter Tryz.func69, Tryz.ntmps69
  go_wp2_with fail
  refine (HF.out _).mono ?_
  rintro e w1 ⟨rfl, hb⟩
  obtain ⟨hc, hf⟩ := bcell hb
  have HG := Lib.hid (gr_al (gr_of hb))
  clear hb HF
  go_wp2_with fail
  refine (HP.out _).mono ?_
  rintro e w2 ⟨A, c, rfl, hO, hg⟩
  have HI := Lib.hid (And.intro (Inss.of_own hO rfl) (gr_then HG.out hg))
  clear hO hg HG HP hc hf
  go_wp2
  go_ret2
  exact ⟨A, c, rfl, HI.out.1, HI.out.2⟩
set_option maxHeartbeats 1000000 in
theorem gacall_7 (p : Nat) (hp : p ≤ 1000) (w : World) : Calls Tryz.prog 69 #[.agg #[.int .i64 7, .int .i64 0], .int .i64 (p : Nat)] w (CallOf (gatherF.code ⟨7, 0⟩ p) w) := by
  have HF := Lib.hid (fun W => fits_yes 7 0 W (by unfold fitsC; omega))
  have hL : gatherF.code ⟨7, 0⟩ p = arriveP (p : Nat) (-1) := ga_arr p hp
  rw [hL]
  have HP := Lib.hid (fun w => gaarr_any (p : Nat) (-1) w)
  clear hL hp
  generalize arriveP (p : Nat) (-1) = L at *
  go_enter Tryz.func69, Tryz.ntmps69
  go_wp2_with fail
  refine (HF.out _).mono ?_
  rintro e w1 ⟨rfl, hb⟩
  obtain ⟨hc, hf⟩ := bcell hb
  have HG := Lib.hid (gr_al (gr_of hb))
  clear hb HF
  go_wp2_with fail
  refine (HP.out _).mono ?_
  rintro e w2 ⟨A, c, rfl, hO, hg⟩
  have HI := Lib.hid (And.intro (Inss.of_own hO rfl) (gr_then HG.out hg))
  clear hO hg HG HP hc hf
  go_wp2
  go_ret2
  exact ⟨A, c, rfl, HI.out.1, HI.out.2⟩
set_option maxHeartbeats 1000000 in
theorem gacall_8 (p : Nat) (hp : p ≤ 1000) (w : World) : Calls Tryz.prog 69 #[.agg #[.int .i64 8, .int .i64 0], .int .i64 (p : Nat)] w (CallOf (gatherF.code ⟨8, 0⟩ p) w) := by
  have HF := Lib.hid (fun W => fits_yes 8 0 W (by unfold fitsC; omega))
  have hL : gatherF.code ⟨8, 0⟩ p = arriveP (p : Nat) (-65537) := ga_leave p hp
  rw [hL]
  have HP := Lib.hid (fun w => gaarr_any (p : Nat) (-65537) w)
  clear hL hp
  generalize arriveP (p : Nat) (-65537) = L at *
  go_enter Tryz.func69, Tryz.ntmps69
  go_wp2_with fail
  refine (HF.out _).mono ?_
  rintro e w1 ⟨rfl, hb⟩
  obtain ⟨hc, hf⟩ := bcell hb
  have HG := Lib.hid (gr_al (gr_of hb))
  clear hb HF
  go_wp2_with fail
  refine (HP.out _).mono ?_
  rintro e w2 ⟨A, c, rfl, hO, hg⟩
  have HI := Lib.hid (And.intro (Inss.of_own hO rfl) (gr_then HG.out hg))
  clear hO hg HG HP hc hf
  go_wp2
  go_ret2
  exact ⟨A, c, rfl, HI.out.1, HI.out.2⟩
set_option maxHeartbeats 1000000 in
theorem gacall_9 (p : Nat) (hp : p ≤ 1000) (w : World) : Calls Tryz.prog 69 #[.agg #[.int .i64 9, .int .i64 0], .int .i64 (p : Nat)] w (CallOf (gatherF.code ⟨9, 0⟩ p) w) := by
  have HF := Lib.hid (fun W => fits_yes 9 0 W (by unfold fitsC; omega))
  have hL : gatherF.code ⟨9, 0⟩ p = passP (p : Nat) := ga_pass p hp
  rw [hL]
  have HP := Lib.hid (fun w => gapass_any (p : Nat) w)
  clear hL hp
  generalize passP (p : Nat) = L at *
  go_enter Tryz.func69, Tryz.ntmps69
  go_wp2_with fail
  refine (HF.out _).mono ?_
  rintro e w1 ⟨rfl, hb⟩
  obtain ⟨hc, hf⟩ := bcell hb
  have HG := Lib.hid (gr_al (gr_of hb))
  clear hb HF
  go_wp2_with fail
  refine (HP.out _).mono ?_
  rintro e w2 ⟨A, c, rfl, hO, hg⟩
  have HI := Lib.hid (And.intro (Inss.of_own hO rfl) (gr_then HG.out hg))
  clear hO hg HG HP hc hf
  go_wp2
  go_ret2
  exact ⟨A, c, rfl, HI.out.1, HI.out.2⟩
set_option maxHeartbeats 1000000 in
theorem gacall_10 (p : Nat) (hp : p ≤ 1000) (n : Int) (h1 : 0 ≤ n) (h2 : n ≤ 2147483647) (w : World) : Calls Tryz.prog 69 #[.agg #[.int .i64 10, .int .i64 n], .int .i64 (p : Nat)] w (CallOf (gatherF.code ⟨10, n⟩ p) w) := by
  have HF := Lib.hid (fun W => fits_yes 10 n W (by unfold fitsC; omega))
  have hL : gatherF.code ⟨10, n⟩ p = watchP (p : Nat) n := ga_watch p hp n
  rw [hL]
  have HP := Lib.hid (fun w => gawatch_any (p : Nat) n w)
  clear hL hp
  generalize watchP (p : Nat) n = L at *
  go_enter Tryz.func69, Tryz.ntmps69
  go_wp2_with fail
  refine (HF.out _).mono ?_
  rintro e w1 ⟨rfl, hb⟩
  obtain ⟨hc, hf⟩ := bcell hb
  have HG := Lib.hid (gr_al (gr_of hb))
  clear hb HF
  go_wp2_with fail
  refine (HP.out _).mono ?_
  rintro e w2 ⟨A, c, rfl, hO, hg⟩
  have HI := Lib.hid (And.intro (Inss.of_own hO rfl) (gr_then HG.out hg))
  clear hO hg HG HP hc hf
  go_wp2
  go_ret2
  exact ⟨A, c, rfl, HI.out.1, HI.out.2⟩
set_option maxHeartbeats 1000000 in
theorem gacall_11 (p : Nat) (hp : p ≤ 1000) (w : World) : Calls Tryz.prog 69 #[.agg #[.int .i64 11, .int .i64 0], .int .i64 (p : Nat)] w (CallOf (gatherF.code ⟨11, 0⟩ p) w) := by
  have HF := Lib.hid (fun W => fits_yes 11 0 W (by unfold fitsC; omega))
  have hL : gatherF.code ⟨11, 0⟩ p = (closeR (p : Nat)).flatten := ga_close p hp
  rw [hL]
  have HP := Lib.hid (fun w => gaclose_any (p : Nat) w)
  clear hL hp
  generalize (closeR (p : Nat)).flatten = L at *
  go_enter Tryz.func69, Tryz.ntmps69
  go_wp2_with fail
  refine (HF.out _).mono ?_
  rintro e w1 ⟨rfl, hb⟩
  obtain ⟨hc, hf⟩ := bcell hb
  have HG := Lib.hid (gr_al (gr_of hb))
  clear hb HF
  go_wp2_with fail
  refine (HP.out _).mono ?_
  rintro e w2 ⟨A, c, rfl, hO, hg⟩
  have HI := Lib.hid (And.intro (Inss.of_own hO rfl) (gr_then HG.out hg))
  clear hO hg HG HP hc hf
  go_wp2
  go_ret2
  exact ⟨A, c, rfl, HI.out.1, HI.out.2⟩
theorem gacall_any (c : GC) (hfit : fitsC (c.w : Int) c.n) (p : Nat) (hp : p ≤ 1000) (w : World) : Calls Tryz.prog 69 #[.agg #[.int .i64 (encG c).1, .int .i64 (encG c).2], .int .i64 (p : Nat)] w (CallOf (gatherF.code c p) w) := by
  obtain ⟨v, n⟩ := c
  have hfit : fitsC (v : Int) n := hfit
  have hv : (v = 6 ∧ 1 ≤ n ∧ n ≤ 65535) ∨ (v = 10 ∧ 0 ≤ n ∧ n ≤ 2147483647) ∨ (v = 7 ∧ n = 0) ∨ (v = 8 ∧ n = 0) ∨ (v = 9 ∧ n = 0) ∨ (v = 11 ∧ n = 0) := by unfold fitsC at hfit; omega
  rcases hv with ⟨rfl, h1, h2⟩ | ⟨rfl, h1, h2⟩ | ⟨rfl, rfl⟩ | ⟨rfl, rfl⟩ | ⟨rfl, rfl⟩ | ⟨rfl, rfl⟩
  · exact gacall_6 p hp n h1 h2 w
  · exact gacall_10 p hp n h1 h2 w
  · exact gacall_7 p hp w
  · exact gacall_8 p hp w
  · exact gacall_9 p hp w
  · exact gacall_11 p hp w
theorem gather_len (c : GC) : gatherF.len c ≤ 40 := by
  show (gather0 c).length ≤ 40
  unfold gather0
  split <;> simp [reg0, come0, until0, close0, over0]
/-- The calls of a thread may be. -/
def FitL (L : List GC) : Prop := ∀ c ∈ L, fitsC (c.w : Int) c.n
set_option maxHeartbeats 1000000 in
theorem gacode_in (L : List GC) (hL : L.length ≤ 12) (hF : FitL L) {w : World} (A : Option Addr) (n cap : Nat) (hR : CRow w w.heap.size A n (L.map encG)) :
    Calls Tryz.prog 36 #[.slice A n cap] w (WholeOf gatherF L w) := by
  have HA := Lib.hid (acodeB_any gatherF encG 69 #[] (enter_ask Tryz.func69 (by kernel_rfl) (by kernel_rfl)) gather_len L hL A n cap hR fun c hc p hp w1 _ => by
    rw [Array.append_empty]
    exact gacall_any c (hF c hc) p hp w1)
  clear hR
  go_enter Tryz.func36, Tryz.ntmps36
  go_wp2_with fail
  refine HA.out.mono ?_
  rintro e w1 ⟨A', c', rfl, ho, hb⟩
  have HO := Lib.hid (And.intro ho hb)
  clear HA ho hb
  go_wp2
  go_ret2
  exact ⟨A', c', rfl, HO.out.1, HO.out.2⟩
set_option maxHeartbeats 1000000 in
theorem gacode_any (L : List GC) (hL : L.length ≤ 12) (hF : FitL L) {w : World} (A : Option Addr) (n cap : Nat) (hR : CRow w w.heap.size A n (L.map encG)) (i : Int) :
    Calls Tryz.prog 16 #[.int .i64 i, .slice A n cap] w (WholeOf gatherF L w) := by
  have HC := Lib.hid (gacode_in L hL hF A n cap hR)
  clear hR
  go_enter Tryz.func16, Tryz.ntmps16
  go_wp2_with fail
  refine HC.out.mono ?_
  rintro e w1 ⟨A', c', rfl, ho, hb⟩
  have HO := Lib.hid (And.intro ho hb)
  clear HC ho hb
  go_wp2
  go_ret2
  exact ⟨A', c', rfl, HO.out.1, HO.out.2⟩
end Go.Proofs.YtdhlmgoodpepeaaGreatDoor

namespace Go.Proofs.YtdhlmgoodpepeaaGreatDoor
set_option maxRecDepth 100000
set_option linter.unusedVariables false
set_option linter.unusedSimpArgs false

theorem ga_over (q : Int) (k N p : Nat) (hq : 0 ≤ q) (hk : (p : Int) + q < N) : ∀ x ∈ over0 q, goodX N (1 : Nat) (shiftI p x) := by
  intro x hx
  simp only [over0, List.mem_cons, List.not_mem_nil, or_false] at hx
  rcases hx with rfl | rfl | rfl
  all_goals (simp [shiftI, goodX, kindsOf, kinds, nums, fitsL, boundsL]; try omega)
theorem ga_until (u k N p : Nat) (hu : u + 9 ≤ k) (h : p + k < N) : ∀ x ∈ until0 (u : Int), goodX N (1 : Nat) (shiftI p x) := by
  intro x hx
  rcases List.mem_append.1 (show x ∈ over0 ((u : Int) + 8) ++ _ from hx) with hx | hx
  · exact ga_over _ k N p (by omega) (by omega) x hx
  · simp only [List.mem_cons, List.not_mem_nil, or_false] at hx
    rcases hx with rfl | rfl | rfl | rfl | rfl | rfl | rfl
    all_goals (simp [shiftI, goodX, kindsOf, kinds, nums, fitsL, boundsL]; try omega)
theorem ga_come (m q : Int) (hm : isInt m) (k N p : Nat) (hq : 0 ≤ q) (hqk : q ≤ k) (hk : 29 ≤ k) (h : p + k < N) : ∀ x ∈ come0 m q, goodX N (1 : Nat) (shiftI p x) := by
  obtain ⟨m1, m2⟩ := hm
  intro x hx
  rcases List.mem_append.1 (show x ∈ over0 25 ++ _ from hx) with hx | hx
  · exact ga_over _ k N p (by omega) (by omega) x hx
  · simp only [List.mem_cons, List.not_mem_nil, or_false] at hx
    rcases hx with rfl | rfl | rfl | rfl | rfl | rfl | rfl | rfl | rfl | rfl | rfl | rfl | rfl | rfl | rfl | rfl | rfl | rfl | rfl | rfl | rfl | rfl | rfl | rfl | rfl | rfl
    all_goals (simp [shiftI, goodX, kindsOf, kinds, nums, fitsL, boundsL]; try omega)
theorem ga_regs (n : Int) (h1 : 1 ≤ n) (h2 : n ≤ 65535) (N p : Nat) (h : p + 15 < N) : ∀ x ∈ reg0 n, goodX N (1 : Nat) (shiftI p x) := by
  intro x hx
  rcases List.mem_append.1 (show x ∈ over0 11 ++ _ from hx) with hx | hx
  · exact ga_over _ 15 N p (by omega) (by omega) x hx
  · simp only [List.mem_cons, List.not_mem_nil, or_false] at hx
    rcases hx with rfl | rfl | rfl | rfl | rfl | rfl | rfl | rfl | rfl | rfl | rfl | rfl
    all_goals (simp [shiftI, goodX, kindsOf, kinds, nums, fitsL, boundsL]; try omega)
theorem ga_closes (N p : Nat) (h : p + 11 < N) : ∀ x ∈ close0, goodX N (1 : Nat) (shiftI p x) := by
  intro x hx
  rcases List.mem_append.1 (show x ∈ over0 9 ++ _ from hx) with hx | hx
  · exact ga_over _ 11 N p (by omega) (by omega) x hx
  · simp only [List.mem_cons, List.not_mem_nil, or_false] at hx
    rcases hx with rfl | rfl | rfl | rfl | rfl | rfl | rfl | rfl
    all_goals (simp [shiftI, goodX, kindsOf, kinds, nums, fitsL, boundsL]; try omega)
theorem ga_one (x : Ins5) (hx : x = (2, 2, 5, 0, 0) ∨ x = (16, 3, 2, 0, 0)) (N p : Nat) : goodX N (1 : Nat) (shiftI p x) := by
  rcases hx with rfl | rfl
  all_goals (simp [shiftI, goodX, kindsOf, kinds, nums, fitsL, boundsL])
theorem gather_ok (c : GC) (hc : fitsC (c.w : Int) c.n) (p N : Nat) (h : p + gatherF.len c < N) : ∀ x ∈ gatherF.code c p, goodX N (1 : Nat) x := by
  intro x hx
  obtain ⟨y, hy, rfl⟩ := List.mem_map.1 (show x ∈ (gather0 c).map (shiftI p) from hx)
  obtain ⟨v, n⟩ := c
  have hfit : fitsC (v : Int) n := hc
  have hv : (v = 6 ∧ 1 ≤ n ∧ n ≤ 65535) ∨ (v = 10 ∧ 0 ≤ n ∧ n ≤ 2147483647) ∨ (v = 7 ∧ n = 0) ∨ (v = 8 ∧ n = 0) ∨ (v = 9 ∧ n = 0) ∨ (v = 11 ∧ n = 0) := by unfold fitsC at hfit; omega
  clear hx hc hfit
  rcases hv with ⟨rfl, h1, h2⟩ | ⟨rfl, h1, h2⟩ | ⟨rfl, rfl⟩ | ⟨rfl, rfl⟩ | ⟨rfl, rfl⟩ | ⟨rfl, rfl⟩
  · exact ga_regs n h1 h2 N p h y hy
  · rcases List.mem_cons.1 (show y ∈ (1, 5, n, 0, 0) :: until0 ((1 : Nat) : Int) from hy) with rfl | hy
    · simp [shiftI, goodX, kindsOf, kinds, nums, fitsL, boundsL]; omega
    · exact ga_until 1 11 N p (by omega) h y hy
  · rcases List.mem_append.1 (show y ∈ come0 (-1) 30 ++ _ from hy) with hy | hy
    · exact ga_come (-1) 30 ⟨by decide, by decide⟩ 31 N p (by omega) (by omega) (by omega) (by have h : p + 31 < N := h; exact h) y hy
    · exact ga_one y (by simpa using hy) N p
  · rcases List.mem_append.1 (show y ∈ come0 (-65537) 30 ++ _ from hy) with hy | hy
    · exact ga_come (-65537) 30 ⟨by decide, by decide⟩ 31 N p (by omega) (by omega) (by omega) (by have h : p + 31 < N := h; exact h) y hy
    · exact ga_one y (by simpa using hy) N p
  · rcases List.mem_append.1 (show y ∈ come0 (-1) 38 ++ until0 ((29 : Nat) : Int) from hy) with hy | hy
    · exact ga_come (-1) 38 ⟨by decide, by decide⟩ 39 N p (by omega) (by omega) (by omega) (by have h : p + 39 < N := h; exact h) y hy
    · exact ga_until 29 39 N p (by omega) (by have h : p + 39 < N := h; exact h) y hy
  · exact ga_closes N p h y hy
theorem pieces_memL {κ : Type} (F : Fam κ) : ∀ (L : List κ) (p : Nat) (x : Ins5), x ∈ piecesK F p L → ∃ c ∈ L, ∃ q, p ≤ q ∧ q + F.len c ≤ p + (L.map F.len).sum ∧ x ∈ F.code c q
  | [], _, _, h => by simp [piecesK] at h
  | d :: L, p, x, h => by
    rcases List.mem_append.1 (show x ∈ F.code d p ++ piecesK F (p + F.len d) L from h) with h | h
    · exact ⟨d, List.mem_cons_self .., p, Nat.le_refl _, by simp only [List.map_cons, List.sum_cons]; omega, h⟩
    · obtain ⟨c, hc, q, h1, h2, h3⟩ := pieces_memL F L _ x h
      exact ⟨c, List.mem_cons_of_mem _ hc, q, by omega, by simp only [List.map_cons, List.sum_cons]; omega, h3⟩
/-- A program of calls that may be each. -/
theorem whole_rightL {κ : Type} (F : Fam κ) (hF : ∀ c, F.len c ≤ 40) (h0 : F.nc ≤ 300) (L : List κ) (hg : ∀ c ∈ L, ∀ (p N : Nat), p + F.len c < N → ∀ x ∈ F.code c p, goodX N F.nc x) (hL : L.length ≤ 12) : RightL (wholeK F L) F.nc := by
  have hl := whole_len F L
  have hfew := piecesK_few F hF L L.length
  have he : offK F L L.length = (L.map F.len).sum := by unfold offK; rw [List.take_length]
  rw [he] at hfew
  refine ⟨by omega, by omega, by omega, by omega, fun i hi => ?_, .inl ?_⟩
  · have hx : (wholeK F L).getD i default ∈ wholeK F L := by
      rw [List.getD_eq_getElem?_getD, List.getElem?_eq_getElem hi]
      exact List.getElem_mem hi
    rcases List.mem_append.1 hx with hx | hx
    · obtain ⟨c, hc, q, h1, h2, h3⟩ := pieces_memL F L 0 _ hx
      exact hg c hc q _ (by omega) _ h3
    · rw [List.mem_singleton.1 hx]
      exact ⟨by show (0 : Int) ≤ 0; decide, by show (0 : Int) < 17; decide, rfl⟩
  · have h1 := wholeK_end (F := F) (l := L)
    rw [he] at h1
    rw [hl, Nat.add_sub_cancel, h1]
end Go.Proofs.YtdhlmgoodpepeaaGreatDoor
