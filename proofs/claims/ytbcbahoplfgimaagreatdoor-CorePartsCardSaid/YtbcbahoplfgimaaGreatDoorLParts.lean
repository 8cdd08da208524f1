/-
  PICK BY PICK.
-/
import Derived.Test.YtbcbahoplfgimaaGreatDoorLSame
import Derived.Test.YtbcbahoplfgimaaGreatDoorRegF
namespace Go.Proofs.YtbcbahoplfgimaaGreatDoor
set_option maxRecDepth 100000
open Go.RowKit Go.Shelf Go.Sort
set_option linter.unusedVariables false
set_option linter.unusedSimpArgs false

/-- Two machines, apart. -/
def Two (w : World) (c d : Nat) (mc md : Mach) (wr : World) : Prop := ∃ Sc Xc Sd Xd, Xc.c = c ∧ Xd.c = d ∧ Core wr w.heap.size Sc Xc mc ∧ Core wr w.heap.size Sd Xd md ∧ (∀ k, Sc k → ¬ Sd k) ∧ Below w.heap.size w wr

theorem Two.symm {w wr : World} {c d : Nat} {mc md : Mach} (h : Two w c d mc md wr) : Two w d c md mc wr := by
  obtain ⟨Sc, Xc, Sd, Xd, e1, e2, h1, h2, h3, h4⟩ := h
  exact ⟨Sd, Xd, Sc, Xc, e2, e1, h2, h1, fun k a b => h3 k b a, h4⟩
theorem Two.left {w wr : World} {c d : Nat} {mc md : Mach} (h : Two w c d mc md wr) : At w c mc wr := by
  obtain ⟨Sc, Xc, Sd, Xd, e1, e2, h1, h2, h3, h4⟩ := h
  exact ⟨Sc, Xc, e1, h1, h4⟩
theorem Two.grow {w wr w' : World} {c d : Nat} {mc md : Mach} (h : Two w c d mc md wr) (hg : wr.grownBy w' none) : Two w c d mc md w' := by
  have hb := (h.left.grow hg).bel
  obtain ⟨Sc, Xc, Sd, Xd, e1, e2, h1, h2, h3, h4⟩ := h
  exact ⟨Sc, Xc, Sd, Xd, e1, e2, h1.grow hg, h2.grow hg, h3, hb⟩
theorem Two.of {w w4 w5 : World} {c d : Nat} {mc md : Mach} (hc : At w c mc w4) (hd : At w4 d md w5) : Two w c d mc md w5 := by
  have hbel := hc.bel.trans (hd.bel.mono hc.size)
  obtain ⟨Sc, Xc, e1, h1, b1⟩ := hc
  obtain ⟨Sd, Xd, e2, h2, b2⟩ := hd
  exact ⟨Sc, Xc, Sd, Xd, e1, e2, h1.below b2 (Nat.le_refl _), h2.lower b1.size, fun k hk hk2 => by have := (h1.slo k hk).2; have := (h2.slo k hk2).1; omega, hbel⟩

theorem two_run {w wr : World} {c d : Nat} {cells0 : List Int} {mc md : Mach} (h : Two w c d mc md wr) (hb : MBig cells0 mc) (A : Option Addr) (n cap : Nat) (l : List Int) (hI : Ints .i64 w w.heap.size A n l) (hl : n ≤ 100000) :
    Calls Tryz.prog 23 #[.pointer (some ⟨c, 0, none⟩), .slice A n cap] wr fun e w' => e = .returned (.int .i64 ((runM 20000 l mc).1 : Int)) ∧ Two w c d (runM 20000 l mc).2 md w' := by
  obtain ⟨Sc, Xc, Sd, Xd, rfl, e2, hC, hD, hdis, hB⟩ := h
  have e := hI.len
  subst e
  refine (krun_any hC hB.size hb A cap l (fun i hi => ?_) hl).mono fun e w' ⟨he, hm⟩ => ⟨he, ?_⟩
  · obtain ⟨b, off, e, hlt, hx⟩ := hI.row (by omega)
    exact ⟨b, off, e, Nat.lt_of_lt_of_le hlt hB.size, fun hs => by have := (hC.slo b hs).1; omega, (World.cell?_of_block (a := ⟨b, off + i, none⟩) (hB.block b hlt)).trans (hx i hi)⟩
  · obtain ⟨S', X', e1, _, hC', hSi, hK⟩ := hm
    refine ⟨S', X', Sd, Xd, e1, e2, hC', hD.keeps hK (fun k a b => hdis k b a), fun k hk hk2 => ?_, hB.trans (below_of_keeps hK (fun k hk => (hC.slo k hk).1) hB.size)⟩
    rcases hSi k hk with h1 | h1
    · exact hdis k h1 hk2
    · have := (hD.slo k hk2).2
      omega

theorem ints_take {k : IntKind} {w : World} {B n : Nat} {A : Option Addr} {l : List Int} (h : Ints k w B A n l) (m : Nat) (hm : m ≤ n) : Ints k w B A m (l.take m) :=
  ⟨by rw [List.length_take, h.len]; omega, fun h0 => by
    obtain ⟨b, off, e, hb, hx⟩ := h.row (by omega)
    refine ⟨b, off, e, hb, fun i hi => ?_⟩
    rw [hx i (by omega), List.getD_eq_getElem?_getD, List.getD_eq_getElem?_getD, List.getElem?_take, if_pos hi]⟩
theorem ints_drop {k : IntKind} {w : World} {B n b off : Nat} {l : List Int} (h : Ints k w B (some ⟨b, off, none⟩) n l) (m : Nat) (hm : m ≤ n) : Ints k w B (some ⟨b, off + m, none⟩) (n - m) (l.drop m) :=
  ⟨by rw [List.length_drop, h.len], fun h0 => by
    obtain ⟨b', off', e, hb, hx⟩ := h.row (by omega)
    injection e with e
    injection e with e1 e2
    subst e1 e2
    refine ⟨b, off + m, rfl, hb, fun i hi => ?_⟩
    rw [Nat.add_assoc, hx (m + i) (by omega), List.getD_eq_getElem?_getD, List.getD_eq_getElem?_getD, List.getElem?_drop]⟩

theorem und_SI : Tryz.prog.underlying 49 = some (.slice (Tryz.prog.elem 49)) := by kernel_rfl
theorem size_SI (w : World) : (sizeOf (Tryz.prog.elem 49)).run Tryz.prog w = .ok 1 w := by kernel_rfl
theorem told_slice_h {o : Oper} {ρ : Operand → Value} (x h : Operand) (ho : o.op = .slice 49 x none (some h) none) {a : Option Addr} {len cap k : Nat} (hx : ρ x = .slice a len cap) (hh : ρ h = .int .i64 (k : Int)) (hk : k ≤ cap) :
    ∀ w, (execOp ρ o).run Tryz.prog w = .ok (.value (.slice (if cap = 0 then a else a.map (·.add (0 * 1))) k cap)) w := by
  intro w
  unfold execOp
  rw [ho]
  simp [hx, hh, run_sliceAt_slice w _ _ _ _ _ und_SI, run_slice_h w _ a len cap und_SI .i64 (k : Int) (by omega) (by omega), size_SI, Result.andThen, sliced]
theorem told_slice_l {o : Oper} {ρ : Operand → Value} (x h : Operand) (ho : o.op = .slice 49 x (some h) none none) {a : Option Addr} {len cap k : Nat} (hx : ρ x = .slice a len cap) (hh : ρ h = .int .i64 (k : Int)) (hk : k ≤ len) :
    ∀ w, (execOp ρ o).run Tryz.prog w = .ok (.value (.slice (if cap = k then a else a.map (·.add (k * 1))) (len - k) (cap - k))) w := by
  intro w
  unfold execOp
  rw [ho]
  simp [hx, hh, run_sliceAt_slice w _ _ _ _ _ und_SI, run_slice_l w _ a len cap und_SI .i64 (k : Int) (by omega) (by omega), size_SI, Result.andThen, sliced]

theorem ints_h {w : World} {B n cap : Nat} {A : Option Addr} {l : List Int} (h : Ints .i64 w B A n l) (hc : n ≤ cap) (k : Nat) (hk : k ≤ n) : Ints .i64 w B (if cap = 0 then A else A.map (·.add (0 * 1))) k (l.take k) := by
  by_cases h0 : n = 0
  · obtain rfl : k = 0 := by omega
    exact ⟨by simp, fun h => absurd h (Nat.lt_irrefl 0)⟩
  · obtain ⟨b, off, rfl, _⟩ := h.row (by omega)
    rw [if_neg (by omega)]
    have e : (some (⟨b, off, none⟩ : Addr)).map (·.add (0 * 1)) = some ⟨b, off, none⟩ := by simp [Addr.add]
    rw [e]
    exact ints_take h k hk
theorem ints_l {w : World} {B n cap : Nat} {A : Option Addr} {l : List Int} (h : Ints .i64 w B A n l) (hc : n ≤ cap) (k : Nat) (hk : k ≤ n) : Ints .i64 w B (if cap = k then A else A.map (·.add (k * 1))) (n - k) (l.drop k) := by
  by_cases h0 : n - k = 0
  · rw [h0]
    exact ⟨by rw [List.length_drop, h.len]; omega, fun h => absurd h (Nat.lt_irrefl 0)⟩
  · obtain ⟨b, off, rfl, _⟩ := h.row (by omega)
    rw [if_neg (by omega)]
    have e : (some (⟨b, off, none⟩ : Addr)).map (·.add (k * 1)) = some ⟨b, off + k, none⟩ := by
      simp only [Option.map_some, Nat.mul_one]
      unfold Addr.add
      by_cases hk0 : k = 0 <;> simp [hk0]
    rw [e]
    exact ints_drop h k hk

set_option maxHeartbeats 4000000 in
theorem coreParts_any {w : World} (hw : CW w) (hg : ErrVar w) (A C P : Option Addr) (n c nc cc np cp : Nat) (ps : List (List Ins5)) (cells xs : List Int) (t : Int) (hn : n ≤ 9223372036854775807)
    (hp : Progs w w.heap.size A n ps) (hc : Ints .u64 w w.heap.size C nc cells) (hcU : ∀ v ∈ cells, okU v) (hx : Ints .i64 w w.heap.size P np xs) (hcap : np ≤ cp) :
    Calls Tryz.prog 5 #[.slice A n c, .slice C nc cc, .slice P np cp, .int .i64 t] w fun e w' => e = .returned (.bool true) ∧ Below w.heap.size w w' := by
  have HG := Lib.hid (gone_any hw)
  have HW := Lib.hid (fun w1 (hb : Below w.heap.size w w1) => written_true w1 (hw.old hb))
  have HF := Lib.hid (fun w1 (hb : Below w.heap.size w w1) => kfits_any (hw.old hb) A C n c nc cc ps (hp.old hb) hn)
  have HBH := Lib.hid (fun w1 (hb : Below w.heap.size w w1) (hf : Fit ps nc) => kbehind_any (hw.old hb) A C none n c nc cc 0 0 ps cells [] (hp.old hb) (hc.old hb) ⟨rfl, fun h => absurd h (Nat.lt_irrefl 0)⟩ hf hcU (by omega))
  have hlen := hp.len
  have hclen := hc.len
  have HBig := Lib.hid (fun (hf : Fit ps nc) => MBig.behind [] (newM_big (cells := cells) (by rw [hclen]; exact hf) hcU))
  have HLN := Lib.hid hlen
  have HCL := Lib.hid hclen
  have HX := Lib.hid hx
  clear hp hc hw hx hcU hlen hclen
  go_enter Tryz.func5, Tryz.ntmps5
  go_wp2_with fail
  refine HG.out.mono ?_
  rintro e w1 ⟨rfl, hb1⟩
  have HB1 := Lib.hid hb1
  clear hb1 HG
  go_wp2_with fail
  refine (HW.out w1 HB1.out).mono ?_
  rintro e w2 ⟨rfl, hb2⟩
  have HB2 := Lib.hid (HB1.out.trans (hb2.mono HB1.out.size))
  clear hb2 HB1 HW
  by_cases h3 : 300 < np
  · have h3' : (300 : Int) < (np : Int) := by omega
    go_wp2
    go_ret
    exact ⟨rfl, HB2.out⟩
  have h3' : ¬ (300 : Int) < (np : Int) := by omega
  have hz3 : decide ((300 : Int) < (np : Int)) = false := by simp; omega
  go_wp2_with fail
  refine (HF.out w2 HB2.out).mono ?_
  rintro e w3 ⟨⟨rfl, hf⟩ | rfl, hb3⟩
  rotate_left
  · have HB3 := Lib.hid (HB2.out.trans (hb3.mono HB2.out.size))
    clear hb3 HB2
    go_wp2
    go_ret
    exact ⟨rfl, HB3.out⟩
  have HB3 := Lib.hid (HB2.out.trans (hb3.mono HB2.out.size))
  have HFit := Lib.hid hf
  clear hb3 HB2 HF hf
  go_wp2_with fail
  refine (pick_det t _ (np + 1) _ (by go_num) (by omega) (by omega)).mono ?_
  rintro e w5 ⟨rfl, rfl⟩
  obtain ⟨tk, htk⟩ := nat_of (pickI_lo t (np + 1))
  have htn := pickI_hi t (np + 1) (by omega)
  rw [htk] at htn ⊢
  clear htk
  go_wp2_with fail
  refine (HBH.out w3 HB3.out HFit.out).mono ?_
  rintro e w4 ⟨b, rfl, hA⟩
  have HA := Lib.hid (hA.old HB3.out)
  clear hA HB3
  go_wp2_with fail
  refine (HBH.out w4 HA.out.bel HFit.out).mono ?_
  rintro e w5 ⟨d, rfl, hA2⟩
  have HT := Lib.hid (Two.of HA.out hA2)
  have HM := Lib.hid (HBig.out HFit.out)
  have HFC := Lib.hid (show cells.length ≤ 300 by have := HFit.out.2.1; rw [HCL.out]; omega)
  clear hA2 HA HBH HBig HFit
  have hm0 : behindM 20000 (newM ps cells) [] = newM ps cells := rfl
  rw [hm0] at HT HM
  have HS0 := Lib.hid (show (newM ps cells).steps = 0 from rfl)
  generalize newM ps cells = m at *
  clear hm0
  go_wp2_with fail
  refine (two_run HT.out HM.out P np cp xs HX.out (by omega)).mono ?_
  rintro e w6 ⟨rfl, hT6⟩
  have HT6 := Lib.hid hT6
  clear hT6 HT
  go_wp2_with fail
  have hmo : (runM 20000 xs m).1 = (runM 20000 (xs.take tk) m).1 + (runM 20000 (xs.drop tk) (runM 20000 (xs.take tk) m).2).1 ∧ (runM 20000 xs m).2 = (runM 20000 (xs.drop tk) (runM 20000 (xs.take tk) m).2).2 := by
    have h := runM_append 20000 (xs.take tk) (xs.drop tk) m
    rw [List.take_append_drop] at h
    rw [h]
    exact ⟨rfl, rfl⟩
  have hst := runM_steps 20000 xs m
  rw [HS0.out] at hst
  have hmx := (HM.out.run xs).most
  obtain ⟨r, hr⟩ : ∃ r, runM 20000 xs m = r := ⟨_, rfl⟩
  have HR1 := Lib.hid (fun x (hx : Two w d b m r.2 x) => two_run hx HM.out _ tk cp (xs.take tk) (ints_h HX.out hcap tk (by omega)) (by omega))
  have HM1 := Lib.hid (HM.out.run (xs.take tk))
  have HMR := Lib.hid (HM.out.run xs)
  rw [hr] at HT6 hmo hst hmx HMR ⊢
  obtain ⟨p, hp⟩ : ∃ p, runM 20000 (xs.take tk) m = p := ⟨_, rfl⟩
  rw [hp] at HR1 HM1 hmo
  have HR2 := Lib.hid (fun x (hx : Two w d b p.2 r.2 x) => two_run hx HM1.out _ (np - tk) (cp - tk) (xs.drop tk) (ints_l HX.out hcap tk (by omega)) (by omega))
  obtain ⟨z, hz⟩ : ∃ p', runM 20000 (xs.drop tk) p.2 = p' := ⟨_, rfl⟩
  rw [hz] at HR2 hmo
  have hw1 : IntKind.i64.wrap ((p.1 : Int) + (z.1 : Int)) = (r.1 : Int) := by rw [IntWalk.i64_left]; unfold wrap64; omega
  rw [← hmo.2] at HR2
  clear hr hp hz HS0
  refine region_begin (by kernel_rfl) (by kernel_rfl) (by kernel_rfl) fun hNS hAP => ?_
  refine any_take [(0, .pointer (some ⟨d, 0, none⟩)), (1, .slice P np cp), (2, .int .i64 (tk : Int))] hNS hAP (by kernel_rfl) (fun d _ _ _ _ h => by cases d <;> exact h) (fun w => by kernel_rfl) ?_
  refine any_told 3 (.slice (if cp = 0 then P else P.map (·.add (0 * 1))) tk cp) rfl hNS hAP (by kernel_rfl) (fun d _ _ _ _ h => by cases d <;> exact h) (by kernel_rfl) (told_slice_h (a := P) (len := np) (cap := cp) (k := tk) (.tmp 49) (.tmp 50) rfl (by kernel_rfl) (by kernel_rfl) (by omega)) ?_
  refine any_take [(5, .pointer (some ⟨d, 0, none⟩)), (6, .slice P np cp), (7, .int .i64 (tk : Int))] hNS hAP (by kernel_rfl) (fun d _ _ _ _ h => by cases d <;> exact h) (fun w => by kernel_rfl) ?_
  refine any_told 8 (.slice (if cp = tk then P else P.map (·.add (tk * 1))) (np - tk) (cp - tk)) rfl hNS hAP (by kernel_rfl) (fun d _ _ _ _ h => by cases d <;> exact h) (by kernel_rfl) (told_slice_l (a := P) (len := np) (cap := cp) (k := tk) (.tmp 54) (.tmp 55) rfl (by kernel_rfl) (by kernel_rfl) (by omega)) ?_
  refine any_call 4 (f := 23) (args := #[.pointer (some ⟨d, 0, none⟩), .slice (if cp = 0 then P else P.map (·.add (0 * 1))) tk cp]) rfl (by kernel_rfl) (by kernel_rfl) (by kernel_rfl) ?_
  refine (HR1.out _ (HT6.out.symm.grow (grown_d (World.grownBy.refl _ none)))).mono ?_
  rintro e x1 ⟨rfl, hx1⟩
  show wpAny _ _ _ _ _ _ _ _
  refine any_call 9 (f := 23) (args := #[.pointer (some ⟨d, 0, none⟩), .slice (if cp = tk then P else P.map (·.add (tk * 1))) (np - tk) (cp - tk)]) rfl (by kernel_rfl) (by kernel_rfl) (by kernel_rfl) ?_
  refine (HR2.out _ hx1).mono ?_
  rintro e x2 ⟨rfl, hx2⟩
  show wpAny _ _ _ _ _ _ _ _
  refine any_told 10 (.int .i64 (r.1 : Int)) rfl hNS hAP (by kernel_rfl) (fun d _ _ _ _ h => by cases d <;> exact h) (by kernel_rfl) (told_as (congrArg (Value.int .i64) hw1) fun w => by kernel_rfl) ?_
  refine any_take [(11, .int .i64 (r.1 : Int))] hNS hAP (by kernel_rfl) (fun d _ _ _ _ h => by cases d <;> exact h) (fun w => by kernel_rfl) ?_
  refine wpAny_done (by kernel_rfl) ?_ _
  refine ‹∀ (a : Act) (w : World), _ → _› _ _ ?_
  refine frame_is (a' := ⟨#[Value.slice A n c, Value.slice C nc cc, .slice P np cp, .int .i64 (tk : Int), undef, undef, undef, undef, Value.bool false, Value.pointer (some { block := b, off := 0 }), .pointer (some ⟨d, 0, none⟩), Value.int IntKind.i64 ↑r.fst, .int .i64 (r.1 : Int), Value.bool true, Value.bool false, Value.bool false, Value.bool true, Value.bool false, Value.bool false, Value.slice P np cp, Value.int IntKind.i64 ↑np, Value.bool false, Value.bool false, Value.slice A n c, Value.slice C nc cc, Value.bool true, Value.bool false, Value.bool false, Value.int IntKind.i64 t, Value.slice P np cp, Value.int IntKind.i64 ↑np, Value.int IntKind.i64 (↑np + 1), Value.int IntKind.i64 ↑tk, Value.slice A n c, Value.slice C nc cc, Value.pointer (some { block := b, off := 0 }), Value.slice A n c, Value.slice C nc cc, Value.pointer (some { block := d, off := 0 }), Value.pointer (some { block := b, off := 0 }), Value.bool false, Value.bool false, Value.pointer (some { block := d, off := 0 }), Value.bool false, Value.bool false, Value.pointer (some { block := b, off := 0 }), Value.slice P np cp, Value.int IntKind.i64 ↑r.fst, .pointer (some ⟨d, 0, none⟩), .slice P np cp, .int .i64 (tk : Int), .slice (if cp = 0 then P else P.map (·.add (0 * 1))) tk cp, .int .i64 (p.1 : Int), .pointer (some ⟨d, 0, none⟩), .slice P np cp, .int .i64 (tk : Int), .slice (if cp = tk then P else P.map (·.add (tk * 1))) (np - tk) (cp - tk), .int .i64 (z.1 : Int), .int .i64 (r.1 : Int), undef, undef, undef, undef, undef, undef, undef, undef, undef, undef, undef, undef, undef, undef, undef, undef, undef, undef, undef, undef, undef, undef, undef, undef, undef, undef, undef, undef, undef, undef], []⟩) (by kernel_rfl) ?_
  generalize (if cp = 0 then P else P.map (·.add (0 * 1))) = E1
  generalize (if cp = tk then P else P.map (·.add (tk * 1))) = E2
  have hT2 := hx2.symm
  have HX2 := Lib.hid hT2
  have hnn : ((r.1 : Int) == (r.1 : Int)) = true := by simp
  have hst' : (((r.1 : Nat) : Int) == (r.2.steps : Int)) = true := by rw [hst]; simp
  have hna : r.2.acts.length ≤ 20000 := Nat.le_trans HMR.out.acts HMR.out.most
  have hne : r.2.events.length ≤ 20000 := Nat.le_trans HMR.out.events HMR.out.most
  have hnc : r.2.cells.length ≤ 300 := by have := HMR.out.ok.lc; have := HFC.out; omega
  clear hx1 hx2 hT2 HT6 HR1 HR2 HM1 hmo hst hmx HX hNS hAP hw1
  generalize r.2 = m2 at *
  generalize r.1 = rn at *
  go_wp2_with fail
  refine (at_steps HX2.out.left).mono ?_
  rintro e w7 ⟨rfl, rfl⟩
  go_wp2_with fail
  refine (at_acts HX2.out.left hna).mono ?_
  rintro e w7 ⟨A1, c1, rfl, ho1, hg7⟩
  have HX7 := Lib.hid (HX2.out.grow hg7)
  have HO1 := Lib.hid ho1
  clear HX2 hg7 ho1
  go_wp2_with fail
  refine (at_acts HX7.out.symm.left hna).mono ?_
  rintro e w8 ⟨A2, c2, rfl, ho2, hg8⟩
  have HX8 := Lib.hid (HX7.out.grow hg8)
  have HEQ := Lib.hid (equalA_same A1 A2 m2.acts.length c1 c2 m2.acts w8 (by omega) (actRow_own (own_grown HO1.out hg8) rfl) (actRow_own ho2 rfl))
  clear HX7 hg8 HO1 ho2
  go_wp2_with fail
  refine HEQ.out.mono ?_
  rintro e w9 ⟨rfl, q9, rfl⟩
  have HX9 := Lib.hid (HX8.out.grow (grown_drewN _ q9))
  clear HX8 HEQ
  generalize w8.drewN q9 = w10 at *
  go_wp2_with fail
  refine (at_events HX9.out.left hne).mono ?_
  rintro e w11 ⟨A3, c3, rfl, ho3, hg11⟩
  have HX11 := Lib.hid (HX9.out.grow hg11)
  have HO3 := Lib.hid ho3
  clear HX9 hg11 ho3
  go_wp2_with fail
  refine (at_events HX11.out.symm.left hne).mono ?_
  rintro e w12 ⟨A4, c4, rfl, ho4, hg12⟩
  have HX12 := Lib.hid (HX11.out.grow hg12)
  have HEQ := Lib.hid (equalE_same A3 A4 m2.events.length c3 c4 m2.events w12 (by omega) (evRow_own (own_grown HO3.out hg12) rfl) (evRow_own ho4 rfl))
  clear HX11 hg12 HO3 ho4
  go_wp2_with fail
  refine HEQ.out.mono ?_
  rintro e w13 ⟨rfl, q13, rfl⟩
  have HX13 := Lib.hid (HX12.out.grow (grown_drewN _ q13))
  clear HX12 HEQ
  generalize w12.drewN q13 = w14 at *
  go_wp2_with fail
  refine (at_cells HX13.out.left hnc).mono ?_
  rintro e w15 ⟨A5, c5, rfl, ho5, hg15⟩
  have HX15 := Lib.hid (HX13.out.grow hg15)
  have HO5 := Lib.hid ho5
  clear HX13 hg15 ho5
  go_wp2_with fail
  refine (at_cells HX15.out.symm.left hnc).mono ?_
  rintro e w16 ⟨A6, c6, rfl, ho6, hg16⟩
  have HX16 := Lib.hid (HX15.out.grow hg16)
  have HEQ := Lib.hid (equalU_same A5 A6 m2.cells.length c5 c6 m2.cells w16 (by omega) _ (Ints.of_own (own_grown HO5.out hg16)) (Ints.of_own ho6))
  clear HX15 hg16 HO5 ho6
  go_wp2_with fail
  refine HEQ.out.mono ?_
  rintro e w17 ⟨rfl, q17, rfl⟩
  have HX17 := Lib.hid (HX16.out.grow (grown_drewN _ q17))
  clear HX16 HEQ
  generalize w16.drewN q17 = w18 at *
  go_wp2
  go_ret
  exact ⟨rfl, HX17.out.left.bel⟩
end Go.Proofs.YtbcbahoplfgimaaGreatDoor
