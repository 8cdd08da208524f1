/-
  What comes of any call, at any state, is the document's.
-/
import Derived.Test.YtdamiplpibacoaaDoorPsRDo
import Derived.Test.YtdamiplpibacoaaDoorBare
import Derived.Deep.RegionWith
import Derived.Deep.DeepCutAuto
namespace Go.Proofs.YtdamiplpibacoaaDoor
set_option maxRecDepth 100000
open Go.RowKit
set_option linter.unusedVariables false
set_option linter.unusedSimpArgs false

theorem rDo_any (o : Bool) (f p q a n : Int) (w : World) (h : Ph.ok ⟨o, f, p, q⟩) (hc : fitsC a n) (ha : a ≠ 9) {o' : Bool} {f' p' q' k : Int} (hx : phNext ⟨o, f, p, q⟩ a n = (⟨o', f', p', q'⟩, k)) :
    Calls Tryd.prog 12 #[.agg #[.bool o, .int .i64 f, .int .i64 p, .int .i64 q], .agg #[.int .i64 a, .int .i64 n]] w fun e w' => e = .returned (.tuple #[.agg #[.bool o', .int .i64 f', .int .i64 p', .int .i64 q'], .int .i64 k, .int .i64 0]) ∧ Below w.heap.size w w' := by
  have h1 : 0 ≤ f ∧ f ≤ 2147483647 := h.1
  have h2 : 0 ≤ p ∧ p ≤ 65535 := h.2.1
  have h3 : 0 ≤ q ∧ q ≤ p := h.2.2
  have h9 : (a == 9) = false := by simp; exact ha
  cases o with
  | true =>
    rw [phNext_over (x := ⟨true, f, p, q⟩) rfl] at hx
    simp only [Prod.mk.injEq, Ph.mk.injEq] at hx
    obtain ⟨⟨rfl, rfl, rfl, rfl⟩, rfl⟩ := hx
    exact rDo_over f p q a n w h hc h9
  | false =>
    rcases id hc with ⟨rfl, h1', h2'⟩ | ⟨rfl, h1', h2'⟩ | ⟨e | e | e | e, rfl⟩
    · by_cases g : 65535 < p + n
      · rw [phNext_full (x := ⟨false, f, p, q⟩) rfl g] at hx
        simp only [Prod.mk.injEq, Ph.mk.injEq] at hx
        obtain ⟨⟨rfl, rfl, rfl, rfl⟩, rfl⟩ := hx
        exact rDo_full f p q n w h hc h9 (by omega) (by omega) h2'
      · rw [phNext_reg (x := ⟨false, f, p, q⟩) rfl g] at hx
        simp only [Prod.mk.injEq, Ph.mk.injEq] at hx
        obtain ⟨⟨rfl, rfl, rfl, rfl⟩, rfl⟩ := hx
        exact rDo_in f p q n w h hc h9 (by omega) (by omega) h2'
    · rw [phNext_watch (x := ⟨false, f, p, q⟩) rfl] at hx
      simp only [Prod.mk.injEq, Ph.mk.injEq] at hx
      obtain ⟨⟨rfl, rfl, rfl, rfl⟩, rfl⟩ := hx
      by_cases g : f = n
      · subst g
        rw [if_pos rfl]
        exact rDo_waits f p q w h hc h9
      · rw [if_neg g]
        exact rDo_watch f p q n w h hc h9 g
    · subst e
      rw [phNext_arrive (x := ⟨false, f, p, q⟩) rfl] at hx
      by_cases g0 : q = 0
      · rw [phArrive_none (x := ⟨false, f, p, q⟩) g0] at hx
        simp only [Prod.mk.injEq, Ph.mk.injEq] at hx
        obtain ⟨⟨rfl, rfl, rfl, rfl⟩, rfl⟩ := hx
        subst g0
        exact rDo_arrive_none f p w h hc h9
      · by_cases g1 : q = 1
        · rw [phArrive_last (x := ⟨false, f, p, q⟩) g1, if_neg (by show ¬ p - 0 = 0; omega)] at hx
          simp only [Prod.mk.injEq, Ph.mk.injEq, Int.sub_zero] at hx
          obtain ⟨⟨rfl, rfl, rfl, rfl⟩, rfl⟩ := hx
          subst g1
          exact rDo_arrive_last f p w h hc h9
        · rw [phArrive_more (x := ⟨false, f, p, q⟩) (by show 2 ≤ q; omega)] at hx
          simp only [Prod.mk.injEq, Ph.mk.injEq, Int.sub_zero] at hx
          obtain ⟨⟨rfl, rfl, rfl, rfl⟩, rfl⟩ := hx
          exact rDo_arrive_more f p q w h hc h9 (by omega)
    · subst e
      rw [phNext_leave (x := ⟨false, f, p, q⟩) rfl] at hx
      by_cases g0 : q = 0
      · rw [phArrive_none (x := ⟨false, f, p, q⟩) g0] at hx
        simp only [Prod.mk.injEq, Ph.mk.injEq] at hx
        obtain ⟨⟨rfl, rfl, rfl, rfl⟩, rfl⟩ := hx
        subst g0
        exact rDo_leave_none f p w h hc h9
      · by_cases g1 : q = 1
        · by_cases g2 : p = 1
          · subst g1 g2
            rw [phArrive_last (x := ⟨false, f, 1, 1⟩) rfl, if_pos (by show (1 : Int) - 1 = 0; decide)] at hx
            simp only [Prod.mk.injEq, Ph.mk.injEq] at hx
            obtain ⟨⟨rfl, rfl, rfl, rfl⟩, rfl⟩ := hx
            exact rDo_leave_end f w h hc h9
          · rw [phArrive_last (x := ⟨false, f, p, q⟩) g1, if_neg (by show ¬ p - 1 = 0; omega)] at hx
            simp only [Prod.mk.injEq, Ph.mk.injEq] at hx
            obtain ⟨⟨rfl, rfl, rfl, rfl⟩, rfl⟩ := hx
            subst g1
            exact rDo_leave_last f p w h hc h9 (by omega)
        · rw [phArrive_more (x := ⟨false, f, p, q⟩) (by show 2 ≤ q; omega)] at hx
          simp only [Prod.mk.injEq, Ph.mk.injEq] at hx
          obtain ⟨⟨rfl, rfl, rfl, rfl⟩, rfl⟩ := hx
          exact rDo_leave_more f p q w h hc h9 (by omega)
    · exact absurd e ha
    · subst e
      rw [phNext_close (x := ⟨false, f, p, q⟩) rfl] at hx
      simp only [Prod.mk.injEq, Ph.mk.injEq] at hx
      obtain ⟨⟨rfl, rfl, rfl, rfl⟩, rfl⟩ := hx
      exact rDo_close f p q w h hc h9
theorem rDo_no (o : Bool) (f p q a n : Int) (w : World) (h : ¬ (Ph.ok ⟨o, f, p, q⟩ ∧ fitsC a n ∧ a ≠ 9)) :
    Calls Tryd.prog 12 #[.agg #[.bool o, .int .i64 f, .int .i64 p, .int .i64 q], .agg #[.int .i64 a, .int .i64 n]] w (NoRDo w) := by
  by_cases h1 : Ph.ok ⟨o, f, p, q⟩
  · by_cases h2 : fitsC a n
    · have h3 : a = 9 := Classical.byContradiction fun h3 => h ⟨h1, h2, h3⟩
      subst h3
      exact rDo_pass o f p q n w h1 h2
    · exact rDo_unfit o f p q a n w h1 h2
  · exact rDo_wrong o f p q a n w h1
/-- 'bare' of what a call gives, and of what the reference gives. -/
theorem bare_nil_b (w : World) : Calls Tryd.prog 9 #[.nilIface, .int .i64 0] w fun e w' => e = .returned (.bool true) ∧ Below w.heap.size w w' := by
  refine (bare_nil w).mono ?_
  rintro e w' ⟨he, rfl⟩
  exact ⟨he, Below.refl _ _⟩
theorem bare_errno_b (k : Int) (w : World) (hg : ErrVar w) : Calls Tryd.prog 9 #[.iface 25 (.int .i64 k), .int .i64 k] w fun e w' => e = .returned (.bool true) ∧ Below w.heap.size w w' := by
  refine (bare_errno k w hg).mono ?_
  rintro e w' ⟨he, hb⟩
  exact ⟨he, (Below.refl _ _).grown hb (Nat.le_refl _) (by intro k hk; cases hk)⟩
theorem errVar_of' {w w' : World} (hg : ErrVar w) (hb : Below w.heap.size w w') : ErrVar w' :=
  (World.cell?_of_block (a := ⟨0, 0, none⟩) (hb.block _ (World.block_lt_of_cell? w _ hg))).trans hg
theorem bothFit (a n : Int) : ∃ b : Bool, (∀ W, Calls Tryd.prog 14 #[.agg #[.int .i64 a, .int .i64 n]] W fun e w' => e = .returned (.bool b) ∧ Below W.heap.size W w') ∧ ∀ W, Calls Tryd.prog 15 #[.agg #[.int .i64 a, .int .i64 n]] W fun e w' => e = .returned (.bool b) ∧ Below W.heap.size W w' := by
  by_cases h : fitsC a n
  · exact ⟨true, fun W => fits_yes a n W h, fun W => rfits_yes a n W h⟩
  · exact ⟨false, fun W => fits_no a n W h, fun W => rfits_no a n W h⟩
set_option maxRecDepth 100000 in
set_option maxHeartbeats 16000000 in
theorem phaserDoes_yes {w : World} (hg : ErrVar w) (o : Bool) (f p q a n : Int) (h : Ph.ok ⟨o, f, p, q⟩ ∧ fitsC a n ∧ a ≠ 9) : Calls Tryd.prog 4 #[.agg #[.bool o, .int .i64 f, .int .i64 p, .int .i64 q], .agg #[.int .i64 a, .int .i64 n]] w fun e w' => e = .returned (.bool true) ∧ Below w.heap.size w w' := by
  obtain ⟨⟨⟨o2, f2, p2, q2⟩, k2⟩, hx⟩ : ∃ x, phNext ⟨o, f, p, q⟩ a n = x := ⟨_, rfl⟩
  have HD1 := Lib.hid (fun W => rDo_any o f p q a n W h.1 h.2.1 h.2.2 hx)
  have HD2 := Lib.hid (fun W => psDo_any o f p q a n W h.1 h.2.1 h.2.2 hx)
  obtain ⟨b, hb1, hb2⟩ := bothFit a n
  have HF1 := Lib.hid hb1
  have HF2 := Lib.hid hb2
  have HG := Lib.hid hg
  clear h hb1 hb2 hg hx
  have HB0 := Lib.hid (((Below.refl w.heap.size w).alloc (Nat.le_refl _) (.cells #[.bool o, .int .i64 f, .int .i64 p, .int .i64 q] 23)).alloc (by simp) (.cells #[.int .i64 a, .int .i64 n] 40))
  have HC0 := Lib.hid (CaAt.new2 w (.cells #[.bool o, .int .i64 f, .int .i64 p, .int .i64 q] 23) a n)
  have HP0 := Lib.hid ((PhAt.new w o f p q).alloc (.cells #[.int .i64 a, .int .i64 n] 40))
  go_enter Tryd.func4, Tryd.ntmps4
  go_wp2_with fail
  refine (HD1.out _).mono ?_
  rintro e w1 ⟨rfl, hb⟩
  have HB1 := Lib.hid (HB0.out.trans (hb.mono HB0.out.size))
  have HP2 := Lib.hid (HP0.out.below hb HP0.out.lt)
  have HP3 := Lib.hid (HC0.out.below hb HC0.out.lt)
  clear hb HB0 HP0 HC0
  obtain ⟨a1c0, a1c1, a1c2, a1c3⟩ := HP2.out.cells
  have a1f := HP2.out.frozen
  have a1l := HP2.out.lt
  obtain ⟨c1c0, c1c1⟩ := HP3.out.cells
  have c1f := HP3.out.frozen
  have c1l := HP3.out.lt
  have ge3 : w.heap.size ≤ w1.heap.size := HB1.out.size
  have near3 : ¬ w.heap.size = w1.heap.size := by have := HP2.out.lt; omega
  have nera3 : ¬ w1.heap.size = w.heap.size := by have := HP2.out.lt; omega
  have necr3 : ¬ w.heap.size + 1 = w1.heap.size := by have := HP3.out.lt; omega
  have nerc3 : ¬ w1.heap.size = w.heap.size + 1 := by have := HP3.out.lt; omega
  have HB4 := Lib.hid (HB1.out.alloc HB1.out.size (.cells #[.bool o2, .int .i64 f2, .int .i64 p2, .int .i64 q2] 23))
  have HP5 := Lib.hid (HP2.out.alloc (.cells #[.bool o2, .int .i64 f2, .int .i64 p2, .int .i64 q2] 23))
  have HP6 := Lib.hid (HP3.out.alloc (.cells #[.bool o2, .int .i64 f2, .int .i64 p2, .int .i64 q2] 23))
  have HP7 := Lib.hid (PhAt.new w1 o2 f2 p2 q2)
  have a1l1 : w.heap.size < w1.heap.size + 1 := by have := HP5.out.lt; omega
  have c1l1 : w.heap.size + 1 < w1.heap.size + 1 := by have := HP6.out.lt; omega
  have r1l1 : w1.heap.size < w1.heap.size + 1 := by have := HP7.out.lt; omega
  go_wp2_with fail
  refine (HD2.out _).mono ?_
  rintro e w2 ⟨rfl, hb⟩
  have HB8 := Lib.hid (HB4.out.trans (hb.mono HB4.out.size))
  have HP9 := Lib.hid (HP6.out.below hb HP6.out.lt)
  have HP10 := Lib.hid (HP7.out.below hb HP7.out.lt)
  clear hb HB4 HP5 HP6 HP7 a1c0 a1c1 a1c2 a1c3 a1f a1l c1c0 c1c1 c1f c1l a1l1 c1l1 r1l1
  obtain ⟨c2c0, c2c1⟩ := HP9.out.cells
  have c2f := HP9.out.frozen
  have c2l := HP9.out.lt
  obtain ⟨r2c0, r2c1, r2c2, r2c3⟩ := HP10.out.cells
  have r2f := HP10.out.frozen
  have r2l := HP10.out.lt
  have ge10 : w.heap.size ≤ w2.heap.size := HB8.out.size
  have necs10 : ¬ w.heap.size + 1 = w2.heap.size := by have := HP9.out.lt; omega
  have nesc10 : ¬ w2.heap.size = w.heap.size + 1 := by have := HP9.out.lt; omega
  have ners10 : ¬ w1.heap.size = w2.heap.size := by have := HP10.out.lt; omega
  have nesr10 : ¬ w2.heap.size = w1.heap.size := by have := HP10.out.lt; omega
  have HB11 := Lib.hid (HB8.out.alloc HB8.out.size (.cells #[.bool o2, .int .i64 f2, .int .i64 p2, .int .i64 q2] 23))
  have HP12 := Lib.hid (HP9.out.alloc (.cells #[.bool o2, .int .i64 f2, .int .i64 p2, .int .i64 q2] 23))
  have HP13 := Lib.hid (HP10.out.alloc (.cells #[.bool o2, .int .i64 f2, .int .i64 p2, .int .i64 q2] 23))
  have HP14 := Lib.hid (PhAt.new w2 o2 f2 p2 q2)
  have c2l1 : w.heap.size + 1 < w2.heap.size + 1 := by have := HP12.out.lt; omega
  have r2l1 : w1.heap.size < w2.heap.size + 1 := by have := HP13.out.lt; omega
  have s2l1 : w2.heap.size < w2.heap.size + 1 := by have := HP14.out.lt; omega
  go_upto_region 3 with (fail)
  obtain ⟨X, hX⟩ : ∃ X, (w2.alloc (.cells #[.bool o2, .int .i64 f2, .int .i64 p2, .int .i64 q2] 23)) = X := ⟨_, rfl⟩
  rw [hX]
  rw [hX] at HB11 HP12 HP13 HP14
  clear hX c2c0 c2c1 c2f c2l r2c0 r2c1 r2c2 r2c3 r2f r2l c2l1 r2l1 s2l1
  have HG0 := Lib.hid (errVar_of' HG.out (show Below w.heap.size w X from HB11.out))
  obtain ⟨c0c0, c0c1⟩ := HP12.out.cells
  obtain ⟨r0c0, r0c1, r0c2, r0c3⟩ := HP13.out.cells
  obtain ⟨s0c0, s0c1, s0c2, s0c3⟩ := HP14.out.cells
  have l0c : w.heap.size + 1 < X.heap.size := HP12.out.lt
  have HGd := Lib.hid (show ErrVar X.drew from HG0.out)
  have HBare := Lib.hid (fun W => bare_nil_b W)
  have hbb : (b == b) = true := by simp
  --MA
  go_region_with (first | (go_at_call 9; (with_reducible refine (HBare.out _).mono ?_); rintro e v1 ⟨rfl, hb⟩; have hb2 : Below X.heap.size X v1 := ⟨hb.os, hb.tape, hb.output, hb.size, hb.block⟩; have HBv1 := Lib.hid (HB11.out.trans (hb2.mono HB11.out.size)); have Hcv1 := Lib.hid (HP12.out.below hb2 HP12.out.lt); have Hrv1 := Lib.hid (HP13.out.below hb2 HP13.out.lt); have Hsv1 := Lib.hid (HP14.out.below hb2 HP14.out.lt); obtain ⟨c1c0, c1c1⟩ := Hcv1.out.cells; obtain ⟨r1c0, r1c1, r1c2, r1c3⟩ := Hrv1.out.cells; obtain ⟨s1c0, s1c1, s1c2, s1c3⟩ := Hsv1.out.cells; clear hb hb2) | (go_at_call 14; (with_reducible refine (HF1.out _).mono ?_); rintro e v2 ⟨rfl, hb⟩; have hb2 : Below v1.heap.size v1 v2 := ⟨hb.os, hb.tape, hb.output, hb.size, hb.block⟩; have HBv2 := Lib.hid (HBv1.out.trans (hb2.mono HBv1.out.size)); have Hcv2 := Lib.hid (Hcv1.out.below hb2 Hcv1.out.lt); have Hrv2 := Lib.hid (Hrv1.out.below hb2 Hrv1.out.lt); have Hsv2 := Lib.hid (Hsv1.out.below hb2 Hsv1.out.lt); obtain ⟨c2c0, c2c1⟩ := Hcv2.out.cells; obtain ⟨r2c0, r2c1, r2c2, r2c3⟩ := Hrv2.out.cells; obtain ⟨s2c0, s2c1, s2c2, s2c3⟩ := Hsv2.out.cells; clear hb hb2) | (go_at_call 15; (with_reducible refine (HF2.out _).mono ?_); rintro e v3 ⟨rfl, hb⟩; have hb2 : Below v2.heap.size v2 v3 := ⟨hb.os, hb.tape, hb.output, hb.size, hb.block⟩; have HBv3 := Lib.hid (HBv2.out.trans (hb2.mono HBv2.out.size)); have Hcv3 := Lib.hid (Hcv2.out.below hb2 Hcv2.out.lt); have Hrv3 := Lib.hid (Hrv2.out.below hb2 Hrv2.out.lt); have Hsv3 := Lib.hid (Hsv2.out.below hb2 Hsv2.out.lt); obtain ⟨c3c0, c3c1⟩ := Hcv3.out.cells; obtain ⟨r3c0, r3c1, r3c2, r3c3⟩ := Hrv3.out.cells; obtain ⟨s3c0, s3c1, s3c2, s3c3⟩ := Hsv3.out.cells; clear hb hb2))
  --MB
  all_goals
    go_wp2
    go_ret
    exact ⟨rfl, HBv3.out⟩
set_option maxRecDepth 100000 in
set_option maxHeartbeats 16000000 in
theorem phaserDoes_no {w : World} (hg : ErrVar w) (o : Bool) (f p q a n : Int) (h : ¬ (Ph.ok ⟨o, f, p, q⟩ ∧ fitsC a n ∧ a ≠ 9)) : Calls Tryd.prog 4 #[.agg #[.bool o, .int .i64 f, .int .i64 p, .int .i64 q], .agg #[.int .i64 a, .int .i64 n]] w fun e w' => e = .returned (.bool true) ∧ Below w.heap.size w w' := by
  have HD1 := Lib.hid (fun W => rDo_no o f p q a n W h)
  have HD2 := Lib.hid (fun W => psDo_no o f p q a n W h)
  obtain ⟨b, hb1, hb2⟩ := bothFit a n
  have HF1 := Lib.hid hb1
  have HF2 := Lib.hid hb2
  have HG := Lib.hid hg
  clear h hb1 hb2 hg
  have HB0 := Lib.hid (((Below.refl w.heap.size w).alloc (Nat.le_refl _) (.cells #[.bool o, .int .i64 f, .int .i64 p, .int .i64 q] 23)).alloc (by simp) (.cells #[.int .i64 a, .int .i64 n] 40))
  have HC0 := Lib.hid (CaAt.new2 w (.cells #[.bool o, .int .i64 f, .int .i64 p, .int .i64 q] 23) a n)
  have HP0 := Lib.hid ((PhAt.new w o f p q).alloc (.cells #[.int .i64 a, .int .i64 n] 40))
  go_enter Tryd.func4, Tryd.ntmps4
  go_wp2_with fail
  refine (HD1.out _).mono ?_
  rintro e w1 ⟨rfl, hb⟩
  have HB1 := Lib.hid (HB0.out.trans (hb.mono HB0.out.size))
  have HP2 := Lib.hid (HP0.out.below hb HP0.out.lt)
  have HP3 := Lib.hid (HC0.out.below hb HC0.out.lt)
  clear hb HB0 HP0 HC0
  obtain ⟨a1c0, a1c1, a1c2, a1c3⟩ := HP2.out.cells
  have a1f := HP2.out.frozen
  have a1l := HP2.out.lt
  obtain ⟨c1c0, c1c1⟩ := HP3.out.cells
  have c1f := HP3.out.frozen
  have c1l := HP3.out.lt
  have ge3 : w.heap.size ≤ w1.heap.size := HB1.out.size
  have near3 : ¬ w.heap.size = w1.heap.size := by have := HP2.out.lt; omega
  have nera3 : ¬ w1.heap.size = w.heap.size := by have := HP2.out.lt; omega
  have necr3 : ¬ w.heap.size + 1 = w1.heap.size := by have := HP3.out.lt; omega
  have nerc3 : ¬ w1.heap.size = w.heap.size + 1 := by have := HP3.out.lt; omega
  have HB4 := Lib.hid (HB1.out.alloc HB1.out.size (.cells #[.bool false, .int .i64 0, .int .i64 0, .int .i64 0] 23))
  have HP5 := Lib.hid (HP2.out.alloc (.cells #[.bool false, .int .i64 0, .int .i64 0, .int .i64 0] 23))
  have HP6 := Lib.hid (HP3.out.alloc (.cells #[.bool false, .int .i64 0, .int .i64 0, .int .i64 0] 23))
  have HP7 := Lib.hid (PhAt.new w1 false 0 0 0)
  have a1l1 : w.heap.size < w1.heap.size + 1 := by have := HP5.out.lt; omega
  have c1l1 : w.heap.size + 1 < w1.heap.size + 1 := by have := HP6.out.lt; omega
  have r1l1 : w1.heap.size < w1.heap.size + 1 := by have := HP7.out.lt; omega
  go_wp2_with fail
  refine (HD2.out _).mono ?_
  rintro e w2 ⟨rfl, hb⟩
  have HB8 := Lib.hid (HB4.out.trans (hb.mono HB4.out.size))
  have HP9 := Lib.hid (HP6.out.below hb HP6.out.lt)
  have HP10 := Lib.hid (HP7.out.below hb HP7.out.lt)
  clear hb HB4 HP5 HP6 HP7 a1c0 a1c1 a1c2 a1c3 a1f a1l c1c0 c1c1 c1f c1l a1l1 c1l1 r1l1
  obtain ⟨c2c0, c2c1⟩ := HP9.out.cells
  have c2f := HP9.out.frozen
  have c2l := HP9.out.lt
  obtain ⟨r2c0, r2c1, r2c2, r2c3⟩ := HP10.out.cells
  have r2f := HP10.out.frozen
  have r2l := HP10.out.lt
  have ge10 : w.heap.size ≤ w2.heap.size := HB8.out.size
  have necs10 : ¬ w.heap.size + 1 = w2.heap.size := by have := HP9.out.lt; omega
  have nesc10 : ¬ w2.heap.size = w.heap.size + 1 := by have := HP9.out.lt; omega
  have ners10 : ¬ w1.heap.size = w2.heap.size := by have := HP10.out.lt; omega
  have nesr10 : ¬ w2.heap.size = w1.heap.size := by have := HP10.out.lt; omega
  have HB11 := Lib.hid (HB8.out.alloc HB8.out.size (.cells #[.bool false, .int .i64 0, .int .i64 0, .int .i64 0] 23))
  have HP12 := Lib.hid (HP9.out.alloc (.cells #[.bool false, .int .i64 0, .int .i64 0, .int .i64 0] 23))
  have HP13 := Lib.hid (HP10.out.alloc (.cells #[.bool false, .int .i64 0, .int .i64 0, .int .i64 0] 23))
  have HP14 := Lib.hid (PhAt.new w2 false 0 0 0)
  have c2l1 : w.heap.size + 1 < w2.heap.size + 1 := by have := HP12.out.lt; omega
  have r2l1 : w1.heap.size < w2.heap.size + 1 := by have := HP13.out.lt; omega
  have s2l1 : w2.heap.size < w2.heap.size + 1 := by have := HP14.out.lt; omega
  go_upto_region 3 with (fail)
  obtain ⟨X, hX⟩ : ∃ X, (w2.alloc (.cells #[.bool false, .int .i64 0, .int .i64 0, .int .i64 0] 23)) = X := ⟨_, rfl⟩
  rw [hX]
  rw [hX] at HB11 HP12 HP13 HP14
  clear hX c2c0 c2c1 c2f c2l r2c0 r2c1 r2c2 r2c3 r2f r2l c2l1 r2l1 s2l1
  have HG0 := Lib.hid (errVar_of' HG.out (show Below w.heap.size w X from HB11.out))
  obtain ⟨c0c0, c0c1⟩ := HP12.out.cells
  obtain ⟨r0c0, r0c1, r0c2, r0c3⟩ := HP13.out.cells
  obtain ⟨s0c0, s0c1, s0c2, s0c3⟩ := HP14.out.cells
  have l0c : w.heap.size + 1 < X.heap.size := HP12.out.lt
  have HGd := Lib.hid (show ErrVar X.drew from HG0.out)
  have HBare := Lib.hid (fun W => bare_errno_b 1 W)
  have hbb : (b == b) = true := by simp
  --MA
  go_region_with (first | (go_at_call 9; (with_reducible refine (HBare.out _ HGd.out).mono ?_); rintro e v1 ⟨rfl, hb⟩; have hb2 : Below X.heap.size X v1 := ⟨hb.os, hb.tape, hb.output, hb.size, hb.block⟩; have HBv1 := Lib.hid (HB11.out.trans (hb2.mono HB11.out.size)); have Hcv1 := Lib.hid (HP12.out.below hb2 HP12.out.lt); have Hrv1 := Lib.hid (HP13.out.below hb2 HP13.out.lt); have Hsv1 := Lib.hid (HP14.out.below hb2 HP14.out.lt); obtain ⟨c1c0, c1c1⟩ := Hcv1.out.cells; obtain ⟨r1c0, r1c1, r1c2, r1c3⟩ := Hrv1.out.cells; obtain ⟨s1c0, s1c1, s1c2, s1c3⟩ := Hsv1.out.cells; clear hb hb2) | (go_at_call 14; (with_reducible refine (HF1.out _).mono ?_); rintro e v2 ⟨rfl, hb⟩; have hb2 : Below v1.heap.size v1 v2 := ⟨hb.os, hb.tape, hb.output, hb.size, hb.block⟩; have HBv2 := Lib.hid (HBv1.out.trans (hb2.mono HBv1.out.size)); have Hcv2 := Lib.hid (Hcv1.out.below hb2 Hcv1.out.lt); have Hrv2 := Lib.hid (Hrv1.out.below hb2 Hrv1.out.lt); have Hsv2 := Lib.hid (Hsv1.out.below hb2 Hsv1.out.lt); obtain ⟨c2c0, c2c1⟩ := Hcv2.out.cells; obtain ⟨r2c0, r2c1, r2c2, r2c3⟩ := Hrv2.out.cells; obtain ⟨s2c0, s2c1, s2c2, s2c3⟩ := Hsv2.out.cells; clear hb hb2) | (go_at_call 15; (with_reducible refine (HF2.out _).mono ?_); rintro e v3 ⟨rfl, hb⟩; have hb2 : Below v2.heap.size v2 v3 := ⟨hb.os, hb.tape, hb.output, hb.size, hb.block⟩; have HBv3 := Lib.hid (HBv2.out.trans (hb2.mono HBv2.out.size)); have Hcv3 := Lib.hid (Hcv2.out.below hb2 Hcv2.out.lt); have Hrv3 := Lib.hid (Hrv2.out.below hb2 Hrv2.out.lt); have Hsv3 := Lib.hid (Hsv2.out.below hb2 Hsv2.out.lt); obtain ⟨c3c0, c3c1⟩ := Hcv3.out.cells; obtain ⟨r3c0, r3c1, r3c2, r3c3⟩ := Hrv3.out.cells; obtain ⟨s3c0, s3c1, s3c2, s3c3⟩ := Hsv3.out.cells; clear hb hb2))
  --MB
  all_goals
    go_wp2
    go_ret
    exact ⟨rfl, HBv3.out⟩
theorem phaserDoes_any {w : World} (hg : ErrVar w) (o : Bool) (f p q a n : Int) : Calls Tryd.prog 4 #[.agg #[.bool o, .int .i64 f, .int .i64 p, .int .i64 q], .agg #[.int .i64 a, .int .i64 n]] w fun e w' => e = .returned (.bool true) ∧ Below w.heap.size w w' := by
  by_cases h : Ph.ok ⟨o, f, p, q⟩ ∧ fitsC a n ∧ a ≠ 9
  · exact phaserDoes_yes hg o f p q a n h
  · exact phaserDoes_no hg o f p q a n h
end Go.Proofs.YtdamiplpibacoaaDoor
