/-
  The reference's Do: what comes of a call.
-/
import Derived.Test.YtdamiplpibacoaaDoorPsRef
namespace Go.Proofs.YtdamiplpibacoaaDoor
set_option maxRecDepth 100000
open Go.RowKit
set_option linter.unusedVariables false
set_option linter.unusedSimpArgs false

/-- What may not be so, by the reference. -/
def NoRDo (w : World) (e : Ending) (w' : World) : Prop := e = .returned (.tuple #[.agg #[.bool false, .int .i64 0, .int .i64 0, .int .i64 0], .int .i64 0, .int .i64 1]) ∧ Below w.heap.size w w'
set_option maxRecDepth 100000 in
set_option maxHeartbeats 4000000 in
theorem rDo_wrong (o : Bool) (f p q a n : Int) (w : World) (h : ¬ Ph.ok ⟨o, f, p, q⟩) : Calls Tryd.prog 12 #[.agg #[.bool o, .int .i64 f, .int .i64 p, .int .i64 q], .agg #[.int .i64 a, .int .i64 n]] w (NoRDo w) := by
  have HR := Lib.hid (fun W => rRight_no o f p q W h)
  clear h
  have HN := Lib.hid (nextW_facts w o f p q a n)
  go_enter Tryd.func12, Tryd.ntmps12
  go_wp2_with fail
  refine (HR.out _).mono ?_
  rintro e w1 ⟨rfl, hb⟩
  have HB0 := Lib.hid (HN.out.1.trans (hb.mono HN.out.1.size))
  have HP0 := Lib.hid (HN.out.2.1.below hb HN.out.2.1.lt)
  have HC0 := Lib.hid (HN.out.2.2.1.below hb HN.out.2.2.1.lt)
  have HT0 := Lib.hid (HN.out.2.2.2.1.below hb HN.out.2.2.2.1.lt)
  have HB := HB0
  have HT := HT0
  obtain ⟨d0, d1, d2, d3⟩ := HT.out.cells
  have df := HT.out.frozen
  clear hb HR HN HB0 HT0 HP0 HC0
  go_wp2
  exact bodyPost_ret (PhAt.res3 (fn := Tryd.f12) (p0 := 4) (u := 5) (x := 6) (v := .int .i64 0) (y := .int .i64 1) (HT.out.set4 false 0 0 0) (by kernel_rfl) _ (by rfl) (by rfl) (by rfl)) rfl ⟨rfl, below4 HB.out (by omega) false 0 0 0⟩
set_option maxRecDepth 100000 in
set_option maxHeartbeats 4000000 in
theorem rDo_unfit (o : Bool) (f p q a n : Int) (w : World) (h : Ph.ok ⟨o, f, p, q⟩) (hc : ¬ fitsC a n) : Calls Tryd.prog 12 #[.agg #[.bool o, .int .i64 f, .int .i64 p, .int .i64 q], .agg #[.int .i64 a, .int .i64 n]] w (NoRDo w) := by
  have HR := Lib.hid (fun W => rRight_yes o f p q W h)
  have HF := Lib.hid (fun W => rfits_no a n W hc)
  clear h hc
  have HN := Lib.hid (nextW_facts w o f p q a n)
  go_enter Tryd.func12, Tryd.ntmps12
  go_wp2_with fail
  refine (HR.out _).mono ?_
  rintro e w1 ⟨rfl, hb⟩
  have HB0 := Lib.hid (HN.out.1.trans (hb.mono HN.out.1.size))
  have HP0 := Lib.hid (HN.out.2.1.below hb HN.out.2.1.lt)
  have HC0 := Lib.hid (HN.out.2.2.1.below hb HN.out.2.2.1.lt)
  have HT0 := Lib.hid (HN.out.2.2.2.1.below hb HN.out.2.2.2.1.lt)
  obtain ⟨c0, c1⟩ := HC0.out.cells
  clear hb HR HN
  go_wp2_with fail
  refine (HF.out _).mono ?_
  rintro e w2 ⟨rfl, hb⟩
  have HB := Lib.hid (HB0.out.trans (hb.mono HB0.out.size))
  have HP := Lib.hid (HP0.out.below hb HP0.out.lt)
  have HC := Lib.hid (HC0.out.below hb HC0.out.lt)
  have HT := Lib.hid (HT0.out.below hb HT0.out.lt)
  clear c0 c1
  obtain ⟨p0, p1, p2, p3⟩ := HP.out.cells
  obtain ⟨c0, c1⟩ := HC.out.cells
  obtain ⟨d0, d1, d2, d3⟩ := HT.out.cells
  have df := HT.out.frozen
  have pl := HP.out.lt
  have cl := HC.out.lt
  have tl := HT.out.lt
  have pl1 : w.heap.size < w2.heap.size + 1 := by omega
  have cl1 : w.heap.size + 1 < w2.heap.size + 1 := by omega
  have tl1 : w.heap.size + 1 + 1 < w2.heap.size + 1 := by omega
  have ne1 : ¬ w.heap.size = w2.heap.size := by omega
  have ne2 : ¬ w2.heap.size = w.heap.size := by omega
  have ne3 : ¬ w.heap.size + 1 + 1 = w2.heap.size := by omega
  have ne4 : ¬ w2.heap.size = w.heap.size + 1 + 1 := by omega
  have ne5 : ¬ w.heap.size + 1 = w2.heap.size := by omega
  have ne6 : ¬ w2.heap.size = w.heap.size + 1 := by omega
  clear hb HF HB0 HP0 HC0 HT0
  go_wp2
  exact bodyPost_ret (PhAt.res3 (fn := Tryd.f12) (p0 := 4) (u := 5) (x := 6) (v := .int .i64 0) (y := .int .i64 1) (HT.out.set4 false 0 0 0) (by kernel_rfl) _ (by rfl) (by rfl) (by rfl)) rfl ⟨rfl, below4 HB.out (by omega) false 0 0 0⟩
set_option maxRecDepth 100000 in
set_option maxHeartbeats 4000000 in
theorem rDo_pass (o : Bool) (f p q n : Int) (w : World) (h : Ph.ok ⟨o, f, p, q⟩) (hc : fitsC 9 n) : Calls Tryd.prog 12 #[.agg #[.bool o, .int .i64 f, .int .i64 p, .int .i64 q], .agg #[.int .i64 9, .int .i64 n]] w (NoRDo w) := by
  have HR := Lib.hid (fun W => rRight_yes o f p q W h)
  have HF := Lib.hid (fun W => rfits_yes 9 n W hc)
  clear h hc
  have HN := Lib.hid (nextW_facts w o f p q 9 n)
  go_enter Tryd.func12, Tryd.ntmps12
  go_wp2_with fail
  refine (HR.out _).mono ?_
  rintro e w1 ⟨rfl, hb⟩
  have HB0 := Lib.hid (HN.out.1.trans (hb.mono HN.out.1.size))
  have HP0 := Lib.hid (HN.out.2.1.below hb HN.out.2.1.lt)
  have HC0 := Lib.hid (HN.out.2.2.1.below hb HN.out.2.2.1.lt)
  have HT0 := Lib.hid (HN.out.2.2.2.1.below hb HN.out.2.2.2.1.lt)
  obtain ⟨c0, c1⟩ := HC0.out.cells
  clear hb HR HN
  go_wp2_with fail
  refine (HF.out _).mono ?_
  rintro e w2 ⟨rfl, hb⟩
  have HB := Lib.hid (HB0.out.trans (hb.mono HB0.out.size))
  have HP := Lib.hid (HP0.out.below hb HP0.out.lt)
  have HC := Lib.hid (HC0.out.below hb HC0.out.lt)
  have HT := Lib.hid (HT0.out.below hb HT0.out.lt)
  clear c0 c1
  obtain ⟨p0, p1, p2, p3⟩ := HP.out.cells
  obtain ⟨c0, c1⟩ := HC.out.cells
  obtain ⟨d0, d1, d2, d3⟩ := HT.out.cells
  have df := HT.out.frozen
  have pl := HP.out.lt
  have cl := HC.out.lt
  have tl := HT.out.lt
  have pl1 : w.heap.size < w2.heap.size + 1 := by omega
  have cl1 : w.heap.size + 1 < w2.heap.size + 1 := by omega
  have tl1 : w.heap.size + 1 + 1 < w2.heap.size + 1 := by omega
  have ne1 : ¬ w.heap.size = w2.heap.size := by omega
  have ne2 : ¬ w2.heap.size = w.heap.size := by omega
  have ne3 : ¬ w.heap.size + 1 + 1 = w2.heap.size := by omega
  have ne4 : ¬ w2.heap.size = w.heap.size + 1 + 1 := by omega
  have ne5 : ¬ w.heap.size + 1 = w2.heap.size := by omega
  have ne6 : ¬ w2.heap.size = w.heap.size + 1 := by omega
  clear hb HF HB0 HP0 HC0 HT0
  go_wp2
  exact bodyPost_ret (PhAt.res3 (fn := Tryd.f12) (p0 := 4) (u := 5) (x := 6) (v := .int .i64 0) (y := .int .i64 1) (HT.out.set4 false 0 0 0) (by kernel_rfl) _ (by rfl) (by rfl) (by rfl)) rfl ⟨rfl, below4 HB.out (by omega) false 0 0 0⟩
set_option maxRecDepth 100000 in
set_option maxHeartbeats 8000000 in
theorem rDo_over (f p q a n : Int) (w : World) (h : Ph.ok ⟨true, f, p, q⟩) (hc : fitsC a n) (ha : ((a : Int) == 9) = false)  : Calls Tryd.prog 12 #[.agg #[.bool true, .int .i64 f, .int .i64 p, .int .i64 q], .agg #[.int .i64 a, .int .i64 n]] w fun e w' => e = .returned (.tuple #[.agg #[.bool true, .int .i64 f, .int .i64 p, .int .i64 q], .int .i64 (-1), .int .i64 0]) ∧ Below w.heap.size w w' := by
  have HR := Lib.hid (fun W => rRight_yes true f p q W h)
  have HF := Lib.hid (fun W => rfits_yes a n W hc)
  have H9 := Lib.hid ha
  clear h hc ha
  have HN := Lib.hid (nextW_facts w true f p q a n)
  go_enter Tryd.func12, Tryd.ntmps12
  go_wp2_with fail
  refine (HR.out _).mono ?_
  rintro e w1 ⟨rfl, hb⟩
  have HB0 := Lib.hid (HN.out.1.trans (hb.mono HN.out.1.size))
  have HP0 := Lib.hid (HN.out.2.1.below hb HN.out.2.1.lt)
  have HC0 := Lib.hid (HN.out.2.2.1.below hb HN.out.2.2.1.lt)
  have HT0 := Lib.hid (HN.out.2.2.2.1.below hb HN.out.2.2.2.1.lt)
  obtain ⟨c0, c1⟩ := HC0.out.cells
  clear hb HR HN
  go_wp2_with fail
  refine (HF.out _).mono ?_
  rintro e w2 ⟨rfl, hb⟩
  have HB := Lib.hid (HB0.out.trans (hb.mono HB0.out.size))
  have HP := Lib.hid (HP0.out.below hb HP0.out.lt)
  have HC := Lib.hid (HC0.out.below hb HC0.out.lt)
  have HT := Lib.hid (HT0.out.below hb HT0.out.lt)
  clear c0 c1
  obtain ⟨p0, p1, p2, p3⟩ := HP.out.cells
  obtain ⟨c0, c1⟩ := HC.out.cells
  obtain ⟨d0, d1, d2, d3⟩ := HT.out.cells
  have df := HT.out.frozen
  have pl := HP.out.lt
  have cl := HC.out.lt
  have tl := HT.out.lt
  have pl1 : w.heap.size < w2.heap.size + 1 := by omega
  have cl1 : w.heap.size + 1 < w2.heap.size + 1 := by omega
  have tl1 : w.heap.size + 1 + 1 < w2.heap.size + 1 := by omega
  have ne1 : ¬ w.heap.size = w2.heap.size := by omega
  have ne2 : ¬ w2.heap.size = w.heap.size := by omega
  have ne3 : ¬ w.heap.size + 1 + 1 = w2.heap.size := by omega
  have ne4 : ¬ w2.heap.size = w.heap.size + 1 + 1 := by omega
  have ne5 : ¬ w.heap.size + 1 = w2.heap.size := by omega
  have ne6 : ¬ w2.heap.size = w.heap.size + 1 := by omega
  clear hb HF HB0 HP0 HC0 HT0
  have h9 := H9.out
  go_wp2
  --MA
  exact bodyPost_ret (PhAt.res3 (fn := Tryd.f12) (p0 := 4) (u := 5) (x := 6) (v := .int .i64 (-1)) (y := .int .i64 0) ((HT.out.set4 true f p q).alloc _) (by kernel_rfl) _ (by rfl) (by rfl) (by rfl)) rfl ⟨rfl, ((below4 HB.out (by omega) true f p q).alloc (by rw [size4]; exact HB.out.size) _)⟩
set_option maxRecDepth 100000 in
set_option maxHeartbeats 8000000 in
theorem rDo_close (f p q : Int) (w : World) (h : Ph.ok ⟨false, f, p, q⟩) (hc : fitsC 11 0) (ha : ((11 : Int) == 9) = false)  : Calls Tryd.prog 12 #[.agg #[.bool false, .int .i64 f, .int .i64 p, .int .i64 q], .agg #[.int .i64 11, .int .i64 0]] w fun e w' => e = .returned (.tuple #[.agg #[.bool true, .int .i64 f, .int .i64 p, .int .i64 q], .int .i64 0, .int .i64 0]) ∧ Below w.heap.size w w' := by
  have HR := Lib.hid (fun W => rRight_yes false f p q W h)
  have HF := Lib.hid (fun W => rfits_yes 11 0 W hc)
  have H9 := Lib.hid ha
  clear h hc ha
  have HN := Lib.hid (nextW_facts w false f p q 11 0)
  go_enter Tryd.func12, Tryd.ntmps12
  go_wp2_with fail
  refine (HR.out _).mono ?_
  rintro e w1 ⟨rfl, hb⟩
  have HB0 := Lib.hid (HN.out.1.trans (hb.mono HN.out.1.size))
  have HP0 := Lib.hid (HN.out.2.1.below hb HN.out.2.1.lt)
  have HC0 := Lib.hid (HN.out.2.2.1.below hb HN.out.2.2.1.lt)
  have HT0 := Lib.hid (HN.out.2.2.2.1.below hb HN.out.2.2.2.1.lt)
  obtain ⟨c0, c1⟩ := HC0.out.cells
  clear hb HR HN
  go_wp2_with fail
  refine (HF.out _).mono ?_
  rintro e w2 ⟨rfl, hb⟩
  have HB := Lib.hid (HB0.out.trans (hb.mono HB0.out.size))
  have HP := Lib.hid (HP0.out.below hb HP0.out.lt)
  have HC := Lib.hid (HC0.out.below hb HC0.out.lt)
  have HT := Lib.hid (HT0.out.below hb HT0.out.lt)
  clear c0 c1
  obtain ⟨p0, p1, p2, p3⟩ := HP.out.cells
  obtain ⟨c0, c1⟩ := HC.out.cells
  obtain ⟨d0, d1, d2, d3⟩ := HT.out.cells
  have df := HT.out.frozen
  have pl := HP.out.lt
  have cl := HC.out.lt
  have tl := HT.out.lt
  have pl1 : w.heap.size < w2.heap.size + 1 := by omega
  have cl1 : w.heap.size + 1 < w2.heap.size + 1 := by omega
  have tl1 : w.heap.size + 1 + 1 < w2.heap.size + 1 := by omega
  have ne1 : ¬ w.heap.size = w2.heap.size := by omega
  have ne2 : ¬ w2.heap.size = w.heap.size := by omega
  have ne3 : ¬ w.heap.size + 1 + 1 = w2.heap.size := by omega
  have ne4 : ¬ w2.heap.size = w.heap.size + 1 + 1 := by omega
  have ne5 : ¬ w.heap.size + 1 = w2.heap.size := by omega
  have ne6 : ¬ w2.heap.size = w.heap.size + 1 := by omega
  clear hb HF HB0 HP0 HC0 HT0
  have h9 := H9.out
  go_wp2
  --MB
  exact bodyPost_ret (PhAt.res3 (fn := Tryd.f12) (p0 := 4) (u := 5) (x := 6) (v := .int .i64 0) (y := .int .i64 0) ((HT.out.set4 true f p q).alloc _) (by kernel_rfl) _ (by rfl) (by rfl) (by rfl)) rfl ⟨rfl, ((below4 HB.out (by omega) true f p q).alloc (by rw [size4]; exact HB.out.size) _)⟩
set_option maxRecDepth 100000 in
set_option maxHeartbeats 8000000 in
theorem rDo_waits (f p q : Int) (w : World) (h : Ph.ok ⟨false, f, p, q⟩) (hc : fitsC 10 f) (ha : ((10 : Int) == 9) = false)  : Calls Tryd.prog 12 #[.agg #[.bool false, .int .i64 f, .int .i64 p, .int .i64 q], .agg #[.int .i64 10, .int .i64 f]] w fun e w' => e = .returned (.tuple #[.agg #[.bool false, .int .i64 f, .int .i64 p, .int .i64 q], .int .i64 (-4), .int .i64 0]) ∧ Below w.heap.size w w' := by
  have HR := Lib.hid (fun W => rRight_yes false f p q W h)
  have HF := Lib.hid (fun W => rfits_yes 10 f W hc)
  have H9 := Lib.hid ha
  clear h hc ha
  have HN := Lib.hid (nextW_facts w false f p q 10 f)
  go_enter Tryd.func12, Tryd.ntmps12
  go_wp2_with fail
  refine (HR.out _).mono ?_
  rintro e w1 ⟨rfl, hb⟩
  have HB0 := Lib.hid (HN.out.1.trans (hb.mono HN.out.1.size))
  have HP0 := Lib.hid (HN.out.2.1.below hb HN.out.2.1.lt)
  have HC0 := Lib.hid (HN.out.2.2.1.below hb HN.out.2.2.1.lt)
  have HT0 := Lib.hid (HN.out.2.2.2.1.below hb HN.out.2.2.2.1.lt)
  obtain ⟨c0, c1⟩ := HC0.out.cells
  clear hb HR HN
  go_wp2_with fail
  refine (HF.out _).mono ?_
  rintro e w2 ⟨rfl, hb⟩
  have HB := Lib.hid (HB0.out.trans (hb.mono HB0.out.size))
  have HP := Lib.hid (HP0.out.below hb HP0.out.lt)
  have HC := Lib.hid (HC0.out.below hb HC0.out.lt)
  have HT := Lib.hid (HT0.out.below hb HT0.out.lt)
  clear c0 c1
  obtain ⟨p0, p1, p2, p3⟩ := HP.out.cells
  obtain ⟨c0, c1⟩ := HC.out.cells
  obtain ⟨d0, d1, d2, d3⟩ := HT.out.cells
  have df := HT.out.frozen
  have pl := HP.out.lt
  have cl := HC.out.lt
  have tl := HT.out.lt
  have pl1 : w.heap.size < w2.heap.size + 1 := by omega
  have cl1 : w.heap.size + 1 < w2.heap.size + 1 := by omega
  have tl1 : w.heap.size + 1 + 1 < w2.heap.size + 1 := by omega
  have ne1 : ¬ w.heap.size = w2.heap.size := by omega
  have ne2 : ¬ w2.heap.size = w.heap.size := by omega
  have ne3 : ¬ w.heap.size + 1 + 1 = w2.heap.size := by omega
  have ne4 : ¬ w2.heap.size = w.heap.size + 1 + 1 := by omega
  have ne5 : ¬ w.heap.size + 1 = w2.heap.size := by omega
  have ne6 : ¬ w2.heap.size = w.heap.size + 1 := by omega
  clear hb HF HB0 HP0 HC0 HT0
  have h9 := H9.out
  go_wp2
  --MC
  exact bodyPost_ret (PhAt.res3 (fn := Tryd.f12) (p0 := 4) (u := 5) (x := 6) (v := .int .i64 (-4)) (y := .int .i64 0) ((HT.out.set4 false f p q).alloc _) (by kernel_rfl) _ (by rfl) (by rfl) (by rfl)) rfl ⟨rfl, ((below4 HB.out (by omega) false f p q).alloc (by rw [size4]; exact HB.out.size) _)⟩
set_option maxRecDepth 100000 in
set_option maxHeartbeats 8000000 in
theorem rDo_watch (f p q n : Int) (w : World) (h : Ph.ok ⟨false, f, p, q⟩) (hc : fitsC 10 n) (ha : ((10 : Int) == 9) = false) (hn : ¬ f = n) : Calls Tryd.prog 12 #[.agg #[.bool false, .int .i64 f, .int .i64 p, .int .i64 q], .agg #[.int .i64 10, .int .i64 n]] w fun e w' => e = .returned (.tuple #[.agg #[.bool false, .int .i64 f, .int .i64 p, .int .i64 q], .int .i64 f, .int .i64 0]) ∧ Below w.heap.size w w' := by
  have HR := Lib.hid (fun W => rRight_yes false f p q W h)
  have HF := Lib.hid (fun W => rfits_yes 10 n W hc)
  have H9 := Lib.hid ha
  have HX := Lib.hid (show (f == n) = false by simpa using hn)
  clear hn
  clear h hc ha
  have HN := Lib.hid (nextW_facts w false f p q 10 n)
  go_enter Tryd.func12, Tryd.ntmps12
  go_wp2_with fail
  refine (HR.out _).mono ?_
  rintro e w1 ⟨rfl, hb⟩
  have HB0 := Lib.hid (HN.out.1.trans (hb.mono HN.out.1.size))
  have HP0 := Lib.hid (HN.out.2.1.below hb HN.out.2.1.lt)
  have HC0 := Lib.hid (HN.out.2.2.1.below hb HN.out.2.2.1.lt)
  have HT0 := Lib.hid (HN.out.2.2.2.1.below hb HN.out.2.2.2.1.lt)
  obtain ⟨c0, c1⟩ := HC0.out.cells
  clear hb HR HN
  go_wp2_with fail
  refine (HF.out _).mono ?_
  rintro e w2 ⟨rfl, hb⟩
  have HB := Lib.hid (HB0.out.trans (hb.mono HB0.out.size))
  have HP := Lib.hid (HP0.out.below hb HP0.out.lt)
  have HC := Lib.hid (HC0.out.below hb HC0.out.lt)
  have HT := Lib.hid (HT0.out.below hb HT0.out.lt)
  clear c0 c1
  obtain ⟨p0, p1, p2, p3⟩ := HP.out.cells
  obtain ⟨c0, c1⟩ := HC.out.cells
  obtain ⟨d0, d1, d2, d3⟩ := HT.out.cells
  have df := HT.out.frozen
  have pl := HP.out.lt
  have cl := HC.out.lt
  have tl := HT.out.lt
  have pl1 : w.heap.size < w2.heap.size + 1 := by omega
  have cl1 : w.heap.size + 1 < w2.heap.size + 1 := by omega
  have tl1 : w.heap.size + 1 + 1 < w2.heap.size + 1 := by omega
  have ne1 : ¬ w.heap.size = w2.heap.size := by omega
  have ne2 : ¬ w2.heap.size = w.heap.size := by omega
  have ne3 : ¬ w.heap.size + 1 + 1 = w2.heap.size := by omega
  have ne4 : ¬ w2.heap.size = w.heap.size + 1 + 1 := by omega
  have ne5 : ¬ w.heap.size + 1 = w2.heap.size := by omega
  have ne6 : ¬ w2.heap.size = w.heap.size + 1 := by omega
  clear hb HF HB0 HP0 HC0 HT0
  have hx := HX.out
  have h9 := H9.out
  go_wp2
  go_region
  all_goals
    go_wp2
    --MD
    exact bodyPost_ret (PhAt.res3 (fn := Tryd.f12) (p0 := 4) (u := 5) (x := 6) (v := .int .i64 f) (y := .int .i64 0) (PhAt.drew ((HT.out.set4 false f p q).alloc _)) (by kernel_rfl) _ (by rfl) (by rfl) (by rfl)) rfl ⟨rfl, (Below.drew ((below4 HB.out (by omega) false f p q).alloc (by rw [size4]; exact HB.out.size) _))⟩
set_option maxRecDepth 100000 in
set_option maxHeartbeats 8000000 in
theorem rDo_full (f p q n : Int) (w : World) (h : Ph.ok ⟨false, f, p, q⟩) (hc : fitsC 6 n) (ha : ((6 : Int) == 9) = false) (hn : 65535 - n < p) (hn0 : 0 ≤ n) (hn1 : n ≤ 65535) : Calls Tryd.prog 12 #[.agg #[.bool false, .int .i64 f, .int .i64 p, .int .i64 q], .agg #[.int .i64 6, .int .i64 n]] w fun e w' => e = .returned (.tuple #[.agg #[.bool false, .int .i64 f, .int .i64 p, .int .i64 q], .int .i64 (-3), .int .i64 0]) ∧ Below w.heap.size w w' := by
  have HR := Lib.hid (fun W => rRight_yes false f p q W h)
  have HF := Lib.hid (fun W => rfits_yes 6 n W hc)
  have H9 := Lib.hid ha
  clear h hc ha
  have HN := Lib.hid (nextW_facts w false f p q 6 n)
  go_enter Tryd.func12, Tryd.ntmps12
  go_wp2_with fail
  refine (HR.out _).mono ?_
  rintro e w1 ⟨rfl, hb⟩
  have HB0 := Lib.hid (HN.out.1.trans (hb.mono HN.out.1.size))
  have HP0 := Lib.hid (HN.out.2.1.below hb HN.out.2.1.lt)
  have HC0 := Lib.hid (HN.out.2.2.1.below hb HN.out.2.2.1.lt)
  have HT0 := Lib.hid (HN.out.2.2.2.1.below hb HN.out.2.2.2.1.lt)
  obtain ⟨c0, c1⟩ := HC0.out.cells
  clear hb HR HN
  go_wp2_with fail
  refine (HF.out _).mono ?_
  rintro e w2 ⟨rfl, hb⟩
  have HB := Lib.hid (HB0.out.trans (hb.mono HB0.out.size))
  have HP := Lib.hid (HP0.out.below hb HP0.out.lt)
  have HC := Lib.hid (HC0.out.below hb HC0.out.lt)
  have HT := Lib.hid (HT0.out.below hb HT0.out.lt)
  clear c0 c1
  obtain ⟨p0, p1, p2, p3⟩ := HP.out.cells
  obtain ⟨c0, c1⟩ := HC.out.cells
  obtain ⟨d0, d1, d2, d3⟩ := HT.out.cells
  have df := HT.out.frozen
  have pl := HP.out.lt
  have cl := HC.out.lt
  have tl := HT.out.lt
  have pl1 : w.heap.size < w2.heap.size + 1 := by omega
  have cl1 : w.heap.size + 1 < w2.heap.size + 1 := by omega
  have tl1 : w.heap.size + 1 + 1 < w2.heap.size + 1 := by omega
  have ne1 : ¬ w.heap.size = w2.heap.size := by omega
  have ne2 : ¬ w2.heap.size = w.heap.size := by omega
  have ne3 : ¬ w.heap.size + 1 + 1 = w2.heap.size := by omega
  have ne4 : ¬ w2.heap.size = w.heap.size + 1 + 1 := by omega
  have ne5 : ¬ w.heap.size + 1 = w2.heap.size := by omega
  have ne6 : ¬ w2.heap.size = w.heap.size + 1 := by omega
  clear hb HF HB0 HP0 HC0 HT0
  have h9 := H9.out
  go_wp2
  --ME
  exact bodyPost_ret (PhAt.res3 (fn := Tryd.f12) (p0 := 4) (u := 5) (x := 6) (v := .int .i64 (-3)) (y := .int .i64 0) ((HT.out.set4 false f p q).alloc _) (by kernel_rfl) _ (by rfl) (by rfl) (by rfl)) rfl ⟨rfl, ((below4 HB.out (by omega) false f p q).alloc (by rw [size4]; exact HB.out.size) _)⟩
set_option maxRecDepth 100000 in
set_option maxHeartbeats 8000000 in
theorem rDo_in (f p q n : Int) (w : World) (h : Ph.ok ⟨false, f, p, q⟩) (hc : fitsC 6 n) (ha : ((6 : Int) == 9) = false) (hn : ¬ 65535 - n < p) (hn0 : 0 ≤ n) (hn1 : n ≤ 65535) : Calls Tryd.prog 12 #[.agg #[.bool false, .int .i64 f, .int .i64 p, .int .i64 q], .agg #[.int .i64 6, .int .i64 n]] w fun e w' => e = .returned (.tuple #[.agg #[.bool false, .int .i64 f, .int .i64 (p + n), .int .i64 (q + n)], .int .i64 f, .int .i64 0]) ∧ Below w.heap.size w w' := by
  have HR := Lib.hid (fun W => rRight_yes false f p q W h)
  have HF := Lib.hid (fun W => rfits_yes 6 n W hc)
  have H9 := Lib.hid ha
  have b1 : 0 ≤ p := h.2.1.1
  have b2 : p ≤ 65535 := h.2.1.2
  have b3 : 0 ≤ q := h.2.2.1
  have b4 : q ≤ p := h.2.2.2
  have b5 : q ≤ 65535 := by omega
  clear h hc ha
  have HN := Lib.hid (nextW_facts w false f p q 6 n)
  go_enter Tryd.func12, Tryd.ntmps12
  go_wp2_with fail
  refine (HR.out _).mono ?_
  rintro e w1 ⟨rfl, hb⟩
  have HB0 := Lib.hid (HN.out.1.trans (hb.mono HN.out.1.size))
  have HP0 := Lib.hid (HN.out.2.1.below hb HN.out.2.1.lt)
  have HC0 := Lib.hid (HN.out.2.2.1.below hb HN.out.2.2.1.lt)
  have HT0 := Lib.hid (HN.out.2.2.2.1.below hb HN.out.2.2.2.1.lt)
  obtain ⟨c0, c1⟩ := HC0.out.cells
  clear hb HR HN
  go_wp2_with fail
  refine (HF.out _).mono ?_
  rintro e w2 ⟨rfl, hb⟩
  have HB := Lib.hid (HB0.out.trans (hb.mono HB0.out.size))
  have HP := Lib.hid (HP0.out.below hb HP0.out.lt)
  have HC := Lib.hid (HC0.out.below hb HC0.out.lt)
  have HT := Lib.hid (HT0.out.below hb HT0.out.lt)
  clear c0 c1
  obtain ⟨p0, p1, p2, p3⟩ := HP.out.cells
  obtain ⟨c0, c1⟩ := HC.out.cells
  obtain ⟨d0, d1, d2, d3⟩ := HT.out.cells
  have df := HT.out.frozen
  have pl := HP.out.lt
  have cl := HC.out.lt
  have tl := HT.out.lt
  have pl1 : w.heap.size < w2.heap.size + 1 := by omega
  have cl1 : w.heap.size + 1 < w2.heap.size + 1 := by omega
  have tl1 : w.heap.size + 1 + 1 < w2.heap.size + 1 := by omega
  have ne1 : ¬ w.heap.size = w2.heap.size := by omega
  have ne2 : ¬ w2.heap.size = w.heap.size := by omega
  have ne3 : ¬ w.heap.size + 1 + 1 = w2.heap.size := by omega
  have ne4 : ¬ w2.heap.size = w.heap.size + 1 + 1 := by omega
  have ne5 : ¬ w.heap.size + 1 = w2.heap.size := by omega
  have ne6 : ¬ w2.heap.size = w.heap.size + 1 := by omega
  clear hb HF HB0 HP0 HC0 HT0
  have h9 := H9.out
  go_wp2
  go_region
  all_goals
    go_wp2
    --MF
    exact bodyPost_ret (PhAt.res3 (fn := Tryd.f12) (p0 := 4) (u := 5) (x := 6) (v := .int .i64 f) (y := .int .i64 0) (PhAt.drew ((HT.out.set4 false f (p + n) (q + n)).alloc _)) (by kernel_rfl) _ (by rfl) (by rfl) (by rfl)) rfl ⟨rfl, (Below.drew ((below4 HB.out (by omega) false f (p + n) (q + n)).alloc (by rw [size4]; exact HB.out.size) _))⟩
set_option maxRecDepth 100000 in
set_option maxHeartbeats 8000000 in
theorem rDo_arrive_none (f p : Int) (w : World) (h : Ph.ok ⟨false, f, p, 0⟩) (hc : fitsC 7 0) (ha : ((7 : Int) == 9) = false)  : Calls Tryd.prog 12 #[.agg #[.bool false, .int .i64 f, .int .i64 p, .int .i64 0], .agg #[.int .i64 7, .int .i64 0]] w fun e w' => e = .returned (.tuple #[.agg #[.bool false, .int .i64 f, .int .i64 p, .int .i64 0], .int .i64 (-2), .int .i64 0]) ∧ Below w.heap.size w w' := by
  have HR := Lib.hid (fun W => rRight_yes false f p 0 W h)
  have HF := Lib.hid (fun W => rfits_yes 7 0 W hc)
  have H9 := Lib.hid ha
  clear h hc ha
  have HN := Lib.hid (nextW_facts w false f p 0 7 0)
  go_enter Tryd.func12, Tryd.ntmps12
  go_wp2_with fail
  refine (HR.out _).mono ?_
  rintro e w1 ⟨rfl, hb⟩
  have HB0 := Lib.hid (HN.out.1.trans (hb.mono HN.out.1.size))
  have HP0 := Lib.hid (HN.out.2.1.below hb HN.out.2.1.lt)
  have HC0 := Lib.hid (HN.out.2.2.1.below hb HN.out.2.2.1.lt)
  have HT0 := Lib.hid (HN.out.2.2.2.1.below hb HN.out.2.2.2.1.lt)
  obtain ⟨c0, c1⟩ := HC0.out.cells
  clear hb HR HN
  go_wp2_with fail
  refine (HF.out _).mono ?_
  rintro e w2 ⟨rfl, hb⟩
  have HB := Lib.hid (HB0.out.trans (hb.mono HB0.out.size))
  have HP := Lib.hid (HP0.out.below hb HP0.out.lt)
  have HC := Lib.hid (HC0.out.below hb HC0.out.lt)
  have HT := Lib.hid (HT0.out.below hb HT0.out.lt)
  clear c0 c1
  obtain ⟨p0, p1, p2, p3⟩ := HP.out.cells
  obtain ⟨c0, c1⟩ := HC.out.cells
  obtain ⟨d0, d1, d2, d3⟩ := HT.out.cells
  have df := HT.out.frozen
  have pl := HP.out.lt
  have cl := HC.out.lt
  have tl := HT.out.lt
  have pl1 : w.heap.size < w2.heap.size + 1 := by omega
  have cl1 : w.heap.size + 1 < w2.heap.size + 1 := by omega
  have tl1 : w.heap.size + 1 + 1 < w2.heap.size + 1 := by omega
  have ne1 : ¬ w.heap.size = w2.heap.size := by omega
  have ne2 : ¬ w2.heap.size = w.heap.size := by omega
  have ne3 : ¬ w.heap.size + 1 + 1 = w2.heap.size := by omega
  have ne4 : ¬ w2.heap.size = w.heap.size + 1 + 1 := by omega
  have ne5 : ¬ w.heap.size + 1 = w2.heap.size := by omega
  have ne6 : ¬ w2.heap.size = w.heap.size + 1 := by omega
  clear hb HF HB0 HP0 HC0 HT0
  have h9 := H9.out
  go_wp2
  --M7A
  exact bodyPost_ret (PhAt.res3 (fn := Tryd.f12) (p0 := 4) (u := 5) (x := 6) (v := .int .i64 (-2)) (y := .int .i64 0) ((HT.out.set4 false f p 0).alloc _) (by kernel_rfl) _ (by rfl) (by rfl) (by rfl)) rfl ⟨rfl, ((below4 HB.out (by omega) false f p 0).alloc (by rw [size4]; exact HB.out.size) _)⟩
set_option maxRecDepth 100000 in
set_option maxHeartbeats 8000000 in
theorem rDo_arrive_more (f p q : Int) (w : World) (h : Ph.ok ⟨false, f, p, q⟩) (hc : fitsC 7 0) (ha : ((7 : Int) == 9) = false) (h2 : 2 ≤ q) : Calls Tryd.prog 12 #[.agg #[.bool false, .int .i64 f, .int .i64 p, .int .i64 q], .agg #[.int .i64 7, .int .i64 0]] w fun e w' => e = .returned (.tuple #[.agg #[.bool false, .int .i64 f, .int .i64 p, .int .i64 (q - 1)], .int .i64 f, .int .i64 0]) ∧ Below w.heap.size w w' := by
  have HR := Lib.hid (fun W => rRight_yes false f p q W h)
  have HF := Lib.hid (fun W => rfits_yes 7 0 W hc)
  have H9 := Lib.hid ha
  have b1 : 0 ≤ p := h.2.1.1
  have b2 : p ≤ 65535 := h.2.1.2
  have b3 : 0 ≤ q := h.2.2.1
  have b4 : q ≤ p := h.2.2.2
  have b5 : q ≤ 65535 := by omega
  have HQ := Lib.hid (show (q == 0) = false ∧ (q - 1 == 0) = false from ⟨by simp; omega, by simp; omega⟩)
  clear h hc ha
  have HN := Lib.hid (nextW_facts w false f p q 7 0)
  go_enter Tryd.func12, Tryd.ntmps12
  go_wp2_with fail
  refine (HR.out _).mono ?_
  rintro e w1 ⟨rfl, hb⟩
  have HB0 := Lib.hid (HN.out.1.trans (hb.mono HN.out.1.size))
  have HP0 := Lib.hid (HN.out.2.1.below hb HN.out.2.1.lt)
  have HC0 := Lib.hid (HN.out.2.2.1.below hb HN.out.2.2.1.lt)
  have HT0 := Lib.hid (HN.out.2.2.2.1.below hb HN.out.2.2.2.1.lt)
  obtain ⟨c0, c1⟩ := HC0.out.cells
  clear hb HR HN
  go_wp2_with fail
  refine (HF.out _).mono ?_
  rintro e w2 ⟨rfl, hb⟩
  have HB := Lib.hid (HB0.out.trans (hb.mono HB0.out.size))
  have HP := Lib.hid (HP0.out.below hb HP0.out.lt)
  have HC := Lib.hid (HC0.out.below hb HC0.out.lt)
  have HT := Lib.hid (HT0.out.below hb HT0.out.lt)
  clear c0 c1
  obtain ⟨p0, p1, p2, p3⟩ := HP.out.cells
  obtain ⟨c0, c1⟩ := HC.out.cells
  obtain ⟨d0, d1, d2, d3⟩ := HT.out.cells
  have df := HT.out.frozen
  have pl := HP.out.lt
  have cl := HC.out.lt
  have tl := HT.out.lt
  have pl1 : w.heap.size < w2.heap.size + 1 := by omega
  have cl1 : w.heap.size + 1 < w2.heap.size + 1 := by omega
  have tl1 : w.heap.size + 1 + 1 < w2.heap.size + 1 := by omega
  have ne1 : ¬ w.heap.size = w2.heap.size := by omega
  have ne2 : ¬ w2.heap.size = w.heap.size := by omega
  have ne3 : ¬ w.heap.size + 1 + 1 = w2.heap.size := by omega
  have ne4 : ¬ w2.heap.size = w.heap.size + 1 + 1 := by omega
  have ne5 : ¬ w.heap.size + 1 = w2.heap.size := by omega
  have ne6 : ¬ w2.heap.size = w.heap.size + 1 := by omega
  clear hb HF HB0 HP0 HC0 HT0
  obtain ⟨z0, z1⟩ := HQ.out
  have h9 := H9.out
  go_wp2
  go_region
  all_goals
    go_wp2
    --M7B
    exact bodyPost_ret (PhAt.res3 (fn := Tryd.f12) (p0 := 4) (u := 5) (x := 6) (v := .int .i64 f) (y := .int .i64 0) (PhAt.drew ((HT.out.set4 false f p (q - 1)).alloc _)) (by kernel_rfl) _ (by rfl) (by rfl) (by rfl)) rfl ⟨rfl, (Below.drew ((below4 HB.out (by omega) false f p (q - 1)).alloc (by rw [size4]; exact HB.out.size) _))⟩
set_option maxRecDepth 100000 in
set_option maxHeartbeats 8000000 in
theorem rDo_arrive_last (f p : Int) (w : World) (h : Ph.ok ⟨false, f, p, 1⟩) (hc : fitsC 7 0) (ha : ((7 : Int) == 9) = false)  : Calls Tryd.prog 12 #[.agg #[.bool false, .int .i64 f, .int .i64 p, .int .i64 1], .agg #[.int .i64 7, .int .i64 0]] w fun e w' => e = .returned (.tuple #[.agg #[.bool false, .int .i64 (phUp f), .int .i64 p, .int .i64 p], .int .i64 f, .int .i64 0]) ∧ Below w.heap.size w w' := by
  have HR := Lib.hid (fun W => rRight_yes false f p 1 W h)
  have HF := Lib.hid (fun W => rfits_yes 7 0 W hc)
  have H9 := Lib.hid ha
  have b1 : 1 ≤ p := h.2.2.2
  have b2 : p ≤ 65535 := h.2.1.2
  have f0 : 0 ≤ f := h.1.1
  have f1 : f ≤ 2147483647 := h.1.2
  obtain ⟨u, hu⟩ : ∃ u, phUp f = u := ⟨_, rfl⟩
  have HM := Lib.hid (show (f + 1) % 2147483648 = phUp f from (phUp_mod h.1).symm)
  rw [hu] at HM ⊢
  clear hu
  clear h hc ha
  have HN := Lib.hid (nextW_facts w false f p 1 7 0)
  go_enter Tryd.func12, Tryd.ntmps12
  go_wp2_with fail
  refine (HR.out _).mono ?_
  rintro e w1 ⟨rfl, hb⟩
  have HB0 := Lib.hid (HN.out.1.trans (hb.mono HN.out.1.size))
  have HP0 := Lib.hid (HN.out.2.1.below hb HN.out.2.1.lt)
  have HC0 := Lib.hid (HN.out.2.2.1.below hb HN.out.2.2.1.lt)
  have HT0 := Lib.hid (HN.out.2.2.2.1.below hb HN.out.2.2.2.1.lt)
  obtain ⟨c0, c1⟩ := HC0.out.cells
  clear hb HR HN
  go_wp2_with fail
  refine (HF.out _).mono ?_
  rintro e w2 ⟨rfl, hb⟩
  have HB := Lib.hid (HB0.out.trans (hb.mono HB0.out.size))
  have HP := Lib.hid (HP0.out.below hb HP0.out.lt)
  have HC := Lib.hid (HC0.out.below hb HC0.out.lt)
  have HT := Lib.hid (HT0.out.below hb HT0.out.lt)
  clear c0 c1
  obtain ⟨p0, p1, p2, p3⟩ := HP.out.cells
  obtain ⟨c0, c1⟩ := HC.out.cells
  obtain ⟨d0, d1, d2, d3⟩ := HT.out.cells
  have df := HT.out.frozen
  have pl := HP.out.lt
  have cl := HC.out.lt
  have tl := HT.out.lt
  have pl1 : w.heap.size < w2.heap.size + 1 := by omega
  have cl1 : w.heap.size + 1 < w2.heap.size + 1 := by omega
  have tl1 : w.heap.size + 1 + 1 < w2.heap.size + 1 := by omega
  have ne1 : ¬ w.heap.size = w2.heap.size := by omega
  have ne2 : ¬ w2.heap.size = w.heap.size := by omega
  have ne3 : ¬ w.heap.size + 1 + 1 = w2.heap.size := by omega
  have ne4 : ¬ w2.heap.size = w.heap.size + 1 + 1 := by omega
  have ne5 : ¬ w.heap.size + 1 = w2.heap.size := by omega
  have ne6 : ¬ w2.heap.size = w.heap.size + 1 := by omega
  clear hb HF HB0 HP0 HC0 HT0
  have hm := HM.out
  have hp0 : 0 < p := by omega
  have h9 := H9.out
  go_wp2
  go_region
  all_goals
    go_wp2
    --M7C
    exact bodyPost_ret (PhAt.res3 (fn := Tryd.f12) (p0 := 4) (u := 5) (x := 6) (v := .int .i64 f) (y := .int .i64 0) (PhAt.drew ((HT.out.set4 false u p p).alloc _)) (by kernel_rfl) _ (by rfl) (by rfl) (by rfl)) rfl ⟨rfl, (Below.drew ((below4 HB.out (by omega) false u p p).alloc (by rw [size4]; exact HB.out.size) _))⟩
set_option maxRecDepth 100000 in
set_option maxHeartbeats 8000000 in
theorem rDo_leave_none (f p : Int) (w : World) (h : Ph.ok ⟨false, f, p, 0⟩) (hc : fitsC 8 0) (ha : ((8 : Int) == 9) = false)  : Calls Tryd.prog 12 #[.agg #[.bool false, .int .i64 f, .int .i64 p, .int .i64 0], .agg #[.int .i64 8, .int .i64 0]] w fun e w' => e = .returned (.tuple #[.agg #[.bool false, .int .i64 f, .int .i64 p, .int .i64 0], .int .i64 (-2), .int .i64 0]) ∧ Below w.heap.size w w' := by
  have HR := Lib.hid (fun W => rRight_yes false f p 0 W h)
  have HF := Lib.hid (fun W => rfits_yes 8 0 W hc)
  have H9 := Lib.hid ha
  clear h hc ha
  have HN := Lib.hid (nextW_facts w false f p 0 8 0)
  go_enter Tryd.func12, Tryd.ntmps12
  go_wp2_with fail
  refine (HR.out _).mono ?_
  rintro e w1 ⟨rfl, hb⟩
  have HB0 := Lib.hid (HN.out.1.trans (hb.mono HN.out.1.size))
  have HP0 := Lib.hid (HN.out.2.1.below hb HN.out.2.1.lt)
  have HC0 := Lib.hid (HN.out.2.2.1.below hb HN.out.2.2.1.lt)
  have HT0 := Lib.hid (HN.out.2.2.2.1.below hb HN.out.2.2.2.1.lt)
  obtain ⟨c0, c1⟩ := HC0.out.cells
  clear hb HR HN
  go_wp2_with fail
  refine (HF.out _).mono ?_
  rintro e w2 ⟨rfl, hb⟩
  have HB := Lib.hid (HB0.out.trans (hb.mono HB0.out.size))
  have HP := Lib.hid (HP0.out.below hb HP0.out.lt)
  have HC := Lib.hid (HC0.out.below hb HC0.out.lt)
  have HT := Lib.hid (HT0.out.below hb HT0.out.lt)
  clear c0 c1
  obtain ⟨p0, p1, p2, p3⟩ := HP.out.cells
  obtain ⟨c0, c1⟩ := HC.out.cells
  obtain ⟨d0, d1, d2, d3⟩ := HT.out.cells
  have df := HT.out.frozen
  have pl := HP.out.lt
  have cl := HC.out.lt
  have tl := HT.out.lt
  have pl1 : w.heap.size < w2.heap.size + 1 := by omega
  have cl1 : w.heap.size + 1 < w2.heap.size + 1 := by omega
  have tl1 : w.heap.size + 1 + 1 < w2.heap.size + 1 := by omega
  have ne1 : ¬ w.heap.size = w2.heap.size := by omega
  have ne2 : ¬ w2.heap.size = w.heap.size := by omega
  have ne3 : ¬ w.heap.size + 1 + 1 = w2.heap.size := by omega
  have ne4 : ¬ w2.heap.size = w.heap.size + 1 + 1 := by omega
  have ne5 : ¬ w.heap.size + 1 = w2.heap.size := by omega
  have ne6 : ¬ w2.heap.size = w.heap.size + 1 := by omega
  clear hb HF HB0 HP0 HC0 HT0
  have h9 := H9.out
  go_wp2
  --M8A
  exact bodyPost_ret (PhAt.res3 (fn := Tryd.f12) (p0 := 4) (u := 5) (x := 6) (v := .int .i64 (-2)) (y := .int .i64 0) ((HT.out.set4 false f p 0).alloc _) (by kernel_rfl) _ (by rfl) (by rfl) (by rfl)) rfl ⟨rfl, ((below4 HB.out (by omega) false f p 0).alloc (by rw [size4]; exact HB.out.size) _)⟩
set_option maxRecDepth 100000 in
set_option maxHeartbeats 8000000 in
theorem rDo_leave_more (f p q : Int) (w : World) (h : Ph.ok ⟨false, f, p, q⟩) (hc : fitsC 8 0) (ha : ((8 : Int) == 9) = false) (h2 : 2 ≤ q) : Calls Tryd.prog 12 #[.agg #[.bool false, .int .i64 f, .int .i64 p, .int .i64 q], .agg #[.int .i64 8, .int .i64 0]] w fun e w' => e = .returned (.tuple #[.agg #[.bool false, .int .i64 f, .int .i64 (p - 1), .int .i64 (q - 1)], .int .i64 f, .int .i64 0]) ∧ Below w.heap.size w w' := by
  have HR := Lib.hid (fun W => rRight_yes false f p q W h)
  have HF := Lib.hid (fun W => rfits_yes 8 0 W hc)
  have H9 := Lib.hid ha
  have b1 : 0 ≤ p := h.2.1.1
  have b2 : p ≤ 65535 := h.2.1.2
  have b3 : 0 ≤ q := h.2.2.1
  have b4 : q ≤ p := h.2.2.2
  have b5 : q ≤ 65535 := by omega
  have HQ := Lib.hid (show (q == 0) = false ∧ (q - 1 == 0) = false from ⟨by simp; omega, by simp; omega⟩)
  clear h hc ha
  have HN := Lib.hid (nextW_facts w false f p q 8 0)
  go_enter Tryd.func12, Tryd.ntmps12
  go_wp2_with fail
  refine (HR.out _).mono ?_
  rintro e w1 ⟨rfl, hb⟩
  have HB0 := Lib.hid (HN.out.1.trans (hb.mono HN.out.1.size))
  have HP0 := Lib.hid (HN.out.2.1.below hb HN.out.2.1.lt)
  have HC0 := Lib.hid (HN.out.2.2.1.below hb HN.out.2.2.1.lt)
  have HT0 := Lib.hid (HN.out.2.2.2.1.below hb HN.out.2.2.2.1.lt)
  obtain ⟨c0, c1⟩ := HC0.out.cells
  clear hb HR HN
  go_wp2_with fail
  refine (HF.out _).mono ?_
  rintro e w2 ⟨rfl, hb⟩
  have HB := Lib.hid (HB0.out.trans (hb.mono HB0.out.size))
  have HP := Lib.hid (HP0.out.below hb HP0.out.lt)
  have HC := Lib.hid (HC0.out.below hb HC0.out.lt)
  have HT := Lib.hid (HT0.out.below hb HT0.out.lt)
  clear c0 c1
  obtain ⟨p0, p1, p2, p3⟩ := HP.out.cells
  obtain ⟨c0, c1⟩ := HC.out.cells
  obtain ⟨d0, d1, d2, d3⟩ := HT.out.cells
  have df := HT.out.frozen
  have pl := HP.out.lt
  have cl := HC.out.lt
  have tl := HT.out.lt
  have pl1 : w.heap.size < w2.heap.size + 1 := by omega
  have cl1 : w.heap.size + 1 < w2.heap.size + 1 := by omega
  have tl1 : w.heap.size + 1 + 1 < w2.heap.size + 1 := by omega
  have ne1 : ¬ w.heap.size = w2.heap.size := by omega
  have ne2 : ¬ w2.heap.size = w.heap.size := by omega
  have ne3 : ¬ w.heap.size + 1 + 1 = w2.heap.size := by omega
  have ne4 : ¬ w2.heap.size = w.heap.size + 1 + 1 := by omega
  have ne5 : ¬ w.heap.size + 1 = w2.heap.size := by omega
  have ne6 : ¬ w2.heap.size = w.heap.size + 1 := by omega
  clear hb HF HB0 HP0 HC0 HT0
  obtain ⟨z0, z1⟩ := HQ.out
  have h9 := H9.out
  go_wp2
  go_region
  all_goals
    go_wp2
    --M8B
    exact bodyPost_ret (PhAt.res3 (fn := Tryd.f12) (p0 := 4) (u := 5) (x := 6) (v := .int .i64 f) (y := .int .i64 0) (PhAt.drew ((HT.out.set4 false f (p - 1) (q - 1)).alloc _)) (by kernel_rfl) _ (by rfl) (by rfl) (by rfl)) rfl ⟨rfl, (Below.drew ((below4 HB.out (by omega) false f (p - 1) (q - 1)).alloc (by rw [size4]; exact HB.out.size) _))⟩
set_option maxRecDepth 100000 in
set_option maxHeartbeats 8000000 in
theorem rDo_leave_last (f p : Int) (w : World) (h : Ph.ok ⟨false, f, p, 1⟩) (hc : fitsC 8 0) (ha : ((8 : Int) == 9) = false) (h2 : 2 ≤ p) : Calls Tryd.prog 12 #[.agg #[.bool false, .int .i64 f, .int .i64 p, .int .i64 1], .agg #[.int .i64 8, .int .i64 0]] w fun e w' => e = .returned (.tuple #[.agg #[.bool false, .int .i64 (phUp f), .int .i64 (p - 1), .int .i64 (p - 1)], .int .i64 f, .int .i64 0]) ∧ Below w.heap.size w w' := by
  have HR := Lib.hid (fun W => rRight_yes false f p 1 W h)
  have HF := Lib.hid (fun W => rfits_yes 8 0 W hc)
  have H9 := Lib.hid ha
  have b2 : p ≤ 65535 := h.2.1.2
  have f0 : 0 ≤ f := h.1.1
  have f1 : f ≤ 2147483647 := h.1.2
  obtain ⟨u, hu⟩ : ∃ u, phUp f = u := ⟨_, rfl⟩
  have HM := Lib.hid (show (f + 1) % 2147483648 = phUp f from (phUp_mod h.1).symm)
  rw [hu] at HM ⊢
  clear hu
  clear h hc ha
  have HN := Lib.hid (nextW_facts w false f p 1 8 0)
  go_enter Tryd.func12, Tryd.ntmps12
  go_wp2_with fail
  refine (HR.out _).mono ?_
  rintro e w1 ⟨rfl, hb⟩
  have HB0 := Lib.hid (HN.out.1.trans (hb.mono HN.out.1.size))
  have HP0 := Lib.hid (HN.out.2.1.below hb HN.out.2.1.lt)
  have HC0 := Lib.hid (HN.out.2.2.1.below hb HN.out.2.2.1.lt)
  have HT0 := Lib.hid (HN.out.2.2.2.1.below hb HN.out.2.2.2.1.lt)
  obtain ⟨c0, c1⟩ := HC0.out.cells
  clear hb HR HN
  go_wp2_with fail
  refine (HF.out _).mono ?_
  rintro e w2 ⟨rfl, hb⟩
  have HB := Lib.hid (HB0.out.trans (hb.mono HB0.out.size))
  have HP := Lib.hid (HP0.out.below hb HP0.out.lt)
  have HC := Lib.hid (HC0.out.below hb HC0.out.lt)
  have HT := Lib.hid (HT0.out.below hb HT0.out.lt)
  clear c0 c1
  obtain ⟨p0, p1, p2, p3⟩ := HP.out.cells
  obtain ⟨c0, c1⟩ := HC.out.cells
  obtain ⟨d0, d1, d2, d3⟩ := HT.out.cells
  have df := HT.out.frozen
  have pl := HP.out.lt
  have cl := HC.out.lt
  have tl := HT.out.lt
  have pl1 : w.heap.size < w2.heap.size + 1 := by omega
  have cl1 : w.heap.size + 1 < w2.heap.size + 1 := by omega
  have tl1 : w.heap.size + 1 + 1 < w2.heap.size + 1 := by omega
  have ne1 : ¬ w.heap.size = w2.heap.size := by omega
  have ne2 : ¬ w2.heap.size = w.heap.size := by omega
  have ne3 : ¬ w.heap.size + 1 + 1 = w2.heap.size := by omega
  have ne4 : ¬ w2.heap.size = w.heap.size + 1 + 1 := by omega
  have ne5 : ¬ w.heap.size + 1 = w2.heap.size := by omega
  have ne6 : ¬ w2.heap.size = w.heap.size + 1 := by omega
  clear hb HF HB0 HP0 HC0 HT0
  have hm := HM.out
  have hp0 : 0 < p - 1 := by omega
  have h9 := H9.out
  go_wp2
  go_region
  all_goals
    go_wp2
    --M8C
    exact bodyPost_ret (PhAt.res3 (fn := Tryd.f12) (p0 := 4) (u := 5) (x := 6) (v := .int .i64 f) (y := .int .i64 0) (PhAt.drew ((HT.out.set4 false u (p - 1) (p - 1)).alloc _)) (by kernel_rfl) _ (by rfl) (by rfl) (by rfl)) rfl ⟨rfl, (Below.drew ((below4 HB.out (by omega) false u (p - 1) (p - 1)).alloc (by rw [size4]; exact HB.out.size) _))⟩
set_option maxRecDepth 100000 in
set_option maxHeartbeats 8000000 in
theorem rDo_leave_end (f : Int) (w : World) (h : Ph.ok ⟨false, f, 1, 1⟩) (hc : fitsC 8 0) (ha : ((8 : Int) == 9) = false)  : Calls Tryd.prog 12 #[.agg #[.bool false, .int .i64 f, .int .i64 1, .int .i64 1], .agg #[.int .i64 8, .int .i64 0]] w fun e w' => e = .returned (.tuple #[.agg #[.bool true, .int .i64 f, .int .i64 0, .int .i64 0], .int .i64 f, .int .i64 0]) ∧ Below w.heap.size w w' := by
  have HR := Lib.hid (fun W => rRight_yes false f 1 1 W h)
  have HF := Lib.hid (fun W => rfits_yes 8 0 W hc)
  have H9 := Lib.hid ha
  clear h hc ha
  have HN := Lib.hid (nextW_facts w false f 1 1 8 0)
  go_enter Tryd.func12, Tryd.ntmps12
  go_wp2_with fail
  refine (HR.out _).mono ?_
  rintro e w1 ⟨rfl, hb⟩
  have HB0 := Lib.hid (HN.out.1.trans (hb.mono HN.out.1.size))
  have HP0 := Lib.hid (HN.out.2.1.below hb HN.out.2.1.lt)
  have HC0 := Lib.hid (HN.out.2.2.1.below hb HN.out.2.2.1.lt)
  have HT0 := Lib.hid (HN.out.2.2.2.1.below hb HN.out.2.2.2.1.lt)
  obtain ⟨c0, c1⟩ := HC0.out.cells
  clear hb HR HN
  go_wp2_with fail
  refine (HF.out _).mono ?_
  rintro e w2 ⟨rfl, hb⟩
  have HB := Lib.hid (HB0.out.trans (hb.mono HB0.out.size))
  have HP := Lib.hid (HP0.out.below hb HP0.out.lt)
  have HC := Lib.hid (HC0.out.below hb HC0.out.lt)
  have HT := Lib.hid (HT0.out.below hb HT0.out.lt)
  clear c0 c1
  obtain ⟨p0, p1, p2, p3⟩ := HP.out.cells
  obtain ⟨c0, c1⟩ := HC.out.cells
  obtain ⟨d0, d1, d2, d3⟩ := HT.out.cells
  have df := HT.out.frozen
  have pl := HP.out.lt
  have cl := HC.out.lt
  have tl := HT.out.lt
  have pl1 : w.heap.size < w2.heap.size + 1 := by omega
  have cl1 : w.heap.size + 1 < w2.heap.size + 1 := by omega
  have tl1 : w.heap.size + 1 + 1 < w2.heap.size + 1 := by omega
  have ne1 : ¬ w.heap.size = w2.heap.size := by omega
  have ne2 : ¬ w2.heap.size = w.heap.size := by omega
  have ne3 : ¬ w.heap.size + 1 + 1 = w2.heap.size := by omega
  have ne4 : ¬ w2.heap.size = w.heap.size + 1 + 1 := by omega
  have ne5 : ¬ w.heap.size + 1 = w2.heap.size := by omega
  have ne6 : ¬ w2.heap.size = w.heap.size + 1 := by omega
  clear hb HF HB0 HP0 HC0 HT0
  have h9 := H9.out
  go_wp2
  go_region
  all_goals
    go_wp2
    --M8D
    exact bodyPost_ret (PhAt.res3 (fn := Tryd.f12) (p0 := 4) (u := 5) (x := 6) (v := .int .i64 f) (y := .int .i64 0) (PhAt.drew ((HT.out.set4 true f 0 0).alloc _)) (by kernel_rfl) _ (by rfl) (by rfl) (by rfl)) rfl ⟨rfl, (Below.drew ((below4 HB.out (by omega) true f 0 0).alloc (by rw [size4]; exact HB.out.size) _))⟩
end Go.Proofs.YtdamiplpibacoaaDoor
