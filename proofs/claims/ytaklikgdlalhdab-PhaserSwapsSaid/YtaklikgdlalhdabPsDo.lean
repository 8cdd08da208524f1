/-
  Package phaser: Do at any state.
-/
import Derived.Test.YtaklikgdlalhdabPsNext
namespace Go.Proofs.Ytaklikgdlalhdab
open Go.RowKit
set_option linter.unusedVariables false
set_option linter.unusedSimpArgs false

/-! Do. -/
set_option maxHeartbeats 2000000 in
theorem psDo_any (o : Bool) (f p q a n : Int) (w : World) (h : PhS.ok ⟨o, f, p, q⟩) (hc : fitsC a n) (ha : a ≠ 9) {o' : Bool} {f' p' q' k : Int} (hx : phNext ⟨o, f, p, q⟩ a n = (⟨o', f', p', q'⟩, k)) :
    Calls Try.prog 11 #[.agg #[.bool o, .int .i64 f, .int .i64 p, .int .i64 q], .agg #[.int .i64 a, .int .i64 n]] w fun e w' => e = .returned (.tuple #[.agg #[.bool o', .int .i64 f', .int .i64 p', .int .i64 q'], .int .i64 k, .nilIface]) ∧ Below w.heap.size w w' := by
  have HR := Lib.hid (fun W => pkRight_yes o f p q W h)
  have HF := Lib.hid (fun W => fits_yes a n W hc)
  have HX := Lib.hid (fun W => next_any o f p q a n W h hc ha hx)
  have HN := Lib.hid (nextW_facts w o f p q a n)
  have h9 : (a == 9) = false := by simp; exact ha
  have H9 := Lib.hid h9
  clear h hc ha hx h9
  go_enter Try.func11, Try.ntmps11
  go_wp2_with fail
  refine (HR.out _).mono ?_
  rintro e w1 ⟨rfl, hb⟩
  have HB := Lib.hid (HN.out.1.trans (hb.mono HN.out.1.size))
  have HP := Lib.hid (HN.out.2.1.below hb HN.out.2.1.lt)
  have HC := Lib.hid (HN.out.2.2.1.below hb HN.out.2.2.1.lt)
  have HT := Lib.hid (HN.out.2.2.2.1.below hb HN.out.2.2.2.1.lt)
  obtain ⟨p0, p1, p2, p3⟩ := HP.out.cells
  obtain ⟨c0, c1⟩ := HC.out.cells
  clear hb HR HN
  go_wp2_with fail
  refine (HF.out _).mono ?_
  rintro e w2 ⟨rfl, hb⟩
  have HB2 := Lib.hid (HB.out.trans (hb.mono HB.out.size))
  have HP2 := Lib.hid (HP.out.below hb HP.out.lt)
  have HC2 := Lib.hid (HC.out.below hb HC.out.lt)
  have HT2 := Lib.hid (HT.out.below hb HT.out.lt)
  clear p0 p1 p2 p3 c0 c1
  obtain ⟨p0, p1, p2, p3⟩ := HP2.out.cells
  obtain ⟨c0, c1⟩ := HC2.out.cells
  have h9 := H9.out
  clear hb HF HB HP HC HT
  go_wp2_with fail
  refine (HX.out _).mono ?_
  rintro e w3 ⟨rfl, hb⟩
  have HB3 := Lib.hid (HB2.out.trans (hb.mono HB2.out.size))
  have HT3 := Lib.hid (HT2.out.below hb HT2.out.lt)
  obtain ⟨d0, d1, d2, d3⟩ := HT3.out.cells
  have df := HT3.out.frozen
  have HLt := Lib.hid HT3.out.lt
  have hlt := HT3.out.lt
  clear hb HX HB2 HP2 HC2 HT2 p0 p1 p2 p3 c0 c1 h9
  go_wp2
  --MQ
  have HZ := (below4 HB3.out (b := w.heap.size + 1 + 1) (by omega) o' f' p' q').alloc (by rw [size4]; exact HB3.out.size) (.cells #[.bool o', .int .i64 f', .int .i64 p', .int .i64 q'] 23)
  exact bodyPost_ret (((HT3.out.set4 o' f' p' q').alloc _).res3 (fn := Try.f11) (p0 := 4) (u := 5) (x := 6) (v := .int .i64 k) (y := .nilIface) (by kernel_rfl) _ (by rfl) (by rfl) (by rfl)) rfl ⟨rfl, HZ⟩
/-- What may not be so. -/
def NoDo (w : World) (e : Ending) (w' : World) : Prop := e = .returned (.tuple #[.agg #[.bool false, .int .i64 0, .int .i64 0, .int .i64 0], .int .i64 0, .iface 45 (.int .i64 1)]) ∧ Below w.heap.size w w'
set_option maxHeartbeats 2000000 in
theorem psDo_wrong (o : Bool) (f p q a n : Int) (w : World) (h : ¬ PhS.ok ⟨o, f, p, q⟩) :
    Calls Try.prog 11 #[.agg #[.bool o, .int .i64 f, .int .i64 p, .int .i64 q], .agg #[.int .i64 a, .int .i64 n]] w (NoDo w) := by
  have HR := Lib.hid (fun W => pkRight_no o f p q W h)
  have HN := Lib.hid (nextW_facts w o f p q a n)
  clear h
  go_enter Try.func11, Try.ntmps11
  go_wp2_with fail
  refine (HR.out _).mono ?_
  rintro e w1 ⟨rfl, hb⟩
  have HB := Lib.hid (HN.out.1.trans (hb.mono HN.out.1.size))
  have HT := Lib.hid (HN.out.2.2.2.1.below hb HN.out.2.2.2.1.lt)
  obtain ⟨d0, d1, d2, d3⟩ := HT.out.cells
  have df := HT.out.frozen
  clear hb HR HN
  go_wp2
  exact bodyPost_ret ((HT.out.set4 false 0 0 0).res3 (fn := Try.f11) (p0 := 4) (u := 5) (x := 6) (v := .int .i64 0) (y := .iface 45 (.int .i64 1)) (by kernel_rfl) _ (by rfl) (by rfl) (by rfl)) rfl ⟨rfl, below4 HB.out (by omega) false 0 0 0⟩
set_option maxHeartbeats 2000000 in
theorem psDo_unfit (o : Bool) (f p q a n : Int) (w : World) (h : PhS.ok ⟨o, f, p, q⟩) (hc : ¬ fitsC a n) :
    Calls Try.prog 11 #[.agg #[.bool o, .int .i64 f, .int .i64 p, .int .i64 q], .agg #[.int .i64 a, .int .i64 n]] w (NoDo w) := by
  have HR := Lib.hid (fun W => pkRight_yes o f p q W h)
  have HF := Lib.hid (fun W => fits_no a n W hc)
  have HN := Lib.hid (nextW_facts w o f p q a n)
  clear h hc
  go_enter Try.func11, Try.ntmps11
  go_wp2_with fail
  refine (HR.out _).mono ?_
  rintro e w1 ⟨rfl, hb⟩
  have HB0 := Lib.hid (HN.out.1.trans (hb.mono HN.out.1.size))
  have HC0 := Lib.hid (HN.out.2.2.1.below hb HN.out.2.2.1.lt)
  have HT0 := Lib.hid (HN.out.2.2.2.1.below hb HN.out.2.2.2.1.lt)
  obtain ⟨c0, c1⟩ := HC0.out.cells
  clear hb HR HN
  go_wp2_with fail
  refine (HF.out _).mono ?_
  rintro e w2 ⟨rfl, hb⟩
  have HB := Lib.hid (HB0.out.trans (hb.mono HB0.out.size))
  have HT := Lib.hid (HT0.out.below hb HT0.out.lt)
  clear c0 c1
  obtain ⟨d0, d1, d2, d3⟩ := HT.out.cells
  have df := HT.out.frozen
  clear hb HF HB0 HT0 HC0
  go_wp2
  exact bodyPost_ret ((HT.out.set4 false 0 0 0).res3 (fn := Try.f11) (p0 := 4) (u := 5) (x := 6) (v := .int .i64 0) (y := .iface 45 (.int .i64 1)) (by kernel_rfl) _ (by rfl) (by rfl) (by rfl)) rfl ⟨rfl, below4 HB.out (by omega) false 0 0 0⟩
set_option maxHeartbeats 2000000 in
theorem psDo_pass (o : Bool) (f p q n : Int) (w : World) (h : PhS.ok ⟨o, f, p, q⟩) (hc : fitsC 9 n) :
    Calls Try.prog 11 #[.agg #[.bool o, .int .i64 f, .int .i64 p, .int .i64 q], .agg #[.int .i64 9, .int .i64 n]] w (NoDo w) := by
  have HR := Lib.hid (fun W => pkRight_yes o f p q W h)
  have HF := Lib.hid (fun W => fits_yes 9 n W hc)
  have HN := Lib.hid (nextW_facts w o f p q 9 n)
  clear h hc
  go_enter Try.func11, Try.ntmps11
  go_wp2_with fail
  refine (HR.out _).mono ?_
  rintro e w1 ⟨rfl, hb⟩
  have HB0 := Lib.hid (HN.out.1.trans (hb.mono HN.out.1.size))
  have HC0 := Lib.hid (HN.out.2.2.1.below hb HN.out.2.2.1.lt)
  have HT0 := Lib.hid (HN.out.2.2.2.1.below hb HN.out.2.2.2.1.lt)
  obtain ⟨c0, c1⟩ := HC0.out.cells
  clear hb HR HN
  go_wp2_with fail
  refine (HF.out _).mono ?_
  rintro e w2 ⟨rfl, hb⟩
  have HB := Lib.hid (HB0.out.trans (hb.mono HB0.out.size))
  have HC := Lib.hid (HC0.out.below hb HC0.out.lt)
  have HT := Lib.hid (HT0.out.below hb HT0.out.lt)
  clear c0 c1
  obtain ⟨c0, c1⟩ := HC.out.cells
  obtain ⟨d0, d1, d2, d3⟩ := HT.out.cells
  have df := HT.out.frozen
  clear hb HF HB0 HT0 HC0
  go_wp2
  exact bodyPost_ret ((HT.out.set4 false 0 0 0).res3 (fn := Try.f11) (p0 := 4) (u := 5) (x := 6) (v := .int .i64 0) (y := .iface 45 (.int .i64 1)) (by kernel_rfl) _ (by rfl) (by rfl) (by rfl)) rfl ⟨rfl, below4 HB.out (by omega) false 0 0 0⟩
theorem psDo_no (o : Bool) (f p q a n : Int) (w : World) (h : ¬ (PhS.ok ⟨o, f, p, q⟩ ∧ fitsC a n ∧ a ≠ 9)) :
    Calls Try.prog 11 #[.agg #[.bool o, .int .i64 f, .int .i64 p, .int .i64 q], .agg #[.int .i64 a, .int .i64 n]] w (NoDo w) := by
  by_cases h1 : PhS.ok ⟨o, f, p, q⟩
  · by_cases h2 : fitsC a n
    · have h3 : a = 9 := Classical.byContradiction fun h3 => h ⟨h1, h2, h3⟩
      subst h3
      exact psDo_pass o f p q n w h1 h2
    · exact psDo_unfit o f p q a n w h1 h2
  · exact psDo_wrong o f p q a n w h1
end Go.Proofs.Ytaklikgdlalhdab
