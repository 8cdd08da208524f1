/-
  Package phaser: next at any call, Do at any state. Package phaser: Do at any state. The laws of chapter 18: what packing is told first. pick: a number below another one, however large. The laws of chapter 19: what a phaser is told first; WHO COMES IS WAITED FOR.
-/
import Derived.Test.YtdhlmgoodpepeaaGreatDoorQP2
import Derived.Deep.RegionWith
import Derived.Test.YtdhlmgoodpepeaaGreatDoorQP
import Derived.Test.YtdhlmgoodpepeaaGreatDoorQI
namespace Go.Proofs.YtdhlmgoodpepeaaGreatDoor
set_option maxRecDepth 100000
open Go.RowKit
set_option linter.unusedVariables false
set_option linter.unusedSimpArgs false

set_option maxHeartbeats 8000000 in
theorem next_watch (f p q n : Int) (w : World) : Calls Tryz.prog 67 #[.agg #[.bool false, .int .i64 f, .int .i64 p, .int .i64 q], .agg #[.int .i64 10, .int .i64 n]] w fun e w' => e = .returned (.tuple #[.agg #[.bool false, .int .i64 f, .int .i64 p, .int .i64 q], .int .i64 (if f = n then -4 else f)]) ∧ Below w.heap.size w w' := by
  obtain ⟨k, hk⟩ : ∃ k, (if f = n then -4 else f) = k := ⟨_, rfl⟩
  have HC := Lib.hid (fun W => watch_any false f p q n W)
  rw [hk] at HC ⊢
  have HN := Lib.hid (nextW_facts w false f p q 10 n)
  clear hk
  go_enter Tryz.func67, Tryz.ntmps67
  go_wp2
  --MO
  go_region_with (go_at_call 93; refine (HC.out _).mono ?_; rintro e w1 ⟨rfl, hb⟩; have hb2 : Below (nextW w false f p q 10 n).heap.size (nextW w false f p q 10 n) w1 := ⟨hb.os, hb.tape, hb.output, hb.size, hb.block⟩; have HB := Lib.hid (HN.out.1.trans (hb2.mono HN.out.1.size)); have HR := Lib.hid (HN.out.2.2.2.1.below hb2 HN.out.2.2.2.1.lt); have HP := Lib.hid (HN.out.2.1.below hb2 HN.out.2.1.lt); obtain ⟨d0, d1, d2, d3⟩ := HR.out.cells; have df := HR.out.frozen; obtain ⟨c0, c1, c2, c3⟩ := HP.out.cells; clear hb hb2)
  all_goals
    go_wp2
    exact bodyPost_ret ((HR.out.set4 false f p q).res2 (fn := Tryz.f67) (p0 := 4) (u := 5) (v := .int .i64 k) (by kernel_rfl) _ (by rfl) (by rfl)) rfl ⟨rfl, below4 HB.out (by omega) false f p q⟩
theorem next_any (o : Bool) (f p q a n : Int) (w : World) (h : PhS.ok ⟨o, f, p, q⟩) (hc : fitsC a n) (ha : a ≠ 9) {o' : Bool} {f' p' q' k : Int} (hx : phNext ⟨o, f, p, q⟩ a n = (⟨o', f', p', q'⟩, k)) :
    Calls Tryz.prog 67 #[.agg #[.bool o, .int .i64 f, .int .i64 p, .int .i64 q], .agg #[.int .i64 a, .int .i64 n]] w fun e w' => e = .returned (.tuple #[.agg #[.bool o', .int .i64 f', .int .i64 p', .int .i64 q'], .int .i64 k]) ∧ Below w.heap.size w w' := by
  have h2 : 0 ≤ p ∧ p ≤ 65535 := h.2.1
  have h3 : 0 ≤ q ∧ q ≤ p := h.2.2
  cases o with
  | true =>
    rw [phNext_over (x := ⟨true, f, p, q⟩) rfl] at hx
    simp only [Prod.mk.injEq, PhS.mk.injEq] at hx
    obtain ⟨⟨rfl, rfl, rfl, rfl⟩, rfl⟩ := hx
    exact next_over f p q a n w
  | false =>
    rcases hc with ⟨rfl, h1, h2'⟩ | ⟨rfl, h1, h2'⟩ | ⟨e | e | e | e, rfl⟩
    · by_cases g : 65535 < p + n
      · rw [phNext_full (x := ⟨false, f, p, q⟩) rfl g] at hx
        simp only [Prod.mk.injEq, PhS.mk.injEq] at hx
        obtain ⟨⟨rfl, rfl, rfl, rfl⟩, rfl⟩ := hx
        exact next_full f p q n w g h2.2 h2'
      · rw [phNext_reg (x := ⟨false, f, p, q⟩) rfl g] at hx
        simp only [Prod.mk.injEq, PhS.mk.injEq] at hx
        obtain ⟨⟨rfl, rfl, rfl, rfl⟩, rfl⟩ := hx
        exact next_in f p q n w (by omega) h3.1 h3.2 (by omega)
    · rw [phNext_watch (x := ⟨false, f, p, q⟩) rfl] at hx
      simp only [Prod.mk.injEq, PhS.mk.injEq] at hx
      obtain ⟨⟨rfl, rfl, rfl, rfl⟩, rfl⟩ := hx
      exact next_watch f p q n w
    · subst e
      rw [phNext_arrive (x := ⟨false, f, p, q⟩) rfl] at hx
      exact next_arrive f p q w h hx
    · subst e
      rw [phNext_leave (x := ⟨false, f, p, q⟩) rfl] at hx
      exact next_leave f p q w h hx
    · exact absurd e ha
    · subst e
      rw [phNext_close (x := ⟨false, f, p, q⟩) rfl] at hx
      simp only [Prod.mk.injEq, PhS.mk.injEq] at hx
      obtain ⟨⟨rfl, rfl, rfl, rfl⟩, rfl⟩ := hx
      exact next_close f p q 0 w

end Go.Proofs.YtdhlmgoodpepeaaGreatDoor

namespace Go.Proofs.YtdhlmgoodpepeaaGreatDoor
set_option maxRecDepth 100000
open Go.RowKit
set_option linter.unusedVariables false
set_option linter.unusedSimpArgs false

/-! Do. -/
set_option maxHeartbeats 2000000 in
theorem psDo_any (o : Bool) (f p q a n : Int) (w : World) (h : PhS.ok ⟨o, f, p, q⟩) (hc : fitsC a n) (ha : a ≠ 9) {o' : Bool} {f' p' q' k : Int} (hx : phNext ⟨o, f, p, q⟩ a n = (⟨o', f', p', q'⟩, k)) :
    Calls Tryz.prog 34 #[.agg #[.bool o, .int .i64 f, .int .i64 p, .int .i64 q], .agg #[.int .i64 a, .int .i64 n]] w fun e w' => e = .returned (.tuple #[.agg #[.bool o', .int .i64 f', .int .i64 p', .int .i64 q'], .int .i64 k, .nilIface]) ∧ Below w.heap.size w w' := by
  have HR := Lib.hid (fun W => pkRight_yes o f p q W h)
  have HF := Lib.hid (fun W => fits_yes a n W hc)
  have HX := Lib.hid (fun W => next_any o f p q a n W h hc ha hx)
  have HN := Lib.hid (nextW_facts w o f p q a n)
  have h9 : (a == 9) = false := by simp; exact ha
  have H9 := Lib.hid h9
  clear h hc ha hx h9
  go_enter Tryz.func34, Tryz.ntmps34
  go_wp2_with fail
  refine (HR.out _).mono ?_
  rintro e w1 ⟨rfl, hb⟩
  have HB := Lib.hid (HN.out.1.trans (hb.mono HN.out.1.size))
  have HP := Lib.hid (HN.out.2.1.below hb HN.out.2.1.lt)
  have HC := Lib.hid (HN.out.2.2.1.below hb HN.out.2.2.1.lt)
  have HT := Lib.hid (HN.out.2.2.2.1.below hb HN.out.2.2.2.1.lt)
  obtain ⟨p0, p1, p2, p3⟩ := HP.out.cells
  obtain ⟨c0, c1⟩ := HC.out.cells
  clear hb HR HN
  go_wp2_with fail
  refine (HF.out _).mono ?_
  rintro e w2 ⟨rfl, hb⟩
  have HB2 := Lib.hid (HB.out.trans (hb.mono HB.out.size))
  have HP2 := Lib.hid (HP.out.below hb HP.out.lt)
  have HC2 := Lib.hid (HC.out.below hb HC.out.lt)
  have HT2 := Lib.hid (HT.out.below hb HT.out.lt)
  clear p0 p1 p2 p3 c0 c1
  obtain ⟨p0, p1, p2, p3⟩ := HP2.out.cells
  obtain ⟨c0, c1⟩ := HC2.out.cells
  have h9 := H9.out
  clear hb HF HB HP HC HT
  go_wp2_with fail
  refine (HX.out _).mono ?_
  rintro e w3 ⟨rfl, hb⟩
  have HB3 := Lib.hid (HB2.out.trans (hb.mono HB2.out.size))
  have HT3 := Lib.hid (HT2.out.below hb HT2.out.lt)
  obtain ⟨d0, d1, d2, d3⟩ := HT3.out.cells
  have df := HT3.out.frozen
  have HLt := Lib.hid HT3.out.lt
  have hlt := HT3.out.lt
  clear hb HX HB2 HP2 HC2 HT2 p0 p1 p2 p3 c0 c1 h9
  go_wp2
  --MQ
  have HZ := (below4 HB3.out (b := w.heap.size + 1 + 1) (by omega) o' f' p' q').alloc (by rw [size4]; exact HB3.out.size) (.cells #[.bool o', .int .i64 f', .int .i64 p', .int .i64 q'] 28)
  exact bodyPost_ret (((HT3.out.set4 o' f' p' q').alloc _).res3 (fn := Tryz.f34) (p0 := 4) (u := 5) (x := 6) (v := .int .i64 k) (y := .nilIface) (by kernel_rfl) _ (by rfl) (by rfl) (by rfl)) rfl ⟨rfl, HZ⟩
end Go.Proofs.YtdhlmgoodpepeaaGreatDoor

namespace Go.Proofs.YtdhlmgoodpepeaaGreatDoor
set_option maxRecDepth 100000
open Go.RowKit
set_option linter.unusedVariables false
set_option linter.unusedSimpArgs false

structure Four (w : World) (b c : Nat) (o : Bool) (f p q : Int) : Prop where
  a0 : PhAt w b o f p q
  a1 : PhAt w c o f (p + 1) q
  a2 : PhAt w (c + 1) o f (p + 1) (q + 1)
  a3 : PhAt w (c + 1 + 1) o (f + 1) p q
theorem Four.below {w w' : World} {b c : Nat} {o : Bool} {f p q : Int} (h : Four w b c o f p q) (hb : Below w.heap.size w w') : Four w' b c o f p q :=
  ⟨h.a0.below hb h.a0.lt, h.a1.below hb h.a1.lt, h.a2.below hb h.a2.lt, h.a3.below hb h.a3.lt⟩
def threeW (w : World) (o : Bool) (f p q : Int) : World := ((w.alloc (.cells #[.bool o, .int .i64 f, .int .i64 (p + 1), .int .i64 q] 28)).alloc (.cells #[.bool o, .int .i64 f, .int .i64 (p + 1), .int .i64 (q + 1)] 28)).alloc (.cells #[.bool o, .int .i64 (f + 1), .int .i64 p, .int .i64 q] 28)
theorem Four.new {w : World} {b : Nat} {o : Bool} {f p q : Int} (h : PhAt w b o f p q) : Four (threeW w o f p q) b w.heap.size o f p q :=
  ⟨((h.alloc _).alloc _).alloc _, ((PhAt.new _ _ _ _ _).alloc _).alloc _, (PhAt.new2 _ _ _ _ _ _).alloc _, PhAt.new3 _ _ _ _ _ _ _⟩
end Go.Proofs.YtdhlmgoodpepeaaGreatDoor

namespace Go.Proofs.YtdhlmgoodpepeaaGreatDoor
set_option maxRecDepth 100000
open Go.RowKit

end Go.Proofs.YtdhlmgoodpepeaaGreatDoor

namespace Go.Proofs.YtdhlmgoodpepeaaGreatDoor
set_option maxRecDepth 100000
open Go.RowKit
set_option linter.unusedVariables false
set_option linter.unusedSimpArgs false

theorem phased_any (w : World) : Calls Tryz.prog 33 #[] w fun e w' => e = .returned (.bool true) ∧ Below w.heap.size w w' := by
  have D1 := Lib.hid (fun W => psDo_any false 0 2 2 7 0 W ⟨⟨by decide, by decide⟩, ⟨by decide, by decide⟩, by decide, by decide⟩ (.inr (.inr ⟨.inl rfl, rfl⟩)) (by decide) (o' := false) (f' := 0) (p' := 2) (q' := 1) (k := 0) (by rfl))
  have D2 := Lib.hid (fun W => psDo_any false 0 2 1 7 0 W ⟨⟨by decide, by decide⟩, ⟨by decide, by decide⟩, by decide, by decide⟩ (.inr (.inr ⟨.inl rfl, rfl⟩)) (by decide) (o' := false) (f' := 1) (p' := 2) (q' := 2) (k := 0) (by rfl))
  have D3 := Lib.hid (fun W => psDo_any false 1 2 2 10 1 W ⟨⟨by decide, by decide⟩, ⟨by decide, by decide⟩, by decide, by decide⟩ (.inr (.inl ⟨rfl, by decide, by decide⟩)) (by decide) (o' := false) (f' := 1) (p' := 2) (q' := 2) (k := -4) (by rfl))
  have HB1 := Lib.hid (Below.refl w.heap.size w)
  go_enter Tryz.func33, Tryz.ntmps33
  have HB2 := Lib.hid (HB1.out.alloc HB1.out.size (.cells #[.bool false, .int .i64 0, .int .i64 2, .int .i64 2] 28))
  have HP3 := Lib.hid (PhAt.new w false 0 2 2)
  go_wp2_with fail
  refine (D1.out _).mono ?_
  rintro e w1 ⟨rfl, hb⟩
  have HB4 := Lib.hid (HB2.out.trans (hb.mono HB2.out.size))
  have HP5 := Lib.hid (HP3.out.below hb HP3.out.lt)
  clear hb HB2 HP3
  obtain ⟨a1c0, a1c1, a1c2, a1c3⟩ := HP5.out.cells
  have a1f := HP5.out.frozen
  have a1l := HP5.out.lt
  have HB6 := Lib.hid (below4 HB4.out (b := w.heap.size) (by first | omega | simp) false 0 2 1)
  have HP7 := Lib.hid (HP5.out.set4 false 0 2 1)
  go_wp2_with fail
  refine (D2.out _).mono ?_
  rintro e w2 ⟨rfl, hb⟩
  have HB8 := Lib.hid (HB6.out.trans (hb.mono HB6.out.size))
  have HP9 := Lib.hid (HP7.out.below hb HP7.out.lt)
  clear hb HB6 HP7 a1c0 a1c1 a1c2 a1c3 a1f a1l
  obtain ⟨a2c0, a2c1, a2c2, a2c3⟩ := HP9.out.cells
  have a2f := HP9.out.frozen
  have a2l := HP9.out.lt
  have HB10 := Lib.hid (below4 HB8.out (b := w.heap.size) (by first | omega | simp) false 1 2 2)
  have HP11 := Lib.hid (HP9.out.set4 false 1 2 2)
  go_wp2_with fail
  refine (D3.out _).mono ?_
  rintro e w3 ⟨rfl, hb⟩
  have HB12 := Lib.hid (HB10.out.trans (hb.mono HB10.out.size))
  have HP13 := Lib.hid (HP11.out.below hb HP11.out.lt)
  clear hb HB10 HP11 a2c0 a2c1 a2c2 a2c3 a2f a2l
  obtain ⟨a3c0, a3c1, a3c2, a3c3⟩ := HP13.out.cells
  have a3f := HP13.out.frozen
  have a3l := HP13.out.lt
  have HB14 := Lib.hid (below4 HB12.out (b := w.heap.size) (by first | omega | simp) false 1 2 2)
  have HP15 := Lib.hid (HP13.out.set4 false 1 2 2)
  go_wp2
  --MA
  go_ret
  exact ⟨rfl, HB14.out⟩

/-! WHO COMES IS WAITED FOR. -/
end Go.Proofs.YtdhlmgoodpepeaaGreatDoor
