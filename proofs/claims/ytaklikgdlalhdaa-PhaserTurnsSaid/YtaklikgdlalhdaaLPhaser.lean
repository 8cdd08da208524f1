/-
  The laws of chapter 19: what a phaser is told first; WHO COMES IS WAITED FOR.
-/
import Derived.Test.YtaklikgdlalhdaaLPacked
import Derived.Test.YtaklikgdlalhdaaPsDo
import Derived.Test.YtaklikgdlalhdaaPickB
namespace Go.Proofs.Ytaklikgdlalhdaa
open Go.RowKit
set_option linter.unusedVariables false
set_option linter.unusedSimpArgs false

theorem phased_any (w : World) : Calls Try.prog 12 #[] w fun e w' => e = .returned (.bool true) ∧ Below w.heap.size w w' := by
  have D1 := Lib.hid (fun W => psDo_any false 0 2 2 7 0 W ⟨⟨by decide, by decide⟩, ⟨by decide, by decide⟩, by decide, by decide⟩ (.inr (.inr ⟨.inl rfl, rfl⟩)) (by decide) (o' := false) (f' := 0) (p' := 2) (q' := 1) (k := 0) (by rfl))
  have D2 := Lib.hid (fun W => psDo_any false 0 2 1 7 0 W ⟨⟨by decide, by decide⟩, ⟨by decide, by decide⟩, by decide, by decide⟩ (.inr (.inr ⟨.inl rfl, rfl⟩)) (by decide) (o' := false) (f' := 1) (p' := 2) (q' := 2) (k := 0) (by rfl))
  have D3 := Lib.hid (fun W => psDo_any false 1 2 2 10 1 W ⟨⟨by decide, by decide⟩, ⟨by decide, by decide⟩, by decide, by decide⟩ (.inr (.inl ⟨rfl, by decide, by decide⟩)) (by decide) (o' := false) (f' := 1) (p' := 2) (q' := 2) (k := -4) (by rfl))
  have HB1 := Lib.hid (Below.refl w.heap.size w)
  go_enter Try.func12, Try.ntmps12
  have HB2 := Lib.hid (HB1.out.alloc HB1.out.size (.cells #[.bool false, .int .i64 0, .int .i64 2, .int .i64 2] 23))
  have HP3 := Lib.hid (PhAt.new w false 0 2 2)
  go_wp2_with fail
  refine (D1.out _).mono ?_
  rintro e w1 ⟨rfl, hb⟩
  have HB4 := Lib.hid (HB2.out.trans (hb.mono HB2.out.size))
  have HP5 := Lib.hid (HP3.out.below hb HP3.out.lt)
  clear hb HB2 HP3
  obtain ⟨a1c0, a1c1, a1c2, a1c3⟩ := HP5.out.cells
  have a1f := HP5.out.frozen
  have a1l := HP5.out.lt
  have HB6 := Lib.hid (below4 HB4.out (b := w.heap.size) (by first | omega | simp) false 0 2 1)
  have HP7 := Lib.hid (HP5.out.set4 false 0 2 1)
  go_wp2_with fail
  refine (D2.out _).mono ?_
  rintro e w2 ⟨rfl, hb⟩
  have HB8 := Lib.hid (HB6.out.trans (hb.mono HB6.out.size))
  have HP9 := Lib.hid (HP7.out.below hb HP7.out.lt)
  clear hb HB6 HP7 a1c0 a1c1 a1c2 a1c3 a1f a1l
  obtain ⟨a2c0, a2c1, a2c2, a2c3⟩ := HP9.out.cells
  have a2f := HP9.out.frozen
  have a2l := HP9.out.lt
  have HB10 := Lib.hid (below4 HB8.out (b := w.heap.size) (by first | omega | simp) false 1 2 2)
  have HP11 := Lib.hid (HP9.out.set4 false 1 2 2)
  go_wp2_with fail
  refine (D3.out _).mono ?_
  rintro e w3 ⟨rfl, hb⟩
  have HB12 := Lib.hid (HB10.out.trans (hb.mono HB10.out.size))
  have HP13 := Lib.hid (HP11.out.below hb HP11.out.lt)
  clear hb HB10 HP11 a2c0 a2c1 a2c2 a2c3 a2f a2l
  obtain ⟨a3c0, a3c1, a3c2, a3c3⟩ := HP13.out.cells
  have a3f := HP13.out.frozen
  have a3l := HP13.out.lt
  have HB14 := Lib.hid (below4 HB12.out (b := w.heap.size) (by first | omega | simp) false 1 2 2)
  have HP15 := Lib.hid (HP13.out.set4 false 1 2 2)
  go_wp2
  --MA
  go_ret
  exact ⟨rfl, HB14.out⟩

/-! WHO COMES IS WAITED FOR. -/
end Go.Proofs.Ytaklikgdlalhdaa
