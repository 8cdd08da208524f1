/-
  gone: its walk.
-/
import Derived.Test.YtkmidefgmefohaaDoorMAt
namespace Go.Proofs.YtkmidefgmefohaaDoor
set_option maxRecDepth 100000
open Go.RowKit Go.Shelf Go.Sort
set_option linter.unusedVariables false
set_option linter.unusedSimpArgs false

set_option maxHeartbeats 4000000 in
theorem gone_any {w : World} (hw : CW w) :
    Calls Tryd.prog 12 #[] w fun e w' => e = .returned (.bool true) ∧ Below w.heap.size w w' := by
  go_enter Tryd.func12, Tryd.ntmps12
  go_wp2_with fail
  obtain ⟨f0, f1, f2, f3, f4, f5⟩ := four_made w (.cells #[.int .i64 8, .int .i64 1, .int .i64 0, .int .i64 3, .int .i64 0, .int .i64 16, .int .i64 3, .int .i64 1, .int .i64 0, .int .i64 0, .int .i64 0, .int .i64 0, .int .i64 0, .int .i64 0, .int .i64 0] 48)
    (.cells #[.int .i64 14, .int .i64 0, .int .i64 0, .int .i64 0, .int .i64 0, .int .i64 0, .int .i64 0, .int .i64 0, .int .i64 0, .int .i64 0] 48)
    (.cells #[.slice (some ⟨w.heap.size, 0, none⟩) 3 3, .slice (some ⟨w.heap.size + 1, 0, none⟩) 2 2] 35) (.cells #[.int .u64 0] 50)
  refine (gone_new hw (by rw [f0]; omega) f1 f2 f3 f4 f5).mono ?_
  clear f0 f1 f2 f3 f4 f5
  rintro e w1 ⟨c, rfl, hA⟩
  have HA := Lib.hid hA
  clear hA
  go_wp2_with fail
  have HBig := Lib.hid (newM_big (ps := goneP) (cells := [0]) gone_fit (by intro v hv; simp at hv; subst hv; exact ⟨by decide, by decide⟩))
  have HB1 := Lib.hid (HBig.out.step 1)
  have HB2 := Lib.hid (HB1.out.step 0)
  have HB4 := Lib.hid (HB2.out.run [0, 0, 0, 1])
  refine (at_step HA.out HBig.out 1).mono ?_
  rw [gone_1]
  rintro e w2 ⟨rfl, hA2⟩
  rw [show stepM 20000 (newM goneP [0]) 1 = (0, gone1) from gone_1] at HB1 HB2 HB4
  rw [show stepM 20000 gone1 0 = (0, gone2) from gone_2] at HB2 HB4
  rw [gone_run] at HB4
  have HA2 := Lib.hid hA2
  clear hA2 HA HBig
  rw [errV_zero]
  go_wp2_with fail
  refine (at_step HA2.out HB1.out 0).mono ?_
  rw [gone_2]
  rintro e w3 ⟨rfl, hA3⟩
  have HA3 := Lib.hid hA3
  clear hA3 HA2 HB1
  rw [errV_zero]
  go_wp2_with fail
  refine (at_run_new HA3.out HB2.out 4 [0, 0, 0, 1] _ (by intro i hi; have h4 : i < 4 := hi; match i, h4 with | 0, _ | 1, _ | 2, _ | 3, _ => rfl) (by decide)).mono ?_
  rw [gone_run]
  rintro e w4 ⟨rfl, hA4⟩
  have HA4 := Lib.hid hA4
  clear hA4 HA3 HB2
  go_wp2_with fail
  refine (at_at HA4.out 1).mono ?_
  rw [show atM gone4 1 = (1, 0, 0) from rfl]
  rintro e w5 ⟨rfl, hg5⟩
  have HA5 := Lib.hid (HA4.out.grow hg5)
  clear hg5 HA4
  rw [errV_zero]
  go_wp2_with fail
  refine (at_ends HA5.out (by decide)).mono ?_
  rw [show endsM gone4 = (false, true) from rfl]
  rintro e w6 ⟨rfl, hg6⟩
  have HA6 := Lib.hid (HA5.out.grow hg6)
  clear hg6 HA5
  go_wp2_with fail
  refine (at_cells HA6.out (by decide)).mono ?_
  rw [show gone4.cells = [3] from rfl]
  rintro e w7 ⟨A7, c7, rfl, ho7, hg7⟩
  have HA7 := Lib.hid (HA6.out.grow hg7)
  have HO7 := Lib.hid ho7
  have HS6 := Lib.hid HA6.out.size
  clear hg7 ho7 HA6
  go_wp2_with fail
  have hat8 := heap_alloc_new w7 (.cells #[.int .u64 3] 50)
  have hI8 : Ints .u64 (w7.alloc (.cells #[.int .u64 3] 50)) (w7.alloc (.cells #[.int .u64 3] 50)).heap.size (some ⟨w7.heap.size, 0, none⟩) 1 [3] := by
    refine ⟨rfl, fun _ => ⟨_, _, rfl, by simp, fun i hi => ?_⟩⟩
    match i, hi with
    | 0, _ => exact (cell_in hat8 0).trans rfl
  refine (equalU_same A7 _ 1 c7 1 [3] _ (by decide) _ (Ints.of_own (HO7.out.alloc _)) hI8).mono ?_
  rintro e w8 ⟨rfl, q8, rfl⟩
  have HA8 := Lib.hid ((HA7.out.grow (grown_a (World.grownBy.refl _ none) (.cells #[.int .u64 3] 50))).grow (grown_drewN _ q8))
  clear hat8 hI8 HA7 HO7 HS6
  generalize ((w7.alloc _).drewN q8) = w8 at *
  go_wp2_with fail
  refine (at_events HA8.out (by decide)).mono ?_
  rw [show gone4.events = [(3, 3, 0, 0)] from rfl]
  rintro e w9 ⟨A9, c9, rfl, ho9, hg9⟩
  have HA9 := Lib.hid (HA8.out.grow hg9)
  have HO9 := Lib.hid ho9
  clear hg9 ho9 HA8
  go_wp2_with fail
  have hat10 := heap_alloc_new w9 (.cells #[.int .i64 3, .int .i64 3, .int .i64 0, .int .i64 0] 44)
  have hE10 : EvRow (w9.alloc (.cells #[.int .i64 3, .int .i64 3, .int .i64 0, .int .i64 0] 44)) (some ⟨w9.heap.size, 0, none⟩) 1 [(3, 3, 0, 0)] := by
    intro i hi
    match i, hi with
    | 0, _ => exact ⟨_, _, rfl, (cell_in hat10 0).trans rfl, (cell_in hat10 1).trans rfl, (cell_in hat10 2).trans rfl, (cell_in hat10 3).trans rfl⟩
  refine (equalE_same A9 _ 1 c9 1 [(3, 3, 0, 0)] _ (by decide) (evRow_own (HO9.out.alloc _) rfl) hE10).mono ?_
  rintro e w10 ⟨rfl, q10, rfl⟩
  have HA10 := Lib.hid ((HA9.out.grow (grown_a (World.grownBy.refl _ none) (.cells #[.int .i64 3, .int .i64 3, .int .i64 0, .int .i64 0] 44))).grow (grown_drewN _ q10))
  clear hat10 hE10 HA9 HO9
  generalize ((w9.alloc _).drewN q10) = w10 at *
  go_wp2_with fail
  refine (at_steps HA10.out).mono ?_
  rw [show (gone4.steps : Int) = 4 from rfl]
  rintro e w11 ⟨rfl, rfl⟩
  have HBL := Lib.hid HA10.out.bel
  clear HA10
  go_wp2
  go_ret
  exact ⟨rfl, HBL.out⟩
end Go.Proofs.YtkmidefgmefohaaDoor
