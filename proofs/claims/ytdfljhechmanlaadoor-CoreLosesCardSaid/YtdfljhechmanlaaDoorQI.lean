/-
  slices.Equal at []int: whether two readings are one list; nothing is written. pick: a number below another. What fair.Is and fair.Rounds come to (told by FairOK); picked: the fact that the laws on fairness ask first. gone: its walk. api.Tell, plain.Place and the laws' 'bare' of no error, and of an Errno. A region that draws its order, walked by hand: operations that look at no memory by the kernel, many at once; calls by their contracts. (No program is named here.) WHO SLEEPS WAITS. THE SAME AGAIN.
-/
import Derived.Test.YtdfljhechmanlaaDoorQA
import Derived.Test.YtdfljhechmanlaaDoorQH
import Derived.Test.YtdfljhechmanlaaDoorQE2
import Derived.RegionTactic
namespace Go.Proofs.YtdfljhechmanlaaDoor
set_option maxRecDepth 100000
open Go.RowKit

end Go.Proofs.YtdfljhechmanlaaDoor

namespace Go.Proofs.YtdfljhechmanlaaDoor
set_option maxRecDepth 100000
open Go.RowKit

theorem wrapU_nn (a : Int) : 0 ≤ IntKind.u64.wrap a := by
  unfold IntKind.wrap
  simp [IntKind.signed, IntKind.bits]
  omega

/-- Which one of n a number stands for. -/
def pickI (a : Int) (n : Nat) : Int := (IntKind.u64.wrap a).tmod n
theorem pickI_lo (a : Int) (n : Nat) : 0 ≤ pickI a n := Int.tmod_nonneg _ (wrapU_nn a)
theorem pickI_hi (a : Int) (n : Nat) (h : 0 < n) : pickI a n < n := Int.tmod_lt_of_pos _ (by omega)

set_option maxHeartbeats 400000 in
theorem pick_det (a b : Int) (n : Nat) (w : World) (hb : b = (n : Int)) (h0 : 0 < n) (hn : n ≤ 1000) : Calls Tryd.prog 15 #[.int .i64 a, .int .i64 b] w fun e w' => e = .returned (.int .i64 (pickI a n)) ∧ w = w' := by
  subst hb
  have h1 := pickI_lo a n
  have h2 := pickI_hi a n h0
  have hd : (IntKind.u64.wrap a).tmod n = pickI a n := rfl
  have H := Lib.hid (And.intro h1 (And.intro h2 hd))
  clear h1 h2 hd
  go_enter Tryd.func15, Tryd.ntmps15
  go_wp2
  go_ret
  refine ⟨ret_int ?_, rfl⟩
  obtain ⟨h1, h2, h3⟩ := H.out
  rw [h3]
  unfold wrap64
  omega
end Go.Proofs.YtdfljhechmanlaaDoor

namespace Go.Proofs.YtdfljhechmanlaaDoor
set_option maxRecDepth 100000
open Go.RowKit
set_option linter.unusedVariables false
set_option linter.unusedSimpArgs false

end Go.Proofs.YtdfljhechmanlaaDoor

namespace Go.Proofs.YtdfljhechmanlaaDoor
set_option maxRecDepth 100000
open Go.RowKit Go.Shelf Go.Sort
set_option linter.unusedVariables false
set_option linter.unusedSimpArgs false

set_option maxHeartbeats 4000000 in
theorem gone_any {w : World} (hw : CW w) :
    Calls Tryd.prog 32 #[] w fun e w' => e = .returned (.bool true) ∧ Below w.heap.size w w' := by
  go_enter Tryd.func32, Tryd.ntmps32
  go_wp2_with fail
  obtain ⟨f0, f1, f2, f3, f4, f5⟩ := four_made w (.cells #[.int .i64 8, .int .i64 1, .int .i64 0, .int .i64 3, .int .i64 0, .int .i64 16, .int .i64 3, .int .i64 1, .int .i64 0, .int .i64 0, .int .i64 0, .int .i64 0, .int .i64 0, .int .i64 0, .int .i64 0] 64)
    (.cells #[.int .i64 14, .int .i64 0, .int .i64 0, .int .i64 0, .int .i64 0, .int .i64 0, .int .i64 0, .int .i64 0, .int .i64 0, .int .i64 0] 64)
    (.cells #[.slice (some ⟨w.heap.size, 0, none⟩) 3 3, .slice (some ⟨w.heap.size + 1, 0, none⟩) 2 2] 55) (.cells #[.int .u64 0] 31)
  refine (gone_new hw (by rw [f0]; omega) f1 f2 f3 f4 f5).mono ?_
  clear f0 f1 f2 f3 f4 f5
  rintro e w1 ⟨c, rfl, hA⟩
  have HA := Lib.hid hA
  clear hA
  go_wp2_with fail
  have HBig := Lib.hid (newM_big (ps := goneP) (cells := [0]) gone_fit (by intro v hv; simp at hv; subst hv; exact ⟨by decide, by decide⟩))
  have HB1 := Lib.hid (HBig.out.step 1)
  have HB2 := Lib.hid (HB1.out.step 0)
  have HB4 := Lib.hid (HB2.out.run [0, 0, 0, 1])
  refine (at_step HA.out HBig.out 1).mono ?_
  rw [gone_1]
  rintro e w2 ⟨rfl, hA2⟩
  rw [show stepM 20000 (newM goneP [0]) 1 = (0, gone1) from gone_1] at HB1 HB2 HB4
  rw [show stepM 20000 gone1 0 = (0, gone2) from gone_2] at HB2 HB4
  rw [gone_run] at HB4
  have HA2 := Lib.hid hA2
  clear hA2 HA HBig
  rw [errV_zero]
  go_wp2_with fail
  refine (at_step HA2.out HB1.out 0).mono ?_
  rw [gone_2]
  rintro e w3 ⟨rfl, hA3⟩
  have HA3 := Lib.hid hA3
  clear hA3 HA2 HB1
  rw [errV_zero]
  go_wp2_with fail
  refine (at_run_new HA3.out HB2.out 4 [0, 0, 0, 1] _ (by intro i hi; have h4 : i < 4 := hi; match i, h4 with | 0, _ | 1, _ | 2, _ | 3, _ => rfl) (by decide)).mono ?_
  rw [gone_run]
  rintro e w4 ⟨rfl, hA4⟩
  have HA4 := Lib.hid hA4
  clear hA4 HA3 HB2
  go_wp2_with fail
  refine (at_at HA4.out 1).mono ?_
  rw [show atM gone4 1 = (1, 0, 0) from rfl]
  rintro e w5 ⟨rfl, hg5⟩
  have HA5 := Lib.hid (HA4.out.grow hg5)
  clear hg5 HA4
  rw [errV_zero]
  go_wp2_with fail
  refine (at_ends HA5.out (by decide)).mono ?_
  rw [show endsM gone4 = (false, true) from rfl]
  rintro e w6 ⟨rfl, hg6⟩
  have HA6 := Lib.hid (HA5.out.grow hg6)
  clear hg6 HA5
  go_wp2_with fail
  refine (at_cells HA6.out (by decide)).mono ?_
  rw [show gone4.cells = [3] from rfl]
  rintro e w7 ⟨A7, c7, rfl, ho7, hg7⟩
  have HA7 := Lib.hid (HA6.out.grow hg7)
  have HO7 := Lib.hid ho7
  have HS6 := Lib.hid HA6.out.size
  clear hg7 ho7 HA6
  go_wp2_with fail
  have hat8 := heap_alloc_new w7 (.cells #[.int .u64 3] 31)
  have hI8 : Ints .u64 (w7.alloc (.cells #[.int .u64 3] 31)) (w7.alloc (.cells #[.int .u64 3] 31)).heap.size (some ⟨w7.heap.size, 0, none⟩) 1 [3] := by
    refine ⟨rfl, fun _ => ⟨_, _, rfl, by simp, fun i hi => ?_⟩⟩
    match i, hi with
    | 0, _ => exact (cell_in hat8 0).trans rfl
  refine (equalU_same A7 _ 1 c7 1 [3] _ (by decide) _ (Ints.of_own (HO7.out.alloc _)) hI8).mono ?_
  rintro e w8 ⟨rfl, q8, rfl⟩
  have HA8 := Lib.hid ((HA7.out.grow (grown_a (World.grownBy.refl _ none) (.cells #[.int .u64 3] 31))).grow (grown_drewN _ q8))
  clear hat8 hI8 HA7 HO7 HS6
  generalize ((w7.alloc _).drewN q8) = w8 at *
  go_wp2_with fail
  refine (at_events HA8.out (by decide)).mono ?_
  rw [show gone4.events = [(3, 3, 0, 0)] from rfl]
  rintro e w9 ⟨A9, c9, rfl, ho9, hg9⟩
  have HA9 := Lib.hid (HA8.out.grow hg9)
  have HO9 := Lib.hid ho9
  clear hg9 ho9 HA8
  go_wp2_with fail
  have hat10 := heap_alloc_new w9 (.cells #[.int .i64 3, .int .i64 3, .int .i64 0, .int .i64 0] 67)
  have hE10 : EvRow (w9.alloc (.cells #[.int .i64 3, .int .i64 3, .int .i64 0, .int .i64 0] 67)) (some ⟨w9.heap.size, 0, none⟩) 1 [(3, 3, 0, 0)] := by
    intro i hi
    match i, hi with
    | 0, _ => exact ⟨_, _, rfl, (cell_in hat10 0).trans rfl, (cell_in hat10 1).trans rfl, (cell_in hat10 2).trans rfl, (cell_in hat10 3).trans rfl⟩
  refine (equalE_same A9 _ 1 c9 1 [(3, 3, 0, 0)] _ (by decide) (evRow_own (HO9.out.alloc _) rfl) hE10).mono ?_
  rintro e w10 ⟨rfl, q10, rfl⟩
  have HA10 := Lib.hid ((HA9.out.grow (grown_a (World.grownBy.refl _ none) (.cells #[.int .i64 3, .int .i64 3, .int .i64 0, .int .i64 0] 67))).grow (grown_drewN _ q10))
  clear hat10 hE10 HA9 HO9
  generalize ((w9.alloc _).drewN q10) = w10 at *
  go_wp2_with fail
  refine (at_steps HA10.out).mono ?_
  rw [show (gone4.steps : Int) = 4 from rfl]
  rintro e w11 ⟨rfl, rfl⟩
  have HBL := Lib.hid HA10.out.bel
  clear HA10
  go_wp2
  go_ret
  exact ⟨rfl, HBL.out⟩
end Go.Proofs.YtdfljhechmanlaaDoor

namespace Go.Proofs.YtdfljhechmanlaaDoor
set_option maxRecDepth 100000
open Go.RowKit Go.Extern.Stop Go.Stop Go.Extern

end Go.Proofs.YtdfljhechmanlaaDoor

namespace Go.Proofs.YtdfljhechmanlaaDoor
set_option maxRecDepth 100000
set_option linter.unusedVariables false

section
variable {P : Program} {ops : Array Oper} {Q : Exit → Act → World → Prop} {md : Region.Mode}

end
end Go.Proofs.YtdfljhechmanlaaDoor

namespace Go.Proofs.YtdfljhechmanlaaDoor
set_option maxRecDepth 100000
open Go.RowKit Go.Shelf Go.Sort
set_option linter.unusedVariables false
set_option linter.unusedSimpArgs false

theorem errVar_old2 {w w' : World} (hg : ErrVar w) (hb : Below w.heap.size w w') : ErrVar w' := by
  unfold ErrVar at *
  exact (World.cell?_of_block (hb.block _ (World.block_lt_of_cell? w _ hg))).trans hg

end Go.Proofs.YtdfljhechmanlaaDoor

namespace Go.Proofs.YtdfljhechmanlaaDoor
set_option maxRecDepth 100000
open Go.RowKit Go.Shelf Go.Sort
set_option linter.unusedVariables false
set_option linter.unusedSimpArgs false

theorem At.keepB {w wr w' : World} {c : Nat} {m : Mach} (h : At w c m wr) (hb : Below wr.heap.size wr w') : At w c m w' := by
  obtain ⟨S, X, e, hC, hB⟩ := h
  exact ⟨S, X, e, hC.below hb (Nat.le_refl _), hB.trans (hb.mono hB.size)⟩
end Go.Proofs.YtdfljhechmanlaaDoor
