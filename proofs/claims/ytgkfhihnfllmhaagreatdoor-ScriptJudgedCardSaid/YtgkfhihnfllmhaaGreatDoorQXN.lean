/-
  The table that TrailingZeros reads, off what a row lists.
-/
import Derived.Test.YtgkfhihnfllmhaaGreatDoorQXE
import Derived.Test.YtgkfhihnfllmhaaGreatDoorQXG5
namespace Go.Proofs.YtgkfhihnfllmhaaGreatDoor
set_option maxRecDepth 100000
open Go.RowKit Go.ChangeShapes Go.WideShapes Go.Deep
set_option linter.unusedVariables false
set_option linter.unusedSimpArgs false

theorem tz_of_laid {l : List (String × DataW Unit)} {W : World} (h : laidMet Tryz.prog l W) (h1 : ("math/bits.deBruijn64tab", Lib.tabData .u8 tz64L) ∈ l) : TzVar W := by
  obtain ⟨ps, hL, _⟩ := h
  obtain ⟨g2, t2, cs2, f2, p2, hg2, ht2, hv2, hd2⟩ := laid_one hL h1
  obtain rfl := Option.some.inj (g_tz.symm.trans hg2)
  obtain rfl := Option.some.inj ((show (Tryz.prog.globals[10]?).map (·.type) = some 337 by kernel_rfl).symm.trans ht2)
  have e2 := Lib.cells_of_tab Tryz.underlying337 Tryz.underlying5 (by kernel_rfl) (by kernel_rfl) hd2
  unfold TzVar Lib.TabIs
  rw [hv2]
  congr 1
  exact Array.toList_inj.1 (by rw [e2])
end Go.Proofs.YtgkfhihnfllmhaaGreatDoor
