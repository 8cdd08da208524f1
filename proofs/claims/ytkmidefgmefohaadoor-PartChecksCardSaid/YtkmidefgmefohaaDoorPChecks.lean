/-
  The walk of PartChecks.
-/
import Derived.Test.YtkmidefgmefohaaDoorBare
import Derived.Test.YtkmidefgmefohaaDoorPRef
namespace Go.Proofs.YtkmidefgmefohaaDoor
set_option maxRecDepth 100000
open Go.RowKit

theorem int_wf {n : Int} (h : (Lit.int .i64 n).wf = true) : -9223372036854775808 ≤ n ∧ n ≤ 9223372036854775807 := by
  simp [Lit.wf, IntKind.min, IntKind.max, IntKind.signed, IntKind.bits] at h
  omega
theorem grown_below0 {w w' : World} (hg : w.grownBy w' none) : Below w.heap.size w w' := (Below.refl w.heap.size w).grown hg (Nat.le_refl _) (by intro k hk; cases hk)

theorem partChecks_any {w : World} (hg : ErrVar w) (n id r : Int) (hn : -9223372036854775808 ≤ n ∧ n ≤ 9223372036854775807) : Calls Tryd.prog 3 #[.int .i64 n, .int .i64 id, .int .i64 r] w fun e w' => e = .returned (.bool true) ∧ Below w.heap.size w w' := by
  have hn1 : n ≤ 9223372036854775807 ∧ -9223372036854775808 ≤ n := by omega
  obtain ⟨l, hl, -⟩ := lv_some n hn1.1
  have HL := Lib.hid (fun w => plevels_any n l w hl hn1.1)
  have HR := Lib.hid (fun w h => rlevels_any n l w hl h)
  have HE := Lib.hid hg
  by_cases hp : Party n id r
  · have H1 := Lib.hid (pcheck_ok n id r w hp)
    have H2 := Lib.hid (rcheck_ok n id r w hp)
    clear hp hg hl hn hn1
    by_cases hb : 1099511627776 < n
    · go_enter Tryd.func3, Tryd.ntmps3
      go_wp2_with fail
      refine H1.out.mono ?_
      rintro e w' ⟨rfl, rfl⟩
      go_wp2_with fail
      refine H2.out.mono ?_
      rintro e w' ⟨rfl, rfl⟩
      go_wp2_with fail
      refine (bare_nil _).mono ?_
      rintro e w1 ⟨rfl, rfl⟩
      go_wp2
      go_ret
      exact ⟨rfl, Below.refl _ _⟩
    · go_enter Tryd.func3, Tryd.ntmps3
      go_wp2_with fail
      refine H1.out.mono ?_
      rintro e w' ⟨rfl, rfl⟩
      go_wp2_with fail
      refine H2.out.mono ?_
      rintro e w' ⟨rfl, rfl⟩
      go_wp2_with fail
      refine (bare_nil _).mono ?_
      rintro e w1 ⟨rfl, rfl⟩
      go_wp2_with fail
      refine (HL.out _).mono ?_
      rintro e w' ⟨rfl, rfl⟩
      go_wp2_with fail
      refine (HR.out _ (by omega)).mono ?_
      rintro e w' ⟨rfl, rfl⟩
      go_wp2
      go_ret
      exact ⟨rfl, Below.refl _ _⟩
  · have H1 := Lib.hid (pcheck_no n id r w hn1 hp)
    have H2 := Lib.hid (rcheck_no n id r w hn1 hp)
    clear hp hg hl hn hn1
    by_cases hb : 1099511627776 < n
    · go_enter Tryd.func3, Tryd.ntmps3
      go_wp2_with fail
      refine H1.out.mono ?_
      rintro e w' ⟨rfl, rfl⟩
      go_wp2_with fail
      refine H2.out.mono ?_
      rintro e w' ⟨rfl, rfl⟩
      go_wp2_with fail
      refine (bare_errno 2 _ HE.out).mono ?_
      rintro e w1 ⟨rfl, hg1⟩
      have HB := Lib.hid (grown_below0 hg1)
      clear hg1
      go_wp2
      go_ret
      exact ⟨rfl, HB.out⟩
    · go_enter Tryd.func3, Tryd.ntmps3
      go_wp2_with fail
      refine H1.out.mono ?_
      rintro e w' ⟨rfl, rfl⟩
      go_wp2_with fail
      refine H2.out.mono ?_
      rintro e w' ⟨rfl, rfl⟩
      go_wp2_with fail
      refine (bare_errno 2 _ HE.out).mono ?_
      rintro e w1 ⟨rfl, hg1⟩
      have HB := Lib.hid (grown_below0 hg1)
      clear hg1
      go_wp2_with fail
      refine (HL.out _).mono ?_
      rintro e w' ⟨rfl, rfl⟩
      go_wp2_with fail
      refine (HR.out _ (by omega)).mono ?_
      rintro e w' ⟨rfl, rfl⟩
      go_wp2
      go_ret
      exact ⟨rfl, HB.out⟩
end Go.Proofs.YtkmidefgmefohaaDoor
