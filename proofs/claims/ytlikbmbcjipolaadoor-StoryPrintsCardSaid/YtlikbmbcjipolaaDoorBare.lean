/-
  The laws' 'bare' of no error, and of an Errno.
-/
import Derived.Test.YtlikbmbcjipolaaDoorTell
namespace Go.Proofs.YtlikbmbcjipolaaDoor
set_option maxRecDepth 100000
open Go.RowKit

/-- 'bare': the very Errno, and no place. -/
theorem bare_nil (w : World) : Calls Tryd.prog 8 #[.nilIface, .int .i64 0] w fun e w' => e = .returned (.bool true) ∧ w = w' := by
  go_enter Tryd.func8, Tryd.ntmps8
  go_wp2_with fail
  refine (place_nil _).mono ?_
  rintro e w' ⟨rfl, rfl⟩
  go_wp2
  go_ret
  exact ⟨rfl, rfl⟩

theorem bare_errno (k : Int) (w : World) (hg0 : ErrVar w) : Calls Tryd.prog 8 #[.iface 25 (.int .i64 k), .int .i64 k] w fun e w' => e = .returned (.bool true) ∧ w.grownBy w' none := by
  have HT := Lib.hid (place_errno k w hg0)
  have hk : (k == k) = true := by simp
  clear hg0
  go_enter Tryd.func8, Tryd.ntmps8
  go_wp2_with fail
  refine HT.out.mono ?_
  rintro e w' ⟨rfl, hg⟩
  have HG := Lib.hid hg
  clear hg HT
  go_wp2
  go_ret
  exact ⟨rfl, HG.out⟩
end Go.Proofs.YtlikbmbcjipolaaDoor
