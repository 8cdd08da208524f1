/-
  pick: a number below another one, however large.
-/
import Derived.Test.YtaklikgdlalhdabPickI
namespace Go.Proofs.Ytaklikgdlalhdab
open Go.RowKit

set_option maxHeartbeats 400000 in
theorem pick_big (a b : Int) (n : Nat) (w : World) (hb : b = (n : Int)) (h0 : 0 < n) (hn : n ≤ 4294967296) : Calls Try.prog 9 #[.int .i64 a, .int .i64 b] w fun e w' => e = .returned (.int .i64 (pickI a n)) ∧ w = w' := by
  subst hb
  have h1 := pickI_lo a n
  have h2 := pickI_hi a n h0
  have hd : (IntKind.u64.wrap a).tmod n = pickI a n := rfl
  have H := Lib.hid (And.intro h1 (And.intro h2 hd))
  clear h1 h2 hd
  go_enter Try.func9, Try.ntmps9
  go_wp2
  go_ret
  refine ⟨ret_int ?_, rfl⟩
  obtain ⟨h1, h2, h3⟩ := H.out
  rw [h3]
  unfold wrap64
  omega
/-- pick at a number that is written down: what comes out is named. -/
theorem pick_at (a : Int) (n : Nat) (h0 : 0 < n) (hn : n ≤ 4294967296) : ∃ k : Int, 0 ≤ k ∧ k < n ∧ ∀ w : World, Calls Try.prog 9 #[.int .i64 a, .int .i64 (n : Int)] w fun e w' => e = .returned (.int .i64 k) ∧ w = w' :=
  ⟨pickI a n, pickI_lo a n, pickI_hi a n h0, fun w => pick_big a n n w rfl h0 hn⟩
end Go.Proofs.Ytaklikgdlalhdab
