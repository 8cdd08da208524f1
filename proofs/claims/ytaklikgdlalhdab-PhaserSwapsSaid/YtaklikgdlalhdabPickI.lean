/-
  pick: a number below another.
-/
import Derived.Test.YtaklikgdlalhdabBase
namespace Go.Proofs.Ytaklikgdlalhdab
open Go.RowKit

theorem wrapU_nn (a : Int) : 0 ≤ IntKind.u64.wrap a := by
  unfold IntKind.wrap
  simp [IntKind.signed, IntKind.bits]
  omega

/-- Which one of n a number stands for. -/
def pickI (a : Int) (n : Nat) : Int := (IntKind.u64.wrap a).tmod n
theorem pickI_lo (a : Int) (n : Nat) : 0 ≤ pickI a n := Int.tmod_nonneg _ (wrapU_nn a)
theorem pickI_hi (a : Int) (n : Nat) (h : 0 < n) : pickI a n < n := Int.tmod_lt_of_pos _ (by omega)

set_option maxHeartbeats 400000 in
theorem pick_det (a b : Int) (n : Nat) (w : World) (hb : b = (n : Int)) (h0 : 0 < n) (hn : n ≤ 1000) : Calls Try.prog 9 #[.int .i64 a, .int .i64 b] w fun e w' => e = .returned (.int .i64 (pickI a n)) ∧ w = w' := by
  subst hb
  have h1 := pickI_lo a n
  have h2 := pickI_hi a n h0
  have hd : (IntKind.u64.wrap a).tmod n = pickI a n := rfl
  have H := Lib.hid (And.intro h1 (And.intro h2 hd))
  clear h1 h2 hd
  go_enter Try.func9, Try.ntmps9
  go_wp2
  go_ret
  refine ⟨ret_int ?_, rfl⟩
  obtain ⟨h1, h2, h3⟩ := H.out
  rw [h3]
  unfold wrap64
  omega
end Go.Proofs.Ytaklikgdlalhdab
