/-
  slices.Equal at []int: whether two readings are one list; nothing is written.
-/
import Derived.Test.YtpomjobgodfjmaaBase
namespace Go.Proofs.Ytpomjobgodfjmaa
open Go.RowKit

set_option maxHeartbeats 400000 in
theorem equalI_same (A C : Option Addr) (n c d : Nat) (xs : List Int) (w : World) (hn : n ≤ 9223372036854775807) (B : Nat) (ha : Ints .i64 w B A n xs) (hc : Ints .i64 w B C n xs) :
    Calls Try.prog 12 #[.slice A n c, .slice C n d] w fun e w' => e = .returned (.bool true) ∧ ∃ q, w' = w.drewN q := by
  have hne : ((n : Int) != (n : Int)) = false := by simp
  go_enter Try.func12, Try.ntmps12
  go_wp2
  go_loopw [5, 13] (fun i j wr => ∃ k : Nat, k ≤ n ∧ j = .int .i64 k ∧ ∃ q, wr = w.drewN q) (fun _ j _ => n - (intOf j).toNat)
  case atStart => exact ⟨0, Nat.zero_le _, rfl, 0, rfl⟩
  case round =>
    obtain ⟨k, hk, rfl, q, rfl⟩ := hrel
    by_cases hlt : k < n
    · obtain ⟨b, off, rfl, _, hx⟩ := ha.row (by omega)
      obtain ⟨b', off', rfl, _, hy⟩ := hc.row (by omega)
      have h1 := hx k hlt
      have h2 := hy k hlt
      have hkn : (k : Int) < (n : Int) := by omega
      clear hx hy ha hc
      generalize xs.getD k 0 = x at h1 h2
      have hxx : (x != x) = false := by simp
      go_wp2
      go_quiet (fail)
      go_wp2
      go_roundw
      case rel => exact ⟨k + 1, by omega, by go_num, q + nq, by simp⟩
      case measure => simp [intOf]; omega
    · have hkn : ¬ (k : Int) < (n : Int) := by omega
      go_wp2
      go_ret
      exact ⟨rfl, q, rfl⟩
end Go.Proofs.Ytpomjobgodfjmaa
