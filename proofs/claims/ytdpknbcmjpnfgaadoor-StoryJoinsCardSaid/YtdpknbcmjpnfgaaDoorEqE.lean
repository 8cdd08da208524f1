/-
  slices.Equal at events that are the same, for seats without a machine.
-/
import Derived.Test.YtdpknbcmjpnfgaaDoorEvRow
import Derived.Sort.Defs
import Derived.Deep.QuietTactic
namespace Go.Proofs.YtdpknbcmjpnfgaaDoor
set_option maxRecDepth 100000
open Go.RowKit Go.Sort
set_option linter.unusedVariables false
set_option linter.unusedSimpArgs false
set_option maxHeartbeats 1000000 in
theorem equalE_same (A C : Option Addr) (n c d : Nat) (l : List Ev4) (w : World) (hn : n ≤ 9223372036854775807) (ha : EvRow w A n l) (hc : EvRow w C n l) :
    Calls Tryd.prog 25 #[.slice A n c, .slice C n d] w fun e w' => e = .returned (.bool true) ∧ ∃ q, w' = w.drewN q := by
  have hne : ((n : Int) != (n : Int)) = false := by simp
  have HA := Lib.hid ha
  have HC := Lib.hid hc
  clear ha hc
  go_enter Tryd.func25, Tryd.ntmps25
  go_wp2
  go_loopw [5, 13] (fun i j wr => ∃ k : Nat, k ≤ n ∧ j = .int .i64 k ∧ ∃ q, wr = w.drewN q) (fun _ j _ => n - (intOf j).toNat)
  case atStart => exact ⟨0, Nat.zero_le _, rfl, 0, rfl⟩
  case round =>
    obtain ⟨k, hk, rfl, q, rfl⟩ := hrel
    by_cases hlt : k < n
    · obtain ⟨b, off, rfl, x1, x2, x3, x4⟩ := HA.out k hlt
      obtain ⟨b', off', rfl, y1, y2, y3, y4⟩ := HC.out k hlt
      have hkn : (k : Int) < (n : Int) := by omega
      clear HA HC
      generalize (l.getD k default).1 = z1 at *
      generalize (l.getD k default).2.1 = z2 at *
      generalize (l.getD k default).2.2.1 = z3 at *
      generalize (l.getD k default).2.2.2 = z4 at *
      have h1 : (z1 == z1) = true := by simp
      have h2 : (z2 == z2) = true := by simp
      have h3 : (z3 == z3) = true := by simp
      have h4 : (z4 == z4) = true := by simp
      go_wp2
      go_quiet (fail)
      go_wp2
      go_roundw
      case rel => exact ⟨k + 1, by omega, by go_num, q + nq, by simp⟩
      case measure => simp [intOf]; omega
    · have hkn : ¬ (k : Int) < (n : Int) := by omega
      go_wp2
      go_ret
      exact ⟨rfl, q, rfl⟩
end Go.Proofs.YtdpknbcmjpnfgaaDoor
