/-
  What is wrong with a party.
-/
import Derived.Test.YtkmidefgmefohaaDoorPLevels
namespace Go.Proofs.YtkmidefgmefohaaDoor
set_option maxRecDepth 100000
open Go.RowKit

/-- A party that may be. -/
def Party (n id r : Int) : Prop := (1 ≤ n ∧ n ≤ 16) ∧ (0 ≤ id ∧ id ≤ n - 1) ∧ 0 ≤ r ∧ r ≤ 20
instance (n id r : Int) : Decidable (Party n id r) := inferInstanceAs (Decidable (_ ∧ _))

theorem pwithin_any (x a b : Int) (w : World) : Calls Tryd.prog 23 #[.int .i64 x, .int .i64 a, .int .i64 b] w fun e w' => e = .returned (.bool (decide (a ≤ x ∧ x ≤ b))) ∧ w' = w := by
  by_cases h : a ≤ x
  · by_cases h2 : x ≤ b
    · have e : decide (a ≤ x ∧ x ≤ b) = true := decide_eq_true ⟨h, h2⟩
      rw [e]
      go_enter Tryd.func23, Tryd.ntmps23
      go_wp2
      go_ret
      exact ⟨rfl, rfl⟩
    · have e : decide (a ≤ x ∧ x ≤ b) = false := decide_eq_false fun h => h2 h.2
      rw [e]
      go_enter Tryd.func23, Tryd.ntmps23
      go_wp2
      go_ret
      exact ⟨rfl, rfl⟩
  · have e : decide (a ≤ x ∧ x ≤ b) = false := decide_eq_false fun h' => h h'.1
    rw [e]
    go_enter Tryd.func23, Tryd.ntmps23
    go_wp2
    go_ret
    exact ⟨rfl, rfl⟩

theorem pcheck_ok (n id r : Int) (w : World) (h : Party n id r) : Calls Tryd.prog 7 #[.int .i64 n, .int .i64 id, .int .i64 r] w fun e w' => e = .returned .nilIface ∧ w' = w := by
  obtain ⟨h1, h2, h3⟩ := h
  have e1 : wrap64 (n - 1) = n - 1 := by unfold wrap64; omega
  have H1 := pwithin_any n 1 16 w
  have H2 := pwithin_any id 0 (n - 1) w
  have H3 := pwithin_any r 0 20 w
  rw [decide_eq_true h1] at H1
  rw [decide_eq_true h2] at H2
  rw [decide_eq_true h3] at H3
  have H1 := Lib.hid H1
  have H2 := Lib.hid H2
  have H3 := Lib.hid H3
  clear h1 h2 h3
  go_enter Tryd.func7, Tryd.ntmps7
  go_wp2_with fail
  refine H1.out.mono ?_
  rintro e w' ⟨rfl, rfl⟩
  go_wp2_with fail
  refine H2.out.mono ?_
  rintro e w' ⟨rfl, rfl⟩
  go_wp2_with fail
  refine H3.out.mono ?_
  rintro e w' ⟨rfl, rfl⟩
  go_wp2
  go_ret
  exact ⟨rfl, rfl⟩

set_option maxHeartbeats 400000 in
theorem pcheck_no (n id r : Int) (w : World) (hn : n ≤ 9223372036854775807 ∧ -9223372036854775808 ≤ n) (h : ¬ Party n id r) : Calls Tryd.prog 7 #[.int .i64 n, .int .i64 id, .int .i64 r] w fun e w' => e = .returned (.iface 26 (.int .i64 2)) ∧ w' = w := by
  have H1 := pwithin_any n 1 16 w
  by_cases h1 : 1 ≤ n ∧ n ≤ 16
  · have e1 : wrap64 (n - 1) = n - 1 := by unfold wrap64; omega
    have H2 := pwithin_any id 0 (n - 1) w
    rw [decide_eq_true h1] at H1
    have H1 := Lib.hid H1
    by_cases h2 : 0 ≤ id ∧ id ≤ n - 1
    · have h3 : ¬ (0 ≤ r ∧ r ≤ 20) := fun h3 => h ⟨h1, h2, h3⟩
      have H3 := pwithin_any r 0 20 w
      rw [decide_eq_true h2] at H2
      rw [decide_eq_false h3] at H3
      have H2 := Lib.hid H2
      have H3 := Lib.hid H3
      clear h1 h2 h3 h
      go_enter Tryd.func7, Tryd.ntmps7
      go_wp2_with fail
      refine H1.out.mono ?_
      rintro e w' ⟨rfl, rfl⟩
      go_wp2_with fail
      refine H2.out.mono ?_
      rintro e w' ⟨rfl, rfl⟩
      go_wp2_with fail
      refine H3.out.mono ?_
      rintro e w' ⟨rfl, rfl⟩
      go_wp2
      go_ret
      exact ⟨rfl, rfl⟩
    · rw [decide_eq_false h2] at H2
      have H2 := Lib.hid H2
      clear h1 h2 h
      go_enter Tryd.func7, Tryd.ntmps7
      go_wp2_with fail
      refine H1.out.mono ?_
      rintro e w' ⟨rfl, rfl⟩
      go_wp2_with fail
      refine H2.out.mono ?_
      rintro e w' ⟨rfl, rfl⟩
      go_wp2
      go_ret
      exact ⟨rfl, rfl⟩
  · rw [decide_eq_false h1] at H1
    have H1 := Lib.hid H1
    clear h1 h
    go_enter Tryd.func7, Tryd.ntmps7
    go_wp2_with fail
    refine H1.out.mono ?_
    rintro e w' ⟨rfl, rfl⟩
    go_wp2
    go_ret
    exact ⟨rfl, rfl⟩
end Go.Proofs.YtkmidefgmefohaaDoor
