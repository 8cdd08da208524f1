/-
  What is wrong with a party, by the document's own answer; how often 1 is doubled, one by one.
-/
import Derived.Test.YtkmidefgmefohaaDoorPCheck
namespace Go.Proofs.YtkmidefgmefohaaDoor
set_option maxRecDepth 100000
open Go.RowKit

theorem rwithin_any (x a b : Int) (w : World) : Calls Tryd.prog 24 #[.int .i64 x, .int .i64 a, .int .i64 b] w fun e w' => e = .returned (.bool (decide (a ≤ x ∧ x ≤ b))) ∧ w' = w := by
  by_cases h : a ≤ x
  · by_cases h2 : x ≤ b
    · have e : decide (a ≤ x ∧ x ≤ b) = true := decide_eq_true ⟨h, h2⟩
      rw [e]
      go_enter Tryd.func24, Tryd.ntmps24
      go_wp2
      go_ret
      exact ⟨rfl, rfl⟩
    · have e : decide (a ≤ x ∧ x ≤ b) = false := decide_eq_false fun h => h2 h.2
      rw [e]
      go_enter Tryd.func24, Tryd.ntmps24
      go_wp2
      go_ret
      exact ⟨rfl, rfl⟩
  · have e : decide (a ≤ x ∧ x ≤ b) = false := decide_eq_false fun h' => h h'.1
    rw [e]
    go_enter Tryd.func24, Tryd.ntmps24
    go_wp2
    go_ret
    exact ⟨rfl, rfl⟩

theorem rcheck_ok (n id r : Int) (w : World) (h : Party n id r) : Calls Tryd.prog 8 #[.int .i64 n, .int .i64 id, .int .i64 r] w fun e w' => e = .returned (.int .i64 0) ∧ w' = w := by
  obtain ⟨h1, h2, h3⟩ := h
  have e1 : wrap64 (n - 1) = n - 1 := by unfold wrap64; omega
  have H1 := rwithin_any n 1 16 w
  have H2 := rwithin_any id 0 (n - 1) w
  have H3 := rwithin_any r 0 20 w
  rw [decide_eq_true h1] at H1
  rw [decide_eq_true h2] at H2
  rw [decide_eq_true h3] at H3
  have H1 := Lib.hid H1
  have H2 := Lib.hid H2
  have H3 := Lib.hid H3
  clear h1 h2 h3
  go_enter Tryd.func8, Tryd.ntmps8
  go_wp2_with fail
  refine H1.out.mono ?_
  rintro e w' ⟨rfl, rfl⟩
  go_wp2_with fail
  refine H2.out.mono ?_
  rintro e w' ⟨rfl, rfl⟩
  go_wp2_with fail
  refine H3.out.mono ?_
  rintro e w' ⟨rfl, rfl⟩
  go_wp2
  go_ret
  exact ⟨rfl, rfl⟩

set_option maxHeartbeats 400000 in
theorem rcheck_no (n id r : Int) (w : World) (hn : n ≤ 9223372036854775807 ∧ -9223372036854775808 ≤ n) (h : ¬ Party n id r) : Calls Tryd.prog 8 #[.int .i64 n, .int .i64 id, .int .i64 r] w fun e w' => e = .returned (.int .i64 2) ∧ w' = w := by
  have H1 := rwithin_any n 1 16 w
  by_cases h1 : 1 ≤ n ∧ n ≤ 16
  · have e1 : wrap64 (n - 1) = n - 1 := by unfold wrap64; omega
    have H2 := rwithin_any id 0 (n - 1) w
    rw [decide_eq_true h1] at H1
    have H1 := Lib.hid H1
    by_cases h2 : 0 ≤ id ∧ id ≤ n - 1
    · have h3 : ¬ (0 ≤ r ∧ r ≤ 20) := fun h3 => h ⟨h1, h2, h3⟩
      have H3 := rwithin_any r 0 20 w
      rw [decide_eq_true h2] at H2
      rw [decide_eq_false h3] at H3
      have H2 := Lib.hid H2
      have H3 := Lib.hid H3
      clear h1 h2 h3 h
      go_enter Tryd.func8, Tryd.ntmps8
      go_wp2_with fail
      refine H1.out.mono ?_
      rintro e w' ⟨rfl, rfl⟩
      go_wp2_with fail
      refine H2.out.mono ?_
      rintro e w' ⟨rfl, rfl⟩
      go_wp2_with fail
      refine H3.out.mono ?_
      rintro e w' ⟨rfl, rfl⟩
      go_wp2
      go_ret
      exact ⟨rfl, rfl⟩
    · rw [decide_eq_false h2] at H2
      have H2 := Lib.hid H2
      clear h1 h2 h
      go_enter Tryd.func8, Tryd.ntmps8
      go_wp2_with fail
      refine H1.out.mono ?_
      rintro e w' ⟨rfl, rfl⟩
      go_wp2_with fail
      refine H2.out.mono ?_
      rintro e w' ⟨rfl, rfl⟩
      go_wp2
      go_ret
      exact ⟨rfl, rfl⟩
  · rw [decide_eq_false h1] at H1
    have H1 := Lib.hid H1
    clear h1 h
    go_enter Tryd.func8, Tryd.ntmps8
    go_wp2_with fail
    refine H1.out.mono ?_
    rintro e w' ⟨rfl, rfl⟩
    go_wp2
    go_ret
    exact ⟨rfl, rfl⟩
set_option maxHeartbeats 1000000 in
theorem rlevels_any (n : Int) (l : Nat) (w : World) (hl : LvIs n l) (hn : n ≤ 1099511627776) : Calls Tryd.prog 10 #[.int .i64 n] w fun e w' => e = .returned (.int .i64 (l : Int)) ∧ w' = w := by
  have hl40 : l ≤ 40 := lv_le hl (by have : (2 : Int) ^ 40 = 1099511627776 := (by decide); omega)
  have hp : ∀ k, k ≤ 40 → wrap64 (2 ^ k) = 2 ^ k := by
    intro k hk
    have h1 := pow_le_pow2 hk
    have h2 : (2 : Int) ^ 40 = 1099511627776 := by decide
    have h3 : (0 : Int) ≤ 2 ^ k := Int.le_of_lt (Int.pow_pos (by decide))
    unfold wrap64
    omega
  have HP := Lib.hid hp
  have HL := Lib.hid hl
  clear hp hl
  go_enter Tryd.func10, Tryd.ntmps10
  go_wp2
  go_loop [3] (fun j => ∃ k : Nat, k ≤ l ∧ j = .int .i64 k) (fun j => l - (intOf j).toNat)
  case atStart => exact ⟨0, Nat.zero_le _, rfl⟩
  case round =>
    obtain ⟨k, hk, rfl⟩ := hrel
    have h2 := HP.out k (by omega)
    by_cases hkl : k = l
    · subst hkl
      have h3 := HL.out.1
      go_wp2
      go_ret
      exact ⟨rfl, rfl⟩
    · have h3 : ¬ n ≤ 2 ^ k := fun h => by have := lv_le HL.out h; omega
      go_wp2
      go_round
      case rel => exact ⟨k + 1, by omega, by go_num⟩
      case measure => simp [intOf]; omega
end Go.Proofs.YtkmidefgmefohaaDoor
