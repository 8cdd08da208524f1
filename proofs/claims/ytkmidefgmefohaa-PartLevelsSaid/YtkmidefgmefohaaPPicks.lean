/-
  HOW OFTEN 1 IS DOUBLED: the walk of PartLevels.
-/
import Derived.Test.YtkmidefgmefohaaPPiece
namespace Go.Proofs.Ytkmidefgmefohaa
open Go.RowKit Go.Sort
set_option linter.unusedVariables false

theorem wrapU_nn2 (a : Int) : 0 ≤ IntKind.u64.wrap a := by
  unfold IntKind.wrap
  simp [IntKind.signed, IntKind.bits]
  omega
/-- pick of as many as 2^30. -/
theorem pick_big (a : Int) (w : World) : Calls Try.prog 5 #[.int .i64 a, .int .i64 1073741824] w fun e w' => ∃ x : Int, 0 ≤ x ∧ x < 1073741824 ∧ e = .returned (.int .i64 x) ∧ w' = w := by
  have h1 : 0 ≤ (IntKind.u64.wrap a).tmod 1073741824 := Int.tmod_nonneg _ (wrapU_nn2 a)
  have h2 : (IntKind.u64.wrap a).tmod 1073741824 < 1073741824 := Int.tmod_lt_of_pos _ (by decide)
  go_enter Try.func5, Try.ntmps5
  go_wp2
  go_ret
  refine ⟨(IntKind.u64.wrap a).tmod 1073741824, h1, h2, rfl, rfl⟩

set_option maxHeartbeats 1000000 in
theorem partLevels_any (n m : Int) (w : World) : Calls Try.prog 3 #[.int .i64 n, .int .i64 m] w fun e w' => e = .returned (.bool true) ∧ Below w.heap.size w w' := by
  go_enter Try.func3, Try.ntmps3
  go_wp2_with fail
  refine (pieced_any w).mono ?_
  rintro e w1 ⟨rfl, hb1⟩
  have HB := Lib.hid hb1
  clear hb1
  go_wp2_with fail
  refine (pick_big n w1).mono ?_
  rintro e w2 ⟨x, hx0, hx1, rfl, rfl⟩
  go_wp2_with fail
  refine (pick_big m w2).mono ?_
  rintro e w3 ⟨y, hy0, hy1, rfl, rfl⟩
  obtain ⟨a, ha⟩ : ∃ a, 1 + x = a := ⟨_, rfl⟩
  obtain ⟨b, hb⟩ : ∃ b, 1 + y = b := ⟨_, rfl⟩
  have e1 : wrap64 (1 + x) = a := by unfold wrap64; omega
  have e2 : wrap64 (1 + y) = b := by unfold wrap64; omega
  have e3 : wrap64 (2 * a) = 2 * a := by unfold wrap64; omega
  obtain ⟨l, hl, -⟩ := lv_some a (by omega)
  obtain ⟨k, hk, -⟩ := lv_some b (by omega)
  have hl30 : l ≤ 30 := lv_le hl (by have : (2 : Int) ^ 30 = 1073741824 := (by decide); omega)
  have H2 := Lib.hid (plevels_any (2 * a) (l + 1) w3 (lv_twice hl (by omega)) (by omega))
  have HA := Lib.hid (plevels_any a l w3 hl (by omega))
  have HK := Lib.hid (plevels_any b k w3 hk (by omega))
  have ha1 : 1 ≤ a := by omega
  have HM := Lib.hid (fun h : ¬ b < a => lv_mono hl hk (by omega))
  go_wp2_with fail
  have el : (((l + 1 : Nat) : Int) == wrap64 ((l : Int) + 1)) = true := by
    rw [show wrap64 ((l : Int) + 1) = ((l + 1 : Nat) : Int) by unfold wrap64; omega]
    simp
  have hsh : wrap64 (2 ^ l) = 2 ^ l := by
    have h1 := pow_le_pow2 hl30
    have h2 : (2 : Int) ^ 30 = 1073741824 := by decide
    have h3 : (0 : Int) ≤ 2 ^ l := Int.le_of_lt (Int.pow_pos (by decide))
    unfold wrap64
    omega
  have hge : a ≤ 2 ^ l := hl.1
  have hlt : ¬ a = 1 → 0 < l ∧ wrap64 ((l : Int) - 1) = ((l - 1 : Nat) : Int) ∧ wrap64 (2 ^ (l - 1)) = 2 ^ (l - 1) ∧ (2 : Int) ^ (l - 1) < a := by
    intro h
    have h0 : 0 < l := by
      rcases Nat.eq_zero_or_pos l with h0 | h0
      · subst h0
        simp at hge
        omega
      · exact h0
    have h1 := pow_le_pow2 (show l - 1 ≤ 30 by omega)
    have h2 : (2 : Int) ^ 30 = 1073741824 := by decide
    have h3 : (0 : Int) ≤ 2 ^ (l - 1) := Int.le_of_lt (Int.pow_pos (by decide))
    refine ⟨h0, by unfold wrap64; omega, by unfold wrap64; omega, ?_⟩
    rcases hl.2 with h4 | h4
    · omega
    · exact h4
  have HL := Lib.hid hlt
  clear hl hk hlt
  refine H2.out.mono ?_
  rintro e w4 ⟨rfl, rfl⟩
  go_wp2_with fail
  refine HA.out.mono ?_
  rintro e w4 ⟨rfl, rfl⟩
  by_cases hab : b < a
  · go_wp2_with fail
    refine HA.out.mono ?_
    rintro e w5 ⟨rfl, rfl⟩
    by_cases h1 : a = 1
    · subst h1
      go_wp2
      go_ret
      exact ⟨rfl, HB.out⟩
    obtain ⟨h3, h4, h5, h6⟩ := HL.out h1
    have h7 : (a == 1) = false := beq_eq_false_iff_ne.2 h1
    go_wp2_with fail
    refine HA.out.mono ?_
    rintro e w5 ⟨rfl, rfl⟩
    go_wp2
    go_ret
    exact ⟨rfl, HB.out⟩
  · have hlk := HM.out (by omega)
    have hlk2 : (l : Int) ≤ (k : Int) := by omega
    go_wp2_with fail
    refine HA.out.mono ?_
    rintro e w5 ⟨rfl, rfl⟩
    go_wp2_with fail
    refine HK.out.mono ?_
    rintro e w5 ⟨rfl, rfl⟩
    go_wp2_with fail
    refine HA.out.mono ?_
    rintro e w5 ⟨rfl, rfl⟩
    by_cases h1 : a = 1
    · subst h1
      go_wp2
      go_ret
      exact ⟨rfl, HB.out⟩
    obtain ⟨h3, h4, h5, h6⟩ := HL.out h1
    have h7 : (a == 1) = false := beq_eq_false_iff_ne.2 h1
    go_wp2_with fail
    refine HA.out.mono ?_
    rintro e w5 ⟨rfl, rfl⟩
    go_wp2
    go_ret
    exact ⟨rfl, HB.out⟩
end Go.Proofs.Ytkmidefgmefohaa
