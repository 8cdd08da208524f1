/-
  How often 1 is doubled to be no less than a number: part.Levels.
-/
import Derived.RowKitTokens
import Derived.Test.YtkmidefgmefohaaDoorShelf
import Derived.Test.YtkmidefgmefohaaDoorBase
namespace Go.Proofs.YtkmidefgmefohaaDoor
set_option maxRecDepth 100000
open Go.RowKit

/-- l doublings are enough for n, and no fewer. -/
def LvIs (n : Int) (l : Nat) : Prop := n ≤ 2 ^ l ∧ (l = 0 ∨ (2 : Int) ^ (l - 1) < n)

theorem bitAux_spec : ∀ (f x : Nat), x < 2 ^ f → x < 2 ^ Lib.bitLenAux f x ∧ (x ≠ 0 → 2 ^ Lib.bitLenAux f x ≤ 2 * x) ∧ Lib.bitLenAux f x ≤ f
  | 0, x, h => by
    have : x = 0 := by simpa using h
    subst this
    exact ⟨by decide, fun h => absurd rfl h, Nat.le_refl _⟩
  | f + 1, x, h => by
    unfold Lib.bitLenAux
    by_cases h0 : x = 0
    · subst h0
      simp
    · rw [if_neg h0]
      obtain ⟨h1, h2, h3⟩ := bitAux_spec f (x / 2) (by rw [Nat.pow_succ] at h; omega)
      rw [Nat.add_comm 1, Nat.pow_succ]
      refine ⟨by omega, fun _ => ?_, by omega⟩
      by_cases h4 : x / 2 = 0
      · have hx : x = 1 := by omega
        subst hx
        have e0 : Lib.bitLenAux f 0 = 0 := by cases f <;> simp [Lib.bitLenAux]
        simp [e0]
      · have := h2 h4
        omega

theorem lv_one {n : Int} (h : n ≤ 1) : LvIs n 0 := ⟨by simpa using h, .inl rfl⟩
theorem lv_bits {n : Int} (h : 1 < n) (hn : n ≤ 9223372036854775807) : LvIs n (Lib.bitLen (n - 1).toNat) ∧ 0 < Lib.bitLen (n - 1).toNat ∧ Lib.bitLen (n - 1).toNat ≤ 64 := by
  obtain ⟨x, hx⟩ : ∃ x : Nat, n - 1 = x := ⟨(n - 1).toNat, by omega⟩
  rw [hx, Int.toNat_natCast]
  obtain ⟨h1, h2, h3⟩ := bitAux_spec 64 x (by omega)
  have e : Lib.bitLen x = Lib.bitLenAux 64 x := rfl
  rw [e]
  generalize Lib.bitLenAux 64 x = l at *
  have h2 := h2 (by omega)
  have hl : 0 < l := by
    rcases Nat.eq_zero_or_pos l with h0 | h0
    · subst h0
      simp at h1
      omega
    · exact h0
  refine ⟨⟨?_, .inr ?_⟩, hl, h3⟩
  · have : ((x : Nat) : Int) < ((2 ^ l : Nat) : Int) := by exact_mod_cast h1
    push_cast at this
    omega
  · obtain ⟨k, rfl⟩ : ∃ k, l = k + 1 := ⟨l - 1, by omega⟩
    rw [Nat.pow_succ] at h2
    have : ((2 ^ k : Nat) : Int) ≤ (x : Int) := by exact_mod_cast (show 2 ^ k ≤ x by omega)
    push_cast at this
    rw [show k + 1 - 1 = k by omega]
    omega

theorem pow_le_pow2 {a b : Nat} (h : a ≤ b) : (2 : Int) ^ a ≤ 2 ^ b := by
  have := Nat.pow_le_pow_right (n := 2) (by decide) h
  exact_mod_cast this
theorem lv_le {n : Int} {l k : Nat} (h : LvIs n l) (hk : n ≤ 2 ^ k) : l ≤ k := by
  rcases h.2 with h0 | h0
  · omega
  · rcases Nat.lt_or_ge k l with hlt | hge
    · have := pow_le_pow2 (show k ≤ l - 1 by omega)
      omega
    · exact hge
theorem lv_only {n : Int} {l k : Nat} (h : LvIs n l) (h' : LvIs n k) : l = k := Nat.le_antisymm (lv_le h h'.1) (lv_le h' h.1)
theorem lv_mono {n m : Int} {l k : Nat} (h : LvIs n l) (h' : LvIs m k) (hnm : n ≤ m) : l ≤ k := lv_le h (Int.le_trans hnm h'.1)
theorem lv_twice {n : Int} {l : Nat} (h : LvIs n l) (h1 : 1 ≤ n) : LvIs (2 * n) (l + 1) := by
  refine ⟨by rw [Int.pow_succ]; have := h.1; omega, .inr ?_⟩
  rw [show l + 1 - 1 = l by omega]
  rcases h.2 with h0 | h0
  · subst h0
    simp
    omega
  · rcases Nat.eq_zero_or_pos l with hl | hl
    · subst hl
      simp
      omega
    · obtain ⟨k, rfl⟩ : ∃ k, l = k + 1 := ⟨l - 1, by omega⟩
      rw [Int.pow_succ]
      rw [show k + 1 - 1 = k by omega] at h0
      omega
theorem lv_some (n : Int) (hn : n ≤ 9223372036854775807) : ∃ l, LvIs n l ∧ l ≤ 64 := by
  by_cases h : n ≤ 1
  · exact ⟨0, lv_one h, by decide⟩
  · exact ⟨_, (lv_bits (by omega) hn).1, (lv_bits (by omega) hn).2.2⟩

set_option maxHeartbeats 400000 in
theorem plevels_any (n : Int) (l : Nat) (w : World) (hl : LvIs n l) (hn : n ≤ 9223372036854775807) :
    Calls Tryd.prog 9 #[.int .i64 n] w fun e w' => e = .returned (.int .i64 (l : Int)) ∧ w' = w := by
  by_cases h : n ≤ 1
  · have e : l = 0 := lv_only hl (lv_one h)
    subst e
    go_enter Tryd.func9, Tryd.ntmps9
    go_wp2
    go_ret
    exact ⟨rfl, rfl⟩
  · obtain ⟨h1, h2, h3⟩ := lv_bits (show 1 < n by omega) hn
    have e : l = Lib.bitLen (n - 1).toNat := lv_only hl h1
    have e1 : wrap64 (n - 1) = n - 1 := by unfold wrap64; omega
    have e2 : IntKind.u64.wrap (n - 1) = n - 1 := by
      unfold IntKind.wrap
      simp [IntKind.signed, IntKind.bits]
      omega
    have HL := Lib.hid (Tryd.bits_Len (n - 1) w (by omega) (by omega))
    rw [← e] at HL
    clear h1 h2 h3 e hl
    go_enter Tryd.func9, Tryd.ntmps9
    go_wp2_with fail
    refine HL.out.mono ?_
    rintro e w' ⟨rfl, rfl⟩
    go_wp2
    go_ret
    exact ⟨rfl, rfl⟩
end Go.Proofs.YtkmidefgmefohaaDoor
