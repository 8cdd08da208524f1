/-
  ONE BEHIND THE OTHER IS AS FAIR AS CAN BE.
-/
import Derived.Test.YtcgfcghdfgihmaaFOK
namespace Go.Proofs.Ytcgfcghdfgihmaa
open Go.RowKit
set_option linter.unusedVariables false
set_option linter.unusedSimpArgs false

set_option maxHeartbeats 2000000 in
theorem fairRounds_any {w : World} (H : FairOK) (n times window : Int) :
    Calls Try.prog 5 #[.int .i64 n, .int .i64 times, .int .i64 window] w fun e w' => e = .returned (.bool true) ∧ Below w.heap.size w w' := by
  have HP := Lib.hid (picked_any (w := w) H)
  have a1 := pickI_lo n 16
  have a2 := pickI_hi n 16 (by decide)
  have b1 := pickI_lo times 20
  have b2 := pickI_hi times 20 (by decide)
  have c1 := pickI_lo window 30
  have c2 := pickI_hi window 30 (by decide)
  have HN := Lib.hid (fun w => pick_det n 16 16 w rfl (by decide) (by decide))
  have HT := Lib.hid (fun w => pick_det times 20 20 w rfl (by decide) (by decide))
  have HW := Lib.hid (fun w => pick_det window 30 30 w rfl (by decide) (by decide))
  obtain ⟨x, hx⟩ : ∃ x : Nat, pickI n 16 = x := ⟨(pickI n 16).toNat, by omega⟩
  obtain ⟨y, hy⟩ : ∃ y : Nat, pickI times 20 = y := ⟨(pickI times 20).toNat, by omega⟩
  obtain ⟨z, hz⟩ : ∃ z : Nat, pickI window 30 = z := ⟨(pickI window 30).toNat, by omega⟩
  rw [hx] at HN a1 a2
  rw [hy] at HT b1 b2
  rw [hz] at HW c1 c2
  obtain ⟨a, ha⟩ : ∃ a : Nat, a = x + 1 := ⟨_, rfl⟩
  obtain ⟨b, hb⟩ : ∃ b : Nat, b = y + 2 := ⟨_, rfl⟩
  obtain ⟨c, hc⟩ : ∃ c : Nat, c = z + 1 := ⟨_, rfl⟩
  obtain ⟨d, hd⟩ : ∃ d : Nat, d = a * b := ⟨_, rfl⟩
  have hm : a * b ≤ 16 * 21 := Nat.mul_le_mul (by omega) (by omega)
  have HR := Lib.hid (fun w1 => H.turns (w := w1) (n := a) (times := b) (by omega) (by omega))
  have hft := fair_turns (n := a) (times := b) (w := c) (by omega) (by omega) (by omega)
  have HF := Lib.hid (show isFair (turnsL a b) (a : Int) (c : Int) ↔ a ≤ c from ⟨fun h => hft.1 h.2.2.2, fun h => ⟨by omega, by omega, by omega, hft.2 h⟩⟩)
  rw [← hd] at HR hm
  have e1 : wrap64 (1 + (x : Int)) = (a : Int) := (wrap_is (by omega) (by omega)).trans (by omega)
  have HE1 := Lib.hid e1
  clear e1
  have e2 : wrap64 (2 + (y : Int)) = (b : Int) := (wrap_is (by omega) (by omega)).trans (by omega)
  have HE2 := Lib.hid e2
  clear e2
  have e3 : wrap64 (1 + (z : Int)) = (c : Int) := (wrap_is (by omega) (by omega)).trans (by omega)
  have HE3 := Lib.hid e3
  clear e3
  have e4 : wrap64 ((a : Int) * (b : Int)) = (d : Int) := by
    rw [← Int.natCast_mul, ← hd]
    exact wrap_is (by omega) (by omega)
  have HE := Lib.hid (And.intro HE1.out (And.intro HE2.out (And.intro HE3.out e4)))
  have HM := Lib.hid hm
  have HC30 := Lib.hid (show c ≤ 30 by omega)
  have HA16 := Lib.hid (show a ≤ 16 by omega)
  clear HE1 HE2 HE3 e4 hx hy hz hm hft ha hb hc hd a1 a2 b1 b2 c1 c2
  go_enter Try.func5, Try.ntmps5
  go_wp2_with fail
  refine HP.out.mono ?_
  rintro e w1 ⟨rfl, hb1⟩
  have HB1 := Lib.hid hb1
  clear hb1 HP
  go_wp2_with fail
  refine (HN.out _).mono ?_
  rintro e w2 ⟨rfl, rfl⟩
  go_wp2_with fail
  refine (HT.out _).mono ?_
  rintro e w2 ⟨rfl, rfl⟩
  go_wp2_with fail
  refine (HW.out _).mono ?_
  rintro e w2 ⟨rfl, rfl⟩
  obtain ⟨e1, e2, e3, e4⟩ := HE.out
  go_wp2_with fail
  refine (HR.out _).mono ?_
  rintro e w3 ⟨A, cap, rfl, ho, hb3⟩
  have HI := Lib.hid (Ints.of_own ho)
  have HB3 := Lib.hid (HB1.out.trans (hb3.mono HB1.out.size))
  clear ho hb3 HB1 HR HN HT HW HE
  have hdd : ((d : Int) == (d : Int)) = true := by simp
  go_wp2_with fail
  refine (H.fair HI.out (by have := HM.out; omega) (by omega) (by have := HA16.out; omega) (by omega) (by have := HC30.out; omega)).mono ?_
  rintro e w4 ⟨v, rfl, hv, hb4⟩
  have HB4 := Lib.hid (HB3.out.trans (hb4.mono HB3.out.size))
  have hvc := hv.trans HF.out
  clear hv hb4 HI HB3 HF
  cases v
  · have hlt : ¬ a ≤ c := fun h => by have := hvc.2 h; cases this
    clear hvc
    go_wp2
    go_ret
    exact ⟨by simp [hlt], HB4.out⟩
  · have hle : a ≤ c := hvc.1 rfl
    clear hvc
    go_wp2
    go_ret
    exact ⟨by simp [hle], HB4.out⟩
end Go.Proofs.Ytcgfcghdfgihmaa
