/-
  WHAT MAY BE SAID MAY BE CUT OFF. Check, where it is known whether it is right.
-/
import Derived.Test.YtcgfcghdfgihmaaDoorOJRounds
namespace Go.Proofs.YtcgfcghdfgihmaaDoor
set_option maxRecDepth 100000
open Go.RowKit
set_option linter.unusedVariables false
set_option linter.unusedSimpArgs false

theorem jcheck_yes {w : World} (A : Option Addr) (len cap n : Nat) (l : List Ev4) (hll : l.length = len) (hl : len ≤ 20000) (hE : EvRow w A len l) (n1 : 1 ≤ n) (hn : n ≤ 16) (h : judgeP n [] l = none) :
    Calls Tryd.prog 13 #[.slice A len cap, .int .i64 (n : Nat)] w fun e w' => e = .returned .nilIface ∧ w.grownBy w' none := by
  subst hll
  refine (jcheck_any A cap n l hl hE n1 hn).mono ?_
  rintro e w' ⟨hb, ⟨_, rfl⟩ | ⟨c, i, v, hj, _, _⟩⟩
  · exact ⟨rfl, grown_belJ hb⟩
  · rw [h] at hj
    cases hj
theorem jcheck_no {w : World} (A : Option Addr) (len cap n : Nat) (l : List Ev4) (hll : l.length = len) (hl : len ≤ 20000) (hE : EvRow w A len l) (n1 : 1 ≤ n) (hn : n ≤ 16) (h : judgeP n [] l ≠ none) :
    Calls Tryd.prog 13 #[.slice A len cap, .int .i64 (n : Nat)] w fun e w' => ∃ p, e = .returned (.iface 67 (.pointer (some ⟨p, 0, none⟩))) ∧ w.grownBy w' none := by
  subst hll
  refine (jcheck_any A cap n l hl hE n1 hn).mono ?_
  rintro e w' ⟨hb, ⟨hj, rfl⟩ | ⟨c, i, v, hj, rfl, p, rfl, _, _⟩⟩
  · exact absurd hj h
  · exact ⟨p, rfl, grown_belJ hb⟩
theorem EvRow.cut {w : World} {A : Option Addr} {n m : Nat} {l : List Ev4} (h : EvRow w A n l) (hm : m ≤ n) : EvRow w A m (l.take m) := fun i hi => by
  have := h i (by omega)
  rwa [show (l.take m).getD i default = l.getD i default by rw [List.getD_eq_getElem?_getD, List.getElem?_take, if_pos hi, ← List.getD_eq_getElem?_getD]]
/-- How many threads the laws ask about. -/
theorem pick16 (n : Int) : ∃ m : Nat, 1 ≤ m ∧ m ≤ 16 ∧ 1 + pickI n 16 = (m : Int) ∧ ∀ w, Calls Tryd.prog 17 #[.int .i64 n, .int .i64 16] w fun e w' => e = .returned (.int .i64 (pickI n 16)) ∧ w = w' := by
  have h1 := pickI_lo n 16
  have h2 := pickI_hi n 16 (by decide)
  exact ⟨(1 + pickI n 16).toNat, by omega, by omega, by omega, fun w => pick_det n 16 16 w rfl (by decide) (by decide)⟩
theorem pickN (a : Int) (n : Nat) (n1 : 0 < n) (hn : n ≤ 1000) : ∃ u : Nat, u < n ∧ ∀ w, Calls Tryd.prog 17 #[.int .i64 a, .int .i64 (n : Nat)] w fun e w' => e = .returned (.int .i64 (u : Nat)) ∧ w = w' := by
  have h1 := pickI_lo a n
  have h2 := pickI_hi a n n1
  refine ⟨(pickI a n).toNat, by omega, fun w => ?_⟩
  have := pick_det a n n w rfl n1 hn
  rwa [show ((pickI a n).toNat : Int) = pickI a n by omega]

set_option maxHeartbeats 4000000 in
theorem judgeCut_any {w : World} (hg : ErrVar w) (A : Option Addr) (len cap : Nat) (l : List Ev4) (hl : l.length = len) (hE : EvRow w A len l) (hc : len ≤ cap) (n at_ : Int) :
    Calls Tryd.prog 6 #[.slice A len cap, .int .i64 n, .int .i64 at_] w fun e w' => e = .returned (.bool true) ∧ Below w.heap.size w w' := by
  have HJ := Lib.hid (judged_any hg)
  obtain ⟨m, m1, m16, hm, hp16⟩ := pick16 n
  have HP := Lib.hid hp16
  have HE := Lib.hid hE
  have hmw : wrap64 (1 + pickI n 16) = (m : Int) := by rw [hm]; unfold wrap64; omega
  have HMW := Lib.hid hmw
  clear hg hp16 hE hm hmw
  generalize pickI n 16 = z at *
  go_enter Tryd.func6, Tryd.ntmps6
  go_wp2_with fail
  refine HJ.out.mono ?_
  rintro e w1 ⟨rfl, hb1⟩
  have HB := Lib.hid hb1
  clear hb1 HJ
  by_cases h9 : 100 < len
  · have h9' : (100 : Int) < (len : Int) := by omega
    go_wp2
    go_ret
    exact ⟨rfl, HB.out⟩
  have h9' : ¬ (100 : Int) < (len : Int) := by omega
  obtain ⟨u, hu, hpu⟩ := pickN at_ (len + 1) (by omega) (by omega)
  have HPU := Lib.hid (fun w => by have := hpu w; rwa [show ((len + 1 : Nat) : Int) = (len : Int) + 1 from rfl] at this)
  have HE1 := Lib.hid (fun x (hx : w1.grownBy x none) => ((HE.out.of HB.out).grow hx))
  have HF := Lib.hid (fun x (hx : w1.grownBy x none) => HB.out.grown hx HB.out.size (by intro k hk; cases hk))
  have htk : (l.take u).length = u := by rw [List.length_take]; omega
  clear hpu HE
  go_wp2_with fail
  refine (HP.out _).mono ?_
  rintro e w2 ⟨rfl, rfl⟩
  go_wp2_with fail
  refine (HPU.out _).mono ?_
  rintro e w2 ⟨rfl, rfl⟩
  rw [HMW.out]
  clear HP HPU
  by_cases hw : judgeP m [] l = none
  · have hw2 : judgeP m [] (l.take u) = none := judge_cut u hw
    have HA := Lib.hid (fun x (hx : w1.grownBy x none) (k : Nat) (hk : k = len ∨ k = u) => show Calls Tryd.prog 13 #[.slice A k cap, .int .i64 (m : Nat)] x fun e w' => e = .returned .nilIface ∧ w1.grownBy w' none by
      have h1 := jcheck_yes A len cap m l hl (by omega) (HE1.out x hx) m1 m16 hw
      have h2 := jcheck_yes A u cap m (l.take u) htk (by omega) ((HE1.out x hx).cut (by omega)) m1 m16 hw2
      have h3 : Calls Tryd.prog 13 #[.slice A k cap, .int .i64 (m : Nat)] x fun e w' => e = .returned .nilIface ∧ x.grownBy w' none := by
        rcases hk with rfl | rfl
        · exact h1
        · exact h2
      refine h3.mono ?_
      rintro e x1 ⟨rfl, h⟩
      exact ⟨rfl, hx.andThen h (by intro k hk; cases hk)⟩)
    clear hw hw2 HE1 htk
    go_wp2_with fail
    go_region_with (first
      | (go_at_call 13; refine (HA.out _ (by repeat (first | assumption | exact World.grownBy.refl _ none | refine grown_dJ ?_ | refine grown_aJ ?_ _)) _ (by first | exact .inl rfl | exact .inr rfl)).mono ?_; rintro e x1 ⟨rfl, hg1⟩))
    all_goals
      have HFF := Lib.hid (HF.out _ hg1)
      clear hg1 HA
      go_wp2
      go_ret
      exact ⟨rfl, HFF.out⟩
  · have HA := Lib.hid (fun x (hx : w1.grownBy x none) (k : Nat) (hk : k = len ∨ k = u) => show Calls Tryd.prog 13 #[.slice A k cap, .int .i64 (m : Nat)] x fun e w' => ∃ v, e = .returned v ∧ w1.grownBy w' none ∧ (k = len → ∃ p, v = .iface 67 (.pointer (some ⟨p, 0, none⟩))) by
      have h1 := jcheck_no A len cap m l hl (by omega) (HE1.out x hx) m1 m16 hw
      rcases hk with rfl | rfl
      · refine h1.mono ?_
        rintro e x1 ⟨p, rfl, h⟩
        exact ⟨_, rfl, hx.andThen h (by intro k hk; cases hk), fun _ => ⟨p, rfl⟩⟩
      · by_cases hw2 : judgeP m [] (l.take k) = none
        · refine (jcheck_yes A k cap m (l.take k) htk (by omega) ((HE1.out x hx).cut (by omega)) m1 m16 hw2).mono ?_
          rintro e x1 ⟨rfl, h⟩
          refine ⟨_, rfl, hx.andThen h (by intro k hk; cases hk), fun hkl => ?_⟩
          rw [hkl, ← hl, List.take_length] at hw2
          exact absurd hw2 hw
        · refine (jcheck_no A k cap m (l.take k) htk (by omega) ((HE1.out x hx).cut (by omega)) m1 m16 hw2).mono ?_
          rintro e x1 ⟨p, rfl, h⟩
          exact ⟨_, rfl, hx.andThen h (by intro k hk; cases hk), fun _ => ⟨p, rfl⟩⟩)
    clear hw HE1 htk
    go_wp2_with fail
    go_region_with (first
      | (go_at_call 13; refine (HA.out _ (by repeat (first | assumption | exact World.grownBy.refl _ none | refine grown_dJ ?_ | refine grown_aJ ?_ _)) _ (by first | exact .inl rfl | exact .inr rfl)).mono ?_; rintro e x1 ⟨v, rfl, hg1, hv⟩; first | (obtain ⟨p, rfl⟩ := hv rfl) | clear hv))
    all_goals
      have HFF := Lib.hid (HF.out _ hg1)
      clear hg1 HA
      go_wp2
      go_ret
      exact ⟨rfl, HFF.out⟩
end Go.Proofs.YtcgfcghdfgihmaaDoor
