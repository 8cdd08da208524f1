/-
  NO MORE THAN ONE APART.
-/
import Derived.Test.YtcgfcghdfgihmaaDoorLJudgeCut
namespace Go.Proofs.YtcgfcghdfgihmaaDoor
set_option maxRecDepth 100000
open Go.RowKit
set_option linter.unusedVariables false
set_option linter.unusedSimpArgs false

theorem jrounds_yes {w : World} (A : Option Addr) (len cap n : Nat) (l : List Ev4) (hll : l.length = len) (hl : len ≤ 20000) (hE : EvRow w A len l) (n1 : 1 ≤ n) (hn : n ≤ 16) (h : judgeP n [] l = none) :
    Calls Tryd.prog 11 #[.slice A len cap, .int .i64 (n : Nat)] w fun e w' => e = .returned (.tuple #[.int .i64 (jAll n l : Nat), .int .i64 (jAny n l : Nat), .nilIface]) ∧ w.grownBy w' none := by
  subst hll
  refine (jrounds_any A cap n l hl hE n1 hn).mono ?_
  rintro e w' ⟨hb, ⟨_, rfl⟩ | ⟨c, i, v, hj, _, _⟩⟩
  · exact ⟨rfl, grown_belJ hb⟩
  · rw [h] at hj
    cases hj
theorem jrounds_no {w : World} (A : Option Addr) (len cap n : Nat) (l : List Ev4) (hll : l.length = len) (hl : len ≤ 20000) (hE : EvRow w A len l) (n1 : 1 ≤ n) (hn : n ≤ 16) {c i : Nat} (h : judgeP n [] l = some (c, i)) :
    Calls Tryd.prog 11 #[.slice A len cap, .int .i64 (n : Nat)] w fun e w' => ∃ p, e = .returned (.tuple #[.int .i64 0, .int .i64 0, .iface 67 (.pointer (some ⟨p, 0, none⟩))]) ∧ w'.heap[p]? = some (.cells #[.int .i64 (c : Nat), .int .i64 (i : Nat)] 69 (0, 0)) ∧ w.grownBy w' none := by
  subst hll
  refine (jrounds_any A cap n l hl hE n1 hn).mono ?_
  rintro e w' ⟨hb, ⟨hj, rfl⟩ | ⟨c', i', v, hj, rfl, p, rfl, _, hp⟩⟩
  · rw [h] at hj
    cases hj
  · rw [h] at hj
    injection hj with hj
    injection hj with h1 h2
    subst h1 h2
    exact ⟨p, rfl, hp, grown_belJ hb⟩

set_option maxHeartbeats 4000000 in
theorem judgeRounds_any {w : World} (hg : ErrVar w) (A : Option Addr) (len cap : Nat) (l : List Ev4) (hl : l.length = len) (hE : EvRow w A len l) (n : Int) :
    Calls Tryd.prog 8 #[.slice A len cap, .int .i64 n] w fun e w' => e = .returned (.bool true) ∧ Below w.heap.size w w' := by
  have HJ := Lib.hid (judged_any hg)
  obtain ⟨m, m1, m16, hm, hp16⟩ := pick16 n
  have HP := Lib.hid hp16
  have HE := Lib.hid hE
  have hmw : wrap64 (1 + pickI n 16) = (m : Int) := by rw [hm]; unfold wrap64; omega
  have HMW := Lib.hid hmw
  clear hg hp16 hE hm hmw
  generalize pickI n 16 = z at *
  go_enter Tryd.func8, Tryd.ntmps8
  go_wp2_with fail
  refine HJ.out.mono ?_
  rintro e w1 ⟨rfl, hb1⟩
  have HB := Lib.hid hb1
  clear hb1 HJ
  by_cases h9 : 100 < len
  · have h9' : (100 : Int) < (len : Int) := by omega
    go_wp2
    go_ret
    exact ⟨rfl, HB.out⟩
  have h9' : ¬ (100 : Int) < (len : Int) := by omega
  have HE1 := Lib.hid (HE.out.of HB.out)
  clear HE
  go_wp2_with fail
  refine (HP.out _).mono ?_
  rintro e w2 ⟨rfl, rfl⟩
  clear HP
  by_cases hw : judgeP m [] l = none
  · have HR := Lib.hid (jrounds_yes A len cap m l hl (by omega) HE1.out m1 m16 hw)
    have HC := Lib.hid (fun x (hx : w1.grownBy x none) => jcheck_yes A len cap m l hl (by omega) (HE1.out.grow hx) m1 m16 hw)
    obtain ⟨o1, o2⟩ := judge_rounds (n := m) (by omega) (judge_ok.1 hw)
    have hjl : jAny m l ≤ 20000 := by
      rw [jAny_max]
      have := maxN_len m l
      omega
    clear hw HE1
    generalize jAll m l = ja at *
    generalize jAny m l = jb at *
    go_wp2_with fail
    rw [HMW.out]
    refine HR.out.mono ?_
    rintro e w2 ⟨rfl, hg2⟩
    have HF := Lib.hid (HB.out.grown hg2 HB.out.size (by intro k hk; cases hk))
    have HC2 := Lib.hid (HC.out _ hg2)
    have p1 : (ja : Int) ≤ (jb : Int) := by omega
    have p2 : (jb : Int) ≤ (ja : Int) + 2 := by omega
    clear hg2 HC HR HB
    go_wp2_with fail
    refine HC2.out.mono ?_
    rintro e w3 ⟨rfl, hg3⟩
    have HF3 := Lib.hid (HF.out.grown hg3 HF.out.size (by intro k hk; cases hk))
    clear hg3 HC2
    go_wp2
    go_ret
    exact ⟨rfl, HF3.out⟩
  · obtain ⟨⟨c, i⟩, hci⟩ : ∃ q, judgeP m [] l = some q := by
      cases h : judgeP m [] l with
      | none => exact absurd h hw
      | some q => exact ⟨q, rfl⟩
    have HR := Lib.hid (jrounds_no A len cap m l hl (by omega) HE1.out m1 m16 hci)
    have HC := Lib.hid (fun x (hx : w1.grownBy x none) => jcheck_no A len cap m l hl (by omega) (HE1.out.grow hx) m1 m16 hw)
    clear hw hci HE1
    go_wp2_with fail
    rw [HMW.out]
    refine HR.out.mono ?_
    rintro e w2 ⟨p, rfl, -, hg2⟩
    have HF := Lib.hid (HB.out.grown hg2 HB.out.size (by intro k hk; cases hk))
    have HC2 := Lib.hid (HC.out _ hg2)
    clear hg2 HC HR HB
    go_wp2_with fail
    refine HC2.out.mono ?_
    rintro e w3 ⟨p2, rfl, hg3⟩
    have HF3 := Lib.hid (HF.out.grown hg3 HF.out.size (by intro k hk; cases hk))
    clear hg3 HC2
    go_wp2
    go_ret
    exact ⟨rfl, HF3.out⟩
end Go.Proofs.YtcgfcghdfgihmaaDoor
