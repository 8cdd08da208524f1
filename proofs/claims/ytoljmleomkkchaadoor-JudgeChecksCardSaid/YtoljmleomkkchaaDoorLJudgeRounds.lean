/-
  NO MORE THAN ONE APART.
-/
import Derived.Test.YtoljmleomkkchaaDoorLJudgeCut
namespace Go.Proofs.YtoljmleomkkchaaDoor
set_option maxRecDepth 100000
open Go.RowKit
set_option linter.unusedVariables false
set_option linter.unusedSimpArgs false

theorem jrounds_yes {w : World} (A : Option Addr) (len cap n : Nat) (l : List Ev4) (hll : l.length = len) (hl : len ≤ 20000) (hE : EvRow w A len l) (n1 : 1 ≤ n) (hn : n ≤ 16) (h : judgeP n [] l = none) :
    Calls Tryd.prog 8 #[.slice A len cap, .int .i64 (n : Nat)] w fun e w' => e = .returned (.tuple #[.int .i64 (jAll n l : Nat), .int .i64 (jAny n l : Nat), .nilIface]) ∧ w.grownBy w' none := by
  subst hll
  refine (jrounds_any A cap n l hl hE n1 hn).mono ?_
  rintro e w' ⟨hb, ⟨_, rfl⟩ | ⟨c, i, v, hj, _, _⟩⟩
  · exact ⟨rfl, grown_belJ hb⟩
  · rw [h] at hj
    cases hj
theorem jrounds_no {w : World} (A : Option Addr) (len cap n : Nat) (l : List Ev4) (hll : l.length = len) (hl : len ≤ 20000) (hE : EvRow w A len l) (n1 : 1 ≤ n) (hn : n ≤ 16) {c i : Nat} (h : judgeP n [] l = some (c, i)) :
    Calls Tryd.prog 8 #[.slice A len cap, .int .i64 (n : Nat)] w fun e w' => ∃ p, e = .returned (.tuple #[.int .i64 0, .int .i64 0, .iface 65 (.pointer (some ⟨p, 0, none⟩))]) ∧ w'.heap[p]? = some (.cells #[.int .i64 (c : Nat), .int .i64 (i : Nat)] 67 (0, 0)) ∧ w.grownBy w' none := by
  subst hll
  refine (jrounds_any A cap n l hl hE n1 hn).mono ?_
  rintro e w' ⟨hb, ⟨hj, rfl⟩ | ⟨c', i', v, hj, rfl, p, rfl, _, hp⟩⟩
  · rw [h] at hj
    cases hj
  · rw [h] at hj
    injection hj with hj
    injection hj with h1 h2
    subst h1 h2
    exact ⟨p, rfl, hp, grown_belJ hb⟩

end Go.Proofs.YtoljmleomkkchaaDoor
