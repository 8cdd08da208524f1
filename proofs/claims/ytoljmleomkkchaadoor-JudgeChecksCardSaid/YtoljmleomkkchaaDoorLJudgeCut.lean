/-
  WHAT MAY BE SAID MAY BE CUT OFF. Check, where it is known whether it is right.
-/
import Derived.Test.YtoljmleomkkchaaDoorOJRounds
namespace Go.Proofs.YtoljmleomkkchaaDoor
set_option maxRecDepth 100000
open Go.RowKit
set_option linter.unusedVariables false
set_option linter.unusedSimpArgs false

theorem jcheck_yes {w : World} (A : Option Addr) (len cap n : Nat) (l : List Ev4) (hll : l.length = len) (hl : len ≤ 20000) (hE : EvRow w A len l) (n1 : 1 ≤ n) (hn : n ≤ 16) (h : judgeP n [] l = none) :
    Calls Tryd.prog 10 #[.slice A len cap, .int .i64 (n : Nat)] w fun e w' => e = .returned .nilIface ∧ w.grownBy w' none := by
  subst hll
  refine (jcheck_any A cap n l hl hE n1 hn).mono ?_
  rintro e w' ⟨hb, ⟨_, rfl⟩ | ⟨c, i, v, hj, _, _⟩⟩
  · exact ⟨rfl, grown_belJ hb⟩
  · rw [h] at hj
    cases hj
theorem jcheck_no {w : World} (A : Option Addr) (len cap n : Nat) (l : List Ev4) (hll : l.length = len) (hl : len ≤ 20000) (hE : EvRow w A len l) (n1 : 1 ≤ n) (hn : n ≤ 16) (h : judgeP n [] l ≠ none) :
    Calls Tryd.prog 10 #[.slice A len cap, .int .i64 (n : Nat)] w fun e w' => ∃ p, e = .returned (.iface 65 (.pointer (some ⟨p, 0, none⟩))) ∧ w.grownBy w' none := by
  subst hll
  refine (jcheck_any A cap n l hl hE n1 hn).mono ?_
  rintro e w' ⟨hb, ⟨hj, rfl⟩ | ⟨c, i, v, hj, rfl, p, rfl, _, _⟩⟩
  · exact absurd hj h
  · exact ⟨p, rfl, grown_belJ hb⟩
theorem EvRow.cut {w : World} {A : Option Addr} {n m : Nat} {l : List Ev4} (h : EvRow w A n l) (hm : m ≤ n) : EvRow w A m (l.take m) := fun i hi => by
  have := h i (by omega)
  rwa [show (l.take m).getD i default = l.getD i default by rw [List.getD_eq_getElem?_getD, List.getElem?_take, if_pos hi, ← List.getD_eq_getElem?_getD]]
/-- How many threads the laws ask about. -/
theorem pick16 (n : Int) : ∃ m : Nat, 1 ≤ m ∧ m ≤ 16 ∧ 1 + pickI n 16 = (m : Int) ∧ ∀ w, Calls Tryd.prog 14 #[.int .i64 n, .int .i64 16] w fun e w' => e = .returned (.int .i64 (pickI n 16)) ∧ w = w' := by
  have h1 := pickI_lo n 16
  have h2 := pickI_hi n 16 (by decide)
  exact ⟨(1 + pickI n 16).toNat, by omega, by omega, by omega, fun w => pick_det n 16 16 w rfl (by decide) (by decide)⟩
theorem pickN (a : Int) (n : Nat) (n1 : 0 < n) (hn : n ≤ 1000) : ∃ u : Nat, u < n ∧ ∀ w, Calls Tryd.prog 14 #[.int .i64 a, .int .i64 (n : Nat)] w fun e w' => e = .returned (.int .i64 (u : Nat)) ∧ w = w' := by
  have h1 := pickI_lo a n
  have h2 := pickI_hi a n n1
  refine ⟨(pickI a n).toNat, by omega, fun w => ?_⟩
  have := pick_det a n n w rfl n1 hn
  rwa [show ((pickI a n).toNat : Int) = pickI a n by omega]

end Go.Proofs.YtoljmleomkkchaaDoor
