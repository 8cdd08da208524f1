/-
  Waking those that sleep at a cell (Wake).
-/
import Derived.Test.YtpomjobgodfjmaaLotG
namespace Go.Proofs.Ytpomjobgodfjmaa
open Go.RowKit Go.Shelf

/-- How many are woken. -/
def wakeN (n : Int) (T : List Int) : Nat := min n.toNat T.length

/-- Those that sleep on. -/
def rest (l : List (Int × Int)) (T : List Int) : List (Int × Int) := keepers (fun s => T.contains s.1) l

theorem Ints.take {k : IntKind} {w : World} {B n m : Nat} {A : Option Addr} {xs : List Int} (h : Ints k w B A n xs) (hm : m ≤ n) : Ints k w B A m (xs.take m) := by
  refine ⟨by rw [List.length_take, h.len]; omega, fun h0 => ?_⟩
  obtain ⟨b, off, rfl, hb, hc⟩ := h.row (by omega)
  refine ⟨b, off, rfl, hb, fun i hi => ?_⟩
  rw [hc i (by omega), List.getD_eq_getElem?_getD, List.getD_eq_getElem?_getD, List.getElem?_take, if_pos hi]

theorem wakeN_cases (n : Int) (T : List Int) : (n < 0 ∧ wakeN n T = 0) ∨ (¬ n < 0 ∧ n ≤ (T.length : Int) ∧ wakeN n T = n.toNat) ∨ (¬ n < 0 ∧ ¬ n ≤ (T.length : Int) ∧ wakeN n T = T.length) := by
  unfold wakeN
  omega

end Go.Proofs.Ytpomjobgodfjmaa
