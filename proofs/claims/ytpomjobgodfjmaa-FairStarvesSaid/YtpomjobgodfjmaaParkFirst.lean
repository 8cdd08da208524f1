/-
  The walk of ParkFirst.
-/
import Derived.Test.YtpomjobgodfjmaaIntF
namespace Go.Proofs.Ytpomjobgodfjmaa
open Go.RowKit Go.Shelf

theorem grownBy_draws (w : World) (q : Nat) : w.grownBy (w.drewN q) none := ⟨rfl, rfl, rfl, Nat.le_refl _, fun _ _ _ => rfl⟩

theorem Ints.grow {k : IntKind} {w w' : World} {n : Nat} {A : Option Addr} {xs : List Int} (h : Ints k w w.heap.size A n xs) (hg : w.grownBy w' none) : Ints k w' w'.heap.size A n xs :=
  h.keep hg.size fun p hp => World.cell?_of_block (hg.block p.block hp (by simp))

/-- What stands behind the first k of a row. -/
theorem Ints.drop {k : IntKind} {w : World} {B n m cap : Nat} {g : Nat} {xs : List Int} (h : Ints k w B (some ⟨g, 0, none⟩) n xs) (hm : m ≤ n) (hc : n ≤ cap) :
    ∃ Ad, (if cap = m then some (⟨g, 0, none⟩ : Addr) else some ⟨g, m, none⟩) = some Ad ∧ Ints k w B (some Ad) (n - m) (xs.drop m) := by
  have hl : (xs.drop m).length = n - m := by rw [List.length_drop, h.len]
  by_cases e : cap = m
  · exact ⟨⟨g, 0, none⟩, by rw [if_pos e], hl, fun h0 => absurd h0 (by omega)⟩
  · refine ⟨⟨g, m, none⟩, by rw [if_neg e], hl, fun h0 => ?_⟩
    obtain ⟨b, off, e2, hb, hx⟩ := h.row (by omega)
    obtain ⟨rfl, rfl⟩ : g = b ∧ 0 = off := by
      injection e2 with e2
      injection e2 with e2 e3
      exact ⟨e2, e3⟩
    refine ⟨g, m, rfl, hb, fun i hi => ?_⟩
    have h1 := hx (m + i) (by omega)
    rw [Nat.zero_add] at h1
    rw [h1, List.getD_eq_getElem?_getD, List.getD_eq_getElem?_getD, List.getElem?_drop]

/-- What a call that tells true, and makes no more than blocks behind w5, comes to. -/
def Yes (b : Bool) (w5 : World) (e : Ending) (w' : World) : Prop := e = .returned (.bool b) ∧ w5.grownBy w' none
/-- What asking for those at the cell comes to, behind w5. -/
def Row (R : List Int) (r : Nat) (w5 : World) (e : Ending) (w' : World) : Prop := ∃ A6 c6, e = .returned (.slice A6 r c6) ∧ Ints .i64 w' w'.heap.size A6 r R ∧ w5.grownBy w' none

theorem first_eq {w5 : World} {A C : Option Addr} {k : Nat} {O : List Int} (h1 : Ints .i64 w5 w5.heap.size A k O) (h2 : Ints .i64 w5 w5.heap.size C k O) (hk : k ≤ 1000) (c d : Nat) (X : World) (hX : w5.grownBy X none) :
    Calls Try.prog 12 #[.slice A k c, .slice C k d] X (Yes true w5) := by
  refine (equalI_same _ _ k _ _ O X (by omega) _ (h1.grow hX) (h2.grow hX)).mono ?_
  rintro e w' ⟨rfl, q, rfl⟩
  exact ⟨rfl, hX.andThen (grownBy_draws X q) (by intro j hj; cases hj)⟩

theorem second_eq {w5 : World} {C : Option Addr} {r : Nat} {R : List Int} (h2 : Ints .i64 w5 w5.heap.size C r R) (hr : r ≤ 1000) (A : Option Addr) (c d : Nat) (X : World) (h1 : Ints .i64 X X.heap.size A r R) (hX : w5.grownBy X none) :
    Calls Try.prog 12 #[.slice A r c, .slice C r d] X (Yes true w5) := by
  refine (equalI_same _ _ r _ _ R X (by omega) _ h1 (h2.grow hX)).mono ?_
  rintro e w' ⟨rfl, q, rfl⟩
  exact ⟨rfl, hX.andThen (grownBy_draws X q) (by intro j hj; cases hj)⟩

end Go.Proofs.Ytpomjobgodfjmaa
