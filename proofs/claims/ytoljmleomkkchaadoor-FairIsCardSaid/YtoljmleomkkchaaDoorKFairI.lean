/-
  Whether picks are fair, one by one.
-/
import Derived.Test.YtoljmleomkkchaaDoorKFair
namespace Go.Proofs.YtoljmleomkkchaaDoor
set_option maxRecDepth 100000
set_option linter.unusedVariables false
set_option linter.unusedSimpArgs false

/-! Behind which of the first picks one is waiting for its next one. -/
def lastI (l : List Int) (t : Nat) : Nat → Nat
  | 0 => 0
  | i + 1 => if l.getD i 0 = (t : Int) then i + 1 else lastI l t i
theorem lastI_le (l : List Int) (t : Nat) : ∀ i, lastI l t i ≤ i
  | 0 => Nat.le_refl _
  | i + 1 => by
    rw [lastI]
    split
    · exact Nat.le_refl _
    · exact Nat.le_succ_of_le (lastI_le l t i)
theorem lastI_mem {l : List Int} {t : Nat} : ∀ {i}, 0 < lastI l t i → l.getD (lastI l t i - 1) 0 = (t : Int)
  | 0, h => absurd h (Nat.lt_irrefl _)
  | i + 1, h => by
    rw [lastI] at h ⊢
    by_cases e : l.getD i 0 = (t : Int)
    · rw [if_pos e]
      exact e
    · rw [if_neg e] at h ⊢
      exact lastI_mem h
theorem lastI_none {l : List Int} {t : Nat} : ∀ {i j}, lastI l t i ≤ j → j < i → l.getD j 0 ≠ (t : Int)
  | 0, j, _, h => absurd h (Nat.not_lt_zero _)
  | i + 1, j, h1, h2 => by
    rw [lastI] at h1
    by_cases e : l.getD i 0 = (t : Int)
    · rw [if_pos e] at h1
      omega
    · rw [if_neg e] at h1
      by_cases hj : j = i
      · subst hj
        exact e
      · exact lastI_none h1 (by omega)
theorem fair_iff {l : List Int} {n w : Nat} (w1 : 1 ≤ w) : FairW l n w ↔ ∀ k, k ≤ l.length → ∀ t, t < n → k - lastI l t k < w := by
  constructor
  · intro h k hk t ht
    by_cases hc : k - lastI l t k < w
    · exact hc
    · exfalso
      obtain ⟨j, h1, h2, h3, h4⟩ := mem_win.1 (h (lastI l t k) (by omega) t ht)
      exact lastI_none h1 (by omega) h4
  · intro h i hi t ht
    have h1 := h (i + w) hi t ht
    have h2 := lastI_le l t (i + w)
    exact mem_win.2 ⟨lastI l t (i + w) - 1, by omega, by omega, by omega, lastI_mem (by omega)⟩
/-- How far the picks are looked at: nobody waited too long, but for those who are still waiting. -/
def FairTo (l : List Int) (n w i : Nat) : Prop := ∀ t, t < n → ∀ k, k ≤ i → k - lastI l t k < w ∨ lastI l t k = lastI l t i
theorem fairTo_zero (l : List Int) (n w : Nat) : FairTo l n w 0 := fun t _ k hk => .inr (by rw [show k = 0 by omega])
theorem fairTo_other {l : List Int} {n w i : Nat} (h : FairTo l n w i) (hx : ∀ t, t < n → l.getD i 0 ≠ (t : Int)) : FairTo l n w (i + 1) := fun t ht k hk => by
  have e : lastI l t (i + 1) = lastI l t i := by rw [lastI, if_neg (hx t ht)]
  by_cases hk2 : k = i + 1
  · exact .inr (by rw [hk2])
  · rw [e]
    exact h t ht k (by omega)
theorem fairTo_pick {l : List Int} {n w i u : Nat} (h : FairTo l n w i) (hu : l.getD i 0 = (u : Int)) (hw : i - lastI l u i < w) : FairTo l n w (i + 1) := fun t ht k hk => by
  by_cases hk2 : k = i + 1
  · exact .inr (by rw [hk2])
  · have h1 := h t ht k (by omega)
    by_cases e : t = u
    · subst e
      rcases h1 with h1 | h1
      · exact .inl h1
      · exact .inl (by omega)
    · have e2 : lastI l t (i + 1) = lastI l t i := by rw [lastI, if_neg (by rw [hu]; omega)]
      rw [e2]
      exact h1
theorem fairTo_end {l : List Int} {n w : Nat} (w1 : 1 ≤ w) (h : FairTo l n w l.length) (he : ∀ t, t < n → l.length - lastI l t l.length < w) : FairW l n w := (fair_iff w1).2 fun k hk t ht => by
  rcases h t ht k hk with h1 | h1
  · exact h1
  · have := he t ht
    omega
theorem fair_not {l : List Int} {n w i t : Nat} (w1 : 1 ≤ w) (ht : t < n) (hi : i ≤ l.length) (h : w ≤ i - lastI l t i) : ¬ FairW l n w := fun hf => by
  have := (fair_iff w1).1 hf i hi t ht
  omega
/-- Where each of 16 is waiting. -/
def sinceL (l : List Int) (n i : Nat) : List Int := (List.range 16).map fun t => if t < n then (lastI l t i : Int) else 0
theorem sinceL_len (l : List Int) (n i : Nat) : (sinceL l n i).length = 16 := by unfold sinceL; simp
theorem sinceL_at {l : List Int} {n i t : Nat} (ht : t < 16) : (sinceL l n i).getD t 0 = if t < n then (lastI l t i : Int) else 0 := by
  unfold sinceL
  rw [List.getD_eq_getElem?_getD, List.getElem?_map, List.getElem?_range ht]
  rfl
theorem sinceL_other {l : List Int} {n i : Nat} (hx : ∀ t, t < n → l.getD i 0 ≠ (t : Int)) : sinceL l n (i + 1) = sinceL l n i := by
  unfold sinceL
  refine List.map_congr_left fun t _ => ?_
  by_cases ht : t < n
  · rw [if_pos ht, if_pos ht, lastI, if_neg (hx t ht)]
  · rw [if_neg ht, if_neg ht]
theorem sinceL_pick {l : List Int} {n i u : Nat} (hu : l.getD i 0 = (u : Int)) (hn : u < n) : sinceL l n (i + 1) = (sinceL l n i).set u ((i : Int) + 1) := by
  refine List.ext_getElem (by rw [List.length_set, sinceL_len, sinceL_len]) fun j h1 h2 => ?_
  have h3 : j < 16 := by rw [sinceL_len] at h1; exact h1
  have a1 : ∀ i, (sinceL l n i)[j]'(by rw [sinceL_len]; exact h3) = if j < n then (lastI l j i : Int) else 0 := fun i => by unfold sinceL; simp
  rw [List.getElem_set, a1]
  by_cases e : u = j
  · subst e
    rw [if_pos rfl, if_pos hn, lastI, if_pos hu]
    rfl
  · have e2 : lastI l j (i + 1) = lastI l j i := by rw [lastI, if_neg (by rw [hu]; omega)]
    rw [if_neg e, a1, e2]
end Go.Proofs.YtoljmleomkkchaaDoor
