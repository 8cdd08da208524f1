/-
  Fair picks.
-/
import Derived.Test.YtoljmleomkkchaaDoorRows
namespace Go.Proofs.YtoljmleomkkchaaDoor
set_option maxRecDepth 100000
set_option linter.unusedVariables false
set_option linter.unusedSimpArgs false

/-! Fair picks. -/
/-- In whichever window each of n is there. -/
def FairW (l : List Int) (n w : Nat) : Prop := ∀ i, i + w ≤ l.length → ∀ t : Nat, t < n → (t : Int) ∈ (l.drop i).take w

theorem take_sub {α : Type} {l : List α} {i w w' : Nat} (h : w ≤ w') : ∀ x ∈ (l.drop i).take w, x ∈ (l.drop i).take w' := fun x hx => by
  have : (l.drop i).take w = ((l.drop i).take w').take w := by rw [List.take_take, Nat.min_eq_left h]
  rw [this] at hx
  exact List.mem_of_mem_take hx
/-- WHO IS FAIR IN LESS IS FAIR IN MORE. -/
theorem fair_more {l : List Int} {n w w' : Nat} (h : FairW l n w) (hw : w ≤ w') : FairW l n w' := fun i hi t ht => take_sub hw _ (h i (by omega) t ht)
theorem fair_fewer {l : List Int} {n n' w : Nat} (h : FairW l n w) (hn : n' ≤ n) : FairW l n' w := fun i hi t ht => h i hi t (by omega)
theorem fair_piece {l : List Int} {n w a b : Nat} (h : FairW l n w) : FairW ((l.take b).drop a) n w := fun i hi t ht => by
  have hlen : i + w ≤ min b l.length - a := by rw [List.length_drop, List.length_take] at hi; exact hi
  have h1 := h (a + i) (by
    rcases Nat.lt_or_ge 0 w with hw | hw
    · omega
    · by_cases h2 : a ≤ l.length
      · omega
      · exfalso
        -- nothing is in an empty window
        have h3 := h 0 (by omega) t ht
        rw [show w = 0 by omega] at h3
        simp at h3) t ht
  have e : ((l.take b).drop a).drop i = (l.drop (a + i)).take (b - (a + i)) := by rw [List.drop_drop, List.drop_take]
  rw [e, List.take_take]
  rcases Nat.lt_or_ge 0 w with hw | hw
  · rw [Nat.min_eq_left (by omega)]
    exact h1
  · rw [show w = 0 by omega] at h1
    simp at h1

theorem mem_win {l : List Int} {i w : Nat} {x : Int} : x ∈ (l.drop i).take w ↔ ∃ j, i ≤ j ∧ j < i + w ∧ j < l.length ∧ l.getD j 0 = x := by
  rw [List.mem_iff_getElem]
  constructor
  · rintro ⟨k, hk, e⟩
    rw [List.length_take, List.length_drop] at hk
    refine ⟨i + k, by omega, by omega, by omega, ?_⟩
    rw [List.getElem_take, List.getElem_drop] at e
    rw [List.getD_eq_getElem?_getD, List.getElem?_eq_getElem (by omega), ← e]
    rfl
  · rintro ⟨j, h1, h2, h3, e⟩
    refine ⟨j - i, by rw [List.length_take, List.length_drop]; omega, ?_⟩
    rw [List.getElem_take, List.getElem_drop]
    have e2 : i + (j - i) = j := by omega
    rw [List.getD_eq_getElem?_getD, List.getElem?_eq_getElem h3] at e
    simp only [e2]
    exact e

/-- n, one behind the other, so many times. -/
def turnsL (n times : Nat) : List Int := (List.replicate times ((List.range n).map fun (t : Nat) => (t : Int))).flatten
theorem turns_succ (n times : Nat) : turnsL n (times + 1) = ((List.range n).map fun (t : Nat) => (t : Int)) ++ turnsL n times := by unfold turnsL; rw [List.replicate_succ, List.flatten_cons]
theorem turns_len (n : Nat) : ∀ times, (turnsL n times).length = n * times
  | 0 => rfl
  | m + 1 => by rw [turns_succ, List.length_append, turns_len n m, List.length_map, List.length_range, Nat.mul_succ]; omega
theorem turns_at {n : Nat} (n1 : 0 < n) : ∀ (times j : Nat), j < n * times → (turnsL n times).getD j 0 = ((j % n : Nat) : Int)
  | 0, j, h => by simp at h
  | m + 1, j, h => by
    rw [turns_succ]
    by_cases hj : j < n
    · rw [List.getD_eq_getElem?_getD, List.getElem?_append_left (by simpa using hj), List.getElem?_map, List.getElem?_range hj, Nat.mod_eq_of_lt hj]
      rfl
    · rw [List.getD_eq_getElem?_getD, List.getElem?_append_right (by simpa using hj), ← List.getD_eq_getElem?_getD, List.length_map, List.length_range, turns_at n1 m (j - n) (by rw [Nat.mul_succ] at h; omega)]
      rw [← Nat.mod_eq_sub_mod (by omega)]
/-- ONE BEHIND THE OTHER IS AS FAIR AS CAN BE. -/
theorem fair_turns {n times w : Nat} (n1 : 0 < n) (ht : 2 ≤ times) (w1 : 0 < w) : FairW (turnsL n times) n w ↔ n ≤ w := by
  constructor
  · intro h
    by_cases hw : n ≤ w
    · exact hw
    · exfalso
      have h2 : n * 2 ≤ n * times := Nat.mul_le_mul_left n ht
      have h1 := h 0 (by rw [turns_len]; omega) w (by omega)
      obtain ⟨j, _, h3, h4, e⟩ := mem_win.1 h1
      rw [turns_len] at h4
      rw [turns_at n1 times j h4, Nat.mod_eq_of_lt (by omega)] at e
      omega
  · intro hw
    refine fair_more (w := n) (fun i hi t htn => ?_) hw
    rw [turns_len] at hi
    refine mem_win.2 ?_
    have hd := Nat.div_add_mod i n
    have hm := Nat.mod_lt i n1
    by_cases hit : i % n ≤ t
    · refine ⟨n * (i / n) + t, by omega, by omega, by rw [turns_len]; omega, ?_⟩
      rw [turns_at n1 times _ (by omega), Nat.mul_add_mod, Nat.mod_eq_of_lt htn]
    · refine ⟨n * (i / n) + n + t, by omega, by omega, by rw [turns_len]; omega, ?_⟩
      rw [turns_at n1 times _ (by omega), show n * (i / n) + n + t = n * (i / n + 1) + t by rw [Nat.mul_succ], Nat.mul_add_mod, Nat.mod_eq_of_lt htn]

/-- WHO IS NEVER PICKED IS NOT TREATED FAIRLY. -/
theorem fair_starves {l : List Int} {n who w : Nat} (hw : who < n) (hl : ∀ x ∈ l, x ≠ (who : Int)) (h1 : w ≤ l.length) : ¬ FairW l n w := fun h => by
  have := h 0 (by omega) who hw
  exact hl _ (List.mem_of_mem_drop (List.mem_of_mem_take this)) rfl

/-- Blocks of anything, and then all, in turn: fair in three times as many. -/
theorem fair_blocks {n : Nat} (n1 : 0 < n) {l : List Int} (hl : l.length % (2 * n) = 0) (h : ∀ b t, t < n → 2 * n * b + n + t < l.length → l.getD (2 * n * b + n + t) 0 = ((t : Nat) : Int)) : FairW l n (3 * n) := fun i hi t ht => by
  refine mem_win.2 ?_
  have hd := Nat.div_add_mod i (2 * n)
  have hm := Nat.mod_lt i (show 0 < 2 * n by omega)
  by_cases hit : i % (2 * n) ≤ n
  · refine ⟨2 * n * (i / (2 * n)) + n + t, by omega, by omega, by omega, h _ t ht (by omega)⟩
  · -- the next block's
    have e : 2 * n * (i / (2 * n) + 1) = 2 * n * (i / (2 * n)) + 2 * n := by rw [Nat.mul_succ]
    have hlen : 2 * n * (i / (2 * n) + 1) + n + t < l.length := by
      -- the list has whole blocks, and goes beyond this one
      have hL := Nat.div_add_mod l.length (2 * n)
      rw [hl, Nat.add_zero] at hL
      have h1 : 2 * n * (i / (2 * n) + 1) < 2 * n * (l.length / (2 * n)) := by omega
      have h2 : i / (2 * n) + 1 < l.length / (2 * n) := Nat.lt_of_mul_lt_mul_left h1
      have h3 : 2 * n * (i / (2 * n) + 1 + 1) ≤ 2 * n * (l.length / (2 * n)) := Nat.mul_le_mul_left _ h2
      rw [Nat.mul_succ] at h3
      omega
    exact ⟨2 * n * (i / (2 * n) + 1) + n + t, by omega, by omega, hlen, h _ t ht hlen⟩
end Go.Proofs.YtoljmleomkkchaaDoor
