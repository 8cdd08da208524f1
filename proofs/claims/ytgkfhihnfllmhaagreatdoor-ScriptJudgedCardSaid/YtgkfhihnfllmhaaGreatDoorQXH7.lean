/-
  The judge, as the program hears.
-/
import Derived.Test.YtgkfhihnfllmhaaGreatDoorQXH
namespace Go.Proofs.YtgkfhihnfllmhaaGreatDoor
set_option maxRecDepth 100000
set_option linter.unusedVariables false
set_option linter.unusedSimpArgs false

/-! The judge, as the program hears: how often each said something. -/
def timesL (n : Nat) (a : List Ev4) : List Int := (List.range n).map fun t => (cntEv a t : Int)
theorem timesL_len (n : Nat) (a : List Ev4) : (timesL n a).length = n := by unfold timesL; simp
theorem timesL_at {n t : Nat} (a : List Ev4) (ht : t < n) : (timesL n a).getD t 0 = (cntEv a t : Int) := by
  unfold timesL
  rw [List.getD_eq_getElem?_getD, List.getElem?_map, List.getElem?_range ht]
  rfl
theorem timesL_nil (n : Nat) : timesL n [] = List.replicate n 0 := by
  unfold timesL
  refine List.ext_getElem (by simp) fun i h1 h2 => ?_
  simp [cntEv]
theorem cnt_more (a : List Ev4) (e : Ev4) (t : Nat) (he : e.2.2.1 = (t : Int)) (u : Nat) : cntEv (a ++ [e]) u = cntEv a u + if u = t then 1 else 0 := by
  obtain ⟨x, y, z, v⟩ := e
  dsimp only at he
  subst he
  rw [cntEv_append, cntEv_one]
theorem timesL_snoc {n t : Nat} (a : List Ev4) (e : Ev4) (ht : t < n) (he : e.2.2.1 = (t : Int)) : timesL n (a ++ [e]) = (timesL n a).set t ((cntEv a t : Int) + 1) := by
  refine List.ext_getElem (by rw [List.length_set, timesL_len, timesL_len]) fun j h1 h2 => ?_
  have h3 : j < n := by rw [timesL_len] at h1; exact h1
  have a1 : ∀ a, (timesL n a)[j]'(by rw [timesL_len]; exact h3) = (cntEv a j : Int) := fun a => by unfold timesL; simp
  rw [List.getElem_set, a1, cnt_more a e t he j]
  by_cases e1 : t = j
  · subst e1
    rw [if_pos rfl, if_pos rfl]
    rfl
  · rw [if_neg e1, a1, if_neg (fun h => e1 h.symm)]
    rfl
theorem cntEv_len (a : List Ev4) (t : Nat) : cntEv a t ≤ a.length := by unfold cntEv; exact List.length_filter_le _ _

theorem minN_more (f : Nat → Nat) {k : Nat} (hk : 1 ≤ k) : minN f (k + 1) = min (minN f k) (f k) := by
  obtain ⟨j, rfl⟩ : ∃ j, k = j + 1 := ⟨k - 1, by omega⟩
  rfl
theorem maxN_more (f : Nat → Nat) (k : Nat) : maxN f (k + 1) = max (maxN f k) (f k) := rfl
theorem minN_map {f g : Nat → Nat} (hg : ∀ x y, x ≤ y → g x ≤ g y) : ∀ {n}, 0 < n → minN (fun t => g (f t)) n = g (minN f n)
  | 1, _ => rfl
  | n + 2, _ => by
    rw [minN, minN, minN_map hg (by omega)]
    rcases Nat.le_total (minN f (n + 1)) (f (n + 1)) with h | h
    · rw [Nat.min_eq_left h, Nat.min_eq_left (hg _ _ h)]
    · rw [Nat.min_eq_right h, Nat.min_eq_right (hg _ _ h)]
theorem maxN_map {f g : Nat → Nat} (g0 : g 0 = 0) (hg : ∀ x y, x ≤ y → g x ≤ g y) : ∀ n, maxN (fun t => g (f t)) n = g (maxN f n)
  | 0 => g0.symm
  | n + 1 => by
    rw [maxN, maxN, maxN_map g0 hg n]
    rcases Nat.le_total (maxN f n) (f n) with h | h
    · rw [Nat.max_eq_right h, Nat.max_eq_right (hg _ _ h)]
    · rw [Nat.max_eq_left h, Nat.max_eq_left (hg _ _ h)]
theorem jAll_min {n : Nat} (n1 : 0 < n) (l : List Ev4) : jAll n l = minN (cntEv l) n / 2 := minN_map (f := cntEv l) (g := fun x => x / 2) (fun x y h => by show x / 2 ≤ y / 2; omega) n1
theorem jAny_max (n : Nat) (l : List Ev4) : jAny n l = (maxN (cntEv l) n + 1) / 2 := maxN_map (f := cntEv l) (g := fun x => (x + 1) / 2) rfl (fun x y h => by show (x + 1) / 2 ≤ (y + 1) / 2; omega) n
theorem minN_len {n : Nat} (n1 : 0 < n) (l : List Ev4) : minN (cntEv l) n ≤ l.length := Nat.le_trans (minN_le _ n1) (cntEv_len l 0)
theorem maxN_len (n : Nat) (l : List Ev4) : maxN (cntEv l) n ≤ l.length := maxN_le fun t _ => cntEv_len l t

/-! What is wrong with an event, as the program asks. -/
section
variable {n : Nat} {a : List Ev4} {e : Ev4}
theorem jErr_arg (h1 : e.2.1 ≠ 1) (h2 : e.2.1 ≠ 2) : jErr n a e = 1 := by unfold jErr; rw [if_pos ⟨h1, h2⟩]
theorem jErr_range (h1 : e.2.1 = 1 ∨ e.2.1 = 2) (h2 : e.2.2.1 < 0 ∨ (n : Int) ≤ e.2.2.1) : jErr n a e = 2 := by
  unfold jErr
  rw [if_neg (by omega), if_pos h2]
theorem jErr_order {t : Nat} (h1 : e.2.1 = 1 ∨ e.2.1 = 2) (ht : t < n) (he : e.2.2.1 = (t : Int)) (h3 : e.2.1 ≠ ((1 + cntEv a t % 2 : Nat) : Int) ∨ e.2.2.2 ≠ ((cntEv a t / 2 + 1 : Nat) : Int)) : jErr n a e = 10 := by
  unfold jErr
  rw [he, Int.toNat_natCast, if_neg (by omega), if_neg (by omega), if_pos (by rw [Nat.add_comm 1 (cntEv a t / 2)]; exact h3)]
theorem jErr_false {t : Nat} (ht : t < n) (he : e.2.2.1 = (t : Int)) (h3 : e.2.1 = ((1 + cntEv a t % 2 : Nat) : Int)) (h4 : e.2.2.2 = ((cntEv a t / 2 + 1 : Nat) : Int)) : jErr n a e = if e.2.1 = 2 ∧ (minN (cntEv a) n + 1) / 2 < cntEv a t / 2 + 1 then 13 else 0 := by
  unfold jErr
  rw [he, Int.toNat_natCast, if_neg (by omega), if_neg (by omega), if_neg (by rw [Nat.add_comm 1 (cntEv a t / 2)]; omega)]
  have hn : 0 < n := by omega
  by_cases h2 : e.2.1 = 2
  · have hk : cntEv a t % 2 = 1 := by omega
    have : (∃ u, u < n ∧ cntEv a u < cntEv a t) ↔ (minN (cntEv a) n + 1) / 2 < cntEv a t / 2 + 1 := by
      constructor
      · rintro ⟨u, hu, h⟩
        have := minN_le (cntEv a) hu
        omega
      · intro h
        obtain ⟨u, hu, e⟩ := minN_at (cntEv a) hn
        exact ⟨u, hu, by omega⟩
    simp only [this]
  · rw [if_neg (fun h => h2 h.1), if_neg (fun h => h2 h.1)]
/-- What is right of the beginning, and what is wrong behind it. -/
theorem judge_step (i : Nat) (l : List Ev4) (hi : i < l.length) (x : Ev4) (hx : l.getD i default = x) : judgeP n (l.take i) (l.drop i) = if jErr n (l.take i) x = 0 then judgeP n (l.take (i + 1)) (l.drop (i + 1)) else some (jErr n (l.take i) x, i) := by
  have e : l.drop i = x :: l.drop (i + 1) := by
    rw [← hx, List.getD_eq_getElem?_getD, List.getElem?_eq_getElem hi, List.drop_eq_getElem_cons hi]
    rfl
  have e2 : l.take (i + 1) = l.take i ++ [x] := by
    rw [← hx, List.getD_eq_getElem?_getD, List.getElem?_eq_getElem hi, List.take_add_one, List.getElem?_eq_getElem hi]
    rfl
  rw [e, judgeP, e2]
  simp [Nat.min_eq_left (Nat.le_of_lt hi)]
theorem judge_end (l : List Ev4) : judgeP n (l.take l.length) (l.drop l.length) = none := by rw [List.drop_length]; rfl
end
theorem jErr_zero_thread {n : Nat} {a : List Ev4} {e : Ev4} (h : jErr n a e = 0) : ∃ t : Nat, t < n ∧ e.2.2.1 = (t : Int) := by
  unfold jErr at h
  split at h
  · cases h
  · split at h
    · cases h
    · next h2 => exact ⟨e.2.2.1.toNat, by omega, by omega⟩
end Go.Proofs.YtgkfhihnfllmhaaGreatDoor
