/-
  Fair picks. What may be said, for seats without a machine. The judge as a plain function; what each of its laws comes to.
-/
import Derived.Test.YtkhaeabbbhfloaaDoorRows
import Derived.Test.YtkhaeabbbhfloaaDoorQG4
namespace Go.Proofs.YtkhaeabbbhfloaaDoor
set_option maxRecDepth 100000
set_option linter.unusedVariables false
set_option linter.unusedSimpArgs false

/-! Fair picks. -/
end Go.Proofs.YtkhaeabbbhfloaaDoor

namespace Go.Proofs.YtkhaeabbbhfloaaDoor
set_option maxRecDepth 100000
set_option linter.unusedVariables false
set_option linter.unusedSimpArgs false

end Go.Proofs.YtkhaeabbbhfloaaDoor

namespace Go.Proofs.YtkhaeabbbhfloaaDoor
set_option maxRecDepth 100000
set_option linter.unusedVariables false
set_option linter.unusedSimpArgs false

/-! The judge, as a plain function. -/

/-- What is wrong with an event behind others; 0: nothing. -/
def jErr (n : Nat) (a : List Ev4) (e : Ev4) : Nat :=
  if e.2.1 ≠ 1 ∧ e.2.1 ≠ 2 then 1
  else if e.2.2.1 < 0 ∨ (n : Int) ≤ e.2.2.1 then 2
  else if e.2.1 ≠ ((1 + cntEv a e.2.2.1.toNat % 2 : Nat) : Int) ∨ e.2.2.2 ≠ ((1 + cntEv a e.2.2.1.toNat / 2 : Nat) : Int) then 10
  else if e.2.1 = 2 ∧ ∃ u, u < n ∧ cntEv a u < cntEv a e.2.2.1.toNat then 13
  else 0
/-- What is wrong with events behind others: the error, and its place. -/
def judgeP (n : Nat) : List Ev4 → List Ev4 → Option (Nat × Nat)
  | _, [] => none
  | a, e :: l => if jErr n a e = 0 then judgeP n (a ++ [e]) l else some (jErr n a e, a.length)

theorem okEv_eq {n : Nat} {a : List Ev4} {t k : Nat} {w : Int} (h : OkEv n a) (ht : t < n) (hk : cntEv a t = k) (hall : k % 2 = 1 → ∀ u, u < n → k ≤ cntEv a u) : OkEv n (a ++ [evAt w t k]) := OkEv.snoc h ht hk hall

/-- An event with which nothing is wrong is the one that is to be said. -/
theorem jErr_zero {n : Nat} {a : List Ev4} {e : Ev4} (h : jErr n a e = 0) : ∃ w t, t < n ∧ e = evAt w t (cntEv a t) ∧ (cntEv a t % 2 = 1 → ∀ u, u < n → cntEv a t ≤ cntEv a u) := by
  unfold jErr at h
  split at h
  · cases h
  · next h1 =>
    split at h
    · cases h
    · next h2 =>
      split at h
      · cases h
      · next h3 =>
        split at h
        · cases h
        · next h4 =>
          obtain ⟨w, what, t, v⟩ := e
          dsimp only at h1 h2 h3 h4
          have ht0 : 0 ≤ t := by omega
          obtain ⟨t, rfl⟩ := Int.eq_ofNat_of_zero_le ht0
          have htn : ((t : Int)).toNat = t := rfl
          rw [htn] at h3 h4
          refine ⟨w, t, by omega, ?_, fun hk u hu => ?_⟩
          · unfold evAt
            have e1 : what = ((1 + cntEv a t % 2 : Nat) : Int) := by
              by_cases e1 : what = ((1 + cntEv a t % 2 : Nat) : Int)
              · exact e1
              · exact absurd (.inl e1) h3
            have e2 : v = ((1 + cntEv a t / 2 : Nat) : Int) := by
              by_cases e2 : v = ((1 + cntEv a t / 2 : Nat) : Int)
              · exact e2
              · exact absurd (.inr e2) h3
            rw [← e1, ← e2]
          · have e1 : what = ((1 + cntEv a t % 2 : Nat) : Int) := by
              by_cases e1 : what = ((1 + cntEv a t % 2 : Nat) : Int)
              · exact e1
              · exact absurd (.inl e1) h3
            by_cases hc : cntEv a t ≤ cntEv a u
            · exact hc
            · exact absurd ⟨by rw [e1, hk]; rfl, u, hu, by omega⟩ h4
theorem jErr_evAt {n : Nat} {a : List Ev4} {w : Int} {t : Nat} (ht : t < n) (hall : cntEv a t % 2 = 1 → ∀ u, u < n → cntEv a t ≤ cntEv a u) : jErr n a (evAt w t (cntEv a t)) = 0 := by
  unfold jErr evAt
  dsimp only
  have htn : ((t : Int)).toNat = t := rfl
  rw [htn]
  rw [if_neg (by omega), if_neg (by omega), if_neg (by simp), if_neg]
  rintro ⟨h1, u, hu, h2⟩
  have := hall (by omega) u hu
  omega

theorem judgeP_ok {n : Nat} : ∀ {l a : List Ev4}, OkEv n a → (judgeP n a l = none ↔ OkEv n (a ++ l))
  | [], a, h => by simp [judgeP, h]
  | e :: l, a, h => by
    have hl : a ++ e :: l = (a ++ [e]) ++ l := by simp
    rw [judgeP]
    constructor
    · intro hj
      split at hj
      · next h0 =>
        obtain ⟨w, t, ht, rfl, hall⟩ := jErr_zero h0
        have h1 : OkEv n (a ++ [evAt w t (cntEv a t)]) := okEv_eq h ht rfl hall
        rw [hl]
        exact (judgeP_ok h1).1 hj
      · cases hj
    · intro ho
      obtain ⟨w, t, ht, he, hall⟩ := ho.at rfl
      rw [if_pos (by rw [he]; exact jErr_evAt ht hall)]
      rw [hl] at ho
      exact (judgeP_ok ho.init).2 ho
/-- WHAT IS RIGHT: just what may be said. -/
theorem judge_ok {n : Nat} {l : List Ev4} : judgeP n [] l = none ↔ OkEv n l := by
  have := judgeP_ok (n := n) (l := l) (a := []) .nil
  rwa [List.nil_append] at this

/-- How many rounds all went through, and how many anybody came to. -/
def minN (f : Nat → Nat) : Nat → Nat
  | 0 => 0
  | 1 => f 0
  | m + 2 => min (minN f (m + 1)) (f (m + 1))
def maxN (f : Nat → Nat) : Nat → Nat
  | 0 => 0
  | m + 1 => max (maxN f m) (f m)
theorem minN_at (f : Nat → Nat) : ∀ {n : Nat}, 0 < n → ∃ t, t < n ∧ minN f n = f t
  | 1, _ => ⟨0, by omega, rfl⟩
  | n + 2, _ => by
    obtain ⟨t, ht, e⟩ := minN_at f (n := n + 1) (by omega)
    rw [minN]
    by_cases h : minN f (n + 1) ≤ f (n + 1)
    · exact ⟨t, by omega, by rw [Nat.min_eq_left h, e]⟩
    · exact ⟨n + 1, by omega, by rw [Nat.min_eq_right (by omega)]⟩
theorem le_maxN (f : Nat → Nat) : ∀ {n t : Nat}, t < n → f t ≤ maxN f n
  | n + 1, t, h => by
    rw [maxN]
    by_cases e : t = n
    · subst e; exact Nat.le_max_right _ _
    · exact Nat.le_trans (le_maxN f (by omega)) (Nat.le_max_left _ _)
theorem maxN_le {f : Nat → Nat} {b : Nat} : ∀ {n : Nat}, (∀ t, t < n → f t ≤ b) → maxN f n ≤ b
  | 0, _ => Nat.zero_le _
  | n + 1, h => by
    rw [maxN]
    exact Nat.max_le.2 ⟨maxN_le fun t ht => h t (by omega), h _ (by omega)⟩
theorem maxN_at (f : Nat → Nat) : ∀ {n : Nat}, 0 < n → ∃ t, t < n ∧ maxN f n = f t
  | 1, _ => ⟨0, by omega, by simp [maxN]⟩
  | n + 2, _ => by
    obtain ⟨t, ht, e⟩ := maxN_at f (n := n + 1) (by omega)
    rw [maxN]
    by_cases h : maxN f (n + 1) ≤ f (n + 1)
    · exact ⟨n + 1, by omega, by rw [Nat.max_eq_right h]⟩
    · exact ⟨t, by omega, by rw [Nat.max_eq_left (by omega), e]⟩

def jAll (n : Nat) (l : List Ev4) : Nat := minN (fun t => cntEv l t / 2) n
def jAny (n : Nat) (l : List Ev4) : Nat := maxN (fun t => (cntEv l t + 1) / 2) n

/-- NO MORE THAN ONE APART. -/
theorem judge_rounds {n : Nat} (n1 : 0 < n) {l : List Ev4} (h : OkEv n l) : jAll n l ≤ jAny n l ∧ jAny n l ≤ jAll n l + 2 := by
  obtain ⟨t, ht, e1⟩ := minN_at (fun t => cntEv l t / 2) n1
  obtain ⟨u, hu, e2⟩ := maxN_at (fun t => (cntEv l t + 1) / 2) n1
  have h1 := le_maxN (fun t => (cntEv l t + 1) / 2) ht
  have h2 := h.all hu ht
  unfold jAll jAny
  omega
end Go.Proofs.YtkhaeabbbhfloaaDoor

namespace Go.Proofs.YtkhaeabbbhfloaaDoor
set_option maxRecDepth 100000
set_option linter.unusedVariables false
set_option linter.unusedSimpArgs false

/-! What is wrong hangs on the counts alone. -/
theorem jAll_same {n c : Nat} {l : List Ev4} (n1 : 0 < n) (h : ∀ u, u < n → cntEv l u = 2 * c) : jAll n l = c ∧ jAny n l = c := by
  obtain ⟨t, ht, e1⟩ := minN_at (fun t => cntEv l t / 2) n1
  obtain ⟨u, hu, e2⟩ := maxN_at (fun t => (cntEv l t + 1) / 2) n1
  have h1 := h t ht
  have h2 := h u hu
  unfold jAll jAny
  omega

end Go.Proofs.YtkhaeabbbhfloaaDoor
