/-
  The judge as a plain function; what each of its laws comes to.
-/
import Derived.Test.YtoljmleomkkchaaDoorKSaid
namespace Go.Proofs.YtoljmleomkkchaaDoor
set_option maxRecDepth 100000
set_option linter.unusedVariables false
set_option linter.unusedSimpArgs false

/-! The judge, as a plain function. -/

/-- What is wrong with an event behind others; 0: nothing. -/
def jErr (n : Nat) (a : List Ev4) (e : Ev4) : Nat :=
  if e.2.1 ≠ 1 ∧ e.2.1 ≠ 2 then 1
  else if e.2.2.1 < 0 ∨ (n : Int) ≤ e.2.2.1 then 2
  else if e.2.1 ≠ ((1 + cntEv a e.2.2.1.toNat % 2 : Nat) : Int) ∨ e.2.2.2 ≠ ((1 + cntEv a e.2.2.1.toNat / 2 : Nat) : Int) then 10
  else if e.2.1 = 2 ∧ ∃ u, u < n ∧ cntEv a u < cntEv a e.2.2.1.toNat then 13
  else 0
/-- What is wrong with events behind others: the error, and its place. -/
def judgeP (n : Nat) : List Ev4 → List Ev4 → Option (Nat × Nat)
  | _, [] => none
  | a, e :: l => if jErr n a e = 0 then judgeP n (a ++ [e]) l else some (jErr n a e, a.length)

theorem okEv_eq {n : Nat} {a : List Ev4} {t k : Nat} {w : Int} (h : OkEv n a) (ht : t < n) (hk : cntEv a t = k) (hall : k % 2 = 1 → ∀ u, u < n → k ≤ cntEv a u) : OkEv n (a ++ [evAt w t k]) := OkEv.snoc h ht hk hall

/-- An event with which nothing is wrong is the one that is to be said. -/
theorem jErr_zero {n : Nat} {a : List Ev4} {e : Ev4} (h : jErr n a e = 0) : ∃ w t, t < n ∧ e = evAt w t (cntEv a t) ∧ (cntEv a t % 2 = 1 → ∀ u, u < n → cntEv a t ≤ cntEv a u) := by
  unfold jErr at h
  split at h
  · cases h
  · next h1 =>
    split at h
    · cases h
    · next h2 =>
      split at h
      · cases h
      · next h3 =>
        split at h
        · cases h
        · next h4 =>
          obtain ⟨w, what, t, v⟩ := e
          dsimp only at h1 h2 h3 h4
          have ht0 : 0 ≤ t := by omega
          obtain ⟨t, rfl⟩ := Int.eq_ofNat_of_zero_le ht0
          have htn : ((t : Int)).toNat = t := rfl
          rw [htn] at h3 h4
          refine ⟨w, t, by omega, ?_, fun hk u hu => ?_⟩
          · unfold evAt
            have e1 : what = ((1 + cntEv a t % 2 : Nat) : Int) := by
              by_cases e1 : what = ((1 + cntEv a t % 2 : Nat) : Int)
              · exact e1
              · exact absurd (.inl e1) h3
            have e2 : v = ((1 + cntEv a t / 2 : Nat) : Int) := by
              by_cases e2 : v = ((1 + cntEv a t / 2 : Nat) : Int)
              · exact e2
              · exact absurd (.inr e2) h3
            rw [← e1, ← e2]
          · have e1 : what = ((1 + cntEv a t % 2 : Nat) : Int) := by
              by_cases e1 : what = ((1 + cntEv a t % 2 : Nat) : Int)
              · exact e1
              · exact absurd (.inl e1) h3
            by_cases hc : cntEv a t ≤ cntEv a u
            · exact hc
            · exact absurd ⟨by rw [e1, hk]; rfl, u, hu, by omega⟩ h4
theorem jErr_evAt {n : Nat} {a : List Ev4} {w : Int} {t : Nat} (ht : t < n) (hall : cntEv a t % 2 = 1 → ∀ u, u < n → cntEv a t ≤ cntEv a u) : jErr n a (evAt w t (cntEv a t)) = 0 := by
  unfold jErr evAt
  dsimp only
  have htn : ((t : Int)).toNat = t := rfl
  rw [htn]
  rw [if_neg (by omega), if_neg (by omega), if_neg (by simp), if_neg]
  rintro ⟨h1, u, hu, h2⟩
  have := hall (by omega) u hu
  omega

theorem judgeP_append (n : Nat) : ∀ (l r a : List Ev4), judgeP n a (l ++ r) = match judgeP n a l with | some q => some q | none => judgeP n (a ++ l) r
  | [], r, a => by simp [judgeP]
  | e :: l, r, a => by
    rw [List.cons_append, judgeP, judgeP]
    split
    · rw [judgeP_append n l r (a ++ [e])]
      simp
    · rfl
theorem judgeP_ok {n : Nat} : ∀ {l a : List Ev4}, OkEv n a → (judgeP n a l = none ↔ OkEv n (a ++ l))
  | [], a, h => by simp [judgeP, h]
  | e :: l, a, h => by
    have hl : a ++ e :: l = (a ++ [e]) ++ l := by simp
    rw [judgeP]
    constructor
    · intro hj
      split at hj
      · next h0 =>
        obtain ⟨w, t, ht, rfl, hall⟩ := jErr_zero h0
        have h1 : OkEv n (a ++ [evAt w t (cntEv a t)]) := okEv_eq h ht rfl hall
        rw [hl]
        exact (judgeP_ok h1).1 hj
      · cases hj
    · intro ho
      obtain ⟨w, t, ht, he, hall⟩ := ho.at rfl
      rw [if_pos (by rw [he]; exact jErr_evAt ht hall)]
      rw [hl] at ho
      exact (judgeP_ok ho.init).2 ho
/-- WHAT IS RIGHT: just what may be said. -/
theorem judge_ok {n : Nat} {l : List Ev4} : judgeP n [] l = none ↔ OkEv n l := by
  have := judgeP_ok (n := n) (l := l) (a := []) .nil
  rwa [List.nil_append] at this

/-- How many rounds all went through, and how many anybody came to. -/
def minN (f : Nat → Nat) : Nat → Nat
  | 0 => 0
  | 1 => f 0
  | m + 2 => min (minN f (m + 1)) (f (m + 1))
def maxN (f : Nat → Nat) : Nat → Nat
  | 0 => 0
  | m + 1 => max (maxN f m) (f m)
theorem minN_le (f : Nat → Nat) : ∀ {n t : Nat}, t < n → minN f n ≤ f t
  | 1, t, h => by rw [show t = 0 by omega]; exact Nat.le_refl _
  | n + 2, t, h => by
    rw [minN]
    by_cases e : t = n + 1
    · subst e; exact Nat.min_le_right _ _
    · exact Nat.le_trans (Nat.min_le_left _ _) (minN_le f (by omega))
theorem le_minN {f : Nat → Nat} {b : Nat} : ∀ {n : Nat}, 0 < n → (∀ t, t < n → b ≤ f t) → b ≤ minN f n
  | 1, _, h => h 0 (by omega)
  | n + 2, _, h => by
    rw [minN]
    exact Nat.le_min.2 ⟨le_minN (by omega) fun t ht => h t (by omega), h _ (by omega)⟩
theorem minN_at (f : Nat → Nat) : ∀ {n : Nat}, 0 < n → ∃ t, t < n ∧ minN f n = f t
  | 1, _ => ⟨0, by omega, rfl⟩
  | n + 2, _ => by
    obtain ⟨t, ht, e⟩ := minN_at f (n := n + 1) (by omega)
    rw [minN]
    by_cases h : minN f (n + 1) ≤ f (n + 1)
    · exact ⟨t, by omega, by rw [Nat.min_eq_left h, e]⟩
    · exact ⟨n + 1, by omega, by rw [Nat.min_eq_right (by omega)]⟩
theorem le_maxN (f : Nat → Nat) : ∀ {n t : Nat}, t < n → f t ≤ maxN f n
  | n + 1, t, h => by
    rw [maxN]
    by_cases e : t = n
    · subst e; exact Nat.le_max_right _ _
    · exact Nat.le_trans (le_maxN f (by omega)) (Nat.le_max_left _ _)
theorem maxN_le {f : Nat → Nat} {b : Nat} : ∀ {n : Nat}, (∀ t, t < n → f t ≤ b) → maxN f n ≤ b
  | 0, _ => Nat.zero_le _
  | n + 1, h => by
    rw [maxN]
    exact Nat.max_le.2 ⟨maxN_le fun t ht => h t (by omega), h _ (by omega)⟩
theorem maxN_at (f : Nat → Nat) : ∀ {n : Nat}, 0 < n → ∃ t, t < n ∧ maxN f n = f t
  | 1, _ => ⟨0, by omega, by simp [maxN]⟩
  | n + 2, _ => by
    obtain ⟨t, ht, e⟩ := maxN_at f (n := n + 1) (by omega)
    rw [maxN]
    by_cases h : maxN f (n + 1) ≤ f (n + 1)
    · exact ⟨n + 1, by omega, by rw [Nat.max_eq_right h]⟩
    · exact ⟨t, by omega, by rw [Nat.max_eq_left (by omega), e]⟩

def jAll (n : Nat) (l : List Ev4) : Nat := minN (fun t => cntEv l t / 2) n
def jAny (n : Nat) (l : List Ev4) : Nat := maxN (fun t => (cntEv l t + 1) / 2) n

/-- NO MORE THAN ONE APART. -/
theorem judge_rounds {n : Nat} (n1 : 0 < n) {l : List Ev4} (h : OkEv n l) : jAll n l ≤ jAny n l ∧ jAny n l ≤ jAll n l + 2 := by
  obtain ⟨t, ht, e1⟩ := minN_at (fun t => cntEv l t / 2) n1
  obtain ⟨u, hu, e2⟩ := maxN_at (fun t => (cntEv l t + 1) / 2) n1
  have h1 := le_maxN (fun t => (cntEv l t + 1) / 2) ht
  have h2 := h.all hu ht
  unfold jAll jAny
  omega
/-- WHAT MAY BE SAID MAY BE CUT OFF. -/
theorem judge_cut {n : Nat} {l : List Ev4} (i : Nat) (h : judgeP n [] l = none) : judgeP n [] (l.take i) = none := by
  rw [judge_ok] at h ⊢
  rw [← List.take_append_drop i l] at h
  exact h.init

/-- A fact: two come, one goes. -/
theorem judged_1 : judgeP 2 [] [(0, 1, 0, 1), (0, 1, 1, 1), (0, 2, 0, 1)] = none := by
  refine judge_ok.2 ?_
  exact okEv_eq (t := 0) (k := 1) (w := 0) (okEv_eq (t := 1) (k := 0) (w := 0) (okEv_eq (t := 0) (k := 0) (w := 0) .nil (by decide) rfl (by decide)) (by decide) rfl (by decide)) (by decide) (by decide) (by decide)
theorem judged_2 : judgeP 3 [] [(0, 1, 0, 1), (0, 1, 1, 1)] = none := by
  refine judge_ok.2 ?_
  exact okEv_eq (t := 1) (k := 0) (w := 0) (okEv_eq (t := 0) (k := 0) (w := 0) .nil (by decide) rfl (by decide)) (by decide) rfl (by decide)
theorem judged_3 : judgeP 2 [] [(0, 1, 0, 1), (0, 2, 0, 1)] = some (13, 1) := by
  have h1 : jErr 2 [] (0, 1, 0, 1) = 0 := jErr_evAt (w := 0) (t := 0) (a := []) (n := 2) (by decide) (by decide)
  have h2 : jErr 2 [(0, 1, 0, 1)] (0, 2, 0, 1) = 13 := by
    unfold jErr
    dsimp only
    rw [if_neg (by decide), if_neg (by decide), if_neg (by decide), if_pos ⟨by decide, 1, by decide, by decide⟩]
  rw [judgeP, if_pos h1, judgeP, List.nil_append, if_neg (by rw [h2]; decide), h2]
  rfl
end Go.Proofs.YtoljmleomkkchaaDoor

namespace Go.Proofs.YtoljmleomkkchaaDoor
set_option maxRecDepth 100000
set_option linter.unusedVariables false
set_option linter.unusedSimpArgs false

/-! What is wrong hangs on the counts alone. -/
theorem jErr_cnt {n : Nat} {a b : List Ev4} (h : ∀ u, cntEv a u = cntEv b u) (e : Ev4) : jErr n a e = jErr n b e := by
  unfold jErr
  simp only [h]
theorem judgeP_cnt {n : Nat} : ∀ (l : List Ev4) {a b : List Ev4}, (∀ u, cntEv a u = cntEv b u) → (judgeP n a l = none ↔ judgeP n b l = none)
  | [], _, _, _ => by simp [judgeP]
  | e :: l, a, b, h => by
    rw [judgeP, judgeP, jErr_cnt h e]
    split
    · exact judgeP_cnt l fun u => by rw [cntEv_append, cntEv_append, h]
    · simp

/-- WHO COMES FIRST IS NO MATTER. -/
theorem judge_swap {n : Nat} {a b : List Ev4} {x y : Ev4} (h : OkEv n (a ++ x :: y :: b)) (ht : x.2.2.1 ≠ y.2.2.1) (hw : x.2.1 = y.2.1) : OkEv n (a ++ y :: x :: b) := by
  obtain ⟨w, t, ht1, ex, hx⟩ := h.at rfl
  obtain ⟨w', t', ht2, ey, hy⟩ := h.at (show a ++ x :: y :: b = (a ++ [x]) ++ y :: b by simp)
  have hne : t ≠ t' := fun e => ht (by rw [ex, ey, e]; rfl)
  have hc : ∀ u, cntEv (a ++ [x]) u = cntEv a u + if u = t then 1 else 0 := fun u => by rw [ex]; exact cntEv_snoc _ _ _ _ _
  rw [hc t', if_neg (fun e => hne e.symm), Nat.add_zero] at ey hy
  have hcy : ∀ u, cntEv (a ++ [y]) u = cntEv a u + if u = t' then 1 else 0 := fun u => by rw [ey]; exact cntEv_snoc _ _ _ _ _
  have hw2 : cntEv a t % 2 = cntEv a t' % 2 := by
    have : ((1 + cntEv a t % 2 : Nat) : Int) = ((1 + cntEv a t' % 2 : Nat) : Int) := by
      have e1 : x.2.1 = ((1 + cntEv a t % 2 : Nat) : Int) := by rw [ex]; rfl
      have e2 : y.2.1 = ((1 + cntEv a t' % 2 : Nat) : Int) := by rw [ey]; rfl
      rw [← e1, ← e2, hw]
    omega
  have ha : OkEv n a := h.init
  have hy1 : OkEv n (a ++ [y]) := by
    rw [ey]
    refine okEv_eq ha ht2 rfl fun hk u hu => ?_
    have h1 := hy hk u hu
    rw [hc u] at h1
    by_cases e : u = t
    · subst e
      rw [if_pos rfl] at h1
      have h2 := hx (by omega) t' ht2
      omega
    · rw [if_neg e] at h1
      exact h1
  have hx1 : OkEv n ((a ++ [y]) ++ [x]) := by
    rw [ex]
    refine okEv_eq hy1 ht1 (by rw [hcy t, if_neg hne]; rfl) fun hk u hu => ?_
    have := hx hk u hu
    rw [hcy u]
    omega
  have hb : judgeP n ((a ++ [x]) ++ [y]) b = none := by
    have h2 : OkEv n ((a ++ [x]) ++ [y]) := (show OkEv n (((a ++ [x]) ++ [y]) ++ b) by simpa using h).init
    exact (judgeP_ok h2).2 (by simpa using h)
  have hb2 : judgeP n ((a ++ [y]) ++ [x]) b = none := (judgeP_cnt b fun u => by rw [cntEv_append, cntEv_append, cntEv_append, cntEv_append]; omega).1 hb
  have := (judgeP_ok hx1).1 hb2
  simpa using this

/-- WHO DIDN'T COME IS MISSED. -/
theorem first_of {t : Nat} : ∀ {l : List Ev4}, 0 < cntEv l t → ∃ c y d, l = c ++ y :: d ∧ cntEv c t = 0 ∧ y.2.2.1 = (t : Int)
  | [], h => by simp [cntEv] at h
  | x :: l, h => by
    by_cases e : x.2.2.1 = (t : Int)
    · exact ⟨[], x, l, rfl, rfl, e⟩
    · have h1 : cntEv (x :: l) t = cntEv l t := by unfold cntEv; rw [List.filter_cons_of_neg (by simpa using e)]
      rw [h1] at h
      obtain ⟨c, y, d, rfl, hc, hy⟩ := first_of h
      exact ⟨x :: c, y, d, rfl, by unfold cntEv at hc ⊢; rw [List.filter_cons_of_neg (by simpa using e)]; exact hc, hy⟩
theorem judge_missing {n : Nat} {a b : List Ev4} {x e : Ev4} (h : OkEv n (a ++ x :: b)) (hx : x.2.1 = 1) (he : e ∈ b) (h2 : e.2.1 = 2) (hv : e.2.2.2 = x.2.2.2) : ¬ OkEv n (a ++ b) := by
  intro hb
  obtain ⟨w, t, ht, ex, _⟩ := h.at rfl
  obtain ⟨b1, b2, rfl⟩ := List.append_of_mem he
  obtain ⟨w', t', ht', ee, hall⟩ := hb.at (show a ++ (b1 ++ e :: b2) = (a ++ b1) ++ e :: b2 by simp)
  have k1 : ((1 + cntEv a t % 2 : Nat) : Int) = 1 := by rw [← hx, ex]; rfl
  have k2 : ((1 + cntEv (a ++ b1) t' % 2 : Nat) : Int) = 2 := by rw [← h2, ee]; rfl
  have k3 : ((1 + cntEv (a ++ b1) t' / 2 : Nat) : Int) = ((1 + cntEv a t / 2 : Nat) : Int) := by
    have e1 : e.2.2.2 = ((1 + cntEv (a ++ b1) t' / 2 : Nat) : Int) := by rw [ee]; rfl
    have e2 : x.2.2.2 = ((1 + cntEv a t / 2 : Nat) : Int) := by rw [ex]; rfl
    rw [← e1, hv, e2]
  have k4 := hall (by omega) t ht
  rw [cntEv_append a b1 t] at k4
  obtain ⟨c, y, d, e1, hc, hy⟩ := first_of (l := b1) (t := t) (by omega)
  rw [e1] at h hb
  obtain ⟨w1, t1, ht1, ey1, _⟩ := h.at (show a ++ x :: (c ++ y :: d ++ e :: b2) = (a ++ [x] ++ c) ++ y :: (d ++ e :: b2) by simp)
  obtain ⟨w2, t2, ht2, ey2, _⟩ := hb.at (show a ++ (c ++ y :: d ++ e :: b2) = (a ++ c) ++ y :: (d ++ e :: b2) by simp)
  have t1e : t1 = t := by
    have : ((t1 : Nat) : Int) = (t : Int) := by rw [← hy, ey1]; rfl
    omega
  have t2e : t2 = t := by
    have : ((t2 : Nat) : Int) = (t : Int) := by rw [← hy, ey2]; rfl
    omega
  subst t1e t2e
  have x1 : cntEv [x] t2 = 1 := by rw [ex]; unfold cntEv evAt; simp
  have e3 : ((1 + cntEv (a ++ [x] ++ c) t2 % 2 : Nat) : Int) = ((1 + cntEv (a ++ c) t2 % 2 : Nat) : Int) := by
    have e1 : y.2.1 = ((1 + cntEv (a ++ [x] ++ c) t2 % 2 : Nat) : Int) := by rw [ey1]; rfl
    have e2 : y.2.1 = ((1 + cntEv (a ++ c) t2 % 2 : Nat) : Int) := by rw [ey2]; rfl
    rw [← e1, ← e2]
  rw [cntEv_append, cntEv_append, cntEv_append, hc, x1] at e3
  omega

/-- IN ANY ORDER. -/
theorem judge_turn {n k : Nat} : ∀ (at_ : List Nat) {a : List Ev4}, OkEv n a → at_.Nodup → (∀ t ∈ at_, t < n ∧ cntEv a t = k) → (k % 2 = 1 → ∀ u, u < n → k ≤ cntEv a u) → OkEv n (a ++ at_.map fun t => evAt 0 t k)
  | [], a, h, _, _, _ => by simpa using h
  | t :: at_, a, h, hn, ht, hall => by
    have h1 := ht t (by simp)
    have h2 : OkEv n (a ++ [evAt 0 t k]) := okEv_eq h h1.1 h1.2 hall
    have hn2 := List.nodup_cons.1 hn
    have h3 := judge_turn (n := n) (k := k) at_ h2 hn2.2 (fun u hu => ⟨(ht u (by simp [hu])).1, by rw [cntEv_snoc, if_neg (show ¬ u = t from fun e => hn2.1 (by rw [← e]; exact hu))]; exact (ht u (by simp [hu])).2⟩) (fun hk u hu => by
      have := hall hk u hu
      rw [cntEv_snoc]
      omega)
    simpa using h3
theorem cnt_turn {k : Nat} (at_ : List Nat) (hn : at_.Nodup) (u : Nat) : cntEv (at_.map fun t => evAt 0 t k) u = if u ∈ at_ then 1 else 0 := by
  induction at_ with
  | nil => rfl
  | cons t l ih =>
    have hn2 := List.nodup_cons.1 hn
    have h1 : cntEv ((t :: l).map fun t => evAt 0 t k) u = (if t = u then 1 else 0) + cntEv (l.map fun t => evAt 0 t k) u := by
      rw [List.map_cons, show evAt 0 t k :: l.map (fun t => evAt 0 t k) = [evAt 0 t k] ++ l.map (fun t => evAt 0 t k) from rfl, cntEv_append]
      congr 1
      unfold cntEv evAt
      by_cases e : t = u
      · subst e; simp
      · rw [if_neg e, List.filter_cons_of_neg (by simp; omega)]; rfl
    rw [h1, ih hn2.2]
    by_cases e : t = u
    · subst e
      rw [if_pos rfl, if_neg hn2.1, if_pos (by simp)]
    · rw [if_neg e, Nat.zero_add]
      by_cases e2 : u ∈ l
      · rw [if_pos e2, if_pos (by simp [e2])]
      · rw [if_neg e2, if_neg (by simp [e2]; omega)]
/-- A whole round behind others. -/
theorem judge_round {n r : Nat} {a : List Ev4} {A B : List Nat} (h : OkEv n a) (hc : ∀ u, u < n → cntEv a u = 2 * r) (hA : A.Nodup) (hB : B.Nodup) (mA : ∀ t, t ∈ A ↔ t < n) (mB : ∀ t, t ∈ B ↔ t < n) :
    OkEv n ((a ++ A.map fun t => evAt 0 t (2 * r)) ++ B.map fun t => evAt 0 t (2 * r + 1)) ∧ ∀ u, u < n → cntEv ((a ++ A.map fun t => evAt 0 t (2 * r)) ++ B.map fun t => evAt 0 t (2 * r + 1)) u = 2 * (r + 1) := by
  have h1 := judge_turn (k := 2 * r) A h hA (fun t ht => ⟨(mA t).1 ht, hc t ((mA t).1 ht)⟩) (fun hk => by omega)
  have c1 : ∀ u, u < n → cntEv (a ++ A.map fun t => evAt 0 t (2 * r)) u = 2 * r + 1 := fun u hu => by rw [cntEv_append, hc u hu, cnt_turn A hA, if_pos ((mA u).2 hu)]
  refine ⟨judge_turn (k := 2 * r + 1) B h1 hB (fun t ht => ⟨(mB t).1 ht, c1 t ((mB t).1 ht)⟩) (fun _ u hu => by rw [c1 u hu]; exact Nat.le_refl _), fun u hu => ?_⟩
  rw [cntEv_append, c1 u hu, cnt_turn B hB, if_pos ((mB u).2 hu)]
  omega
theorem jAll_same {n c : Nat} {l : List Ev4} (n1 : 0 < n) (h : ∀ u, u < n → cntEv l u = 2 * c) : jAll n l = c ∧ jAny n l = c := by
  obtain ⟨t, ht, e1⟩ := minN_at (fun t => cntEv l t / 2) n1
  obtain ⟨u, hu, e2⟩ := maxN_at (fun t => (cntEv l t + 1) / 2) n1
  have h1 := h t ht
  have h2 := h u hu
  unfold jAll jAny
  omega

/-- WHATEVER THEY ARE CALLED. -/
def rotEv (n b : Nat) (e : Ev4) : Ev4 := (e.1, e.2.1, (e.2.2.1 + b) % n, e.2.2.2)
theorem rot_cast (t b n : Nat) : ((t : Int) + (b : Int)) % (n : Int) = (((t + b) % n : Nat) : Int) := by rw [Int.natCast_emod, Int.natCast_add]
theorem rot_inj {n b t u : Nat} (ht : t < n) (hu : u < n) (h : (t + b) % n = (u + b) % n) : t = u := by
  have h1 : (t + b) % n = (u + b) % n := h
  have h2 := Nat.div_add_mod (t + b) n
  have h3 := Nat.div_add_mod (u + b) n
  rcases Nat.lt_trichotomy ((t + b) / n) ((u + b) / n) with h4 | h4 | h4
  · have : n * ((t + b) / n) + n ≤ n * ((u + b) / n) := by rw [← Nat.mul_succ]; exact Nat.mul_le_mul_left _ h4
    omega
  · rw [h4] at h2; omega
  · have : n * ((u + b) / n) + n ≤ n * ((t + b) / n) := by rw [← Nat.mul_succ]; exact Nat.mul_le_mul_left _ h4
    omega
theorem cnt_rot {n b : Nat} : ∀ (a : List Ev4), (∀ e ∈ a, 0 ≤ e.2.2.1 ∧ e.2.2.1 < n) → ∀ u, u < n → cntEv (a.map (rotEv n b)) ((u + b) % n) = cntEv a u
  | [], _, _, _ => rfl
  | e :: a, h, u, hu => by
    have ih := cnt_rot (b := b) a (fun x hx => h x (by simp [hx])) u hu
    have he := h e (by simp)
    obtain ⟨t, ht⟩ := Int.eq_ofNat_of_zero_le he.1
    have htn : t < n := by omega
    have h1 : (rotEv n b e).2.2.1 = (((t + b) % n : Nat) : Int) := by
      show (e.2.2.1 + b) % n = _
      rw [ht]
      exact rot_cast t b n
    have key : ((rotEv n b e).2.2.1 == (((u + b) % n : Nat) : Int)) = (e.2.2.1 == (u : Int)) := by
      rw [h1, ht]
      by_cases e2 : t = u
      · subst e2; simp
      · have : ¬ (t + b) % n = (u + b) % n := fun e3 => e2 (rot_inj htn hu e3)
        have h3 : ((((t + b) % n : Nat) : Int) == (((u + b) % n : Nat) : Int)) = false := by
          rw [beq_eq_false_iff_ne]
          intro e4
          exact this (by exact_mod_cast e4)
        rw [h3]
        symm
        rw [beq_eq_false_iff_ne]
        intro e4
        exact e2 (by exact_mod_cast e4)
    unfold cntEv at ih ⊢
    rw [List.map_cons, List.filter_cons, List.filter_cons, key]
    split
    · rw [List.length_cons, List.length_cons, ih]
    · exact ih
theorem jErr_rot {n b : Nat} {a : List Ev4} {e : Ev4} (ha : ∀ e ∈ a, 0 ≤ e.2.2.1 ∧ e.2.2.1 < n) (he : 0 ≤ e.2.2.1 ∧ e.2.2.1 < n) : jErr n (a.map (rotEv n b)) (rotEv n b e) = jErr n a e := by
  obtain ⟨t, ht⟩ := Int.eq_ofNat_of_zero_le he.1
  have htn : t < n := by omega
  have h1 : (rotEv n b e).2.2.1 = (((t + b) % n : Nat) : Int) := by
    show (e.2.2.1 + b) % n = _
    rw [ht]
    exact rot_cast t b n
  have hn : 0 < n := by omega
  have hlt : (t + b) % n < n := Nat.mod_lt _ hn
  have hc := cnt_rot (b := b) a ha t htn
  have hex : (∃ u, u < n ∧ cntEv (a.map (rotEv n b)) u < cntEv a t) ↔ ∃ u, u < n ∧ cntEv a u < cntEv a t := by
    constructor
    · rintro ⟨u, hu, h⟩
      -- u is (v + b) % n for v = (u + (n - b % n)) % n
      refine ⟨(u + (n - b % n)) % n, Nat.mod_lt _ hn, ?_⟩
      have hb := Nat.mod_lt b hn
      have e1 : ((u + (n - b % n)) % n + b) % n = u := by
        rw [Nat.mod_add_mod]
        have h4 := Nat.div_add_mod b n
        have h5 : u + (n - b % n) + b = u + n * (b / n + 1) := by rw [Nat.mul_add, Nat.mul_one]; omega
        rw [h5, Nat.add_mul_mod_self_left, Nat.mod_eq_of_lt hu]
      rw [← e1, cnt_rot a ha _ (Nat.mod_lt _ hn)] at h
      exact h
    · rintro ⟨u, hu, h⟩
      exact ⟨(u + b) % n, Nat.mod_lt _ hn, by rw [cnt_rot a ha u hu]; exact h⟩
  unfold jErr
  rw [h1, ht]
  have e1 : ((((t + b) % n : Nat) : Int)).toNat = (t + b) % n := rfl
  have e2 : ((t : Int)).toNat = t := rfl
  rw [e1, e2, hc]
  simp only [hex]
  have g1 : ¬ ((((t + b) % n : Nat) : Int) < 0 ∨ (n : Int) ≤ (((t + b) % n : Nat) : Int)) := by omega
  have g2 : ¬ ((t : Int) < 0 ∨ (n : Int) ≤ (t : Int)) := by omega
  rw [if_neg g1, if_neg g2]
  rfl
theorem judge_names {n b : Nat} : ∀ (l a : List Ev4), (∀ e ∈ a ++ l, 0 ≤ e.2.2.1 ∧ e.2.2.1 < n) → judgeP n (a.map (rotEv n b)) (l.map (rotEv n b)) = judgeP n a l
  | [], a, _ => rfl
  | e :: l, a, h => by
    rw [List.map_cons, judgeP, judgeP, jErr_rot (fun x hx => h x (by simp [hx])) (h e (by simp))]
    split
    · have := judge_names (b := b) l (a ++ [e]) (fun x hx => h x (by simpa using hx))
      rw [← this]
      simp
    · rw [List.length_map]
theorem rot_onto {n b : Nat} (hn : 0 < n) {u : Nat} (hu : u < n) : ∃ v, v < n ∧ (v + b) % n = u := by
  have hb := Nat.mod_lt b hn
  refine ⟨(u + (n - b % n)) % n, Nat.mod_lt _ hn, ?_⟩
  rw [Nat.mod_add_mod]
  have h4 := Nat.div_add_mod b n
  have h5 : u + (n - b % n) + b = u + n * (b / n + 1) := by rw [Nat.mul_add, Nat.mul_one]; omega
  rw [h5, Nat.add_mul_mod_self_left, Nat.mod_eq_of_lt hu]
theorem names_rounds {n b : Nat} (n1 : 0 < n) {l : List Ev4} (h : ∀ e ∈ l, 0 ≤ e.2.2.1 ∧ e.2.2.1 < n) : jAll n (l.map (rotEv n b)) = jAll n l ∧ jAny n (l.map (rotEv n b)) = jAny n l := by
  have hc := cnt_rot (b := b) l h
  unfold jAll jAny
  constructor
  · refine Nat.le_antisymm (le_minN n1 fun t ht => ?_) (le_minN n1 fun t ht => ?_)
    · have := minN_le (fun t => cntEv (l.map (rotEv n b)) t / 2) (n := n) (Nat.mod_lt (t + b) n1)
      rw [hc t ht] at this
      exact this
    · obtain ⟨v, hv, rfl⟩ := rot_onto (b := b) n1 ht
      rw [hc v hv]
      exact minN_le (fun t => cntEv l t / 2) hv
  · refine Nat.le_antisymm (maxN_le fun t ht => ?_) (maxN_le fun t ht => ?_)
    · obtain ⟨v, hv, rfl⟩ := rot_onto (b := b) n1 ht
      rw [hc v hv]
      exact le_maxN (fun t => (cntEv l t + 1) / 2) hv
    · have := le_maxN (fun t => (cntEv (l.map (rotEv n b)) t + 1) / 2) (n := n) (Nat.mod_lt (t + b) n1)
      rw [hc t ht] at this
      exact this
end Go.Proofs.YtoljmleomkkchaaDoor
