/-
  A barrier's machine behind moves that are known: what was done to cells; who never goes on; who is alone; fair picks. Picks in blocks: whoever, and then all, in turn. The judge, as the program hears. Whether picks are fair, one by one.
-/
import Derived.Test.YtmkgmpfpemiaaaaGreatDoorQH6
import Derived.Test.YtmkgmpfpemiaaaaGreatDoorQH3
import Derived.Test.YtmkgmpfpemiaaaaGreatDoorQH
namespace Go.Proofs.YtmkgmpfpemiaaaaGreatDoor
set_option maxRecDepth 100000
set_option linter.unusedVariables false
set_option linter.unusedSimpArgs false

section
variable {k n rounds p : Nat} {m m' : Mach}
end

/-! Who never goes on. -/
/-! Who is alone. -/
section
variable {k rounds p : Nat} {m : Mach}
end

/-! Picks among which each is, block by block. -/
theorem dn_blocks {k n rounds : Nat} {m : Mach} (d : Dims k n rounds) (h : Dn k n rounds 0 m) (L : List (List Nat)) (hL : ∀ l ∈ L, (∀ t ∈ l, t < n) ∧ ∀ t, t < n → t ∈ l) (hlen : 3 * kSize k n * (rounds + 1) < m.steps + L.length) : DnE k n rounds 0 (sweepM L.flatten m) := by
  obtain ⟨K, S, hK, hR⟩ := h
  have hp := hK.purse d.k1 d.k6 d.n1 d.n16 d.r6 (show 0 ≤ 900 by omega)
  have h1 := hK.pot
  have h2 := (pot_le (rounds := rounds) d.k1 d.k6 d.n1 d.n16).1
  obtain ⟨S', a, b⟩ := ran_many (by have := d.r6; omega) hp L S m hR hL (by omega)
  exact ⟨K, S', hK, a, b⟩
end Go.Proofs.YtmkgmpfpemiaaaaGreatDoor

namespace Go.Proofs.YtmkgmpfpemiaaaaGreatDoor
set_option maxRecDepth 100000
set_option linter.unusedVariables false
set_option linter.unusedSimpArgs false

/-- Blocks of picks: anybody, as many as there are, and then all, in turn. -/
structure FBl (n : Nat) (L : List (List Nat)) : Prop where
  len : ∀ x ∈ L, x.length = 2 * n
  lt : ∀ x ∈ L, ∀ t ∈ x, t < n
  all : ∀ x ∈ L, ∀ t, t < n → x.getD (n + t) 0 = t
theorem FBl.nil (n : Nat) : FBl n [] := ⟨fun _ h => (by cases h), fun _ h => (by cases h), fun _ h => (by cases h)⟩
theorem FBl.more {n : Nat} {L : List (List Nat)} (h : FBl n L) {x : List Nat} (h1 : x.length = 2 * n) (h2 : ∀ t ∈ x, t < n) (h3 : ∀ t, t < n → x.getD (n + t) 0 = t) : FBl n (L ++ [x]) := by
  have hm : ∀ y ∈ L ++ [x], y ∈ L ∨ y = x := fun y hy => by
    rcases List.mem_append.1 hy with hy | hy
    · exact .inl hy
    · exact .inr (List.mem_singleton.1 hy)
  refine ⟨fun y hy => ?_, fun y hy => ?_, fun y hy => ?_⟩
  · rcases hm y hy with hy | rfl
    · exact h.len y hy
    · exact h1
  · rcases hm y hy with hy | rfl
    · exact h.lt y hy
    · exact h2
  · rcases hm y hy with hy | rfl
    · exact h.all y hy
    · exact h3
theorem flat_len {q : Nat} : ∀ {L : List (List Nat)}, (∀ x ∈ L, x.length = q) → L.flatten.length = q * L.length
  | [], _ => rfl
  | x :: L, h => by
    rw [List.flatten_cons, List.length_append, h x (.head _), flat_len fun y hy => h y (.tail _ hy), List.length_cons, Nat.mul_succ]
    omega
theorem flat_at {q : Nat} : ∀ {L : List (List Nat)} {b j : Nat}, (∀ x ∈ L, x.length = q) → b < L.length → j < q → ∃ x ∈ L, L.flatten.getD (q * b + j) 0 = x.getD j 0
  | [], b, j, _, hb, _ => absurd hb (Nat.not_lt_zero _)
  | x :: L, 0, j, h, _, hj => ⟨x, .head _, by rw [List.flatten_cons, List.getD_eq_getElem?_getD, List.getElem?_append_left (by rw [h x (.head _)]; omega), Nat.mul_zero, Nat.zero_add, List.getD_eq_getElem?_getD]⟩
  | x :: L, b + 1, j, h, hb, hj => by
    obtain ⟨y, hy, e⟩ := flat_at (L := L) (b := b) (fun y hy => h y (.tail _ hy)) (by simpa using hb) hj
    refine ⟨y, .tail _ hy, ?_⟩
    have hx := h x (.head _)
    rw [List.flatten_cons, List.getD_eq_getElem?_getD, List.getElem?_append_right (by rw [hx, Nat.mul_succ]; omega), ← List.getD_eq_getElem?_getD, hx, show q * (b + 1) + j - q = q * b + j by rw [Nat.mul_succ]; omega, e]
def picksL (l : List Nat) : List Int := l.map fun (t : Nat) => (t : Int)
theorem fbl_fair {n : Nat} {L : List (List Nat)} (n1 : 0 < n) (h : FBl n L) : FairW (picksL L.flatten) n (3 * n) := by
  have hl : (picksL L.flatten).length = 2 * n * L.length := by unfold picksL; rw [List.length_map, flat_len h.len]
  refine fair_blocks n1 (by rw [hl]; exact Nat.mul_mod_right _ _) fun b t ht hlt => ?_
  rw [hl] at hlt
  have hb : b < L.length := Nat.lt_of_mul_lt_mul_left (show 2 * n * b < 2 * n * L.length by omega)
  obtain ⟨x, hx, e⟩ := flat_at h.len hb (show n + t < 2 * n by omega)
  rw [h.all x hx t ht, ← Nat.add_assoc, List.getD_eq_getElem?_getD, List.getElem?_eq_getElem (by rw [flat_len h.len]; omega), Option.getD_some] at e
  unfold picksL
  rw [List.getD_eq_getElem?_getD, List.getElem?_map, List.getElem?_eq_getElem (by rw [flat_len h.len]; omega), Option.map_some, Option.getD_some, e]
theorem fbl_mem {n : Nat} {L : List (List Nat)} (h : FBl n L) : ∀ l ∈ L, (∀ t ∈ l, t < n) ∧ ∀ t, t < n → t ∈ l := fun l hl => by
  refine ⟨h.lt l hl, fun t ht => ?_⟩
  have e := h.all l hl t ht
  rw [List.getD_eq_getElem?_getD, List.getElem?_eq_getElem (by rw [h.len l hl]; omega), Option.getD_some] at e
  rw [← e]
  exact List.getElem_mem _
theorem run_sweep : ∀ (l : List Nat) (m : Mach), (runM 20000 (picksL l) m).2 = sweepM l m
  | [], _ => rfl
  | t :: l, m => run_sweep l (stepM 20000 m (t : Int)).2
end Go.Proofs.YtmkgmpfpemiaaaaGreatDoor

namespace Go.Proofs.YtmkgmpfpemiaaaaGreatDoor
set_option maxRecDepth 100000
set_option linter.unusedVariables false
set_option linter.unusedSimpArgs false

/-! The judge, as the program hears: how often each said something. -/
def timesL (n : Nat) (a : List Ev4) : List Int := (List.range n).map fun t => (cntEv a t : Int)
theorem timesL_len (n : Nat) (a : List Ev4) : (timesL n a).length = n := by unfold timesL; simp
theorem timesL_at {n t : Nat} (a : List Ev4) (ht : t < n) : (timesL n a).getD t 0 = (cntEv a t : Int) := by
  unfold timesL
  rw [List.getD_eq_getElem?_getD, List.getElem?_map, List.getElem?_range ht]
  rfl
theorem timesL_nil (n : Nat) : timesL n [] = List.replicate n 0 := by
  unfold timesL
  refine List.ext_getElem (by simp) fun i h1 h2 => ?_
  simp [cntEv]
theorem cnt_more (a : List Ev4) (e : Ev4) (t : Nat) (he : e.2.2.1 = (t : Int)) (u : Nat) : cntEv (a ++ [e]) u = cntEv a u + if u = t then 1 else 0 := by
  obtain ⟨x, y, z, v⟩ := e
  dsimp only at he
  subst he
  rw [cntEv_append, cntEv_one]
theorem timesL_snoc {n t : Nat} (a : List Ev4) (e : Ev4) (ht : t < n) (he : e.2.2.1 = (t : Int)) : timesL n (a ++ [e]) = (timesL n a).set t ((cntEv a t : Int) + 1) := by
  refine List.ext_getElem (by rw [List.length_set, timesL_len, timesL_len]) fun j h1 h2 => ?_
  have h3 : j < n := by rw [timesL_len] at h1; exact h1
  have a1 : ∀ a, (timesL n a)[j]'(by rw [timesL_len]; exact h3) = (cntEv a j : Int) := fun a => by unfold timesL; simp
  rw [List.getElem_set, a1, cnt_more a e t he j]
  by_cases e1 : t = j
  · subst e1
    rw [if_pos rfl, if_pos rfl]
    rfl
  · rw [if_neg e1, a1, if_neg (fun h => e1 h.symm)]
    rfl
theorem cntEv_len (a : List Ev4) (t : Nat) : cntEv a t ≤ a.length := by unfold cntEv; exact List.length_filter_le _ _

theorem minN_more (f : Nat → Nat) {k : Nat} (hk : 1 ≤ k) : minN f (k + 1) = min (minN f k) (f k) := by
  obtain ⟨j, rfl⟩ : ∃ j, k = j + 1 := ⟨k - 1, by omega⟩
  rfl
theorem maxN_more (f : Nat → Nat) (k : Nat) : maxN f (k + 1) = max (maxN f k) (f k) := rfl
theorem minN_map {f g : Nat → Nat} (hg : ∀ x y, x ≤ y → g x ≤ g y) : ∀ {n}, 0 < n → minN (fun t => g (f t)) n = g (minN f n)
  | 1, _ => rfl
  | n + 2, _ => by
    rw [minN, minN, minN_map hg (by omega)]
    rcases Nat.le_total (minN f (n + 1)) (f (n + 1)) with h | h
    · rw [Nat.min_eq_left h, Nat.min_eq_left (hg _ _ h)]
    · rw [Nat.min_eq_right h, Nat.min_eq_right (hg _ _ h)]
theorem maxN_map {f g : Nat → Nat} (g0 : g 0 = 0) (hg : ∀ x y, x ≤ y → g x ≤ g y) : ∀ n, maxN (fun t => g (f t)) n = g (maxN f n)
  | 0 => g0.symm
  | n + 1 => by
    rw [maxN, maxN, maxN_map g0 hg n]
    rcases Nat.le_total (maxN f n) (f n) with h | h
    · rw [Nat.max_eq_right h, Nat.max_eq_right (hg _ _ h)]
    · rw [Nat.max_eq_left h, Nat.max_eq_left (hg _ _ h)]
theorem jAll_min {n : Nat} (n1 : 0 < n) (l : List Ev4) : jAll n l = minN (cntEv l) n / 2 := minN_map (f := cntEv l) (g := fun x => x / 2) (fun x y h => by show x / 2 ≤ y / 2; omega) n1
theorem jAny_max (n : Nat) (l : List Ev4) : jAny n l = (maxN (cntEv l) n + 1) / 2 := maxN_map (f := cntEv l) (g := fun x => (x + 1) / 2) rfl (fun x y h => by show (x + 1) / 2 ≤ (y + 1) / 2; omega) n
theorem minN_len {n : Nat} (n1 : 0 < n) (l : List Ev4) : minN (cntEv l) n ≤ l.length := Nat.le_trans (minN_le _ n1) (cntEv_len l 0)
theorem maxN_len (n : Nat) (l : List Ev4) : maxN (cntEv l) n ≤ l.length := maxN_le fun t _ => cntEv_len l t

/-! What is wrong with an event, as the program asks. -/
section
variable {n : Nat} {a : List Ev4} {e : Ev4}
theorem jErr_arg (h1 : e.2.1 ≠ 1) (h2 : e.2.1 ≠ 2) : jErr n a e = 1 := by unfold jErr; rw [if_pos ⟨h1, h2⟩]
theorem jErr_range (h1 : e.2.1 = 1 ∨ e.2.1 = 2) (h2 : e.2.2.1 < 0 ∨ (n : Int) ≤ e.2.2.1) : jErr n a e = 2 := by
  unfold jErr
  rw [if_neg (by omega), if_pos h2]
theorem jErr_order {t : Nat} (h1 : e.2.1 = 1 ∨ e.2.1 = 2) (ht : t < n) (he : e.2.2.1 = (t : Int)) (h3 : e.2.1 ≠ ((1 + cntEv a t % 2 : Nat) : Int) ∨ e.2.2.2 ≠ ((cntEv a t / 2 + 1 : Nat) : Int)) : jErr n a e = 10 := by
  unfold jErr
  rw [he, Int.toNat_natCast, if_neg (by omega), if_neg (by omega), if_pos (by rw [Nat.add_comm 1 (cntEv a t / 2)]; exact h3)]
theorem jErr_false {t : Nat} (ht : t < n) (he : e.2.2.1 = (t : Int)) (h3 : e.2.1 = ((1 + cntEv a t % 2 : Nat) : Int)) (h4 : e.2.2.2 = ((cntEv a t / 2 + 1 : Nat) : Int)) : jErr n a e = if e.2.1 = 2 ∧ (minN (cntEv a) n + 1) / 2 < cntEv a t / 2 + 1 then 13 else 0 := by
  unfold jErr
  rw [he, Int.toNat_natCast, if_neg (by omega), if_neg (by omega), if_neg (by rw [Nat.add_comm 1 (cntEv a t / 2)]; omega)]
  have hn : 0 < n := by omega
  by_cases h2 : e.2.1 = 2
  · have hk : cntEv a t % 2 = 1 := by omega
    have : (∃ u, u < n ∧ cntEv a u < cntEv a t) ↔ (minN (cntEv a) n + 1) / 2 < cntEv a t / 2 + 1 := by
      constructor
      · rintro ⟨u, hu, h⟩
        have := minN_le (cntEv a) hu
        omega
      · intro h
        obtain ⟨u, hu, e⟩ := minN_at (cntEv a) hn
        exact ⟨u, hu, by omega⟩
    simp only [this]
  · rw [if_neg (fun h => h2 h.1), if_neg (fun h => h2 h.1)]
/-- What is right of the beginning, and what is wrong behind it. -/
theorem judge_step (i : Nat) (l : List Ev4) (hi : i < l.length) (x : Ev4) (hx : l.getD i default = x) : judgeP n (l.take i) (l.drop i) = if jErr n (l.take i) x = 0 then judgeP n (l.take (i + 1)) (l.drop (i + 1)) else some (jErr n (l.take i) x, i) := by
  have e : l.drop i = x :: l.drop (i + 1) := by
    rw [← hx, List.getD_eq_getElem?_getD, List.getElem?_eq_getElem hi, List.drop_eq_getElem_cons hi]
    rfl
  have e2 : l.take (i + 1) = l.take i ++ [x] := by
    rw [← hx, List.getD_eq_getElem?_getD, List.getElem?_eq_getElem hi, List.take_add_one, List.getElem?_eq_getElem hi]
    rfl
  rw [e, judgeP, e2]
  simp [Nat.min_eq_left (Nat.le_of_lt hi)]
theorem judge_end (l : List Ev4) : judgeP n (l.take l.length) (l.drop l.length) = none := by rw [List.drop_length]; rfl
end
theorem jErr_zero_thread {n : Nat} {a : List Ev4} {e : Ev4} (h : jErr n a e = 0) : ∃ t : Nat, t < n ∧ e.2.2.1 = (t : Int) := by
  unfold jErr at h
  split at h
  · cases h
  · split at h
    · cases h
    · next h2 => exact ⟨e.2.2.1.toNat, by omega, by omega⟩
end Go.Proofs.YtmkgmpfpemiaaaaGreatDoor

namespace Go.Proofs.YtmkgmpfpemiaaaaGreatDoor
set_option maxRecDepth 100000
set_option linter.unusedVariables false
set_option linter.unusedSimpArgs false

/-! Behind which of the first picks one is waiting for its next one. -/
def lastI (l : List Int) (t : Nat) : Nat → Nat
  | 0 => 0
  | i + 1 => if l.getD i 0 = (t : Int) then i + 1 else lastI l t i
theorem lastI_le (l : List Int) (t : Nat) : ∀ i, lastI l t i ≤ i
  | 0 => Nat.le_refl _
  | i + 1 => by
    rw [lastI]
    split
    · exact Nat.le_refl _
    · exact Nat.le_succ_of_le (lastI_le l t i)
theorem lastI_mem {l : List Int} {t : Nat} : ∀ {i}, 0 < lastI l t i → l.getD (lastI l t i - 1) 0 = (t : Int)
  | 0, h => absurd h (Nat.lt_irrefl _)
  | i + 1, h => by
    rw [lastI] at h ⊢
    by_cases e : l.getD i 0 = (t : Int)
    · rw [if_pos e]
      exact e
    · rw [if_neg e] at h ⊢
      exact lastI_mem h
theorem lastI_none {l : List Int} {t : Nat} : ∀ {i j}, lastI l t i ≤ j → j < i → l.getD j 0 ≠ (t : Int)
  | 0, j, _, h => absurd h (Nat.not_lt_zero _)
  | i + 1, j, h1, h2 => by
    rw [lastI] at h1
    by_cases e : l.getD i 0 = (t : Int)
    · rw [if_pos e] at h1
      omega
    · rw [if_neg e] at h1
      by_cases hj : j = i
      · subst hj
        exact e
      · exact lastI_none h1 (by omega)
theorem fair_iff {l : List Int} {n w : Nat} (w1 : 1 ≤ w) : FairW l n w ↔ ∀ k, k ≤ l.length → ∀ t, t < n → k - lastI l t k < w := by
  constructor
  · intro h k hk t ht
    by_cases hc : k - lastI l t k < w
    · exact hc
    · exfalso
      obtain ⟨j, h1, h2, h3, h4⟩ := mem_win.1 (h (lastI l t k) (by omega) t ht)
      exact lastI_none h1 (by omega) h4
  · intro h i hi t ht
    have h1 := h (i + w) hi t ht
    have h2 := lastI_le l t (i + w)
    exact mem_win.2 ⟨lastI l t (i + w) - 1, by omega, by omega, by omega, lastI_mem (by omega)⟩
/-- How far the picks are looked at: nobody waited too long, but for those who are still waiting. -/
def FairTo (l : List Int) (n w i : Nat) : Prop := ∀ t, t < n → ∀ k, k ≤ i → k - lastI l t k < w ∨ lastI l t k = lastI l t i
theorem fairTo_zero (l : List Int) (n w : Nat) : FairTo l n w 0 := fun t _ k hk => .inr (by rw [show k = 0 by omega])
theorem fairTo_other {l : List Int} {n w i : Nat} (h : FairTo l n w i) (hx : ∀ t, t < n → l.getD i 0 ≠ (t : Int)) : FairTo l n w (i + 1) := fun t ht k hk => by
  have e : lastI l t (i + 1) = lastI l t i := by rw [lastI, if_neg (hx t ht)]
  by_cases hk2 : k = i + 1
  · exact .inr (by rw [hk2])
  · rw [e]
    exact h t ht k (by omega)
theorem fairTo_pick {l : List Int} {n w i u : Nat} (h : FairTo l n w i) (hu : l.getD i 0 = (u : Int)) (hw : i - lastI l u i < w) : FairTo l n w (i + 1) := fun t ht k hk => by
  by_cases hk2 : k = i + 1
  · exact .inr (by rw [hk2])
  · have h1 := h t ht k (by omega)
    by_cases e : t = u
    · subst e
      rcases h1 with h1 | h1
      · exact .inl h1
      · exact .inl (by omega)
    · have e2 : lastI l t (i + 1) = lastI l t i := by rw [lastI, if_neg (by rw [hu]; omega)]
      rw [e2]
      exact h1
theorem fairTo_end {l : List Int} {n w : Nat} (w1 : 1 ≤ w) (h : FairTo l n w l.length) (he : ∀ t, t < n → l.length - lastI l t l.length < w) : FairW l n w := (fair_iff w1).2 fun k hk t ht => by
  rcases h t ht k hk with h1 | h1
  · exact h1
  · have := he t ht
    omega
theorem fair_not {l : List Int} {n w i t : Nat} (w1 : 1 ≤ w) (ht : t < n) (hi : i ≤ l.length) (h : w ≤ i - lastI l t i) : ¬ FairW l n w := fun hf => by
  have := (fair_iff w1).1 hf i hi t ht
  omega
/-- Where each of 16 is waiting. -/
def sinceL (l : List Int) (n i : Nat) : List Int := (List.range 16).map fun t => if t < n then (lastI l t i : Int) else 0
theorem sinceL_len (l : List Int) (n i : Nat) : (sinceL l n i).length = 16 := by unfold sinceL; simp
theorem sinceL_at {l : List Int} {n i t : Nat} (ht : t < 16) : (sinceL l n i).getD t 0 = if t < n then (lastI l t i : Int) else 0 := by
  unfold sinceL
  rw [List.getD_eq_getElem?_getD, List.getElem?_map, List.getElem?_range ht]
  rfl
theorem sinceL_other {l : List Int} {n i : Nat} (hx : ∀ t, t < n → l.getD i 0 ≠ (t : Int)) : sinceL l n (i + 1) = sinceL l n i := by
  unfold sinceL
  refine List.map_congr_left fun t _ => ?_
  by_cases ht : t < n
  · rw [if_pos ht, if_pos ht, lastI, if_neg (hx t ht)]
  · rw [if_neg ht, if_neg ht]
theorem sinceL_pick {l : List Int} {n i u : Nat} (hu : l.getD i 0 = (u : Int)) (hn : u < n) : sinceL l n (i + 1) = (sinceL l n i).set u ((i : Int) + 1) := by
  refine List.ext_getElem (by rw [List.length_set, sinceL_len, sinceL_len]) fun j h1 h2 => ?_
  have h3 : j < 16 := by rw [sinceL_len] at h1; exact h1
  have a1 : ∀ i, (sinceL l n i)[j]'(by rw [sinceL_len]; exact h3) = if j < n then (lastI l j i : Int) else 0 := fun i => by unfold sinceL; simp
  rw [List.getElem_set, a1]
  by_cases e : u = j
  · subst e
    rw [if_pos rfl, if_pos hn, lastI, if_pos hu]
    rfl
  · have e2 : lastI l j (i + 1) = lastI l j i := by rw [lastI, if_neg (by rw [hu]; omega)]
    rw [if_neg e, a1, e2]
end Go.Proofs.YtmkgmpfpemiaaaaGreatDoor
