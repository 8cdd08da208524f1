/-
  The judge, as the program hears. A barrier's machine behind moves that are known: what was done to cells; who never goes on; who is alone; fair picks. Whether picks are fair, one by one.
-/
import Derived.Test.YtmkgmpfpemiaaaaGreatDoorQH
import Derived.Test.YtmkgmpfpemiaaaaGreatDoorQH6
import Derived.Test.YtmkgmpfpemiaaaaGreatDoorQH3
namespace Go.Proofs.YtmkgmpfpemiaaaaGreatDoor
set_option maxRecDepth 100000
set_option linter.unusedVariables false
set_option linter.unusedSimpArgs false

/-! The judge, as the program hears: how often each said something. -/
def timesL (n : Nat) (a : List Ev4) : List Int := (List.range n).map fun t => (cntEv a t : Int)
theorem timesL_len (n : Nat) (a : List Ev4) : (timesL n a).length = n := by unfold timesL; simp
theorem timesL_at {n t : Nat} (a : List Ev4) (ht : t < n) : (timesL n a).getD t 0 = (cntEv a t : Int) := by
  unfold timesL
  rw [List.getD_eq_getElem?_getD, List.getElem?_map, List.getElem?_range ht]
  rfl
theorem timesL_nil (n : Nat) : timesL n [] = List.replicate n 0 := by
  unfold timesL
  refine List.ext_getElem (by simp) fun i h1 h2 => ?_
  simp [cntEv]
theorem cnt_more (a : List Ev4) (e : Ev4) (t : Nat) (he : e.2.2.1 = (t : Int)) (u : Nat) : cntEv (a ++ [e]) u = cntEv a u + if u = t then 1 else 0 := by
  obtain ⟨x, y, z, v⟩ := e
  dsimp only at he
  subst he
  rw [cntEv_append, cntEv_one]
theorem timesL_snoc {n t : Nat} (a : List Ev4) (e : Ev4) (ht : t < n) (he : e.2.2.1 = (t : Int)) : timesL n (a ++ [e]) = (timesL n a).set t ((cntEv a t : Int) + 1) := by
  refine List.ext_getElem (by rw [List.length_set, timesL_len, timesL_len]) fun j h1 h2 => ?_
  have h3 : j < n := by rw [timesL_len] at h1; exact h1
  have a1 : ∀ a, (timesL n a)[j]'(by rw [timesL_len]; exact h3) = (cntEv a j : Int) := fun a => by unfold timesL; simp
  rw [List.getElem_set, a1, cnt_more a e t he j]
  by_cases e1 : t = j
  · subst e1
    rw [if_pos rfl, if_pos rfl]
    rfl
  · rw [if_neg e1, a1, if_neg (fun h => e1 h.symm)]
    rfl
theorem cntEv_len (a : List Ev4) (t : Nat) : cntEv a t ≤ a.length := by unfold cntEv; exact List.length_filter_le _ _

theorem minN_more (f : Nat → Nat) {k : Nat} (hk : 1 ≤ k) : minN f (k + 1) = min (minN f k) (f k) := by
  obtain ⟨j, rfl⟩ : ∃ j, k = j + 1 := ⟨k - 1, by omega⟩
  rfl
theorem maxN_more (f : Nat → Nat) (k : Nat) : maxN f (k + 1) = max (maxN f k) (f k) := rfl
theorem minN_map {f g : Nat → Nat} (hg : ∀ x y, x ≤ y → g x ≤ g y) : ∀ {n}, 0 < n → minN (fun t => g (f t)) n = g (minN f n)
  | 1, _ => rfl
  | n + 2, _ => by
    rw [minN, minN, minN_map hg (by omega)]
    rcases Nat.le_total (minN f (n + 1)) (f (n + 1)) with h | h
    · rw [Nat.min_eq_left h, Nat.min_eq_left (hg _ _ h)]
    · rw [Nat.min_eq_right h, Nat.min_eq_right (hg _ _ h)]
theorem maxN_map {f g : Nat → Nat} (g0 : g 0 = 0) (hg : ∀ x y, x ≤ y → g x ≤ g y) : ∀ n, maxN (fun t => g (f t)) n = g (maxN f n)
  | 0 => g0.symm
  | n + 1 => by
    rw [maxN, maxN, maxN_map g0 hg n]
    rcases Nat.le_total (maxN f n) (f n) with h | h
    · rw [Nat.max_eq_right h, Nat.max_eq_right (hg _ _ h)]
    · rw [Nat.max_eq_left h, Nat.max_eq_left (hg _ _ h)]
theorem jAll_min {n : Nat} (n1 : 0 < n) (l : List Ev4) : jAll n l = minN (cntEv l) n / 2 := minN_map (f := cntEv l) (g := fun x => x / 2) (fun x y h => by show x / 2 ≤ y / 2; omega) n1
theorem jAny_max (n : Nat) (l : List Ev4) : jAny n l = (maxN (cntEv l) n + 1) / 2 := maxN_map (f := cntEv l) (g := fun x => (x + 1) / 2) rfl (fun x y h => by show (x + 1) / 2 ≤ (y + 1) / 2; omega) n
theorem minN_len {n : Nat} (n1 : 0 < n) (l : List Ev4) : minN (cntEv l) n ≤ l.length := Nat.le_trans (minN_le _ n1) (cntEv_len l 0)
theorem maxN_len (n : Nat) (l : List Ev4) : maxN (cntEv l) n ≤ l.length := maxN_le fun t _ => cntEv_len l t

/-! What is wrong with an event, as the program asks. -/
section
variable {n : Nat} {a : List Ev4} {e : Ev4}
theorem jErr_arg (h1 : e.2.1 ≠ 1) (h2 : e.2.1 ≠ 2) : jErr n a e = 1 := by unfold jErr; rw [if_pos ⟨h1, h2⟩]
theorem jErr_range (h1 : e.2.1 = 1 ∨ e.2.1 = 2) (h2 : e.2.2.1 < 0 ∨ (n : Int) ≤ e.2.2.1) : jErr n a e = 2 := by
  unfold jErr
  rw [if_neg (by omega), if_pos h2]
theorem jErr_order {t : Nat} (h1 : e.2.1 = 1 ∨ e.2.1 = 2) (ht : t < n) (he : e.2.2.1 = (t : Int)) (h3 : e.2.1 ≠ ((1 + cntEv a t % 2 : Nat) : Int) ∨ e.2.2.2 ≠ ((cntEv a t / 2 + 1 : Nat) : Int)) : jErr n a e = 10 := by
  unfold jErr
  rw [he, Int.toNat_natCast, if_neg (by omega), if_neg (by omega), if_pos (by rw [Nat.add_comm 1 (cntEv a t / 2)]; exact h3)]
theorem jErr_false {t : Nat} (ht : t < n) (he : e.2.2.1 = (t : Int)) (h3 : e.2.1 = ((1 + cntEv a t % 2 : Nat) : Int)) (h4 : e.2.2.2 = ((cntEv a t / 2 + 1 : Nat) : Int)) : jErr n a e = if e.2.1 = 2 ∧ (minN (cntEv a) n + 1) / 2 < cntEv a t / 2 + 1 then 13 else 0 := by
  unfold jErr
  rw [he, Int.toNat_natCast, if_neg (by omega), if_neg (by omega), if_neg (by rw [Nat.add_comm 1 (cntEv a t / 2)]; omega)]
  have hn : 0 < n := by omega
  by_cases h2 : e.2.1 = 2
  · have hk : cntEv a t % 2 = 1 := by omega
    have : (∃ u, u < n ∧ cntEv a u < cntEv a t) ↔ (minN (cntEv a) n + 1) / 2 < cntEv a t / 2 + 1 := by
      constructor
      · rintro ⟨u, hu, h⟩
        have := minN_le (cntEv a) hu
        omega
      · intro h
        obtain ⟨u, hu, e⟩ := minN_at (cntEv a) hn
        exact ⟨u, hu, by omega⟩
    simp only [this]
  · rw [if_neg (fun h => h2 h.1), if_neg (fun h => h2 h.1)]
/-- What is right of the beginning, and what is wrong behind it. -/
theorem judge_step (i : Nat) (l : List Ev4) (hi : i < l.length) (x : Ev4) (hx : l.getD i default = x) : judgeP n (l.take i) (l.drop i) = if jErr n (l.take i) x = 0 then judgeP n (l.take (i + 1)) (l.drop (i + 1)) else some (jErr n (l.take i) x, i) := by
  have e : l.drop i = x :: l.drop (i + 1) := by
    rw [← hx, List.getD_eq_getElem?_getD, List.getElem?_eq_getElem hi, List.drop_eq_getElem_cons hi]
    rfl
  have e2 : l.take (i + 1) = l.take i ++ [x] := by
    rw [← hx, List.getD_eq_getElem?_getD, List.getElem?_eq_getElem hi, List.take_add_one, List.getElem?_eq_getElem hi]
    rfl
  rw [e, judgeP, e2]
  simp [Nat.min_eq_left (Nat.le_of_lt hi)]
theorem judge_end (l : List Ev4) : judgeP n (l.take l.length) (l.drop l.length) = none := by rw [List.drop_length]; rfl
end
theorem jErr_zero_thread {n : Nat} {a : List Ev4} {e : Ev4} (h : jErr n a e = 0) : ∃ t : Nat, t < n ∧ e.2.2.1 = (t : Int) := by
  unfold jErr at h
  split at h
  · cases h
  · split at h
    · cases h
    · next h2 => exact ⟨e.2.2.1.toNat, by omega, by omega⟩
end Go.Proofs.YtmkgmpfpemiaaaaGreatDoor

namespace Go.Proofs.YtmkgmpfpemiaaaaGreatDoor
set_option maxRecDepth 100000
set_option linter.unusedVariables false
set_option linter.unusedSimpArgs false

/-- Behind moves of threads that there are, so many of them for nothing. -/
def Hist (k n rounds p : Nat) (m : Mach) : Prop := ∃ L : List (Int × Bool), (∀ v ∈ L, ∃ t : Nat, t < n ∧ v.1 = t) ∧ pokesM L = p ∧ m = behindM 20000 (kM k n rounds) L
section
variable {k n rounds p : Nat} {m m' : Mach}
theorem hist_moves {L : List (Int × Bool)} (hl : ∀ v ∈ L, ∃ t : Nat, t < n ∧ v.1 = t) : Hist k n rounds (pokesM L) (behindM 20000 (kM k n rounds) L) := ⟨L, hl, rfl, rfl⟩

theorem hist_x {K : Kind (kOps k n) n (kCells k n) rounds} {X : BS → Mach → Prop} (hX : KeepsK K X) (hK : KOK k n rounds K) (d : Dims k n rounds) (h : Hist k n rounds p m) (hp : p ≤ 900) (hP : p = 0 ∨ KeepsPoke K X) : ∃ S, RanX K X p S m := by
  obtain ⟨L, a, b, rfl⟩ := h
  subst b
  obtain ⟨S', h'⟩ := ranX_moves hX (by have := d.r6; omega) L 0 bar0 _ (ranX_new hX) hP a (by rw [Nat.zero_add]; exact hK.purse d.k1 d.k6 d.n1 d.n16 d.r6 hp)
  rw [Nat.zero_add] at h'
  exact ⟨S', h'⟩
theorem hist_fx {K : Kind (kOps k n) n (kCells k n) rounds} {X : BS → Mach → Prop} (hX : KeepsK K X) (hK : KOK k n rounds K) (d : Dims k n rounds) (h : Hist k n rounds p m) (hp : p ≤ 900) (hP : p = 0 ∨ KeepsPoke K X) (hf : Fin m m') : ∃ S, RanX K X p S m' ∧ Done n S := by
  obtain ⟨S, h'⟩ := hist_x hX hK d h hp hP
  exact ranX_fin hX (by have := d.r6; omega) (hK.purse d.k1 d.k6 d.n1 d.n16 d.r6 hp) h' hf
/-- DanceWords. -/
theorem hist_words (d : Dims k n rounds) (h : Hist k n rounds p m) (hp : p ≤ 900) : ∀ a ∈ m.acts, ∃ c : Nat, a.2.2.2.1 = c ∧ c < kCells k n := by
  obtain ⟨K, hK, hM⟩ := kind_all (rounds := rounds) d.k1 d.k6 d.n1 d.n16
  obtain ⟨S, hR⟩ := hist_x (acts_keep hM.mono) hK d h hp (.inr (acts_poke _))
  exact hR.x.rng
theorem hist_gates (d : Dims k n rounds) (h : Hist k n rounds p m) (hp : p ≤ 900) (hf : Fin m m') {c : Nat} (hc : c < kCells k n) (hm : kMono k n c = true) : (st7 m'.acts c).length = rounds := by
  obtain ⟨K, hK, hM⟩ := kind_all (rounds := rounds) d.k1 d.k6 d.n1 d.n16
  obtain ⟨S, hR, hD⟩ := hist_fx (acts_keep hM.mono) hK d h hp (.inr (acts_poke _)) hf
  exact gates_done hK hR.ran hR.x hD hc hm
theorem hist_ord (d : Dims k n rounds) (h : Hist k n rounds p m) (hp : p ≤ 900) (hf : Fin m m') {a b : Nat} (hab : kOrd k n a b = true) : Before a b m'.acts := by
  obtain ⟨K, hK, hM⟩ := kind_all (rounds := rounds) d.k1 d.k6 d.n1 d.n16
  obtain ⟨S, hR, hD⟩ := hist_fx (ord_keep hM) hK d h hp (.inr (ord_poke hM)) hf
  exact hR.x.2 a b hab
end

/-! Who never goes on. -/
theorem step_says (m : Mach) (t : Nat) : (stepM 20000 m t).2.events = m.events ∨ ∃ w what v, (stepM 20000 m t).2.events = m.events ++ [(w, what, (t : Int), v)] := by
  rcases stepM_cases 20000 m t with ⟨c, e, _⟩ | ⟨_, _, _, _, _, e⟩
  · rw [e]
    exact .inl rfl
  · rw [e]
    rw [Int.toNat_natCast]
    dsimp only
    cases effAt m t with
    | say what v => exact .inr ⟨_, _, _, rfl⟩
    | mem c now r => cases r <;> exact .inl rfl
    | _ => exact .inl rfl
theorem step_cnt {m : Mach} {t u : Nat} (h : t ≠ u) : cntEv (stepM 20000 m t).2.events u = cntEv m.events u := by
  rcases step_says m t with e | ⟨w, what, v, e⟩ <;> rw [e]
  rw [cntEv_append, cntEv_one, if_neg (fun e => h e.symm), Nat.add_zero]

/-! Who is alone. -/
section
variable {k rounds p : Nat} {m : Mach}
theorem alone_awake (h : Dn k 1 rounds p m) {cells0 : List Int} (hm : MOk cells0 m) : asleepM m 0 = false := by
  cases e : asleepM m 0 with
  | false => rfl
  | true =>
    exfalso
    have e2 := e
    unfold asleepM at e
    obtain ⟨s, hs, he⟩ := List.any_eq_true.1 e
    obtain ⟨u, h1, h2, h3, _⟩ := hm.lot s hs
    have he' : s.1 = 0 := by simpa using he
    have hu : u = 0 := by omega
    subst hu
    rcases h.goes with ⟨t, ht, h4, h5⟩ | hall
    · have : t = 0 := by omega
      subst this
      rw [show ((0 : Nat) : Int) = 0 from rfl, e2] at h5
      cases h5
    · rw [hall 0 (by omega)] at h3
      cases h3
theorem alone_cell (h : Dn k 1 rounds p m) {cells0 : List Int} (hm : MOk cells0 m) : cellM m 0 = -1 := by
  have hs := alone_awake h hm
  have hn : (m.lot.find? fun s => s.1 == (0 : Int)) = none := by
    rw [List.find?_eq_none]
    intro s hs2 he2
    unfold asleepM at hs
    rw [List.any_eq_false] at hs
    exact hs s hs2 he2
  unfold cellM
  rw [hn]
  rfl
theorem alone_step (h : Dn k 1 rounds p m) {cells0 : List Int} (hm : MOk cells0 m) (hst : m.steps < 20000) (he : m.ended.getD 0 false = false) : (stepM 20000 m ((0 : Nat) : Int)).2.steps = m.steps + 1 := by
  have hl := h.plen
  refine ((stepM_can 20000 m ((0 : Nat) : Int)).1).2 ⟨?_, hst⟩
  unfold canM
  have ha := alone_awake h hm
  simp [hl, ha]
  simpa using he
theorem step_ended {m : Mach} {t : Nat} (he : m.ended.getD t false = true) : (stepM 20000 m (t : Int)).2 = m := by
  rcases stepM_cases 20000 m t with ⟨c, e, _⟩ | ⟨_, _, h, _⟩
  · rw [e]
  · rw [Int.toNat_natCast, he] at h
    cases h
/-- Behind as many steps as there can be who is alone is at its end. -/
theorem alone_done (d : Dims k 1 rounds) (h : Dn k 1 rounds 0 m) {cells0 : List Int} (hm : MOk cells0 m) (hs : m.ended.getD 0 false = true ∨ 3 * kSize k 1 * (rounds + 1) ≤ m.steps) : DnE k 1 rounds 0 m := by
  have he : m.ended.getD 0 false = true := by
    cases e : m.ended.getD 0 false with
    | true => rfl
    | false =>
      exfalso
      have h1 := alone_step h hm (h.steps d (by omega)) e
      have h2 := (dn_step d h (by omega) (t := 0) (by omega)).bound d
      rcases hs with hs | hs
      · rw [e] at hs
        cases hs
      · omega
  refine dn_fin d h (by omega) ⟨0, rfl, ?_⟩
  unfold roundM
  rw [h.plen]
  show (stepM 20000 m ((0 : Nat) : Int)).2 = m
  exact step_ended he
end

/-! Picks among which each is, block by block. -/
end Go.Proofs.YtmkgmpfpemiaaaaGreatDoor

namespace Go.Proofs.YtmkgmpfpemiaaaaGreatDoor
set_option maxRecDepth 100000
set_option linter.unusedVariables false
set_option linter.unusedSimpArgs false

/-! Behind which of the first picks one is waiting for its next one. -/
def lastI (l : List Int) (t : Nat) : Nat → Nat
  | 0 => 0
  | i + 1 => if l.getD i 0 = (t : Int) then i + 1 else lastI l t i
theorem lastI_le (l : List Int) (t : Nat) : ∀ i, lastI l t i ≤ i
  | 0 => Nat.le_refl _
  | i + 1 => by
    rw [lastI]
    split
    · exact Nat.le_refl _
    · exact Nat.le_succ_of_le (lastI_le l t i)
theorem lastI_mem {l : List Int} {t : Nat} : ∀ {i}, 0 < lastI l t i → l.getD (lastI l t i - 1) 0 = (t : Int)
  | 0, h => absurd h (Nat.lt_irrefl _)
  | i + 1, h => by
    rw [lastI] at h ⊢
    by_cases e : l.getD i 0 = (t : Int)
    · rw [if_pos e]
      exact e
    · rw [if_neg e] at h ⊢
      exact lastI_mem h
theorem lastI_none {l : List Int} {t : Nat} : ∀ {i j}, lastI l t i ≤ j → j < i → l.getD j 0 ≠ (t : Int)
  | 0, j, _, h => absurd h (Nat.not_lt_zero _)
  | i + 1, j, h1, h2 => by
    rw [lastI] at h1
    by_cases e : l.getD i 0 = (t : Int)
    · rw [if_pos e] at h1
      omega
    · rw [if_neg e] at h1
      by_cases hj : j = i
      · subst hj
        exact e
      · exact lastI_none h1 (by omega)
theorem fair_iff {l : List Int} {n w : Nat} (w1 : 1 ≤ w) : FairW l n w ↔ ∀ k, k ≤ l.length → ∀ t, t < n → k - lastI l t k < w := by
  constructor
  · intro h k hk t ht
    by_cases hc : k - lastI l t k < w
    · exact hc
    · exfalso
      obtain ⟨j, h1, h2, h3, h4⟩ := mem_win.1 (h (lastI l t k) (by omega) t ht)
      exact lastI_none h1 (by omega) h4
  · intro h i hi t ht
    have h1 := h (i + w) hi t ht
    have h2 := lastI_le l t (i + w)
    exact mem_win.2 ⟨lastI l t (i + w) - 1, by omega, by omega, by omega, lastI_mem (by omega)⟩
/-- How far the picks are looked at: nobody waited too long, but for those who are still waiting. -/
def FairTo (l : List Int) (n w i : Nat) : Prop := ∀ t, t < n → ∀ k, k ≤ i → k - lastI l t k < w ∨ lastI l t k = lastI l t i
theorem fairTo_zero (l : List Int) (n w : Nat) : FairTo l n w 0 := fun t _ k hk => .inr (by rw [show k = 0 by omega])
theorem fairTo_other {l : List Int} {n w i : Nat} (h : FairTo l n w i) (hx : ∀ t, t < n → l.getD i 0 ≠ (t : Int)) : FairTo l n w (i + 1) := fun t ht k hk => by
  have e : lastI l t (i + 1) = lastI l t i := by rw [lastI, if_neg (hx t ht)]
  by_cases hk2 : k = i + 1
  · exact .inr (by rw [hk2])
  · rw [e]
    exact h t ht k (by omega)
theorem fairTo_pick {l : List Int} {n w i u : Nat} (h : FairTo l n w i) (hu : l.getD i 0 = (u : Int)) (hw : i - lastI l u i < w) : FairTo l n w (i + 1) := fun t ht k hk => by
  by_cases hk2 : k = i + 1
  · exact .inr (by rw [hk2])
  · have h1 := h t ht k (by omega)
    by_cases e : t = u
    · subst e
      rcases h1 with h1 | h1
      · exact .inl h1
      · exact .inl (by omega)
    · have e2 : lastI l t (i + 1) = lastI l t i := by rw [lastI, if_neg (by rw [hu]; omega)]
      rw [e2]
      exact h1
theorem fairTo_end {l : List Int} {n w : Nat} (w1 : 1 ≤ w) (h : FairTo l n w l.length) (he : ∀ t, t < n → l.length - lastI l t l.length < w) : FairW l n w := (fair_iff w1).2 fun k hk t ht => by
  rcases h t ht k hk with h1 | h1
  · exact h1
  · have := he t ht
    omega
theorem fair_not {l : List Int} {n w i t : Nat} (w1 : 1 ≤ w) (ht : t < n) (hi : i ≤ l.length) (h : w ≤ i - lastI l t i) : ¬ FairW l n w := fun hf => by
  have := (fair_iff w1).1 hf i hi t ht
  omega
/-- Where each of 16 is waiting. -/
def sinceL (l : List Int) (n i : Nat) : List Int := (List.range 16).map fun t => if t < n then (lastI l t i : Int) else 0
theorem sinceL_len (l : List Int) (n i : Nat) : (sinceL l n i).length = 16 := by unfold sinceL; simp
theorem sinceL_at {l : List Int} {n i t : Nat} (ht : t < 16) : (sinceL l n i).getD t 0 = if t < n then (lastI l t i : Int) else 0 := by
  unfold sinceL
  rw [List.getD_eq_getElem?_getD, List.getElem?_map, List.getElem?_range ht]
  rfl
theorem sinceL_other {l : List Int} {n i : Nat} (hx : ∀ t, t < n → l.getD i 0 ≠ (t : Int)) : sinceL l n (i + 1) = sinceL l n i := by
  unfold sinceL
  refine List.map_congr_left fun t _ => ?_
  by_cases ht : t < n
  · rw [if_pos ht, if_pos ht, lastI, if_neg (hx t ht)]
  · rw [if_neg ht, if_neg ht]
theorem sinceL_pick {l : List Int} {n i u : Nat} (hu : l.getD i 0 = (u : Int)) (hn : u < n) : sinceL l n (i + 1) = (sinceL l n i).set u ((i : Int) + 1) := by
  refine List.ext_getElem (by rw [List.length_set, sinceL_len, sinceL_len]) fun j h1 h2 => ?_
  have h3 : j < 16 := by rw [sinceL_len] at h1; exact h1
  have a1 : ∀ i, (sinceL l n i)[j]'(by rw [sinceL_len]; exact h3) = if j < n then (lastI l j i : Int) else 0 := fun i => by unfold sinceL; simp
  rw [List.getElem_set, a1]
  by_cases e : u = j
  · subst e
    rw [if_pos rfl, if_pos hn, lastI, if_pos hu]
    rfl
  · have e2 : lastI l j (i + 1) = lastI l j i := by rw [lastI, if_neg (by rw [hu]; omega)]
    rw [if_neg e, a1, e2]
end Go.Proofs.YtmkgmpfpemiaaaaGreatDoor
