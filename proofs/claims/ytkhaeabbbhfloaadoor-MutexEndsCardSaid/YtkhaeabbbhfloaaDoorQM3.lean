/-
  Who came first is first: a lock with tickets (false: Lock, true: Unlock) A lock with tickets: how many steps there can be; what was told
-/
import Derived.Test.YtkhaeabbbhfloaaDoorQM
import Derived.Test.YtkhaeabbbhfloaaDoorQK
namespace Go.Proofs.YtkhaeabbbhfloaaDoor
set_option maxRecDepth 100000
set_option linter.unusedVariables false
set_option linter.unusedSimpArgs false

def tick0 : Bool → List Ins5
  | false => [(8, 1, 0, 1, 0), (6, 2, 1, 0, 0), (13, 2, 1, 5, 0), (14, 1, 2, 0, 0), (10, 1, 0, 0, 0), (16, 3, 1, 0, 0)]
  | true => [(8, 1, 1, 1, 0), (15, 1, 16, -1, 0), (16, 3, 1, 0, 0)]
def tickF : Fam Bool := famOf tick0 2 (fun c => by cases c <;> decide) (fun c => by cases c <;> rfl)
/-- Who drew, and who freed it, in this order. -/
def drewA (a : List Act6) : List Int := (a.filter fun x => x.2.2.1 == 8 && x.2.2.2.1 == 0).map (·.2.1)
def freedA (a : List Act6) : List Int := (a.filter fun x => x.2.2.1 == 8 && x.2.2.2.1 == 1).map (·.2.1)
theorem drewA_one (a : List Act6) (x : Act6) : drewA (a ++ [x]) = drewA a ++ if x.2.2.1 = 8 ∧ x.2.2.2.1 = 0 then [x.2.1] else [] := by
  unfold drewA
  rw [List.filter_append, List.map_append]
  congr 1
  by_cases h : x.2.2.1 = 8 ∧ x.2.2.2.1 = 0
  · rw [if_pos h]; simp [h.1, h.2]
  · rw [if_neg h]
    have : (x.2.2.1 == 8 && x.2.2.2.1 == 0) = false := by
      rw [Bool.eq_false_iff]
      intro q
      rw [Bool.and_eq_true, beq_iff_eq, beq_iff_eq] at q
      exact h q
    simp [List.filter_cons, this]
theorem freedA_one (a : List Act6) (x : Act6) : freedA (a ++ [x]) = freedA a ++ if x.2.2.1 = 8 ∧ x.2.2.2.1 = 1 then [x.2.1] else [] := by
  unfold freedA
  rw [List.filter_append, List.map_append]
  congr 1
  by_cases h : x.2.2.1 = 8 ∧ x.2.2.2.1 = 1
  · rw [if_pos h]; simp [h.1, h.2]
  · rw [if_neg h]
    have : (x.2.2.1 == 8 && x.2.2.2.1 == 1) = false := by
      rw [Bool.eq_false_iff]
      intro q
      rw [Bool.and_eq_true, beq_iff_eq, beq_iff_eq] at q
      exact h q
    simp [List.filter_cons, this]
/-- Whose tickets are which. -/
def posOf (l : List Int) (u : Nat) : List Nat := (List.range l.length).filter fun i => l[i]? == some (u : Int)
theorem posOf_snoc (l : List Int) (x : Int) (u : Nat) : posOf (l ++ [x]) u = posOf l u ++ if x = (u : Int) then [l.length] else [] := by
  unfold posOf
  rw [List.length_append, List.length_singleton, List.range_succ, List.filter_append]
  congr 1
  · apply List.filter_congr
    intro i hi
    rw [List.getElem?_append_left (List.mem_range.1 hi)]
  · by_cases h : x = (u : Int)
    · rw [if_pos h]; simp [h]
    · rw [if_neg h]; simp [List.filter_cons, h]
theorem posOf_mem {l : List Int} {u i : Nat} : i ∈ posOf l u ↔ l[i]? = some (u : Int) := by
  unfold posOf
  rw [List.mem_filter, List.mem_range, beq_iff_eq]
  refine ⟨fun h => h.2, fun h => ⟨?_, h⟩⟩
  exact (List.getElem?_eq_some_iff.1 h).1
theorem posOf_rising (l : List Int) (u : Nat) : (posOf l u).Pairwise (· < ·) := List.Pairwise.filter _ List.pairwise_lt_range
theorem posOf_sum (n : Nat) : ∀ (k : Nat) (l : List Int), l.length = k → (∀ x ∈ l, ∃ u : Nat, u < n ∧ x = (u : Int)) → l.length = sumN n fun u => (posOf l u).length
  | 0, l, hk, _ => by
    have hl : l = [] := List.eq_nil_of_length_eq_zero hk
    subst hl
    have : (sumN n fun u => (posOf [] u).length) = sumN n fun _ => 0 := by congr 1
    rw [this, sumN_const]; simp
  | k + 1, l0, hk, h0 => by
    have hne : l0 ≠ [] := fun e => by rw [e] at hk; cases hk
    obtain ⟨l, x, rfl⟩ : ∃ l x, l0 = l ++ [x] := ⟨l0.dropLast, l0.getLast hne, (List.dropLast_concat_getLast hne).symm⟩
    obtain ⟨t, ht, rfl⟩ := h0 x (by simp)
    have h1 := posOf_sum n k l (by rw [List.length_append] at hk; simpa using hk) (fun y hy => h0 y (by simp [hy]))
    have h2 : (sumN n fun u => (posOf (l ++ [(t : Int)]) u).length) = sumN n fun u => (posOf l u).length + if u = t then 1 else 0 := by
      congr 1
      funext u
      rw [posOf_snoc, List.length_append]
      by_cases e : u = t
      · subst e; rw [if_pos rfl, if_pos rfl]; rfl
      · rw [if_neg (by omega), if_neg e]; rfl
    rw [h2, sumN_one n t _ ht, List.length_append, ← h1]
    rfl

def hasT (o : Option Bool) (j : Nat) : Prop := (o = some false ∧ 1 ≤ j) ∨ (o = some true ∧ j = 0)
instance (o : Option Bool) (j : Nat) : Decidable (hasT o j) := by unfold hasT; infer_instance
def AtT (U : Int) : Option Bool → Nat → (Nat → Int) → Prop
  | none, _, _ => True
  | some false, j, r => (1 ≤ j → U ≤ r 1) ∧ (j = 2 → r 2 ≤ U) ∧ (j = 3 → r 2 ≤ U ∧ r 2 ≠ r 1) ∧ (j = 5 → r 1 = U)
  | some true, j, r => j = 0 → r 1 = U
/-- How many tickets it drew. -/
def drawnT (o : Option Bool) (k j : Nat) : Nat := k / 2 + if hasT o j ∨ o = some true then 1 else 0
structure TicI (n times : Nat) (calls : Nat → List Bool) (S : CS) (a : List Act6) (e : List Ev4) : Prop where
  c0 : S.cell 0 = ((drewA a).length : Int)
  c1 : S.cell 1 = ((freedA a).length : Int)
  le : (freedA a).length ≤ (drewA a).length
  pre : freedA a = (drewA a).take (freedA a).length
  low : ∀ x ∈ drewA a, ∃ u : Nat, u < n ∧ x = (u : Int)
  at_ : ∀ u, u < n → AtT (S.cell 1) (calls u)[(S.th u).k]? (S.th u).j (S.th u).r
  out : ∀ w : Nat, (freedA a).length ≤ w → w < (drewA a).length → ∃ u, u < n ∧ (drewA a)[w]? = some (u : Int) ∧ hasT (calls u)[(S.th u).k]? (S.th u).j ∧ (S.th u).r 1 = (w : Int)
  pos : ∀ u, u < n → (posOf (drewA a) u).length = drawnT (calls u)[(S.th u).k]? (S.th u).k (S.th u).j
  last : ∀ u, u < n → hasT (calls u)[(S.th u).k]? (S.th u).j ∨ (calls u)[(S.th u).k]? = some true → ∃ w : Nat, (posOf (drewA a) u)[(S.th u).k / 2]? = some w ∧ (S.th u).r 1 = (w : Int)
  lot : ∀ s ∈ S.lot, s.2 = 1 ∧ (calls s.1)[(S.th s.1).k]? = some false ∧ (S.th s.1).j = 4
  wk : ∀ s ∈ S.lot, (S.th s.1).r 1 = S.cell 1 → ∃ u, u < n ∧ (calls u)[(S.th u).k]? = some true ∧ (S.th u).j = 1
  evs : ∀ x ∈ e, ∃ s w : Int, ∃ u : Nat, u < n ∧ x = (s, 3, (u : Int), w)
  anl : ∀ u, u < n → (ansOf e u).length = (S.th u).k
  ans : ∀ u, u < n → ∀ i, i < (S.th u).k → ∃ w : Nat, (posOf (drewA a) u)[i / 2]? = some w ∧ (ansOf e u)[i]? = some (w : Int)

def locT (n : Nat) (v : Int) (o : Option Bool) (x : TK) (sl : Bool) : Nat :=
  match o, x.j with
  | none, _ => 0
  | some false, 0 => 6
  | some false, 1 => 5
  | some false, 2 => if x.r 2 = v then 4 else 8
  | some false, 3 => if x.r 2 = v then 3 else 7
  | some false, 4 => if sl then 2 else 6
  | some false, _ => 1
  | some true, 0 => 8 * n + 6
  | some true, 1 => 4 * n + 3
  | some true, _ => 1
def wT (n : Nat) : Bool → Nat
  | false => 6
  | true => 8 * n + 6
def potTT (n : Nat) (v : Int) (l : List Bool) (x : TK) (sl : Bool) : Nat := if x.en = true then 0 else 1 + locT n v l[x.k]? x sl + ((l.drop (x.k + 1)).map (wT n)).sum
theorem locT_any (n : Nat) (v v' : Int) (o : Option Bool) (x : TK) (sl sl' : Bool) (h : v = v' ∨ sl = sl') : locT n v' o x sl' ≤ locT n v o x sl + 4 := by
  unfold locT
  cases o with
  | none => simp
  | some b => cases b <;> (split <;> (try split) <;> (try split) <;> (try split) <;> first | omega | simp_all)
theorem potTT_any (n : Nat) (v v' : Int) (l : List Bool) (x : TK) (sl sl' : Bool) (h : v = v' ∨ sl = sl') : potTT n v' l x sl' ≤ potTT n v l x sl + 4 := by
  have := locT_any n v v' l[x.k]? x sl sl' h
  unfold potTT
  split <;> omega
def potMT (n : Nat) (calls : Nat → List Bool) (S : CS) : Nat := sumN n fun u => potTT n (S.cell 1) (calls u) (S.th u) (slK S u)

section
variable {n times : Nat} {calls : Nat → List Bool} {S S' : CS} {t : Nat} {a a' : List Act6} {e : List Ev4} {x' : TK}
/-- Only one moved, within its call; nobody drew, nobody freed it. -/
theorem tic_keep (h : TicI n times calls S a e) (ht : t < n) (hth : S'.th = upd S.th t x') (hk : x'.k = (S.th t).k) (hr : x'.r 1 = (S.th t).r 1) (h0 : S'.cell 0 = S.cell 0) (h1 : S'.cell 1 = S.cell 1)
    (hd : drewA a' = drewA a) (hf : freedA a' = freedA a) (hh : hasT (calls t)[(S.th t).k]? x'.j ↔ hasT (calls t)[(S.th t).k]? (S.th t).j) (hat : AtT (S.cell 1) (calls t)[(S.th t).k]? x'.j x'.r)
    (hl : ∀ s ∈ S'.lot, (s ∈ S.lot ∧ s.1 ≠ t) ∨ (s = (t, 1) ∧ (calls t)[(S.th t).k]? = some false ∧ x'.j = 4 ∧ x'.r 1 ≠ S.cell 1))
    (hw : S'.lot = [] ∨ ((calls t)[(S.th t).k]? = some true → (S.th t).j = 1 → x'.j = 1)) : TicI n times calls S' a' e := by
  have hne : ∀ u, u ≠ t → S'.th u = S.th u := fun u hu => by rw [hth, upd_ne _ _ hu]
  have hs : S'.th t = x' := by rw [hth, upd_same]
  have hkk : ∀ u, (S'.th u).k = (S.th u).k := fun u => by
    by_cases e : u = t
    · subst e; rw [hs, hk]
    · rw [hne u e]
  have hrr : ∀ u, (S'.th u).r 1 = (S.th u).r 1 := fun u => by
    by_cases e : u = t
    · subst e; rw [hs, hr]
    · rw [hne u e]
  have hhh : ∀ u, hasT (calls u)[(S'.th u).k]? (S'.th u).j ↔ hasT (calls u)[(S.th u).k]? (S.th u).j := fun u => by
    by_cases e : u = t
    · subst e; rw [hkk, hs]; exact hh
    · rw [hne u e]
  refine ⟨by rw [h0, hd]; exact h.c0, by rw [h1, hf]; exact h.c1, by rw [hd, hf]; exact h.le, by rw [hd, hf]; exact h.pre, by rw [hd]; exact h.low, fun u hu => ?_, fun w q1 q2 => ?_, fun u hu => ?_, fun u hu q => ?_, fun s q => ?_, fun s q1 q2 => ?_, h.evs, fun u hu => by rw [hkk]; exact h.anl u hu, fun u hu i hi => by rw [hd]; rw [hkk] at hi; exact h.ans u hu i hi⟩
  · rw [h1, hkk]
    by_cases e : u = t
    · subst e; rw [hs]; exact hat
    · rw [hne u e]; exact h.at_ u hu
  · rw [hf] at q1
    rw [hd] at q2 ⊢
    obtain ⟨u, hu, g1, g2, g3⟩ := h.out w q1 q2
    exact ⟨u, hu, g1, (hhh u).2 g2, by rw [hrr]; exact g3⟩
  · rw [hd, h.pos u hu]
    unfold drawnT
    rw [hkk]
    have := hhh u
    rw [hkk] at this
    simp only [this]
  · rw [hkk] at q ⊢
    rw [hd, hrr]
    have := hhh u
    rw [hkk] at this
    exact h.last u hu (q.imp this.1 id)
  · rcases hl s q with ⟨g1, g2⟩ | ⟨g1, g2, g3, _⟩
    · rw [hne _ g2]; exact h.lot s g1
    · subst g1
      rw [hkk, hs]
      exact ⟨rfl, g2, g3⟩
  · rw [hrr, h1] at q2
    rcases hw with hw | hw
    · rw [hw] at q1; cases q1
    rcases hl s q1 with ⟨g1, g2⟩ | ⟨g1, g2, g3, g4⟩
    · obtain ⟨u, hu, g5, g6⟩ := h.wk s g1 q2
      refine ⟨u, hu, by rw [hkk]; exact g5, ?_⟩
      by_cases e : u = t
      · subst e; rw [hs]; exact hw g5 g6
      · rw [hne u e]; exact g6
    · subst g1
      rw [hr] at g4
      exact absurd q2 g4
end

section
variable {n times : Nat} {calls : Nat → List Bool} {S S' : CS} {t : Nat} {a a' : List Act6} {e : List Ev4} {x' : TK}
theorem tic_poke (h : TicI n times calls S a e) (t : Nat) : TicI n times calls (pokeK t S) a e :=
  ⟨h.c0, h.c1, h.le, h.pre, h.low, h.at_, h.out, h.pos, h.last, fun s q => h.lot s (List.eraseP_sublist.subset q), fun s q => h.wk s (List.eraseP_sublist.subset q), h.evs, h.anl, h.ans⟩
theorem lockL_zero {times : Nat} {c : Bool} (h : (lockL times)[0]? = some c) : c = false := by
  have := (lockL_at h).2
  rw [this]; rfl
theorem tic_new (hcalls : ∀ t, t < n → calls t = lockL times) {c0 : Nat → Int} (h0 : c0 0 = 0) (h1 : c0 1 = 0) : TicI n times calls (newK c0) [] [] := by
  have hn : ∀ u, u < n → ∀ c, (calls u)[((newK c0).th u).k]? = some c → c = false := fun u hu c q => lockL_zero (times := times) (by rw [← hcalls u hu]; exact q)
  have hno : ∀ u, u < n → ¬ hasT (calls u)[((newK c0).th u).k]? ((newK c0).th u).j := fun u hu q => by
    rcases q with ⟨_, q⟩ | ⟨q, _⟩
    · have : 1 ≤ 0 := q
      omega
    · have := hn u hu _ q
      cases this
  refine ⟨h0, h1, Nat.le_refl _, rfl, (fun x hx => by cases hx), fun u hu => ?_, fun w q1 q2 => (by cases q2), fun u hu => ?_, fun u hu q => ?_, (fun s hs => by cases hs), (fun s hs => by cases hs), (fun x hx => by cases hx), fun u hu => rfl, fun u hu i hi => by cases hi⟩
  · cases e : (calls u)[((newK c0).th u).k]? with
    | none => trivial
    | some c =>
      rw [hn u hu c e]
      refine ⟨fun q => ?_, fun q => ?_, fun q => ?_, fun q => ?_⟩ <;> (have q : _ := q; cases q)
  · unfold drawnT
    rw [if_neg]
    · have hz : ((newK c0).th u).k = 0 := rfl
      rw [hz]
      simp [posOf, drewA]
    · rintro (q | q)
      · exact hno u hu q
      · cases hn u hu _ q
  · rcases q with q | q
    · exact absurd q (hno u hu)
    · cases hn u hu _ q
/-- When none can go on: all are at their ends, and all that was drawn was freed. -/
theorem tic_still (hcalls : ∀ t, t < n → calls t = lockL times) (hW : WfK tickF n calls S) (h : TicI n times calls S a e) (hs : ∀ t, t < n → (S.th t).en = true ∨ slK S t = true) :
    (∀ t, t < n → (S.th t).en = true ∧ (S.th t).k = 2 * times) ∧ (drewA a).length = n * times ∧ (freedA a).length = n * times := by
  have ended : ∀ t, t < n → (S.th t).en = true → (calls t)[(S.th t).k]? = none := fun t ht he => (hW.th t ht).fin he
  have awake : ∀ t, t < n → slK S t = true → (calls t)[(S.th t).k]? = some false ∧ (S.th t).j = 4 := fun t ht q => by
    obtain ⟨c, q⟩ := slK_mem q
    exact (h.lot _ q).2
  have noOut : (freedA a).length = (drewA a).length := by
    rcases Nat.lt_or_ge (freedA a).length (drewA a).length with q | q
    · exfalso
      obtain ⟨u, hu, g1, g2, g3⟩ := h.out _ (Nat.le_refl _) q
      rcases hs u hu with he | he
      · rw [ended u hu he] at g2
        rcases g2 with ⟨g2, _⟩ | ⟨g2, _⟩ <;> cases g2
      · obtain ⟨c, hc⟩ := slK_mem he
        obtain ⟨w, hw, g4, g5⟩ := h.wk _ hc (by rw [h.c1]; exact g3)
        rcases hs w hw with he | he
        · rw [ended w hw he] at g4; cases g4
        · rw [(awake w hw he).1] at g4; cases g4
    · have := h.le; omega
  have noSleep : ∀ t, t < n → slK S t = false := fun t ht => by
    cases q : slK S t with
    | false => rfl
    | true =>
      exfalso
      obtain ⟨q1, q2⟩ := awake t ht q
      have q3 := h.at_ t ht
      rw [q1, q2] at q3
      have q3 := q3.1 (by decide)
      obtain ⟨w, g1, g2⟩ := h.last t ht (.inl (.inl ⟨q1, by omega⟩))
      have g3 := posOf_mem.1 (List.mem_of_getElem? g1)
      have g4 := (List.getElem?_eq_some_iff.1 g3).1
      rw [h.c1, g2] at q3
      omega
  have hall : ∀ t, t < n → (S.th t).en = true ∧ (S.th t).k = 2 * times := fun t ht => by
    rcases hs t ht with he | he
    · refine ⟨he, ?_⟩
      have h1 := List.getElem?_eq_none_iff.1 (ended t ht he)
      have h2 := (hW.th t ht).k
      have h3 : (calls t).length = 2 * times := by rw [hcalls t ht]; unfold lockL; simp
      omega
    · rw [noSleep t ht] at he; cases he
  have hsum : (drewA a).length = n * times := by
    rw [posOf_sum n _ _ rfl h.low, ← sumN_const n times]
    refine Nat.le_antisymm (sumN_le fun u hu => ?_) (sumN_le fun u hu => ?_)
    all_goals
      rw [h.pos u hu]
      have he := ended u hu (hall u hu).1
      unfold drawnT
      rw [if_neg (by rw [he]; rintro ((⟨q, _⟩ | ⟨q, _⟩) | q) <;> cases q), (hall u hu).2]
      omega
  exact ⟨hall, hsum, by omega⟩
end

section
variable {n times : Nat} {calls : Nat → List Bool} {S S' : CS} {t : Nat} {a a' : List Act6} {e : List Ev4} {x' : TK}
theorem getElem?_more {l : List Int} {x : Int} {w : Nat} {v : Int} (h : l[w]? = some v) : (l ++ [x])[w]? = some v := by
  rw [List.getElem?_append_left (List.getElem?_eq_some_iff.1 h).1]; exact h
theorem posOf_more {l : List Int} {x : Int} {u i w : Nat} (h : (posOf l u)[i]? = some w) : (posOf (l ++ [x]) u)[i]? = some w := by
  rw [posOf_snoc, List.getElem?_append_left (List.getElem?_eq_some_iff.1 h).1]; exact h
/-- One draws. -/
theorem tic_draw (h : TicI n times calls S a e) (ht : t < n) (hc : (calls t)[(S.th t).k]? = some false) (hj : (S.th t).j = 0) (hsl : slK S t = false) (hth : S'.th = upd S.th t x') (hk : x'.k = (S.th t).k) (hj' : x'.j = 1) (hr : x'.r 1 = S.cell 0)
    (h0 : S'.cell 0 = S.cell 0 + 1) (h1 : S'.cell 1 = S.cell 1) (hl : S'.lot = S.lot) (hd : drewA a' = drewA a ++ [(t : Int)]) (hf : freedA a' = freedA a) : TicI n times calls S' a' e := by
  have hne : ∀ u, u ≠ t → S'.th u = S.th u := fun u hu => by rw [hth, upd_ne _ _ hu]
  have hs : S'.th t = x' := by rw [hth, upd_same]
  have hkk : ∀ u, (S'.th u).k = (S.th u).k := fun u => by
    by_cases e : u = t
    · subst e; rw [hs, hk]
    · rw [hne u e]
  have hnt : ∀ s ∈ S.lot, s.1 ≠ t := fun s q e => by
    have : slK S t = true := slK_of (a := s.2) (by rw [← e]; exact q)
    rw [hsl] at this; cases this
  have hno : ¬ (hasT (calls t)[(S.th t).k]? (S.th t).j ∨ (calls t)[(S.th t).k]? = some true) := by
    rw [hc, hj]
    rintro ((⟨_, q⟩ | ⟨q, _⟩) | q)
    · omega
    · cases q
    · cases q
  have hlen : (drewA a').length = (drewA a).length + 1 := by rw [hd, List.length_append]; rfl
  have hpt : (posOf (drewA a) t).length = (S.th t).k / 2 := by
    rw [h.pos t ht]
    unfold drawnT
    rw [if_neg hno]
    rfl
  refine ⟨by rw [h0, h.c0, hlen]; omega, by rw [h1, hf]; exact h.c1, by rw [hlen, hf]; have := h.le; omega, ?_, fun x q => ?_, fun u hu => ?_, fun w q1 q2 => ?_, fun u hu => ?_, fun u hu q => ?_, fun s q => ?_, fun s q1 q2 => ?_, h.evs, fun u hu => by rw [hkk]; exact h.anl u hu, fun u hu i hi => ?_⟩
  · rw [hf, hd, List.take_append_of_le_length h.le]
    exact h.pre
  · rw [hd] at q
    rcases List.mem_append.1 q with q | q
    · exact h.low x q
    · exact ⟨t, ht, List.mem_singleton.1 q⟩
  · rw [h1, hkk]
    by_cases e : u = t
    · subst e
      rw [hs, hc, hj']
      refine ⟨fun _ => ?_, fun q => ?_, fun q => ?_, fun q => ?_⟩
      · rw [hr, h.c0, h.c1]
        have := h.le
        omega
      all_goals omega
    · rw [hne u e]; exact h.at_ u hu
  · rw [hf] at q1
    rw [hlen] at q2
    by_cases e : w = (drewA a).length
    · subst e
      refine ⟨t, ht, by rw [hd]; simp, ?_, by rw [hs, hr, h.c0]⟩
      rw [hkk, hs, hj']
      exact .inl ⟨hc, Nat.le_refl _⟩
    · obtain ⟨u, hu, g1, g2, g3⟩ := h.out w q1 (by omega)
      have hut : u ≠ t := fun q => hno (.inl (by rw [← q]; exact g2))
      refine ⟨u, hu, by rw [hd]; exact getElem?_more g1, ?_, ?_⟩
      · rw [hne u hut]; exact g2
      · rw [hne u hut]; exact g3
  · rw [hd, posOf_snoc, List.length_append]
    by_cases e : u = t
    · subst e
      rw [if_pos rfl, hpt, hkk, hs, hj', hc]
      unfold drawnT
      rw [if_pos (.inl (.inl ⟨rfl, Nat.le_refl _⟩))]
      rfl
    · rw [if_neg (by omega), h.pos u hu, hne u e]
      rfl
  · by_cases e : u = t
    · subst e
      refine ⟨(drewA a).length, ?_, by rw [hs, hr, h.c0]⟩
      rw [hkk, hd, posOf_snoc, if_pos rfl, ← hpt, List.getElem?_append_right (Nat.le_refl _), Nat.sub_self]
      rfl
    · rw [hne u e] at q ⊢
      obtain ⟨w, g1, g2⟩ := h.last u hu q
      exact ⟨w, by rw [hd]; exact posOf_more g1, g2⟩
  · rw [hl] at q
    rw [hne _ (hnt s q)]
    exact h.lot s q
  · rw [hl] at q1
    rw [hne _ (hnt s q1), h1] at q2
    obtain ⟨u, hu, g1, g2⟩ := h.wk s q1 q2
    have hut : u ≠ t := fun q => by rw [q, hc] at g1; cases g1
    exact ⟨u, hu, by rw [hne u hut]; exact g1, by rw [hne u hut]; exact g2⟩
  · rw [hkk] at hi
    obtain ⟨w, g1, g2⟩ := h.ans u hu i hi
    exact ⟨w, by rw [hd]; exact posOf_more g1, g2⟩
/-- One frees it. -/
theorem tic_free (h : TicI n times calls S a e) (ht : t < n) (hc : (calls t)[(S.th t).k]? = some true) (hj : (S.th t).j = 0) (hsl : slK S t = false) (hth : S'.th = upd S.th t x') (hk : x'.k = (S.th t).k) (hj' : x'.j = 1) (hr : x'.r 1 = S.cell 1)
    (h0 : S'.cell 0 = S.cell 0) (h1 : S'.cell 1 = S.cell 1 + 1) (hl : S'.lot = S.lot) (hd : drewA a' = drewA a) (hf : freedA a' = freedA a ++ [(t : Int)]) : TicI n times calls S' a' e := by
  have hne : ∀ u, u ≠ t → S'.th u = S.th u := fun u hu => by rw [hth, upd_ne _ _ hu]
  have hs : S'.th t = x' := by rw [hth, upd_same]
  have hkk : ∀ u, (S'.th u).k = (S.th u).k := fun u => by
    by_cases e : u = t
    · subst e; rw [hs, hk]
    · rw [hne u e]
  have hnt : ∀ s ∈ S.lot, s.1 ≠ t := fun s q e => by
    have : slK S t = true := slK_of (a := s.2) (by rw [← e]; exact q)
    rw [hsl] at this; cases this
  have hrt : (S.th t).r 1 = S.cell 1 := by
    have q := h.at_ t ht
    rw [hc, hj] at q
    exact q rfl
  have hrr : ∀ u, (S'.th u).r 1 = (S.th u).r 1 := fun u => by
    by_cases e : u = t
    · subst e; rw [hs, hr, hrt]
    · rw [hne u e]
  obtain ⟨w0, p1, p2⟩ := h.last t ht (.inr hc)
  have p3 := posOf_mem.1 (List.mem_of_getElem? p1)
  have p4 : w0 = (freedA a).length := by rw [hrt, h.c1] at p2; omega
  subst p4
  have p5 := (List.getElem?_eq_some_iff.1 p3).1
  have hlen : (freedA a').length = (freedA a).length + 1 := by rw [hf, List.length_append]; rfl
  -- who has a ticket has a later one
  have later : ∀ u, u < n → u ≠ t → hasT (calls u)[(S.th u).k]? (S.th u).j → (S.th u).r 1 ≠ S.cell 1 := fun u hu hut q q2 => by
    obtain ⟨w, g1, g2⟩ := h.last u hu (.inl q)
    have g3 := posOf_mem.1 (List.mem_of_getElem? g1)
    have : w = (freedA a).length := by rw [q2, h.c1] at g2; omega
    rw [this, p3] at g3
    injection g3 with g3
    omega
  refine ⟨by rw [h0, hd]; exact h.c0, by rw [h1, h.c1, hlen]; omega, by rw [hlen, hd]; omega, ?_, by rw [hd]; exact h.low, fun u hu => ?_, fun w q1 q2 => ?_, fun u hu => ?_, fun u hu q => ?_, fun s q => ?_, fun s q1 q2 => ?_, h.evs, fun u hu => by rw [hkk]; exact h.anl u hu, fun u hu i hi => by rw [hd]; rw [hkk] at hi; exact h.ans u hu i hi⟩
  · rw [hlen, hd, List.take_add_one, p3, ← h.pre, hf]
    rfl
  · rw [h1, hkk]
    by_cases e : u = t
    · subst e
      rw [hs, hc, hj']
      exact fun q => by cases q
    · rw [hne u e]
      have q := h.at_ u hu
      have q3 := later u hu e
      cases ec : (calls u)[(S.th u).k]? with
      | none => trivial
      | some c =>
        rw [ec] at q q3
        cases c with
        | true => exact fun g => absurd (q g) (q3 (.inr ⟨rfl, g⟩))
        | false =>
          refine ⟨fun g => ?_, fun g => ?_, fun g => ?_, fun g => ?_⟩
          · have g1 := q.1 g
            have g2 := q3 (.inl ⟨rfl, g⟩)
            omega
          · have := q.2.1 g; omega
          · have := q.2.2.1 g; exact ⟨by omega, this.2⟩
          · exact absurd (q.2.2.2 g) (q3 (.inl ⟨rfl, by omega⟩))
  · rw [hlen] at q1
    rw [hd] at q2 ⊢
    obtain ⟨u, hu, g1, g2, g3⟩ := h.out w (by omega) q2
    have hut : u ≠ t := fun q => by rw [q, hrt, h.c1] at g3; omega
    exact ⟨u, hu, g1, by rw [hne u hut]; exact g2, by rw [hne u hut]; exact g3⟩
  · rw [hd, h.pos u hu]
    by_cases e : u = t
    · subst e
      rw [hkk, hs, hc]
      unfold drawnT
      rw [if_pos (.inr rfl), if_pos (.inr rfl)]
    · rw [hne u e]
  · rw [hd, hkk, hrr]
    by_cases e : u = t
    · subst e
      exact h.last u hu (.inr hc)
    · rw [hne u e] at q
      exact h.last u hu q
  · rw [hl] at q
    rw [hne _ (hnt s q)]
    exact h.lot s q
  · exact ⟨t, ht, by rw [hkk]; exact hc, by rw [hs]; exact hj'⟩
end

section
variable {n times : Nat} {calls : Nat → List Bool} {S S' : CS} {t : Nat} {a a' : List Act6} {e : List Ev4} {x' : TK}
/-- One says its ticket: its call is over. -/
theorem tic_say (hcalls : ∀ t, t < n → calls t = lockL times) (h : TicI n times calls S a e) (ht : t < n) {c : Bool} (hc : (calls t)[(S.th t).k]? = some c) (hj : (c = false ∧ (S.th t).j = 5) ∨ (c = true ∧ (S.th t).j = 2)) (hsl : slK S t = false) (hth : S'.th = upd S.th t x') (hk : x'.k = (S.th t).k + 1) (hj' : x'.j = 0) (hr : x'.r 1 = (S.th t).r 1)
    (h0 : S'.cell 0 = S.cell 0) (h1 : S'.cell 1 = S.cell 1) (hl : S'.lot = S.lot) (s : Int) : TicI n times calls S' a (e ++ [(s, 3, (t : Int), (S.th t).r 1)]) := by
  have hne : ∀ u, u ≠ t → S'.th u = S.th u := fun u hu => by rw [hth, upd_ne _ _ hu]
  have hs : S'.th t = x' := by rw [hth, upd_same]
  have hnt : ∀ s ∈ S.lot, s.1 ≠ t := fun s q e => by
    have : slK S t = true := slK_of (a := s.2) (by rw [← e]; exact q)
    rw [hsl] at this; cases this
  obtain ⟨kl, kp⟩ := lockL_at (by rw [← hcalls t ht]; exact hc)
  have hat := h.at_ t ht
  rw [hc] at hat
  -- its next call
  have hnx : ∀ d, (calls t)[(S.th t).k + 1]? = some d → d = !c := fun d q => by
    obtain ⟨_, q⟩ := lockL_at (by rw [← hcalls t ht]; exact q)
    rw [q, kp]
    rcases Nat.mod_two_eq_zero_or_one (S.th t).k with g | g
    · have : ((S.th t).k + 1) % 2 = 1 := by omega
      rw [g, this]; rfl
    · have : ((S.th t).k + 1) % 2 = 0 := by omega
      rw [g, this]; rfl
  have hcf : c = false → (S.th t).k % 2 = 0 ∧ (calls t)[(S.th t).k + 1]? = some true := fun q => by
    have g : (S.th t).k % 2 = 0 := by
      rcases Nat.mod_two_eq_zero_or_one (S.th t).k with g | g
      · exact g
      · rw [g, q] at kp; cases kp
    refine ⟨g, ?_⟩
    rw [hcalls t ht, lockL_is (by omega)]
    have : ((S.th t).k + 1) % 2 = 1 := by omega
    rw [this]; rfl
  have hct : c = true → (S.th t).k % 2 = 1 := fun q => by
    rcases Nat.mod_two_eq_zero_or_one (S.th t).k with g | g
    · rw [g, q] at kp; cases kp
    · exact g
  have hlast : ∃ w : Nat, (posOf (drewA a) t)[(S.th t).k / 2]? = some w ∧ (S.th t).r 1 = (w : Int) := by
    refine h.last t ht ?_
    rw [hc]
    rcases hj with ⟨rfl, q⟩ | ⟨rfl, q⟩
    · exact .inl (.inl ⟨rfl, by omega⟩)
    · exact .inr rfl
  have hdr : drawnT (some c) (S.th t).k (S.th t).j = (S.th t).k / 2 + 1 := by
    unfold drawnT
    rw [if_pos]
    rcases hj with ⟨rfl, q⟩ | ⟨rfl, q⟩
    · exact .inl (.inl ⟨rfl, by omega⟩)
    · exact .inr rfl
  have hpt := h.pos t ht
  rw [hc, hdr] at hpt
  refine ⟨by rw [h0]; exact h.c0, by rw [h1]; exact h.c1, h.le, h.pre, h.low, fun u hu => ?_, fun w q1 q2 => ?_, fun u hu => ?_, fun u hu q => ?_, fun s q => ?_, fun s q1 q2 => ?_, fun x hx => ?_, fun u hu => ?_, fun u hu i hi => ?_⟩
  · rw [h1]
    by_cases e : u = t
    · subst e
      rw [hs, hk, hj']
      cases ed : (calls u)[(S.th u).k + 1]? with
      | none => trivial
      | some d =>
        have hd := hnx d ed
        rcases hj with ⟨rfl, q⟩ | ⟨rfl, q⟩
        · rw [hd]
          exact fun _ => by rw [hr]; exact hat.2.2.2 q
        · rw [hd]
          refine ⟨fun q => by omega, fun q => by omega, fun q => by omega, fun q => by omega⟩
    · rw [hne u e]; exact h.at_ u hu
  · obtain ⟨u, hu, g1, g2, g3⟩ := h.out w q1 q2
    by_cases e : u = t
    · subst e
      refine ⟨u, hu, g1, ?_, by rw [hs, hr]; exact g3⟩
      rw [hs, hk, hj']
      rw [hc] at g2
      rcases hj with ⟨rfl, q⟩ | ⟨rfl, q⟩
      · exact .inr ⟨(hcf rfl).2, rfl⟩
      · rcases g2 with ⟨g2, _⟩ | ⟨_, g2⟩
        · cases g2
        · omega
    · exact ⟨u, hu, g1, by rw [hne u e]; exact g2, by rw [hne u e]; exact g3⟩
  · by_cases e : u = t
    · subst e
      rw [hpt, hs, hk, hj']
      unfold drawnT
      rcases hj with ⟨rfl, q⟩ | ⟨rfl, q⟩
      · rw [if_pos (.inr (hcf rfl).2)]
        have := (hcf rfl).1
        omega
      · rw [if_neg]
        · have := hct rfl
          omega
        · rintro ((⟨_, q⟩ | ⟨q, _⟩) | q)
          · omega
          · cases hnx _ q
          · cases hnx _ q
    · rw [hne u e]; exact h.pos u hu
  · by_cases e : u = t
    · subst e
      rw [hs, hk, hj'] at q
      rw [hs, hk, hr]
      rcases hj with ⟨rfl, q3⟩ | ⟨rfl, q3⟩
      · have : ((S.th u).k + 1) / 2 = (S.th u).k / 2 := by have := (hcf rfl).1; omega
        rw [this]
        exact hlast
      · exfalso
        rcases q with (⟨_, q⟩ | ⟨q, _⟩) | q
        · omega
        · cases hnx _ q
        · cases hnx _ q
    · rw [hne u e] at q ⊢; exact h.last u hu q
  · rw [hl] at q
    rw [hne _ (hnt s q)]
    exact h.lot s q
  · rw [hl] at q1
    rw [hne _ (hnt s q1), h1] at q2
    obtain ⟨u, hu, g1, g2⟩ := h.wk s q1 q2
    have hut : u ≠ t := fun q => by
      subst q
      rw [hc] at g1
      injection g1 with g1
      rcases hj with ⟨q, _⟩ | ⟨_, q⟩
      · rw [g1] at q; cases q
      · omega
    exact ⟨u, hu, by rw [hne u hut]; exact g1, by rw [hne u hut]; exact g2⟩
  · rcases List.mem_append.1 hx with hx | hx
    · exact h.evs x hx
    · exact ⟨s, (S.th t).r 1, t, ht, List.mem_singleton.1 hx⟩
  · by_cases e : u = t
    · subst e
      rw [hs, hk, ansOf_self, List.length_append, h.anl u hu]
      rfl
    · rw [hne u e, ansOf_ne _ _ _ _ e]; exact h.anl u hu
  · by_cases e : u = t
    · subst e
      rw [hs, hk] at hi
      rw [ansOf_self]
      by_cases e2 : i = (S.th u).k
      · subst e2
        obtain ⟨w, g1, g2⟩ := hlast
        refine ⟨w, g1, ?_⟩
        rw [List.getElem?_append_right (by rw [h.anl u hu]; exact Nat.le_refl _), h.anl u hu, Nat.sub_self, g2]
        rfl
      · obtain ⟨w, g1, g2⟩ := h.ans u hu i (by omega)
        exact ⟨w, g1, getElem?_more g2⟩
    · rw [hne u e] at hi
      rw [ansOf_ne _ _ _ _ e]
      exact h.ans u hu i hi
end

section
variable {n times : Nat} {calls : Nat → List Bool} {S S' : CS} {t : Nat} {a a' : List Act6} {e : List Ev4} {x' : TK}
theorem tic_end (h : TicI n times calls S a e) (ht : t < n) (hc : (calls t)[(S.th t).k]? = none) : TicI n times calls { S with th := upd S.th t { S.th t with en := true } } a e := by
  refine tic_keep (S' := { S with th := upd S.th t { S.th t with en := true } }) (x' := { S.th t with en := true }) (t := t) h ht rfl rfl rfl rfl rfl rfl rfl Iff.rfl (by rw [hc]; trivial) (fun s hs => .inl ⟨hs, fun q => ?_⟩) (.inr fun q => by rw [hc] at q; cases q)
  have := (h.lot s hs).2.1
  rw [q, hc] at this
  cases this
/-- Few tickets are drawn. -/
theorem tic_cap (hcalls : ∀ t, t < n → calls t = lockL times) (hW : WfK tickF n calls S) (h : TicI n times calls S a e) : (drewA a).length ≤ n * (times + 1) := by
  rw [posOf_sum n _ _ rfl h.low, ← sumN_const n (times + 1)]
  refine sumN_le fun u hu => ?_
  rw [h.pos u hu]
  have h2 := (hW.th u hu).k
  have h3 : (calls u).length = 2 * times := by rw [hcalls u hu]; unfold lockL; simp
  unfold drawnT
  split <;> omega
theorem potMT_same (ht : t < n) (hth : S'.th = upd S.th t x') (hc : S'.cell 1 = S.cell 1) (hl : ∀ u, u ≠ t → slK S' u = slK S u) (hp : potTT n (S.cell 1) (calls t) x' (slK S' t) + 1 ≤ potTT n (S.cell 1) (calls t) (S.th t) (slK S t)) : potMT n calls S' + 1 ≤ potMT n calls S := by
  have : (sumN n fun u => potTT n (S'.cell 1) (calls u) (S'.th u) (slK S' u)) + 1 ≤ (sumN n fun u => potTT n (S.cell 1) (calls u) (S.th u) (slK S u)) + 0 := sumN_shift ht (fun u hu hne => by rw [hc, hth, upd_ne _ _ hne, hl u hne]) (by rw [hc, hth, upd_same]; omega)
  unfold potMT
  omega
theorem potMT_moves (ht : t < n) (hth : S'.th = upd S.th t x') (hv : ∀ u, S'.cell 1 = S.cell 1 ∨ slK S' u = slK S u) (hp : potTT n (S'.cell 1) (calls t) x' (slK S' t) + (4 * n + 1) ≤ potTT n (S.cell 1) (calls t) (S.th t) (slK S t)) : potMT n calls S' + 1 ≤ potMT n calls S := by
  have := sumN_bulk (n := n) (t := t) (a := 4 * n + 1) (b := 4) (f := fun u => potTT n (S'.cell 1) (calls u) (S'.th u) (slK S' u)) (g := fun u => potTT n (S.cell 1) (calls u) (S.th u) (slK S u)) ht (fun u hu hne => by rw [hth, upd_ne _ _ hne]; exact potTT_any _ _ _ _ _ _ _ ((hv u).imp Eq.symm Eq.symm)) (by rw [hth, upd_same]; omega)
  unfold potMT
  omega
theorem potTT_step {v v' : Int} {l : List Bool} {x x' : TK} {sl sl' : Bool} {d : Nat} (hk : x'.k = x.k) (he : x.en = false) (he' : x'.en = false) (h : locT n v' l[x.k]? x' sl' + d ≤ locT n v l[x.k]? x sl) : potTT n v' l x' sl' + d ≤ potTT n v l x sl := by
  unfold potTT
  rw [he, he', hk, if_neg (by decide), if_neg (by decide)]
  omega
theorem potTT_over {v : Int} {l : List Bool} {x x' : TK} (hk : x'.k = x.k + 1) (hj : x'.j = 0) (he : x.en = false) (he' : x'.en = false) {b : Bool} (hb : l[x.k]? = some b) (h : locT n v (some b) x false = 1) : potTT n v l x' false + 1 ≤ potTT n v l x false := by
  unfold potTT
  rw [he, he', hk, if_neg (by decide), if_neg (by decide), hb, h]
  have h0 : ∀ o, locT n v o x' false = match o with | none => 0 | some b => wT n b := fun o => by
    unfold locT
    rw [hj]
    cases o with
    | none => rfl
    | some b => cases b <;> rfl
  rw [h0]
  cases hc : l[x.k + 1]? with
  | none =>
    have : l.drop (x.k + 1 + 1) = [] := List.drop_eq_nil_of_le (by have := List.getElem?_eq_none_iff.1 hc; omega)
    rw [this]
    simp
  | some c =>
    have h1 : l.drop (x.k + 1) = c :: l.drop (x.k + 1 + 1) := by
      rw [List.drop_eq_getElem_cons (List.getElem?_eq_some_iff.1 hc).1, (List.getElem?_eq_some_iff.1 hc).2]
    rw [h1]
    simp only [List.map_cons, List.sum_cons]
    omega
end

section
variable {n times : Nat} {calls : Nat → List Bool} {S S' : CS} {t : Nat} {a a' : List Act6} {e : List Ev4} {x' : TK}
theorem tick_more {v : Int} (h0 : 0 ≤ v) (h1 : v ≤ 1000) : (v + 1) % m64 = v + 1 := by unfold m64; omega
theorem tic_nt (hsl : slK S t = false) : ∀ s ∈ S.lot, s ∈ S.lot ∧ s.1 ≠ t := fun s hs => ⟨hs, fun e => by
  have : slK S t = true := slK_of (a := s.2) (by rw [← e]; exact hs)
  rw [hsl] at this; cases this⟩
theorem drewA_no (a : List Act6) (x : Act6) (h : x.2.2.1 ≠ 8 ∨ x.2.2.2.1 ≠ 0) : drewA (a ++ [x]) = drewA a := by
  rw [drewA_one, if_neg (fun q => by rcases h with h | h; exact h q.1; exact h q.2), List.append_nil]
theorem freedA_no (a : List Act6) (x : Act6) (h : x.2.2.1 ≠ 8 ∨ x.2.2.2.1 ≠ 1) : freedA (a ++ [x]) = freedA a := by
  rw [freedA_one, if_neg (fun q => by rcases h with h | h; exact h q.1; exact h q.2), List.append_nil]
set_option maxHeartbeats 1000000 in
theorem tic_lock (hcalls : ∀ t, t < n → calls t = lockL times) (hcap : n * (times + 1) ≤ 900) (hW : WfK tickF n calls S) (h : TicI n times calls S a e) (ht : t < n) (he : (S.th t).en = false) (hsl : slK S t = false) (s : Int) (hc : (calls t)[(S.th t).k]? = some false) :
    TicI n times calls (doneK 6 t S (S.th t) (tickF.dos false (S.th t).j S.cell (S.th t).r)) (a ++ actD t (tickF.op false (S.th t).j) s S.cell (tickF.dos false (S.th t).j S.cell (S.th t).r)) (e ++ evD t s (tickF.dos false (S.th t).j S.cell (S.th t).r)) ∧ potMT n calls (doneK 6 t S (S.th t) (tickF.dos false (S.th t).j S.cell (S.th t).r)) + 1 ≤ potMT n calls S := by
  have hat := h.at_ t ht
  rw [hc] at hat
  have hjl : (S.th t).j < 6 := (hW.th t ht).j _ hc
  have hD := tic_cap hcalls hW h
  have hU := h.le
  generalize ej : (S.th t).j = j at hjl hat
  have hgi : ∀ q, q < 6 → goK 6 (S.th t) q = { S.th t with j := q } := fun q hq => goK_in hq
  match j, hjl with
  | 0, _ =>
    have hm : (S.cell 0 + 1) % m64 = S.cell 0 + 1 := tick_more (by rw [h.c0]; omega) (by rw [h.c0]; omega)
    have hd : tickF.dos false 0 S.cell (S.th t).r = .mem 0 (S.cell 0 + 1) (some (1, S.cell 0)) := by show DoK.mem 0 ((S.cell 0 + 1) % m64) (some (1, S.cell 0)) = _; rw [hm]
    rw [hd]
    show TicI n times calls (doneK 6 t S (S.th t) (.mem 0 (S.cell 0 + 1) (some (1, S.cell 0)))) (a ++ [(s, (t : Int), 8, 0, S.cell 0, S.cell 0 + 1)]) (e ++ []) ∧ _
    rw [List.append_nil]
    have hth : (doneK 6 t S (S.th t) (.mem 0 (S.cell 0 + 1) (some (1, S.cell 0)))).th = upd S.th t { S.th t with j := 1, r := upd (S.th t).r 1 (S.cell 0) } := by show upd S.th t { goK 6 (S.th t) ((S.th t).j + 1) with r := _ } = _; rw [ej, hgi 1 (by decide)]
    have hc0 : (doneK 6 t S (S.th t) (.mem 0 (S.cell 0 + 1) (some (1, S.cell 0)))).cell 0 = S.cell 0 + 1 := by show upd S.cell 0 (S.cell 0 + 1) 0 = _; exact upd_same _ _ _
    have hc1 : (doneK 6 t S (S.th t) (.mem 0 (S.cell 0 + 1) (some (1, S.cell 0)))).cell 1 = S.cell 1 := by show upd S.cell 0 (S.cell 0 + 1) 1 = _; exact upd_ne _ _ (by decide)
    refine ⟨tic_draw (x' := { S.th t with j := 1, r := upd (S.th t).r 1 (S.cell 0) }) h ht hc ej hsl hth rfl rfl (by show upd (S.th t).r 1 (S.cell 0) 1 = _; exact upd_same _ _ _) hc0 hc1 rfl (by rw [drewA_one, if_pos ⟨rfl, rfl⟩]) (freedA_no _ _ (.inr (by show (0 : Int) ≠ 1; decide))), ?_⟩
    refine potMT_same ht hth hc1 (fun u _ => rfl) (potTT_step rfl he he ?_)
    rw [hc]
    show 5 + 1 ≤ locT n (S.cell 1) (some false) (S.th t) (slK S t)
    unfold locT
    rw [ej]
    exact Nat.le_refl _
  | 1, _ =>
    have hd : tickF.dos false 1 S.cell (S.th t).r = .mem 1 (S.cell 1) (some (2, S.cell 1)) := rfl
    rw [hd]
    show TicI n times calls (doneK 6 t S (S.th t) (.mem 1 (S.cell 1) (some (2, S.cell 1)))) (a ++ [(s, (t : Int), 6, 1, S.cell 1, S.cell 1)]) (e ++ []) ∧ _
    rw [List.append_nil]
    have hth : (doneK 6 t S (S.th t) (.mem 1 (S.cell 1) (some (2, S.cell 1)))).th = upd S.th t { S.th t with j := 2, r := upd (S.th t).r 2 (S.cell 1) } := by show upd S.th t { goK 6 (S.th t) ((S.th t).j + 1) with r := _ } = _; rw [ej, hgi 2 (by decide)]
    have hc0 : (doneK 6 t S (S.th t) (.mem 1 (S.cell 1) (some (2, S.cell 1)))).cell 0 = S.cell 0 := by show upd S.cell 1 (S.cell 1) 0 = _; exact upd_ne _ _ (by decide)
    have hc1 : (doneK 6 t S (S.th t) (.mem 1 (S.cell 1) (some (2, S.cell 1)))).cell 1 = S.cell 1 := by show upd S.cell 1 (S.cell 1) 1 = _; exact upd_same _ _ _
    have hr1 : upd (S.th t).r 2 (S.cell 1) 1 = (S.th t).r 1 := upd_ne _ _ (by decide)
    have hr2 : upd (S.th t).r 2 (S.cell 1) 2 = S.cell 1 := upd_same _ _ _
    refine ⟨tic_keep (x' := { S.th t with j := 2, r := upd (S.th t).r 2 (S.cell 1) }) h ht hth rfl hr1 hc0 hc1 (drewA_no _ _ (.inl (by show (6 : Int) ≠ 8; decide))) (freedA_no _ _ (.inl (by show (6 : Int) ≠ 8; decide))) ?_ ?_ (fun q hq => .inl (tic_nt hsl q hq)) (.inr fun q => by rw [hc] at q; cases q), ?_⟩
    · rw [hc, ej]; simp [hasT]
    · rw [hc]
      refine ⟨fun _ => by show _ ≤ upd (S.th t).r 2 (S.cell 1) 1; rw [hr1]; exact hat.1 (by decide), fun _ => by show upd (S.th t).r 2 (S.cell 1) 2 ≤ _; rw [hr2]; exact Int.le_refl _, fun q => (by cases q), fun q => (by cases q)⟩
    · refine potMT_same ht hth hc1 (fun u _ => rfl) (potTT_step rfl he he ?_)
      rw [hc]
      show (if upd (S.th t).r 2 (S.cell 1) 2 = S.cell 1 then 4 else 8) + 1 ≤ locT n (S.cell 1) (some false) (S.th t) (slK S t)
      rw [if_pos hr2]
      unfold locT
      rw [ej]
      exact Nat.le_refl _
  | 2, _ =>
    by_cases hq : (S.th t).r 2 = (S.th t).r 1
    · have hd : tickF.dos false 2 S.cell (S.th t).r = .goto 5 := if_pos hq
      rw [hd]
      show TicI n times calls (doneK 6 t S (S.th t) (.goto 5)) (a ++ []) (e ++ []) ∧ _
      rw [List.append_nil, List.append_nil]
      have hth : (doneK 6 t S (S.th t) (.goto 5)).th = upd S.th t { S.th t with j := 5 } := by show upd S.th t (goK 6 (S.th t) 5) = _; rw [hgi 5 (by decide)]
      refine ⟨tic_keep (x' := { S.th t with j := 5 }) h ht hth rfl rfl rfl rfl rfl rfl ?_ ?_ (fun q hq => .inl (tic_nt hsl q hq)) (.inr fun q => by rw [hc] at q; cases q), ?_⟩
      · rw [hc, ej]; simp [hasT]
      · rw [hc]
        have g1 := hat.1 (by decide)
        have g2 := hat.2.1 rfl
        exact ⟨fun _ => g1, fun q => (by cases q), fun q => (by cases q), fun _ => by show (S.th t).r 1 = _; omega⟩
      · refine potMT_same ht hth rfl (fun u _ => rfl) (potTT_step rfl he he ?_)
        rw [hc]
        show 1 + 1 ≤ locT n (S.cell 1) (some false) (S.th t) (slK S t)
        unfold locT
        rw [ej]
        show 2 ≤ if (S.th t).r 2 = S.cell 1 then 4 else 8
        split <;> decide
    · have hd : tickF.dos false 2 S.cell (S.th t).r = .next := if_neg hq
      rw [hd]
      show TicI n times calls (doneK 6 t S (S.th t) .next) (a ++ []) (e ++ []) ∧ _
      rw [List.append_nil, List.append_nil]
      have hth : (doneK 6 t S (S.th t) .next).th = upd S.th t { S.th t with j := 3 } := by show upd S.th t (goK 6 (S.th t) ((S.th t).j + 1)) = _; rw [ej, hgi 3 (by decide)]
      refine ⟨tic_keep (x' := { S.th t with j := 3 }) h ht hth rfl rfl rfl rfl rfl rfl ?_ ?_ (fun q hq => .inl (tic_nt hsl q hq)) (.inr fun q => by rw [hc] at q; cases q), ?_⟩
      · rw [hc, ej]; simp [hasT]
      · rw [hc]
        exact ⟨fun _ => hat.1 (by decide), fun q => (by cases q), fun q => ⟨hat.2.1 rfl, hq⟩, fun q => (by cases q)⟩
      · refine potMT_same ht hth rfl (fun u _ => rfl) (potTT_step rfl he he ?_)
        rw [hc]
        show (if (S.th t).r 2 = S.cell 1 then 3 else 7) + 1 ≤ locT n (S.cell 1) (some false) (S.th t) (slK S t)
        unfold locT
        rw [ej]
        show _ ≤ if (S.th t).r 2 = S.cell 1 then 4 else 8
        split <;> decide
  | 3, _ =>
    have g3 := hat.2.2.1 rfl
    by_cases hq : S.cell 1 = (S.th t).r 2
    · have hd : tickF.dos false 3 S.cell (S.th t).r = .sleep 1 := if_pos hq
      rw [hd]
      show TicI n times calls (doneK 6 t S (S.th t) (.sleep 1)) (a ++ []) (e ++ []) ∧ _
      rw [List.append_nil, List.append_nil]
      have hth : (doneK 6 t S (S.th t) (.sleep 1)).th = upd S.th t { S.th t with j := 4 } := by show upd S.th t (goK 6 (S.th t) ((S.th t).j + 1)) = _; rw [ej, hgi 4 (by decide)]
      have hlot : (doneK 6 t S (S.th t) (.sleep 1)).lot = S.lot ++ [(t, 1)] := rfl
      refine ⟨tic_keep (x' := { S.th t with j := 4 }) h ht hth rfl rfl rfl rfl rfl rfl ?_ ?_ (fun q hq => ?_) (.inr fun q => by rw [hc] at q; cases q), ?_⟩
      · rw [hc, ej]; simp [hasT]
      · rw [hc]
        exact ⟨fun _ => hat.1 (by decide), fun q => (by cases q), fun q => (by cases q), fun q => (by cases q)⟩
      · rw [hlot] at hq
        rcases List.mem_append.1 hq with hq | hq
        · exact .inl (tic_nt hsl q hq)
        · exact .inr ⟨List.mem_singleton.1 hq, hc, rfl, by show (S.th t).r 1 ≠ _; omega⟩
      · refine potMT_same ht hth rfl (fun u hu => slK_app hlot hu) (potTT_step rfl he he ?_)
        rw [hc, slK_self hlot]
        show 2 + 1 ≤ locT n (S.cell 1) (some false) (S.th t) (slK S t)
        unfold locT
        rw [ej]
        show _ ≤ if (S.th t).r 2 = S.cell 1 then 3 else 7
        split <;> decide
    · have hd : tickF.dos false 3 S.cell (S.th t).r = .next := if_neg hq
      rw [hd]
      show TicI n times calls (doneK 6 t S (S.th t) .next) (a ++ []) (e ++ []) ∧ _
      rw [List.append_nil, List.append_nil]
      have hth : (doneK 6 t S (S.th t) .next).th = upd S.th t { S.th t with j := 4 } := by show upd S.th t (goK 6 (S.th t) ((S.th t).j + 1)) = _; rw [ej, hgi 4 (by decide)]
      refine ⟨tic_keep (x' := { S.th t with j := 4 }) h ht hth rfl rfl rfl rfl rfl rfl ?_ ?_ (fun q hq => .inl (tic_nt hsl q hq)) (.inr fun q => by rw [hc] at q; cases q), ?_⟩
      · rw [hc, ej]; simp [hasT]
      · rw [hc]
        exact ⟨fun _ => hat.1 (by decide), fun q => (by cases q), fun q => (by cases q), fun q => (by cases q)⟩
      · refine potMT_same ht hth rfl (fun u _ => rfl) (potTT_step rfl he he ?_)
        rw [hc]
        show locT n (S.cell 1) (some false) { S.th t with j := 4 } (slK S t) + 1 ≤ locT n (S.cell 1) (some false) (S.th t) (slK S t)
        rw [hsl]
        show 6 + 1 ≤ _
        unfold locT
        rw [ej]
        show _ ≤ if (S.th t).r 2 = S.cell 1 then 3 else 7
        rw [if_neg (fun q => hq q.symm)]
        decide
  | 4, _ =>
    have hd : tickF.dos false 4 S.cell (S.th t).r = .goto 1 := rfl
    rw [hd]
    show TicI n times calls (doneK 6 t S (S.th t) (.goto 1)) (a ++ []) (e ++ []) ∧ _
    rw [List.append_nil, List.append_nil]
    have hth : (doneK 6 t S (S.th t) (.goto 1)).th = upd S.th t { S.th t with j := 1 } := by show upd S.th t (goK 6 (S.th t) 1) = _; rw [hgi 1 (by decide)]
    refine ⟨tic_keep (x' := { S.th t with j := 1 }) h ht hth rfl rfl rfl rfl rfl rfl ?_ ?_ (fun q hq => .inl (tic_nt hsl q hq)) (.inr fun q => by rw [hc] at q; cases q), ?_⟩
    · rw [hc, ej]; simp [hasT]
    · rw [hc]
      exact ⟨fun _ => hat.1 (by decide), fun q => (by cases q), fun q => (by cases q), fun q => (by cases q)⟩
    · refine potMT_same ht hth rfl (fun u _ => rfl) (potTT_step rfl he he ?_)
      rw [hc]
      show 5 + 1 ≤ locT n (S.cell 1) (some false) (S.th t) (slK S t)
      rw [hsl]
      unfold locT
      rw [ej]
      exact Nat.le_refl _
  | 5, _ =>
    have hr : (S.th t).r 1 = S.cell 1 := hat.2.2.2 rfl
    have hd : tickF.dos false 5 S.cell (S.th t).r = .say 3 ((S.th t).r 1) := by show DoK.say 3 (signed ((S.th t).r 1)) = _; rw [signed_low (by rw [hr, h.c1]; omega)]
    rw [hd]
    show TicI n times calls (doneK 6 t S (S.th t) (.say 3 ((S.th t).r 1))) (a ++ []) (e ++ [(s, 3, (t : Int), (S.th t).r 1)]) ∧ _
    rw [List.append_nil]
    have hth : (doneK 6 t S (S.th t) (.say 3 ((S.th t).r 1))).th = upd S.th t { S.th t with k := (S.th t).k + 1, j := 0 } := by show upd S.th t (goK 6 (S.th t) ((S.th t).j + 1)) = _; rw [ej, goK_out (by decide)]
    refine ⟨tic_say (x' := { S.th t with k := (S.th t).k + 1, j := 0 }) hcalls h ht hc (.inl ⟨rfl, ej⟩) hsl hth rfl rfl rfl rfl rfl rfl s, ?_⟩
    refine potMT_same ht hth rfl (fun u _ => rfl) ?_
    show potTT n (S.cell 1) (calls t) _ (slK S t) + 1 ≤ _
    rw [hsl]
    exact potTT_over rfl rfl he he hc (by unfold locT; rw [ej]; rfl)
end

section
variable {n times : Nat} {calls : Nat → List Bool} {S S' : CS} {t : Nat} {a a' : List Act6} {e : List Ev4} {x' : TK}
set_option maxHeartbeats 1000000 in
theorem tic_unlock (hcalls : ∀ t, t < n → calls t = lockL times) (hcap : n * (times + 1) ≤ 900) (hn : n ≤ 16) (hW : WfK tickF n calls S) (h : TicI n times calls S a e) (ht : t < n) (he : (S.th t).en = false) (hsl : slK S t = false) (s : Int) (hc : (calls t)[(S.th t).k]? = some true) :
    TicI n times calls (doneK 3 t S (S.th t) (tickF.dos true (S.th t).j S.cell (S.th t).r)) (a ++ actD t (tickF.op true (S.th t).j) s S.cell (tickF.dos true (S.th t).j S.cell (S.th t).r)) (e ++ evD t s (tickF.dos true (S.th t).j S.cell (S.th t).r)) ∧ potMT n calls (doneK 3 t S (S.th t) (tickF.dos true (S.th t).j S.cell (S.th t).r)) + 1 ≤ potMT n calls S := by
  have hat := h.at_ t ht
  rw [hc] at hat
  have hjl : (S.th t).j < 3 := (hW.th t ht).j _ hc
  have hD := tic_cap hcalls hW h
  have hU := h.le
  generalize ej : (S.th t).j = j at hjl hat
  have hgi : ∀ q, q < 3 → goK 3 (S.th t) q = { S.th t with j := q } := fun q hq => goK_in hq
  match j, hjl with
  | 0, _ =>
    have hm : (S.cell 1 + 1) % m64 = S.cell 1 + 1 := tick_more (by rw [h.c1]; omega) (by rw [h.c1]; omega)
    have hd : tickF.dos true 0 S.cell (S.th t).r = .mem 1 (S.cell 1 + 1) (some (1, S.cell 1)) := by show DoK.mem 1 ((S.cell 1 + 1) % m64) (some (1, S.cell 1)) = _; rw [hm]
    rw [hd]
    show TicI n times calls (doneK 3 t S (S.th t) (.mem 1 (S.cell 1 + 1) (some (1, S.cell 1)))) (a ++ [(s, (t : Int), 8, 1, S.cell 1, S.cell 1 + 1)]) (e ++ []) ∧ _
    rw [List.append_nil]
    have hth : (doneK 3 t S (S.th t) (.mem 1 (S.cell 1 + 1) (some (1, S.cell 1)))).th = upd S.th t { S.th t with j := 1, r := upd (S.th t).r 1 (S.cell 1) } := by show upd S.th t { goK 3 (S.th t) ((S.th t).j + 1) with r := _ } = _; rw [ej, hgi 1 (by decide)]
    have hc0 : (doneK 3 t S (S.th t) (.mem 1 (S.cell 1 + 1) (some (1, S.cell 1)))).cell 0 = S.cell 0 := by show upd S.cell 1 (S.cell 1 + 1) 0 = _; exact upd_ne _ _ (by decide)
    have hc1 : (doneK 3 t S (S.th t) (.mem 1 (S.cell 1 + 1) (some (1, S.cell 1)))).cell 1 = S.cell 1 + 1 := by show upd S.cell 1 (S.cell 1 + 1) 1 = _; exact upd_same _ _ _
    refine ⟨tic_free (x' := { S.th t with j := 1, r := upd (S.th t).r 1 (S.cell 1) }) h ht hc ej hsl hth rfl rfl (by show upd (S.th t).r 1 (S.cell 1) 1 = _; exact upd_same _ _ _) hc0 hc1 rfl (drewA_no _ _ (.inr (by show (1 : Int) ≠ 0; decide))) (by rw [freedA_one, if_pos ⟨rfl, rfl⟩]), ?_⟩
    refine potMT_moves ht hth (fun u => .inr rfl) (potTT_step rfl he he ?_)
    rw [hc]
    show 4 * n + 3 + (4 * n + 1) ≤ locT n (S.cell 1) (some true) (S.th t) (slK S t)
    unfold locT
    rw [ej]
    show _ ≤ 8 * n + 6
    omega
  | 1, _ =>
    have hd : tickF.dos true 1 S.cell (S.th t).r = .wake 1 16 := rfl
    rw [hd]
    show TicI n times calls (doneK 3 t S (S.th t) (.wake 1 16)) (a ++ []) (e ++ []) ∧ _
    rw [List.append_nil, List.append_nil]
    have hth : (doneK 3 t S (S.th t) (.wake 1 16)).th = upd S.th t { S.th t with j := 2 } := by show upd S.th t (goK 3 (S.th t) ((S.th t).j + 1)) = _; rw [ej, hgi 2 (by decide)]
    have hlot : (doneK 3 t S (S.th t) (.wake 1 16)).lot = [] := by
      show wakeK S.lot 1 16 = []
      exact wake_all _ _ (fun q hq => (h.lot q hq).1) (Nat.le_trans (lot_few hW.low hW.once) hn)
    refine ⟨tic_keep (x' := { S.th t with j := 2 }) h ht hth rfl rfl rfl rfl rfl rfl ?_ ?_ (fun q hq => by rw [hlot] at hq; cases hq) (.inl hlot), ?_⟩
    · rw [hc, ej]; simp [hasT]
    · rw [hc]
      exact fun q => by cases q
    · refine potMT_moves ht hth (fun u => .inl rfl) (potTT_step rfl he he ?_)
      rw [hc]
      show 1 + (4 * n + 1) ≤ locT n (S.cell 1) (some true) (S.th t) (slK S t)
      unfold locT
      rw [ej]
      show _ ≤ 4 * n + 3
      omega
  | 2, _ =>
    obtain ⟨w, g1, g2⟩ := h.last t ht (.inr hc)
    have g3 := (List.getElem?_eq_some_iff.1 (posOf_mem.1 (List.mem_of_getElem? g1))).1
    have hd : tickF.dos true 2 S.cell (S.th t).r = .say 3 ((S.th t).r 1) := by show DoK.say 3 (signed ((S.th t).r 1)) = _; rw [signed_low (by rw [g2]; omega)]
    rw [hd]
    show TicI n times calls (doneK 3 t S (S.th t) (.say 3 ((S.th t).r 1))) (a ++ []) (e ++ [(s, 3, (t : Int), (S.th t).r 1)]) ∧ _
    rw [List.append_nil]
    have hth : (doneK 3 t S (S.th t) (.say 3 ((S.th t).r 1))).th = upd S.th t { S.th t with k := (S.th t).k + 1, j := 0 } := by show upd S.th t (goK 3 (S.th t) ((S.th t).j + 1)) = _; rw [ej, goK_out (by decide)]
    refine ⟨tic_say (x' := { S.th t with k := (S.th t).k + 1, j := 0 }) hcalls h ht hc (.inr ⟨rfl, ej⟩) hsl hth rfl rfl rfl rfl rfl rfl s, ?_⟩
    refine potMT_same ht hth rfl (fun u _ => rfl) ?_
    show potTT n (S.cell 1) (calls t) _ (slK S t) + 1 ≤ _
    rw [hsl]
    exact potTT_over rfl rfl he he hc (by unfold locT; rw [ej]; rfl)
theorem tic_step (hcalls : ∀ t, t < n → calls t = lockL times) (hcap : n * (times + 1) ≤ 900) (hn : n ≤ 16) (hW : WfK tickF n calls S) (h : TicI n times calls S a e) (ht : t < n) (he : (S.th t).en = false) (hsl : slK S t = false) (s : Int) :
    TicI n times calls (stepK tickF calls t S) (a ++ actsK tickF calls t S s) (e ++ evsK tickF calls t S s) ∧ potMT n calls (stepK tickF calls t S) + 1 ≤ potMT n calls S := by
  cases hc : (calls t)[(S.th t).k]? with
  | none =>
    rw [stepK_end hc, actsK_end hc, evsK_end hc, List.append_nil, List.append_nil]
    refine ⟨tic_end h ht hc, potMT_same (x' := { S.th t with en := true }) ht rfl rfl (fun u _ => rfl) ?_⟩
    unfold potTT
    rw [he, if_pos rfl, if_neg (by decide)]
    omega
  | some c =>
    rw [stepK_eq hc, actsK_eq hc, evsK_eq hc]
    cases c with
    | false => exact tic_lock hcalls hcap hW h ht he hsl s hc
    | true => exact tic_unlock hcalls hcap hn hW h ht he hsl s hc
theorem slK_pokeT {u : Nat} (h : u ≠ t) : slK (pokeK t S) u = slK S u := by
  unfold slK pokeK
  show (S.lot.eraseP fun s => s.1 == t).any _ = S.lot.any _
  induction S.lot with
  | nil => rfl
  | cons s l ih =>
    rw [List.eraseP_cons]
    by_cases q : s.1 = t
    · have q1 : (s.1 == t) = true := by rw [q]; exact beq_self_eq_true t
      have q2 : (s.1 == u) = false := by rw [Bool.eq_false_iff]; intro g; exact h (by rw [← q, beq_iff_eq.1 g])
      rw [q1, List.any_cons, q2, Bool.false_or]
      rfl
    · have q1 : (s.1 == t) = false := by rw [Bool.eq_false_iff]; exact fun g => q (beq_iff_eq.1 g)
      rw [q1]
      show (s :: l.eraseP fun s => s.1 == t).any _ = _
      rw [List.any_cons, List.any_cons, ih]
theorem potMT_poke (ht : t < n) : potMT n calls (pokeK t S) ≤ potMT n calls S + 4 := by
  have := sumN_shift (n := n) (t := t) (a := 0) (b := 4) (f := fun u => potTT n ((pokeK t S).cell 1) (calls u) ((pokeK t S).th u) (slK (pokeK t S) u)) (g := fun u => potTT n (S.cell 1) (calls u) (S.th u) (slK S u)) ht (fun u hu hne => by rw [slK_pokeT hne]; rfl) (potTT_any n (S.cell 1) (S.cell 1) (calls t) (S.th t) (slK S t) (slK (pokeK t S) t) (.inl rfl))
  unfold potMT
  omega
end
end Go.Proofs.YtkhaeabbbhfloaaDoor

namespace Go.Proofs.YtkhaeabbbhfloaaDoor
set_option maxRecDepth 100000
set_option linter.unusedVariables false
set_option linter.unusedSimpArgs false

def ticK (n times : Nat) (calls : Nat → List Bool) (hcalls : ∀ t, t < n → calls t = lockL times) (hcap : n * (times + 1) ≤ 900) (hn : n ≤ 16) : KindF tickF n calls (fun c => ([0, 0] : List Int).getD c 0) where
  I := TicI n times calls
  pot := potMT n calls
  pk := 4
  init := tic_new hcalls rfl rfl
  step S a e s t hW _ h ht he hs := tic_step hcalls hcap hn hW h ht he hs s
  poke S a e t hW h ht hs := ⟨tic_poke h t, potMT_poke ht⟩
theorem wT_sum (n : Nat) : ∀ l : List Bool, (l.map (wT n)).sum ≤ l.length * (8 * n + 6)
  | [] => by simp
  | b :: l => by
    rw [List.map_cons, List.sum_cons, List.length_cons, Nat.succ_mul]
    have := wT_sum n l
    have : wT n b ≤ 8 * n + 6 := by cases b <;> simp [wT]
    omega
theorem ticK_pot {n times : Nat} {calls : Nat → List Bool} (hcalls : ∀ t, t < n → calls t = lockL times) (hcap : n * (times + 1) ≤ 900) (hn : n ≤ 16) (hn8 : n ≤ 8) (htimes : times ≤ 5) : (ticK n times calls hcalls hcap hn).pot (newK fun c => ([0, 0] : List Int).getD c 0) ≤ 5700 := by
  have h4 : (sumN n fun u => potTT n ((newK fun c => ([0, 0] : List Int).getD c 0).cell 1) (calls u) ((newK fun c => ([0, 0] : List Int).getD c 0).th u) (slK (newK fun c => ([0, 0] : List Int).getD c 0) u)) ≤ sumN n fun _ => 701 := sumN_le fun u hu => by
    have h0 : ∀ o, locT n 0 o (⟨0, 0, false, fun _ => 0⟩ : TK) (slK (newK fun c => ([0, 0] : List Int).getD c 0) u) = match o with | none => 0 | some b => wT n b := fun o => by
      unfold locT
      cases o with
      | none => rfl
      | some b => cases b <;> rfl
    have hl : (calls u).length ≤ 10 := by rw [hcalls u hu]; unfold lockL; simp; omega
    have hw := wT_sum n (calls u)
    have h3 : (calls u).length * (8 * n + 6) ≤ 10 * 70 := Nat.mul_le_mul hl (by omega)
    show (if false = true then 0 else 1 + locT n 0 (calls u)[0]? ⟨0, 0, false, fun _ => 0⟩ _ + (((calls u).drop 1).map (wT n)).sum) ≤ 701
    rw [if_neg (by decide), h0]
    cases hc : calls u with
    | nil => simp
    | cons b l =>
      rw [hc, List.map_cons, List.sum_cons] at hw
      rw [hc] at h3
      simp only [List.getElem?_cons_zero, List.drop_succ_cons, List.drop_zero]
      omega
  rw [sumN_const] at h4
  show potMT _ _ _ ≤ _
  unfold potMT
  have : n * 701 ≤ 8 * 701 := Nat.mul_le_mul_right _ hn8
  omega
section
variable {n times : Nat} {calls : Nat → List Bool} {S : CS} {a : List Act6} {e : List Ev4}
/-- In the end each ticket was told to one, twice, and they rise. -/
theorem tic_told (hcalls : ∀ t, t < n → calls t = lockL times) (hW : WfK tickF n calls S) (h : TicI n times calls S a e) (hs : ∀ t, t < n → (S.th t).en = true ∨ slK S t = true) :
    (∀ u, u < n → (posOf (drewA a) u).length = times ∧ ansOf e u = (posOf (drewA a) u).flatMap fun (w : Nat) => [(w : Int), (w : Int)]) ∧ (drewA a).length = n * times := by
  obtain ⟨h1, h2, h3⟩ := tic_still hcalls hW h hs
  refine ⟨fun u hu => ?_, h2⟩
  obtain ⟨he, hk⟩ := h1 u hu
  have hnone := (hW.th u hu).fin he
  have hp : (posOf (drewA a) u).length = times := by
    rw [h.pos u hu]
    unfold drawnT
    rw [if_neg (by rw [hnone]; rintro ((⟨q, _⟩ | ⟨q, _⟩) | q) <;> cases q), hk]
    omega
  refine ⟨hp, ?_⟩
  have hl : (ansOf e u).length = 2 * times := by rw [h.anl u hu, hk]
  have key : ∀ (l : List Nat) (m : List Int), m.length = 2 * l.length → (∀ i, i < 2 * l.length → ∃ w : Nat, l[i / 2]? = some w ∧ m[i]? = some (w : Int)) → m = l.flatMap fun (w : Nat) => [(w : Int), (w : Int)] := by
    intro l
    induction l with
    | nil =>
      intro m hm _
      exact List.eq_nil_of_length_eq_zero (by simpa using hm)
    | cons x l ih =>
      intro m hm hx
      obtain ⟨y, z, m', rfl⟩ : ∃ y z m', m = y :: z :: m' := by
        cases m with
        | nil => rw [List.length_nil, List.length_cons] at hm; omega
        | cons y m =>
          cases m with
          | nil => rw [List.length_cons, List.length_nil, List.length_cons] at hm; omega
          | cons z m => exact ⟨y, z, m, rfl⟩
      rw [List.length_cons] at hx
      obtain ⟨w0, a0, b0⟩ := hx 0 (by omega)
      obtain ⟨w1, a1, b1⟩ := hx 1 (by omega)
      have a0 : some x = some w0 := a0
      have b0 : some y = some (w0 : Int) := b0
      have a1 : some x = some w1 := a1
      have b1 : some z = some (w1 : Int) := b1
      injection a0 with a0
      injection b0 with b0
      injection a1 with a1
      injection b1 with b1
      subst a0 a1
      rw [List.flatMap_cons, b0, b1, ← ih m' (by simp only [List.length_cons] at hm; omega) (fun i hi => ?_)]
      · rfl
      · obtain ⟨w, g1, g2⟩ := hx (i + 2) (by omega)
        have e1 : (i + 2) / 2 = i / 2 + 1 := by omega
        rw [e1, List.getElem?_cons_succ] at g1
        rw [List.getElem?_cons_succ, List.getElem?_cons_succ] at g2
        exact ⟨w, g1, g2⟩
  refine key _ _ (by rw [hl, hp]) (fun i hi => ?_)
  rw [hp] at hi
  exact h.ans u hu i (by rw [hk]; exact hi)
end
end Go.Proofs.YtkhaeabbbhfloaaDoor
