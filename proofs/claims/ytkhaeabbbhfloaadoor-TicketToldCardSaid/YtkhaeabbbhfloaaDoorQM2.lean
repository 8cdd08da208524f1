/-
  A mutex, when none can go on: all are at their ends, and it is free A mutex, bounded: how many steps there can be
-/
import Derived.Test.YtkhaeabbbhfloaaDoorQM
namespace Go.Proofs.YtkhaeabbbhfloaaDoor
set_option maxRecDepth 100000
set_option linter.unusedVariables false
set_option linter.unusedSimpArgs false

section
variable {n times : Nat} {calls : Nat → List Bool} {S S' : CS} {t : Nat} {a : List Act6}
theorem mut_poke (h : MutI n calls S a) (t : Nat) : MutI n calls (pokeK t S) a := ⟨h.at_, h.cell, h.one⟩
theorem mut_new (hcalls : ∀ t, t < n → calls t = lockL times) {c0 : Nat → Int} (hc : c0 0 = 0) : MutI n calls (newK c0) [] := by
  refine ⟨fun t ht c _ => atM_zero c _, .inl hc, .inl ⟨hc, .nil, fun t ht ⟨c, q1, q2⟩ => ?_⟩⟩
  have q1 : (calls t)[0]? = some c := q1
  have q2 : ownM c 0 (fun _ => 0) := q2
  obtain ⟨_, q3⟩ := lockL_at (by rw [← hcalls t ht]; exact q1)
  rw [q3] at q2
  simp [ownM] at q2
theorem napM_new (c0 : Nat → Int) : NapM n calls (newK c0) := ⟨fun s hs => (by cases hs), fun t _ hs => (by cases hs), fun ⟨t, _, hs⟩ => (by cases hs)⟩
theorem mut_still (hcalls : ∀ t, t < n → calls t = lockL times) (hW : WfK mutexF n calls S) (hI : MutI n calls S a) (hN : NapM n calls S) (hs : ∀ t, t < n → stillK S t) : S.cell 0 = 0 ∧ ∀ t, t < n → (S.th t).en = true ∧ (S.th t).k = 2 * times := by
  have ended : ∀ t, t < n → (S.th t).en = true → (calls t)[(S.th t).k]? = none := fun t ht he => (hW.th t ht).fin he
  have noOwn : ∀ t, t < n → ¬ ownT calls S t := fun t ht ⟨c, q1, q2⟩ => by
    rcases hs t ht with he | he
    · rw [ended t ht he] at q1; cases q1
    · obtain ⟨q3, q4⟩ := hN.nap t ht he
      rw [q3] at q1
      injection q1 with q1
      rw [← q1, q4] at q2
      simp [ownM] at q2
  have hcell : S.cell 0 = 0 := by
    rcases hI.one with ⟨h1, _⟩ | ⟨_, u, hu, _, h3, _⟩
    · exact h1
    · exact absurd h3 (noOwn u hu)
  have noSleep : ∀ t, t < n → slK S t = false := fun t ht => by
    cases e : slK S t with
    | false => rfl
    | true =>
      exfalso
      rcases hN.see ⟨t, ht, e⟩ with q | ⟨u, hu, q1, d, q2, q3⟩
      · omega
      · rcases hs u hu with he | he
        · rw [ended u hu he] at q2; cases q2
        · rw [he] at q1; cases q1
  refine ⟨hcell, fun t ht => ?_⟩
  rcases hs t ht with he | he
  · refine ⟨he, ?_⟩
    have h1 := List.getElem?_eq_none_iff.1 (ended t ht he)
    have h2 := (hW.th t ht).k
    have h3 : (calls t).length = 2 * times := by rw [hcalls t ht]; unfold lockL; simp
    omega
  · rw [noSleep t ht] at he; cases he

end
end Go.Proofs.YtkhaeabbbhfloaaDoor

namespace Go.Proofs.YtkhaeabbbhfloaaDoor
set_option maxRecDepth 100000
set_option linter.unusedVariables false
set_option linter.unusedSimpArgs false

theorem mutex_say {c : Bool} {j : Nat} {cell r : Nat → Int} {w v : Int} (hj : j < (mutex0 c).length) (q : relD ((mutex0 c).getD j default) cell r = .say w v) : j + 1 = (mutex0 c).length := by
  have hgood : (mutex0 c).all (goodIn 1 (mutex0 c).length) = true := by cases c <;> rfl
  have hsays : (mutex0 c).dropLast.all (fun x => decide (x.1 ≠ 16)) = true := by cases c <;> rfl
  have h16 := relD_say q (all_getD hgood hj)
  by_cases e1 : j + 1 = (mutex0 c).length
  · exact e1
  · exfalso
    have hd : j < (mutex0 c).dropLast.length := by rw [List.length_dropLast]; omega
    have := of_decide_eq_true (all_getD hsays hd)
    rw [List.getD_eq_getElem?_getD, List.getElem?_dropLast, if_pos (by omega), ← List.getD_eq_getElem?_getD] at this
    exact this h16
/-- How many more steps of its call there can be, where nobody else changes the cell. -/
def locU (n : Nat) (v : Int) (c : Bool) (j : Nat) (r : Nat → Int) (sl : Bool) : Nat :=
  match c, j with
  | false, 0 => 14 * n + 12
  | false, 1 => 14 * n + 11
  | false, 2 => 14 * n + 10
  | false, 3 => 14 * n + 9
  | false, 4 => if r 3 = 1 then 2 else 14 * n + 8
  | false, 5 => 14 * n + 7
  | false, 6 => 14 * n + if r 1 = v then 6 else 11
  | false, 7 => 14 * n + if r 1 = v ∧ v ≠ 0 then 5 else 10
  | false, 8 => 14 * n + if v = 1 then 4 else 9
  | false, 9 => if r 3 = 1 then 14 * n + (if v = 2 then 3 else 10) else 14 * n + 8
  | false, 10 => 14 * n + if v = 2 then 2 else 9
  | false, 11 => 14 * n + if sl then 1 else 8
  | false, 12 => 14 * n + if v = 0 then 3 else 9
  | false, 13 => if r 3 = 0 then 14 * n + 8 else 2
  | false, _ => 1
  | true, 0 => 7 * n + 14
  | true, 1 => 7 * n + 13
  | true, 2 => 7 * n + if r 1 = v then 12 else 15
  | true, 3 => if r 3 = 0 then 7 * n + 14 else 11
  | true, 4 => 10
  | true, 5 => 2
  | true, 6 => 9
  | true, _ => 1
theorem locU_any (n : Nat) (v v' : Int) (c : Bool) (j : Nat) (r : Nat → Int) (sl sl' : Bool) (h : v = v' ∨ sl = sl') (hj : sl ≠ sl' → j = 11) : locU n v' c j r sl' ≤ locU n v c j r sl + 7 := by
  by_cases e : sl = sl'
  · subst e
    unfold locU
    split <;> (try split) <;> (try split) <;> (try split) <;> first | omega | simp_all
  · obtain rfl : v = v' := h.resolve_right e
    have := hj e
    subst this
    cases c <;> simp only [locU] <;> (try split) <;> (try split) <;> omega
/-- What is kept ready while nobody is known to wait. -/
def readyU (n : Nat) (v : Int) : Nat := if v = 1 then 7 * n else 0
def PotD (n : Nat) (c : Bool) (j : Nat) (r : Nat → Int) (v : Int) : DoK → Prop
  | .set i w => locU n v c (j + 1) (upd r i w) false + 1 ≤ locU n v c j r false
  | .mem _ now (some q) => (now = v ∧ locU n v c (j + 1) (upd r q.1 q.2) false + 1 ≤ locU n v c j r false) ∨ (locU n now c (j + 1) (upd r q.1 q.2) false ≤ locU n v c j r false ∧ locU n now c (j + 1) (upd r q.1 q.2) false + 7 * n + readyU n now + 1 ≤ locU n v c j r false + 7 + readyU n v)
  | .mem _ _ none => False
  | .goto k => locU n v c k r false + 1 ≤ locU n v c j r false
  | .next => locU n v c (j + 1) r false + 1 ≤ locU n v c j r false
  | .sleep _ => locU n v c (j + 1) r true + 1 ≤ locU n v c j r false
  | .wake _ _ => locU n v c (j + 1) r false + 8 ≤ locU n v c j r false
  | .say _ _ => locU n v c j r false = 1
section
variable {n j : Nat} {r : Nat → Int} {cell : Nat → Int} {c : Bool}
theorem lock_pot (hj : j < 15) (h : AtM false j r) (hc : cell 0 = 0 ∨ cell 0 = 1 ∨ cell 0 = 2) : PotD n false j r (cell 0) (relD ((mutex0 false).getD j default) cell r) := by
  obtain ⟨h5, h6, h4, h3⟩ := h
  match j, hj with
  | 0, _ => exact Nat.le_refl _
  | 1, _ => exact Nat.le_refl _
  | 2, _ => exact Nat.le_refl _
  | 3, _ =>
    have h5 := h5 (by decide)
    have h6 := h6 (by decide)
    show PotD n false 3 r (cell 0) (if cell 0 = r 5 then .mem 0 (r 6) (some (3, 1)) else .mem 0 (cell 0) (some (3, 0)))
    split
    · next e =>
      have e : cell 0 = 0 := by omega
      rw [h6, e]
      right
      simp [locU, readyU, upd]
      omega
    · left
      simp [locU, upd]
  | 4, _ =>
    show PotD n false 4 r (cell 0) (if r 3 = 1 then .goto 14 else .next)
    split
    · next e => simp [PotD, locU, e]
    · next e => simp [PotD, locU, e]
  | 5, _ =>
    refine .inl ⟨rfl, ?_⟩
    show locU n (cell 0) false 6 (upd r 1 (cell 0)) false + 1 ≤ 14 * n + 7
    simp [locU, upd]
  | 6, _ =>
    show PotD n false 6 r (cell 0) (if r 1 = 0 then .goto 12 else .next)
    split
    · next e =>
      simp only [PotD, locU, e]
      split <;> split <;> omega
    · next e =>
      simp only [PotD, locU]
      split <;> split <;> omega
  | 7, _ =>
    show PotD n false 7 r (cell 0) (if r 1 = 2 then .goto 10 else .next)
    split
    · next e =>
      simp only [PotD, locU, e]
      split <;> split <;> omega
    · next e =>
      simp only [PotD, locU]
      split <;> split <;> omega
  | 8, _ =>
    have h6 := h6 (by decide)
    have h4 := h4 (by decide)
    show PotD n false 8 r (cell 0) (if cell 0 = r 6 then .mem 0 (r 4) (some (3, 1)) else .mem 0 (cell 0) (some (3, 0)))
    split
    · next e =>
      have e : cell 0 = 1 := by omega
      rw [h4, e]
      right
      simp [locU, readyU, upd]
      omega
    · next e =>
      have e : ¬ cell 0 = 1 := by omega
      left
      simp [locU, upd, e]
  | 9, _ =>
    have h3 := h3 (.inr (.inl rfl))
    show PotD n false 9 r (cell 0) (if r 3 = 0 then .goto 5 else .next)
    split
    · next e => simp [PotD, locU, e]
    · next e =>
      have e : r 3 = 1 := by omega
      simp only [PotD, locU, e]
      simp only [if_true]
      split <;> omega
  | 10, _ =>
    have h4 := h4 (by decide)
    show PotD n false 10 r (cell 0) (if cell 0 = r 4 then .sleep 0 else .next)
    split
    · next e =>
      have e : cell 0 = 2 := by omega
      simp [PotD, locU, e]
    · next e =>
      have e : ¬ cell 0 = 2 := by omega
      simp [PotD, locU, e]
  | 11, _ => exact Nat.le_refl _
  | 12, _ =>
    have h5 := h5 (by decide)
    have h4 := h4 (by decide)
    show PotD n false 12 r (cell 0) (if cell 0 = r 5 then .mem 0 (r 4) (some (3, 1)) else .mem 0 (cell 0) (some (3, 0)))
    split
    · next e =>
      have e : cell 0 = 0 := by omega
      rw [h4, e]
      right
      simp [locU, readyU, upd]
      omega
    · next e =>
      have e : ¬ cell 0 = 0 := by omega
      left
      simp [locU, upd, e]
  | 13, _ =>
    show PotD n false 13 r (cell 0) (if r 3 = 0 then .goto 5 else .next)
    split
    · next e => simp [PotD, locU, e]
    · next e => simp [PotD, locU, e]
  | 14, _ => rfl
theorem unlock_pot (hj : j < 8) (h : AtM true j r) (hc : cell 0 = 0 ∨ cell 0 = 1 ∨ cell 0 = 2) (ho : ownM true j r → cell 0 ≠ 0) : PotD n true j r (cell 0) (relD ((mutex0 true).getD j default) cell r) := by
  obtain ⟨h5, h1, h3⟩ := h
  match j, hj with
  | 0, _ => exact Nat.le_refl _
  | 1, _ =>
    refine .inl ⟨rfl, ?_⟩
    show locU n (cell 0) true 2 (upd r 1 (cell 0)) false + 1 ≤ 7 * n + 13
    simp [locU, upd]
  | 2, _ =>
    have h5 := h5 (by decide)
    have ho := ho (.inl (by decide))
    show PotD n true 2 r (cell 0) (if cell 0 = r 1 then .mem 0 (r 5) (some (3, 1)) else .mem 0 (cell 0) (some (3, 0)))
    split
    · next e =>
      rw [h5]
      right
      simp [locU, readyU, upd, e]
      try (split <;> omega)
    · next e =>
      left
      have e : ¬ r 1 = cell 0 := fun q => e q.symm
      simp [locU, upd, e]
  | 3, _ =>
    show PotD n true 3 r (cell 0) (if r 3 = 0 then .goto 1 else .next)
    split
    · next e => simp [PotD, locU, e]
    · next e => simp [PotD, locU, e]
  | 4, _ =>
    show PotD n true 4 r (cell 0) (if r 1 = 2 then .goto 6 else .next)
    split
    · simp [PotD, locU]
    · simp [PotD, locU]
  | 5, _ => simp [PotD, relD, mutex0, locU]
  | 6, _ => simp [PotD, relD, mutex0, locU]
  | 7, _ => rfl
end

def loO (n : Nat) (v : Int) (o : Option Bool) (x : TK) (sl : Bool) : Nat := match o with | none => 0 | some c => locU n v c x.j x.r sl
def wU (n : Nat) : Bool → Nat
  | false => 14 * n + 12
  | true => 7 * n + 14
theorem locU_0 (n : Nat) (v : Int) (c : Bool) (r : Nat → Int) (sl : Bool) : locU n v c 0 r sl = wU n c := by cases c <;> rfl
def potTU (n : Nat) (v : Int) (l : List Bool) (x : TK) (sl : Bool) : Nat := if x.en = true then 0 else 1 + loO n v l[x.k]? x sl + ((l.drop (x.k + 1)).map (wU n)).sum
def potMU (n : Nat) (calls : Nat → List Bool) (S : CS) : Nat := (sumN n fun u => potTU n (S.cell 0) (calls u) (S.th u) (slK S u)) + readyU n (S.cell 0)
theorem potTU_any (n : Nat) (v v' : Int) (l : List Bool) (x : TK) (sl sl' : Bool) (h : v = v' ∨ sl = sl') (hj : sl ≠ sl' → x.j = 11) : potTU n v' l x sl' ≤ potTU n v l x sl + 7 := by
  unfold potTU loO
  split
  · omega
  · split
    · omega
    · next c _ =>
      have := locU_any n v v' c x.j x.r sl sl' h hj
      omega
theorem potTU_step {n : Nat} {v v' : Int} {l : List Bool} {x x' : TK} {c : Bool} {sl sl' : Bool} {d : Nat} (hc : l[x.k]? = some c) (hk : x'.k = x.k) (he : x.en = false) (he' : x'.en = false) (h : locU n v' c x'.j x'.r sl' + d ≤ locU n v c x.j x.r sl) : potTU n v' l x' sl' + d ≤ potTU n v l x sl := by
  unfold potTU loO
  rw [he, he', hk, if_neg (by decide), if_neg (by decide), hc]
  show 1 + locU n v' c x'.j x'.r sl' + _ + d ≤ 1 + locU n v c x.j x.r sl + _
  omega
theorem potTU_over {n : Nat} {v : Int} {l : List Bool} {x x' : TK} (hk : x'.k = x.k + 1) (hj : x'.j = 0) (he : x.en = false) (he' : x'.en = false) {b : Bool} {sl : Bool} (hb : l[x.k]? = some b) (h : locU n v b x.j x.r sl = 1) : potTU n v l x' sl + 1 ≤ potTU n v l x sl := by
  unfold potTU
  rw [he, he', hk, if_neg (by decide), if_neg (by decide), hb]
  have h0 : ∀ o, loO n v o x' sl = match o with | none => 0 | some b => wU n b := fun o => by
    unfold loO
    cases o with
    | none => rfl
    | some b => rw [hj]; exact locU_0 n v b _ _
  rw [h0]
  show _ ≤ 1 + locU n v b x.j x.r sl + _
  rw [h]
  cases hc : l[x.k + 1]? with
  | none =>
    have : l.drop (x.k + 1 + 1) = [] := List.drop_eq_nil_of_le (by have := List.getElem?_eq_none_iff.1 hc; omega)
    rw [this]
    simp
  | some c =>
    have h1 : l.drop (x.k + 1) = c :: l.drop (x.k + 1 + 1) := by
      rw [List.drop_eq_getElem_cons (List.getElem?_eq_some_iff.1 hc).1, (List.getElem?_eq_some_iff.1 hc).2]
    rw [h1]
    simp only [List.map_cons, List.sum_cons]
    omega
section
variable {n times : Nat} {calls : Nat → List Bool} {S S' : CS} {t : Nat} {a : List Act6} {x' : TK}
theorem potMU_same (ht : t < n) (hth : S'.th = upd S.th t x') (hc : S'.cell 0 = S.cell 0) (hl : ∀ u, u ≠ t → slK S' u = slK S u) (hp : potTU n (S.cell 0) (calls t) x' (slK S' t) + 1 ≤ potTU n (S.cell 0) (calls t) (S.th t) (slK S t)) : potMU n calls S' + 1 ≤ potMU n calls S := by
  have : (sumN n fun u => potTU n (S'.cell 0) (calls u) (S'.th u) (slK S' u)) + 1 ≤ (sumN n fun u => potTU n (S.cell 0) (calls u) (S.th u) (slK S u)) + 0 := sumN_shift ht (fun u hu hne => by rw [hc, hth, upd_ne _ _ hne, hl u hne]) (by rw [hc, hth, upd_same]; omega)
  have e : readyU n (S'.cell 0) = readyU n (S.cell 0) := by rw [hc]
  unfold potMU
  rw [e]
  omega
theorem potMU_change {d : Nat} (ht : t < n) (hth : S'.th = upd S.th t x') (hl : S'.lot = S.lot) (hp : potTU n (S'.cell 0) (calls t) x' (slK S t) + d ≤ potTU n (S.cell 0) (calls t) (S.th t) (slK S t)) (hd : 7 * n + readyU n (S'.cell 0) + 1 ≤ d + 7 + readyU n (S.cell 0)) : potMU n calls S' + 1 ≤ potMU n calls S := by
  have := sumN_bulk (n := n) (t := t) (a := d) (b := 7) (f := fun u => potTU n (S'.cell 0) (calls u) (S'.th u) (slK S' u)) (g := fun u => potTU n (S.cell 0) (calls u) (S.th u) (slK S u)) ht (fun u hu hne => by rw [hth, upd_ne _ _ hne, slK_same hl]; exact potTU_any _ _ _ _ _ _ _ (.inr rfl) (fun q => absurd rfl q)) (by rw [hth, upd_same, slK_same hl]; exact hp)
  unfold potMU
  omega
theorem potMU_two {w : Nat} (ht : t < n) (hw : w < n) (hwt : w ≠ t) (hth : S'.th = upd S.th t x') (hc : S'.cell 0 = S.cell 0) (hl : ∀ u, u ≠ w → slK S' u = slK S u) (h11 : slK S' w ≠ slK S w → (S.th w).j = 11) (hp : potTU n (S.cell 0) (calls t) x' (slK S t) + 8 ≤ potTU n (S.cell 0) (calls t) (S.th t) (slK S t)) : potMU n calls S' + 1 ≤ potMU n calls S := by
  have s1 := sumN_shift (n := n) (t := t) (a := 8) (b := 0) (f := fun u => potTU n (S.cell 0) (calls u) (S'.th u) (slK S u)) (g := fun u => potTU n (S.cell 0) (calls u) (S.th u) (slK S u)) ht (fun u hu hne => by rw [hth, upd_ne _ _ hne]) (by rw [hth, upd_same]; omega)
  have s2 := sumN_shift (n := n) (t := w) (a := 0) (b := 7) (f := fun u => potTU n (S.cell 0) (calls u) (S'.th u) (slK S' u)) (g := fun u => potTU n (S.cell 0) (calls u) (S'.th u) (slK S u)) hw (fun u hu hne => by rw [hl u hne]) (by
    have := potTU_any n (S.cell 0) (S.cell 0) (calls w) (S'.th w) (slK S w) (slK S' w) (.inl rfl) (fun q => by rw [hth, upd_ne _ _ hwt]; exact h11 (Ne.symm q))
    omega)
  have e : potMU n calls S' = (sumN n fun u => potTU n (S.cell 0) (calls u) (S'.th u) (slK S' u)) + readyU n (S.cell 0) := by unfold potMU; rw [hc]
  rw [e]
  unfold potMU
  omega
theorem potMU_step (hcalls : ∀ t, t < n → calls t = lockL times) (hW : WfK mutexF n calls S) (hI : MutI n calls S a) (hN : NapM n calls S) (ht : t < n) (he : (S.th t).en = false) (hs : slK S t = false) : potMU n calls (stepK mutexF calls t S) + 1 ≤ potMU n calls S := by
  cases hc : (calls t)[(S.th t).k]? with
  | none =>
    rw [stepK_end hc]
    refine potMU_same (S' := { S with th := upd S.th t { S.th t with en := true } }) (x' := { S.th t with en := true }) ht rfl rfl (fun _ _ => rfl) ?_
    unfold potTU
    rw [if_pos rfl, he, if_neg (by decide)]
    omega
  | some c =>
    have hj : (S.th t).j < (mutex0 c).length := (hW.th t ht).j c hc
    have hA := hI.at_ t ht c hc
    have hne : ownM c (S.th t).j (S.th t).r → S.cell 0 ≠ 0 := fun q => by
      rcases hI.one with ⟨_, _, h3⟩ | ⟨h1, _⟩
      · exact absurd ⟨c, hc, q⟩ (h3 t ht)
      · exact h1
    obtain ⟨hd, hb⟩ : DoneM c (S.th t).j (S.th t).r (S.cell 0) (relD ((mutex0 c).getD (S.th t).j default) S.cell (S.th t).r) ∧ PotD n c (S.th t).j (S.th t).r (S.cell 0) (relD ((mutex0 c).getD (S.th t).j default) S.cell (S.th t).r) := by
      cases c with
      | false => exact ⟨lock_done hj hA hI.cell, lock_pot hj hA hI.cell⟩
      | true => exact ⟨unlock_done hj hA hI.cell hne, unlock_pot hj hA hI.cell hne⟩
    obtain ⟨hnext, hgoto⟩ : ((∀ w v, relD ((mutex0 c).getD (S.th t).j default) S.cell (S.th t).r ≠ .say w v) → (S.th t).j + 1 < (mutex0 c).length) ∧ (∀ k, relD ((mutex0 c).getD (S.th t).j default) S.cell (S.th t).r = .goto k → k < (mutex0 c).length) := mutex_in hj
    have hsay : ∀ w v, relD ((mutex0 c).getD (S.th t).j default) S.cell (S.th t).r = .say w v → (S.th t).j + 1 = (mutex0 c).length := fun w v q => mutex_say hj q
    rw [stepK_eq hc]
    show potMU n calls (doneK (mutex0 c).length t S (S.th t) (relD ((mutex0 c).getD (S.th t).j default) S.cell (S.th t).r)) + 1 ≤ _
    generalize relD ((mutex0 c).getD (S.th t).j default) S.cell (S.th t).r = D at hd hb hnext hgoto hsay
    cases D with
    | set i v =>
      have hn := hnext (fun w v q => by cases q)
      refine potMU_same (S' := doneK (mutex0 c).length t S (S.th t) (.set i v)) (x' := { S.th t with j := (S.th t).j + 1, r := upd (S.th t).r i v }) ht (by show upd S.th t _ = _; rw [goK_in hn]) rfl (fun _ _ => rfl) ?_
      rw [show slK (doneK (mutex0 c).length t S (S.th t) (.set i v)) t = false from hs, hs]
      exact potTU_step hc rfl he he hb
    | mem a' now q =>
      have hn := hnext (fun w v q => by cases q)
      cases q with
      | none => exact absurd hd id
      | some q =>
        obtain ⟨rfl, _, _⟩ := hd
        have hcell : (doneK (mutex0 c).length t S (S.th t) (.mem 0 now (some q))).cell 0 = now := by
          show upd S.cell 0 now 0 = now
          exact upd_same _ _ _
        have hth : (doneK (mutex0 c).length t S (S.th t) (.mem 0 now (some q))).th = upd S.th t { S.th t with j := (S.th t).j + 1, r := upd (S.th t).r q.1 q.2 } := by show upd S.th t _ = _; rw [goK_in hn]
        rcases hb with ⟨hb0, hb⟩ | ⟨hb0, hb⟩
        · refine potMU_same (S' := doneK (mutex0 c).length t S (S.th t) (.mem 0 now (some q))) (x' := { S.th t with j := (S.th t).j + 1, r := upd (S.th t).r q.1 q.2 }) ht hth (by rw [hcell, hb0]) (fun _ _ => rfl) ?_
          rw [show slK (doneK (mutex0 c).length t S (S.th t) (.mem 0 now (some q))) t = false from hs, hs]
          exact potTU_step hc rfl he he hb
        · exact potMU_change (S' := doneK (mutex0 c).length t S (S.th t) (.mem 0 now (some q))) (x' := { S.th t with j := (S.th t).j + 1, r := upd (S.th t).r q.1 q.2 }) (d := locU n (S.cell 0) c (S.th t).j (S.th t).r false - locU n now c ((S.th t).j + 1) (upd (S.th t).r q.1 q.2) false) ht hth rfl (by
            rw [hcell, hs]
            refine potTU_step hc rfl he he ?_
            show locU n now c ((S.th t).j + 1) (upd (S.th t).r q.1 q.2) false + _ ≤ _
            omega) (by rw [hcell]; omega)
    | goto k =>
      have hn := hgoto k rfl
      refine potMU_same (S' := doneK (mutex0 c).length t S (S.th t) (.goto k)) (x' := { S.th t with j := k }) ht (by show upd S.th t _ = _; rw [goK_in hn]) rfl (fun _ _ => rfl) ?_
      rw [show slK (doneK (mutex0 c).length t S (S.th t) (.goto k)) t = false from hs, hs]
      exact potTU_step hc rfl he he hb
    | next =>
      have hn := hnext (fun w v q => by cases q)
      refine potMU_same (S' := doneK (mutex0 c).length t S (S.th t) .next) (x' := { S.th t with j := (S.th t).j + 1 }) ht (by show upd S.th t _ = _; rw [goK_in hn]) rfl (fun _ _ => rfl) ?_
      rw [show slK (doneK (mutex0 c).length t S (S.th t) .next) t = false from hs, hs]
      exact potTU_step hc rfl he he hb
    | sleep a' =>
      have hn := hnext (fun w v q => by cases q)
      have hlot : (doneK (mutex0 c).length t S (S.th t) (.sleep a')).lot = S.lot ++ [(t, a')] := rfl
      refine potMU_same (S' := doneK (mutex0 c).length t S (S.th t) (.sleep a')) (x' := { S.th t with j := (S.th t).j + 1 }) ht (by show upd S.th t _ = _; rw [goK_in hn]) rfl (fun u hu => slK_app hlot hu) ?_
      rw [slK_self hlot, hs]
      exact potTU_step hc rfl he he hb
    | wake a' k =>
      have hn := hnext (fun w v q => by cases q)
      obtain ⟨rfl, rfl, _⟩ := hd
      have hlot : (doneK (mutex0 c).length t S (S.th t) (.wake 0 1)).lot = S.lot.tail := wakeK_first S.lot hN.lot
      have hth : (doneK (mutex0 c).length t S (S.th t) (.wake 0 1)).th = upd S.th t { S.th t with j := (S.th t).j + 1 } := by show upd S.th t _ = _; rw [goK_in hn]
      cases hl : S.lot with
      | nil =>
        rw [hl] at hlot
        refine potMU_same (S' := doneK (mutex0 c).length t S (S.th t) (.wake 0 1)) (x' := { S.th t with j := (S.th t).j + 1 }) ht hth rfl (fun u _ => slK_same (by rw [hlot, hl]; rfl) u) ?_
        rw [slK_same (S := S) (by rw [hlot, hl]; rfl), hs]
        have := potTU_step (v' := S.cell 0) (v := S.cell 0) (x := S.th t) (x' := { S.th t with j := (S.th t).j + 1 }) (sl := false) (sl' := false) (d := 8) hc rfl he he hb
        omega
      | cons s l =>
        rw [hl] at hlot
        have hlot : (doneK (mutex0 c).length t S (S.th t) (.wake 0 1)).lot = l := hlot
        have hs1 : slK S s.1 = true := slK_of (a := s.2) (by rw [hl]; exact .head _)
        have hsn : s.1 < n := hW.low s (by rw [hl]; exact .head _)
        have hst : s.1 ≠ t := fun q => by rw [q, hs] at hs1; cases hs1
        refine potMU_two (S' := doneK (mutex0 c).length t S (S.th t) (.wake 0 1)) (x' := { S.th t with j := (S.th t).j + 1 }) (w := s.1) ht hsn hst hth rfl (fun u hu => ?_) (fun _ => (hN.nap s.1 hsn hs1).2) ?_
        · unfold slK
          rw [hlot, hl, List.any_cons]
          have : (s.1 == u) = false := by rw [Bool.eq_false_iff]; intro g; exact hu (beq_iff_eq.1 g).symm
          rw [this, Bool.false_or]
        · rw [hs]
          exact potTU_step (d := 8) hc rfl he he hb
    | say w v =>
      have hn : ¬ (S.th t).j + 1 < (mutex0 c).length := by have := hsay w v rfl; omega
      refine potMU_same (S' := doneK (mutex0 c).length t S (S.th t) (.say w v)) (x' := { S.th t with k := (S.th t).k + 1, j := 0 }) ht (by show upd S.th t _ = _; rw [goK_out hn]) rfl (fun _ _ => rfl) ?_
      rw [show slK (doneK (mutex0 c).length t S (S.th t) (.say w v)) t = false from hs, hs]
      exact potTU_over (x := S.th t) (x' := { S.th t with k := (S.th t).k + 1, j := 0 }) rfl rfl he he hc hb
theorem potMU_poke (hN : NapM n calls S) (ht : t < n) (hs : slK S t = true) : potMU n calls (pokeK t S) ≤ potMU n calls S + 7 := by
  have := sumN_shift (n := n) (t := t) (a := 0) (b := 7) (f := fun u => potTU n ((pokeK t S).cell 0) (calls u) ((pokeK t S).th u) (slK (pokeK t S) u)) (g := fun u => potTU n (S.cell 0) (calls u) (S.th u) (slK S u)) ht (fun u hu hne => by rw [slK_poke hne]; rfl) (potTU_any n (S.cell 0) (S.cell 0) (calls t) (S.th t) (slK S t) (slK (pokeK t S) t) (.inl rfl) (fun _ => (hN.nap t ht hs).2))
  unfold potMU
  show _ ≤ _ + readyU n (S.cell 0) + 7
  have e : (pokeK t S).cell 0 = S.cell 0 := rfl
  rw [e] at this ⊢
  omega
/-- Each answer ends a call. -/
structure SaidU (n : Nat) (S : CS) (e : List Ev4) : Prop where
  evs : ∀ x ∈ e, ∃ s w : Int, ∃ u : Nat, u < n ∧ x = (s, 3, (u : Int), w)
  len : e.length = sumN n fun u => (S.th u).k
theorem saidU_step (hW : WfK mutexF n calls S) (hI : MutI n calls S a) {e : List Ev4} (h : SaidU n S e) (ht : t < n) (s : Int) : SaidU n (stepK mutexF calls t S) (e ++ evsK mutexF calls t S s) := by
  have keep : ∀ {S' : CS} {x' : TK}, S'.th = upd S.th t x' → x'.k = (S.th t).k → SaidU n S' e := fun {S' x'} h1 h2 => by
    refine ⟨h.evs, ?_⟩
    rw [h.len]
    congr 1
    funext u
    rw [h1]
    by_cases q : u = t
    · subst q; rw [upd_same, h2]
    · rw [upd_ne _ _ q]
  cases hc : (calls t)[(S.th t).k]? with
  | none =>
    rw [stepK_end hc, evsK_end hc, List.append_nil]
    exact keep (x' := { S.th t with en := true }) rfl rfl
  | some c =>
    have hj : (S.th t).j < (mutex0 c).length := (hW.th t ht).j c hc
    have hA := hI.at_ t ht c hc
    have hne : ownM c (S.th t).j (S.th t).r → S.cell 0 ≠ 0 := fun q => by
      rcases hI.one with ⟨_, _, h3⟩ | ⟨h1, _⟩
      · exact absurd ⟨c, hc, q⟩ (h3 t ht)
      · exact h1
    have hd : DoneM c (S.th t).j (S.th t).r (S.cell 0) (relD ((mutex0 c).getD (S.th t).j default) S.cell (S.th t).r) := by
      cases c with
      | false => exact lock_done hj hA hI.cell
      | true => exact unlock_done hj hA hI.cell hne
    obtain ⟨hnext, hgoto⟩ : ((∀ w v, relD ((mutex0 c).getD (S.th t).j default) S.cell (S.th t).r ≠ .say w v) → (S.th t).j + 1 < (mutex0 c).length) ∧ (∀ k, relD ((mutex0 c).getD (S.th t).j default) S.cell (S.th t).r = .goto k → k < (mutex0 c).length) := mutex_in hj
    have hsay : ∀ w v, relD ((mutex0 c).getD (S.th t).j default) S.cell (S.th t).r = .say w v → (S.th t).j + 1 = (mutex0 c).length := fun w v q => mutex_say hj q
    rw [stepK_eq hc, evsK_eq hc]
    show SaidU n (doneK (mutex0 c).length t S (S.th t) (relD ((mutex0 c).getD (S.th t).j default) S.cell (S.th t).r)) (e ++ evD t s (relD ((mutex0 c).getD (S.th t).j default) S.cell (S.th t).r))
    generalize relD ((mutex0 c).getD (S.th t).j default) S.cell (S.th t).r = D at hd hnext hgoto hsay
    cases D with
    | say w v =>
      obtain ⟨rfl, _⟩ := hd
      have hn : ¬ (S.th t).j + 1 < (mutex0 c).length := by have := hsay 3 v rfl; omega
      have hth : (doneK (mutex0 c).length t S (S.th t) (.say 3 v)).th = upd S.th t { S.th t with k := (S.th t).k + 1, j := 0 } := by show upd S.th t _ = _; rw [goK_out hn]
      refine ⟨fun x hx => ?_, ?_⟩
      · rcases List.mem_append.1 hx with hx | hx
        · exact h.evs x hx
        · exact ⟨s, v, t, ht, List.mem_singleton.1 hx⟩
      · rw [List.length_append, h.len]
        have := sumN_one n t (fun u => (S.th u).k) ht
        have e2 : (sumN n fun u => ((doneK (mutex0 c).length t S (S.th t) (.say 3 v)).th u).k) = sumN n fun u => (S.th u).k + if u = t then 1 else 0 := by
          congr 1
          funext u
          rw [hth]
          by_cases q : u = t
          · subst q; rw [upd_same, if_pos rfl]
          · rw [upd_ne _ _ q, if_neg q]; rfl
        rw [e2, this]
        rfl
    | set i v =>
      have hn := hnext (fun w v q => by cases q)
      rw [show evD t s (.set i v) = [] from rfl, List.append_nil]
      exact keep (x' := { S.th t with j := (S.th t).j + 1, r := upd (S.th t).r i v }) (by show upd S.th t _ = _; rw [goK_in hn]) rfl
    | mem a' now q =>
      have hn := hnext (fun w v q => by cases q)
      rw [show evD t s (.mem a' now q) = [] from rfl, List.append_nil]
      cases q with
      | none => exact absurd hd id
      | some q => exact keep (x' := { S.th t with j := (S.th t).j + 1, r := upd (S.th t).r q.1 q.2 }) (by show upd S.th t _ = _; rw [goK_in hn]) rfl
    | goto k =>
      have hn := hgoto k rfl
      rw [show evD t s (.goto k) = [] from rfl, List.append_nil]
      exact keep (x' := { S.th t with j := k }) (by show upd S.th t _ = _; rw [goK_in hn]) rfl
    | next =>
      have hn := hnext (fun w v q => by cases q)
      rw [show evD t s .next = [] from rfl, List.append_nil]
      exact keep (x' := { S.th t with j := (S.th t).j + 1 }) (by show upd S.th t _ = _; rw [goK_in hn]) rfl
    | sleep a' =>
      have hn := hnext (fun w v q => by cases q)
      rw [show evD t s (.sleep a') = [] from rfl, List.append_nil]
      exact keep (x' := { S.th t with j := (S.th t).j + 1 }) (by show upd S.th t _ = _; rw [goK_in hn]) rfl
    | wake a' k =>
      have hn := hnext (fun w v q => by cases q)
      rw [show evD t s (.wake a' k) = [] from rfl, List.append_nil]
      exact keep (x' := { S.th t with j := (S.th t).j + 1 }) (by show upd S.th t _ = _; rw [goK_in hn]) rfl
end
/-- Threads that lock and unlock, so often: all that is kept, and how long it can go on. -/
def mutK (n times : Nat) (calls : Nat → List Bool) (hcalls : ∀ t, t < n → calls t = lockL times) : KindF mutexF n calls (fun c => ([0] : List Int).getD c 0) where
  I S a e := MutI n calls S a ∧ NapM n calls S ∧ SaidU n S e
  pot := potMU n calls
  pk := 7
  init := ⟨mut_new hcalls rfl, napM_new _, (fun x hx => by cases hx), by
    have : (sumN n fun u => ((newK fun c => ([0] : List Int).getD c 0).th u).k) = sumN n fun _ => 0 := rfl
    rw [this, sumN_const]; simp⟩
  step S a e s t hW _ h ht he hs := ⟨⟨mut_step hcalls hW h.1 ht s, napM_step hcalls hW h.1 h.2.1 ht hs, saidU_step hW h.1 h.2.2 ht s⟩, potMU_step hcalls hW h.1 h.2.1 ht he hs⟩
  poke S a e t hW h ht hs := ⟨⟨mut_poke h.1 t, napM_poke h.2.1 hW ht hs, h.2.2.1, h.2.2.2⟩, potMU_poke h.2.1 ht hs⟩
theorem wU_sum (n : Nat) : ∀ l : List Bool, (l.map (wU n)).sum ≤ l.length * (14 * n + 14)
  | [] => by simp
  | b :: l => by
    rw [List.map_cons, List.sum_cons, List.length_cons, Nat.succ_mul]
    have := wU_sum n l
    have : wU n b ≤ 14 * n + 14 := by cases b <;> simp [wU]; omega
    omega
theorem mutK_pot {n times : Nat} {calls : Nat → List Bool} (hcalls : ∀ t, t < n → calls t = lockL times) (hn : n ≤ 8) (htimes : times ≤ 5) : (mutK n times calls hcalls).pot (newK fun c => ([0] : List Int).getD c 0) ≤ 10100 := by
  have h4 : (sumN n fun u => potTU n ((newK fun c => ([0] : List Int).getD c 0).cell 0) (calls u) ((newK fun c => ([0] : List Int).getD c 0).th u) (slK (newK fun c => ([0] : List Int).getD c 0) u)) ≤ sumN n fun _ => 1261 := sumN_le fun u hu => by
    have h0 : ∀ o, loO n 0 o (⟨0, 0, false, fun _ => 0⟩ : TK) (slK (newK fun c => ([0] : List Int).getD c 0) u) = match o with | none => 0 | some b => wU n b := fun o => by
      unfold loO
      cases o with
      | none => rfl
      | some b => exact locU_0 n 0 b _ _
    have hl : (calls u).length ≤ 10 := by rw [hcalls u hu]; unfold lockL; simp; omega
    have hw := wU_sum n (calls u)
    have h3 : (calls u).length * (14 * n + 14) ≤ 10 * 126 := Nat.mul_le_mul hl (by omega)
    show (if false = true then 0 else 1 + loO n 0 (calls u)[0]? ⟨0, 0, false, fun _ => 0⟩ _ + (((calls u).drop 1).map (wU n)).sum) ≤ 1261
    rw [if_neg (by decide), h0]
    cases hc : calls u with
    | nil => simp
    | cons b l =>
      rw [hc, List.map_cons, List.sum_cons] at hw
      rw [hc] at h3
      simp only [List.getElem?_cons_zero, List.drop_succ_cons, List.drop_zero]
      omega
  rw [sumN_const] at h4
  show potMU _ _ _ ≤ _
  unfold potMU
  have : n * 1261 ≤ 8 * 1261 := Nat.mul_le_mul_right _ hn
  have e : readyU n ((newK fun c => ([0] : List Int).getD c 0).cell 0) = 0 := rfl
  rw [e]
  omega
end Go.Proofs.YtkhaeabbbhfloaaDoor
