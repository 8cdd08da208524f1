/-
  Few at a cell: how often cells are loaded where each is awaited by one (Spread, Tourney, Mcs). Few at a cell, where parties meet (Combine); how often all count themselves (Central).
-/
import Derived.Test.YtkhaeabbbhfloaaDoorQH2
namespace Go.Proofs.YtkhaeabbbhfloaaDoor
set_option maxRecDepth 100000
set_option linter.unusedVariables false
set_option linter.unusedSimpArgs false

section
variable {ops : Nat → List BOp} {n nc rounds : Nat} {T : TA ops n nc} {S : BS} {t : Nat}

end
end Go.Proofs.YtkhaeabbbhfloaaDoor

namespace Go.Proofs.YtkhaeabbbhfloaaDoor
set_option maxRecDepth 100000
set_option linter.unusedVariables false
set_option linter.unusedSimpArgs false

section
variable {ops : Nat → List BOp} {n nc rounds : Nat} {T : TA ops n nc} {S : BS} {t : Nat}

theorem nxt_op {l : List BOp} {i j k : Nat} (h : nxt l i = .op j k) : j = i ∧ k = 0 := by
  unfold nxt at h
  split at h
  · injection h with a b; exact ⟨a.symm, b.symm⟩
  · cases h
theorem enter {l : List BOp} {cell : Nat → Int} {x : Th} (hkind : ∀ i, i < l.length → (∃ c k, l.getD i default = .tell c k) ∨ ∃ c, l.getD i default = .await c) (hok : okPh l x.ph) {i k : Nat} (hq : (doTh l rounds cell x).th.ph = .op i k) : (∃ k0, x.ph = .op i k0) ∨ k = 0 := by
  obtain ⟨ph, rd, r1, slp⟩ := x
  unfold doTh at hq
  cases ph with
  | came => exact .inr (nxt_op hq).2
  | less => dsimp only at hq; split at hq <;> cases hq
  | op i' k' =>
    dsimp only at hq
    rcases hkind i' hok.1 with ⟨c, s, e⟩ | ⟨c, e⟩
    · rw [e] at hq
      unfold doOp at hq
      dsimp only at hq
      by_cases h0 : k' = 0
      · rw [if_pos h0] at hq
        injection hq with a b
        subst a
        exact .inl ⟨k', rfl⟩
      · rw [if_neg h0] at hq
        exact .inr (nxt_op hq).2
    · rw [e] at hq
      unfold doOp doAwait at hq
      dsimp only at hq
      by_cases h0 : k' = 0
      · rw [if_pos h0] at hq
        injection hq with a b
        subst a
        exact .inl ⟨k', rfl⟩
      · rw [if_neg h0] at hq
        by_cases h1 : k' = 1
        · rw [if_pos h1] at hq
          left
          dsimp only at hq
          split at hq
          · injection hq with a b; subst a; exact ⟨k', rfl⟩
          · injection hq with a b; subst a; exact ⟨k', rfl⟩
        · rw [if_neg h1] at hq
          by_cases h2 : k' = 2
          · rw [if_pos h2] at hq
            exact .inr (nxt_op hq).2
          · rw [if_neg h2] at hq
            left
            by_cases h3 : k' = 3
            · rw [if_pos h3] at hq
              injection hq with a b; subst a; exact ⟨k', rfl⟩
            · rw [if_neg h3] at hq
              injection hq with a b; subst a; exact ⟨k', rfl⟩
  | _ => cases hq

end
end Go.Proofs.YtkhaeabbbhfloaaDoor

namespace Go.Proofs.YtkhaeabbbhfloaaDoor
set_option maxRecDepth 100000
set_option linter.unusedVariables false
set_option linter.unusedSimpArgs false

def awC : BOp → Option Nat
  | .await c => some c
  | _ => none
def awaits (ops : Nat → List BOp) (n : Nat) : List Nat := (List.range n).flatMap fun t => (ops t).filterMap awC
end Go.Proofs.YtkhaeabbbhfloaaDoor

namespace Go.Proofs.YtkhaeabbbhfloaaDoor
set_option maxRecDepth 100000
section
variable {ops : Nat → List BOp} {n nc rounds : Nat}
theorem KeepsK.and {K : Kind ops n nc rounds} {X Y : BS → Mach → Prop} (hX : KeepsK K X) (hY : KeepsK K Y) : KeepsK K (fun S m => X S m ∧ Y S m) where
  new := ⟨hX.new, hY.new⟩
  step := fun p S m t hR h ht hs hf hS => ⟨hX.step p S m t hR h.1 ht hs hf hS, hY.step p S m t hR h.2 ht hs hf hS⟩

end
end Go.Proofs.YtkhaeabbbhfloaaDoor

namespace Go.Proofs.YtkhaeabbbhfloaaDoor
set_option maxRecDepth 100000
set_option linter.unusedVariables false
set_option linter.unusedSimpArgs false

theorem sumN_at {n t d : Nat} {f g : Nat → Nat} (ht : t < n) (h : ∀ u, u < n → u ≠ t → f u = g u) (hd : f t = g t + d) : sumN n f = sumN n g + d :=
  Nat.le_antisymm (sumN_grow ht (fun u hu hne => Nat.le_of_eq (h u hu hne)) (Nat.le_of_eq hd)) (sumN_drop ht (fun u hu hne => Nat.le_of_eq (h u hu hne).symm) (Nat.le_of_eq hd.symm))
/-- How often op was done to a cell. -/
def opN (l : List Act6) (o c : Nat) : Nat := (l.filter fun a => a.2.2.1 == (o : Int) && a.2.2.2.1 == (c : Int)).length
theorem opN_append (l r : List Act6) (o c : Nat) : opN (l ++ r) o c = opN l o c + opN r o c := by unfold opN; rw [List.filter_append, List.length_append]
theorem opN_one (w : Int) (u op d o c : Nat) (a b : Int) : opN [(w, (u : Int), (op : Int), (d : Int), a, b)] o c = if op = o ∧ d = c then 1 else 0 := by
  unfold opN
  by_cases h : op = o ∧ d = c
  · obtain ⟨rfl, rfl⟩ := h
    rw [if_pos ⟨rfl, rfl⟩, List.filter_cons_of_pos (by simp)]
    rfl
  · rw [if_neg h, List.filter_cons_of_neg (by simp; omega)]
    rfl
end Go.Proofs.YtkhaeabbbhfloaaDoor

namespace Go.Proofs.YtkhaeabbbhfloaaDoor
set_option maxRecDepth 100000
set_option linter.unusedVariables false
set_option linter.unusedSimpArgs false

/-- How often who waits may load yet, but for being woken. -/
def cred (h : Nat) (s path : Nat → Nat) (v : Nat) (g : Int) (x : Th) : Nat := match x.ph with
  | .op i k => if i < h ∧ path i = v then
      (if k = 0 then 0 else if k = 1 then (if x.r1 = (s i : Int) - 1 then 0 else 2) else if k = 2 then (if (x.rd : Int) ≤ g then 1 else 2) else if k = 3 then (if x.r1 < x.rd then 1 else 0) else if k = 4 then 0 else if k = 5 then 1 else if k = 6 then (if x.slp = true ∨ (x.rd : Int) ≤ g then 1 else 2) else 0) else 0
  | _ => 0
theorem cred_up {h : Nat} {s path : Nat → Nat} {v : Nat} {g g' : Int} {x : Th} (hg : g ≤ g') : cred h s path v g' x ≤ cred h s path v g x := by
  obtain ⟨ph, rd, r1, slp⟩ := x
  unfold cred
  cases ph with
  | op i k =>
    dsimp only
    cases slp
    all_goals simp only [Bool.false_eq_true, false_or, true_or, if_true]
    all_goals repeat' split
    all_goals omega
  | _ => exact Nat.le_refl _
theorem cred_wake {h : Nat} {s path : Nat → Nat} {v : Nat} {g : Int} {x : Th} : cred h s path v g ⟨x.ph, x.rd, x.r1, false⟩ ≤ cred h s path v g x + 1 := by
  obtain ⟨ph, rd, r1, slp⟩ := x
  unfold cred
  cases ph with
  | op i k =>
    dsimp only
    cases slp
    all_goals simp only [Bool.false_eq_true, false_or, true_or, if_true]
    all_goals repeat' split
    all_goals omega
  | _ => dsimp only; omega

section
variable {ops : Nat → List BOp} {n nc rounds : Nat} {T : MT ops n nc} {S S' : BS} {t : Nat}
variable (T) in
def MT.cred (S : BS) (v u : Nat) : Nat := Go.Proofs.YtkhaeabbbhfloaaDoor.cred T.h (T.sz u) (T.path u) v (gateOf S v) (S.th u)
variable (T) in
def MT.two (S : BS) (v : Nat) : Bool := (List.range n).any fun u => (List.range T.h).any fun j => decide (T.path u j = v) && opAt T.h 2 (S.th u) j
theorem two_iff {v : Nat} : T.two S v = true ↔ ∃ u j, u < n ∧ j < T.h ∧ T.path u j = v ∧ opAt T.h 2 (S.th u) j = true := by
  unfold MT.two
  simp only [List.any_eq_true, List.mem_range, Bool.and_eq_true, decide_eq_true_eq]
  constructor
  · rintro ⟨u, hu, j, hj, e, e2⟩
    exact ⟨u, j, hu, hj, e, e2⟩
  · rintro ⟨u, j, hu, hj, e, e2⟩
    exact ⟨u, hu, j, hj, e, e2⟩

structure ThinM (T : MT ops n nc) (S : BS) (l : List Act6) (v : Nat) : Prop where
  fet : (opN l 8 (2 * v) : Int) ≤ 2 * opN l 7 (2 * v) + S.cell (2 * v)
  zer : (opN l 7 (2 * v) : Int) ≤ gateOf S v + ((if T.two S v then 1 else 0 : Nat) : Int)
  loa : (opN l 6 (2 * v + 1) : Int) + (sumN n (fun u => T.cred S v u) : Nat) + ((if T.pend S v then 1 else 0 : Nat) : Int) ≤ 2 * opN l 8 (2 * v) + gateOf S v

/-- No cell changed, no wake: t alone did. -/
theorem ThinM.calm {l : List Act6} {v : Nat} (h : ThinM T S l v) (ht : t < n) {x : Th} (h2 : ∀ j, opAt T.h 2 x j = opAt T.h 2 (S.th t) j) (h3 : ∀ j, opAt T.h 3 x j = opAt T.h 3 (S.th t) j) (hc : Go.Proofs.YtkhaeabbbhfloaaDoor.cred T.h (T.sz t) (T.path t) v (gateOf S v) x ≤ Go.Proofs.YtkhaeabbbhfloaaDoor.cred T.h (T.sz t) (T.path t) v (gateOf S v) (S.th t)) : ThinM T ⟨upd S.th t x, S.cell⟩ l v := by
  have e2 : T.two ⟨upd S.th t x, S.cell⟩ v = T.two S v := by
    unfold MT.two
    congr 1
    funext u
    congr 1
    funext j
    congr 1
    dsimp only
    by_cases e : u = t
    · subst e; rw [upd_same, h2]
    · rw [upd_ne _ _ e]
  have e3 : T.pend ⟨upd S.th t x, S.cell⟩ v = T.pend S v := by
    unfold MT.pend
    congr 1
    funext u
    congr 1
    funext j
    congr 1
    dsimp only
    by_cases e : u = t
    · subst e; rw [upd_same, h3]
    · rw [upd_ne _ _ e]
  have e4 : sumN n (fun u => T.cred ⟨upd S.th t x, S.cell⟩ v u) ≤ sumN n (fun u => T.cred S v u) := sumN_le fun u hu => by
    unfold MT.cred
    by_cases e : u = t
    · subst e
      show Go.Proofs.YtkhaeabbbhfloaaDoor.cred _ _ _ _ _ (upd S.th u x u) ≤ _
      rw [upd_same]
      exact hc
    · show Go.Proofs.YtkhaeabbbhfloaaDoor.cred _ _ _ _ _ (upd S.th t x u) ≤ _
      rw [upd_ne _ _ e]
      exact Nat.le_refl _
  refine ⟨h.fet, by rw [e2]; exact h.zer, ?_⟩
  rw [e3]
  have := h.loa
  show _ ≤ _ + gateOf S v
  omega
end
end Go.Proofs.YtkhaeabbbhfloaaDoor

namespace Go.Proofs.YtkhaeabbbhfloaaDoor
set_option maxRecDepth 100000
set_option linter.unusedVariables false
set_option linter.unusedSimpArgs false

section
variable {ops : Nat → List BOp} {n nc rounds : Nat} {T : MT ops n nc} {S S' : BS} {t : Nat} {l : List Act6} {v : Nat}

/-- Another party as it was, t at x: who is at opAt k somewhere. -/
theorem two_mono (hth : ∀ u, u ≠ t → ∀ j, opAt T.h 2 (S'.th u) j = opAt T.h 2 (S.th u) j) (h2 : ∀ j, j < T.h → T.path t j = v → opAt T.h 2 (S.th t) j = true → opAt T.h 2 (S'.th t) j = true) : (if T.two S v then 1 else 0 : Nat) ≤ if T.two S' v then 1 else 0 := by
  by_cases e : T.two S v = true
  · have : T.two S' v = true := by
      obtain ⟨u, j, hu, hj, e1, e2⟩ := two_iff.1 e
      refine two_iff.2 ⟨u, j, hu, hj, e1, ?_⟩
      by_cases hut : u = t
      · subst hut; exact h2 j hj e1 e2
      · rw [hth u hut]; exact e2
    rw [if_pos this, if_pos e]
    exact Nat.le_refl _
  · rw [if_neg e]
    exact Nat.zero_le _
theorem pend_mono (hth : ∀ u, u ≠ t → ∀ j, opAt T.h 3 (S'.th u) j = opAt T.h 3 (S.th u) j) (h3 : ∀ j, j < T.h → T.path t j = v → opAt T.h 3 (S'.th t) j = true → opAt T.h 3 (S.th t) j = true) : (if T.pend S' v then 1 else 0 : Nat) ≤ if T.pend S v then 1 else 0 := by
  by_cases e : T.pend S' v = true
  · have : T.pend S v = true := by
      obtain ⟨u, j, hu, hj, e1, e2⟩ := pend_iff.1 e
      refine pend_iff.2 ⟨u, j, hu, hj, e1, ?_⟩
      by_cases hut : u = t
      · subst hut; exact h3 j hj e1 e2
      · rw [← hth u hut]; exact e2
    rw [if_pos this, if_pos e]
    exact Nat.le_refl _
  · rw [if_neg e]
    exact Nat.zero_le _
/-- The sum of what all may load yet, where t alone changed, and a gate is no lower. -/
theorem cred_sum (ht : t < n) (hg : gateOf S v ≤ gateOf S' v) (hth : ∀ u, u ≠ t → S'.th u = S.th u) {d : Nat} (hd : T.cred S' v t ≤ T.cred S v t + d) : sumN n (fun u => T.cred S' v u) ≤ sumN n (fun u => T.cred S v u) + d :=
  sumN_grow ht (fun u hu hne => by unfold MT.cred; rw [hth u hne]; exact cred_up hg) hd
theorem cred_less (ht : t < n) (hg : gateOf S v ≤ gateOf S' v) (hth : ∀ u, u ≠ t → S'.th u = S.th u) {d : Nat} (hd : T.cred S' v t + d ≤ T.cred S v t) : sumN n (fun u => T.cred S' v u) + d ≤ sumN n (fun u => T.cred S v u) :=
  sumN_drop ht (fun u hu hne => by unfold MT.cred; rw [hth u hne]; exact cred_up hg) hd

theorem ThinM.fetch (h : ThinM T S l v) (hI : MInv T rounds S) (ht : t < n) (hs : (S.th t).slp = false) {j : Nat} (hph : (S.th t).ph = .op j 0) (hj : j < T.h) {a b w : Int} :
    ThinM T ⟨upd S.th t ⟨.op j 1, (S.th t).rd, S.cell (2 * T.path t j), false⟩, upd S.cell (2 * T.path t j) ((S.cell (2 * T.path t j) + 1) % m64)⟩ (l ++ [(w, (t : Int), ((8 : Nat) : Int), ((2 * T.path t j : Nat) : Int), a, b)]) v := by
  obtain ⟨_, c0, c1⟩ := hI.fetch ht hs hph hj
  have hsz := (T.node t j ht hj).2.2
  have hmod : (S.cell (2 * T.path t j) + 1) % m64 = S.cell (2 * T.path t j) + 1 := small_mod (by omega) (by unfold MT.sz at c1; omega)
  rw [hmod]
  have hx : S.th t = ⟨.op j 0, (S.th t).rd, (S.th t).r1, false⟩ := by rw [← hph, ← hs]
  obtain ⟨S', hS'⟩ : ∃ S' : BS, (⟨upd S.th t ⟨.op j 1, (S.th t).rd, S.cell (2 * T.path t j), false⟩, upd S.cell (2 * T.path t j) (S.cell (2 * T.path t j) + 1)⟩ : BS) = S' := ⟨_, rfl⟩
  rw [hS']
  have hth : ∀ u, u ≠ t → S'.th u = S.th u := fun u hu => by rw [← hS']; exact upd_ne _ _ hu
  have htt : S'.th t = ⟨.op j 1, (S.th t).rd, S.cell (2 * T.path t j), false⟩ := by rw [← hS']; exact upd_same _ _ _
  have hgate : gateOf S' v = gateOf S v := by rw [← hS']; exact upd_ne _ _ (by omega)
  have h2 := two_mono (T := T) (S := S) (S' := S') (t := t) (v := v) (fun u hu j => by rw [hth u hu]) (fun j' _ _ e => by rw [hx, op_up hj] at e; cases e)
  have h3 := pend_mono (T := T) (S := S) (S' := S') (t := t) (v := v) (fun u hu j => by rw [hth u hu]) (fun j' _ _ e => by rw [htt, op_up hj] at e; cases e)
  have f1 := h.fet
  have f2 := h.zer
  have f3 := h.loa
  have n7 : opN (l ++ [(w, (t : Int), ((8 : Nat) : Int), ((2 * T.path t j : Nat) : Int), a, b)]) 7 (2 * v) = opN l 7 (2 * v) := by rw [opN_append, opN_one, if_neg (by omega)]; rfl
  have n6 : opN (l ++ [(w, (t : Int), ((8 : Nat) : Int), ((2 * T.path t j : Nat) : Int), a, b)]) 6 (2 * v + 1) = opN l 6 (2 * v + 1) := by rw [opN_append, opN_one, if_neg (by omega)]; rfl
  by_cases hv : T.path t j = v
  · have n8 : opN (l ++ [(w, (t : Int), ((8 : Nat) : Int), ((2 * T.path t j : Nat) : Int), a, b)]) 8 (2 * v) = opN l 8 (2 * v) + 1 := by rw [opN_append, opN_one, if_pos ⟨rfl, by rw [hv]⟩]
    have hc : S'.cell (2 * v) = S.cell (2 * v) + 1 := by rw [← hS', ← hv]; exact upd_same _ _ _
    have hs2 := cred_sum (T := T) (S := S) (S' := S') (v := v) ht (Int.le_of_eq hgate.symm) hth (d := 2) (by
      unfold MT.cred Go.Proofs.YtkhaeabbbhfloaaDoor.cred
      rw [htt]
      dsimp only
      split
      · simp only [show ¬ (1 = 0) by omega, if_false, if_true]
        split <;> omega
      · omega)
    exact ⟨by rw [n7, n8, hc]; omega, by rw [n7, hgate]; omega, by rw [n6, n8, hgate]; omega⟩
  · have n8 : opN (l ++ [(w, (t : Int), ((8 : Nat) : Int), ((2 * T.path t j : Nat) : Int), a, b)]) 8 (2 * v) = opN l 8 (2 * v) := by rw [opN_append, opN_one, if_neg (by omega)]; rfl
    have hc : S'.cell (2 * v) = S.cell (2 * v) := by rw [← hS']; exact upd_ne _ _ (by omega)
    have hs2 := cred_sum (T := T) (S := S) (S' := S') (v := v) ht (Int.le_of_eq hgate.symm) hth (d := 0) (by
      unfold MT.cred Go.Proofs.YtkhaeabbbhfloaaDoor.cred
      rw [htt]
      dsimp only
      rw [if_neg (fun e => hv e.2)]
      omega)
    exact ⟨by rw [n7, n8, hc]; omega, by rw [n7, hgate]; omega, by rw [n6, n8, hgate]; omega⟩

theorem ThinM.load (h : ThinM T S l v) (ht : t < n) (hs : (S.th t).slp = false) {j : Nat} (hph : (S.th t).ph = .op j 2) (hj : j < T.h) {a b w : Int} :
    ThinM T ⟨upd S.th t ⟨.op j 3, (S.th t).rd, gateOf S (T.path t j), false⟩, S.cell⟩ (l ++ [(w, (t : Int), ((6 : Nat) : Int), ((2 * T.path t j + 1 : Nat) : Int), a, b)]) v := by
  have hx : S.th t = ⟨.op j 2, (S.th t).rd, (S.th t).r1, false⟩ := by rw [← hph, ← hs]
  obtain ⟨S', hS'⟩ : ∃ S' : BS, (⟨upd S.th t ⟨.op j 3, (S.th t).rd, gateOf S (T.path t j), false⟩, S.cell⟩ : BS) = S' := ⟨_, rfl⟩
  rw [hS']
  have hth : ∀ u, u ≠ t → S'.th u = S.th u := fun u hu => by rw [← hS']; exact upd_ne _ _ hu
  have htt : S'.th t = ⟨.op j 3, (S.th t).rd, gateOf S (T.path t j), false⟩ := by rw [← hS']; exact upd_same _ _ _
  have hgate : gateOf S' v = gateOf S v := by rw [← hS']; rfl
  have hc : S'.cell (2 * v) = S.cell (2 * v) := by rw [← hS']
  have h2 := two_mono (T := T) (S := S) (S' := S') (t := t) (v := v) (fun u hu j => by rw [hth u hu]) (fun j' _ _ e => by rw [hx, op_up hj] at e; cases e)
  have h3 := pend_mono (T := T) (S := S) (S' := S') (t := t) (v := v) (fun u hu j => by rw [hth u hu]) (fun j' _ _ e => by rw [htt, op_up hj] at e; cases e)
  have f1 := h.fet
  have f2 := h.zer
  have f3 := h.loa
  have n7 : opN (l ++ [(w, (t : Int), ((6 : Nat) : Int), ((2 * T.path t j + 1 : Nat) : Int), a, b)]) 7 (2 * v) = opN l 7 (2 * v) := by rw [opN_append, opN_one, if_neg (by omega)]; rfl
  have n8 : opN (l ++ [(w, (t : Int), ((6 : Nat) : Int), ((2 * T.path t j + 1 : Nat) : Int), a, b)]) 8 (2 * v) = opN l 8 (2 * v) := by rw [opN_append, opN_one, if_neg (by omega)]; rfl
  by_cases hv : T.path t j = v
  · have n6 : opN (l ++ [(w, (t : Int), ((6 : Nat) : Int), ((2 * T.path t j + 1 : Nat) : Int), a, b)]) 6 (2 * v + 1) = opN l 6 (2 * v + 1) + 1 := by rw [opN_append, opN_one, if_pos ⟨rfl, by rw [hv]⟩]
    have hs2 := cred_less (T := T) (S := S) (S' := S') (v := v) ht (Int.le_of_eq hgate.symm) hth (d := 1) (by
      unfold MT.cred Go.Proofs.YtkhaeabbbhfloaaDoor.cred
      rw [htt, hgate, hph, hv]
      dsimp only
      have hjv : j < T.h ∧ T.path t j = v := ⟨hj, hv⟩
      rw [if_pos hjv, if_pos hjv]
      simp only [show ¬ (3 = 0) by omega, show ¬ (3 = 1) by omega, show ¬ (3 = 2) by omega, show ¬ (2 = 0) by omega, show ¬ (2 = 1) by omega, if_false, if_true]
      split <;> split <;> omega)
    exact ⟨by rw [n7, n8, hc]; omega, by rw [n7, hgate]; omega, by rw [n6, n8, hgate]; omega⟩
  · have n6 : opN (l ++ [(w, (t : Int), ((6 : Nat) : Int), ((2 * T.path t j + 1 : Nat) : Int), a, b)]) 6 (2 * v + 1) = opN l 6 (2 * v + 1) := by rw [opN_append, opN_one, if_neg (by omega)]; rfl
    have hs2 := cred_sum (T := T) (S := S) (S' := S') (v := v) ht (Int.le_of_eq hgate.symm) hth (d := 0) (by
      unfold MT.cred Go.Proofs.YtkhaeabbbhfloaaDoor.cred
      rw [htt]
      dsimp only
      rw [if_neg (fun e => hv e.2)]
      omega)
    exact ⟨by rw [n7, n8, hc]; omega, by rw [n7, hgate]; omega, by rw [n6, n8, hgate]; omega⟩

theorem ThinM.zero (h : ThinM T S l v) (hI : MInv T rounds S) (h2s : ∀ v, T.size v ≤ 2) (ht : t < n) (hs : (S.th t).slp = false) {i : Nat} (hph : (S.th t).ph = .op i 1) (hi : T.h ≤ i) (hi2 : i < 2 * T.h) {a b w : Int} :
    ThinM T ⟨upd S.th t ⟨.op i 2, (S.th t).rd, (S.th t).r1, false⟩, upd S.cell (2 * T.path t (2 * T.h - 1 - i)) 0⟩ (l ++ [(w, (t : Int), ((7 : Nat) : Int), ((2 * T.path t (2 * T.h - 1 - i) : Nat) : Int), a, b)]) v := by
  have hni : ¬ i < T.h := by omega
  obtain ⟨q, hq⟩ : ∃ q, 2 * T.h - 1 - i = q := ⟨_, rfl⟩
  rw [hq]
  have hqh : q < T.h := by omega
  have hx : S.th t = ⟨.op i 1, (S.th t).rd, (S.th t).r1, false⟩ := by rw [← hph, ← hs]
  obtain ⟨S', hS'⟩ : ∃ S' : BS, (⟨upd S.th t ⟨.op i 2, (S.th t).rd, (S.th t).r1, false⟩, upd S.cell (2 * T.path t q) 0⟩ : BS) = S' := ⟨_, rfl⟩
  rw [hS']
  have hth : ∀ u, u ≠ t → S'.th u = S.th u := fun u hu => by rw [← hS']; exact upd_ne _ _ hu
  have htt : S'.th t = ⟨.op i 2, (S.th t).rd, (S.th t).r1, false⟩ := by rw [← hS']; exact upd_same _ _ _
  have hgate : gateOf S' v = gateOf S v := by rw [← hS']; exact upd_ne _ _ (by omega)
  have h2 := two_mono (T := T) (S := S) (S' := S') (t := t) (v := v) (fun u hu j => by rw [hth u hu]) (fun j' _ _ e => by rw [hx, op_dn hni] at e; simp at e)
  have h3 := pend_mono (T := T) (S := S) (S' := S') (t := t) (v := v) (fun u hu j => by rw [hth u hu]) (fun j' _ _ e => by rw [htt, op_dn hni] at e; simp at e)
  have f1 := h.fet
  have f2 := h.zer
  have f3 := h.loa
  have n8 : opN (l ++ [(w, (t : Int), ((7 : Nat) : Int), ((2 * T.path t q : Nat) : Int), a, b)]) 8 (2 * v) = opN l 8 (2 * v) := by rw [opN_append, opN_one, if_neg (by omega)]; rfl
  have n6 : opN (l ++ [(w, (t : Int), ((7 : Nat) : Int), ((2 * T.path t q : Nat) : Int), a, b)]) 6 (2 * v + 1) = opN l 6 (2 * v + 1) := by rw [opN_append, opN_one, if_neg (by omega)]; rfl
  have hs2 := cred_sum (T := T) (S := S) (S' := S') (v := v) ht (Int.le_of_eq hgate.symm) hth (d := 0) (by
    unfold MT.cred Go.Proofs.YtkhaeabbbhfloaaDoor.cred
    rw [htt]
    dsimp only
    rw [if_neg (fun e => hni e.1)]
    omega)
  by_cases hv : T.path t q = v
  · have n7 : opN (l ++ [(w, (t : Int), ((7 : Nat) : Int), ((2 * T.path t q : Nat) : Int), a, b)]) 7 (2 * v) = opN l 7 (2 * v) + 1 := by rw [opN_append, opN_one, if_pos ⟨rfl, by rw [hv]⟩]
    have hc : S'.cell (2 * v) = 0 := by rw [← hS', ← hv]; exact upd_same _ _ _
    have hlast : T.last S t q = true := by
      unfold MT.last
      rw [hx, last_dn hni, hq]
      simp
    have hno : T.two S v = false := by
      cases e : T.two S v with
      | false => rfl
      | true =>
        obtain ⟨u, j, hu, hj, e1, e2⟩ := two_iff.1 e
        have hjq := T.level u t j q hu ht hj hqh (by rw [e1, hv])
        subst hjq
        have := last_one hI ht hu hqh hlast (op_last e2 (by omega)) (by rw [e1, hv])
        subst this
        rw [hx, op_dn hni] at e2
        simp at e2
    have hyes : T.two S' v = true := two_iff.2 ⟨t, q, ht, hqh, hv, by rw [htt, op_dn hni, hq]; simp⟩
    have hcell : S.cell (2 * v) ≤ 2 := by
      rcases hI.count t q ht hqh with ⟨⟨u, hu, e1, e2⟩, _⟩ | ⟨_, e⟩
      · have := two_iff.2 ⟨u, q, hu, hqh, e1.trans hv, e2⟩
        rw [hno] at this
        cases this
      · have h5 := cnt_le hI ht hqh
        have h6 := h2s (T.path t q)
        unfold MT.sz at h5
        rw [hv] at e h5 h6
        omega
    rw [hno] at f2
    exact ⟨by rw [n7, n8, hc]; omega, by rw [n7, hgate, hyes]; simp at f2 ⊢; omega, by rw [n6, n8, hgate]; omega⟩
  · have n7 : opN (l ++ [(w, (t : Int), ((7 : Nat) : Int), ((2 * T.path t q : Nat) : Int), a, b)]) 7 (2 * v) = opN l 7 (2 * v) := by rw [opN_append, opN_one, if_neg (by omega)]; rfl
    have hc : S'.cell (2 * v) = S.cell (2 * v) := by rw [← hS']; exact upd_ne _ _ (by omega)
    exact ⟨by rw [n7, n8, hc]; omega, by rw [n7, hgate]; omega, by rw [n6, n8, hgate]; omega⟩
end
end Go.Proofs.YtkhaeabbbhfloaaDoor

namespace Go.Proofs.YtkhaeabbbhfloaaDoor
set_option maxRecDepth 100000
set_option linter.unusedVariables false
set_option linter.unusedSimpArgs false

section
variable {ops : Nat → List BOp} {n nc rounds : Nat} {T : MT ops n nc} {S S' : BS} {t : Nat} {l : List Act6} {v : Nat}

theorem ThinM.gate (h : ThinM T S l v) (hI : MInv T rounds S) (ht : t < n) (hs : (S.th t).slp = false) {i : Nat} (hph : (S.th t).ph = .op i 2) (hi : T.h ≤ i) (hi2 : i < 2 * T.h) {a b w : Int} :
    ThinM T ⟨upd S.th t ⟨.op i 3, (S.th t).rd, (S.th t).r1, false⟩, upd S.cell (2 * T.path t (2 * T.h - 1 - i) + 1) (S.th t).rd⟩ (l ++ [(w, (t : Int), ((7 : Nat) : Int), ((2 * T.path t (2 * T.h - 1 - i) + 1 : Nat) : Int), a, b)]) v := by
  have hni : ¬ i < T.h := by omega
  obtain ⟨q, hq⟩ : ∃ q, 2 * T.h - 1 - i = q := ⟨_, rfl⟩
  rw [hq]
  have hqh : q < T.h := by omega
  have hx : S.th t = ⟨.op i 2, (S.th t).rd, (S.th t).r1, false⟩ := by rw [← hph, ← hs]
  obtain ⟨S', hS'⟩ : ∃ S' : BS, (⟨upd S.th t ⟨.op i 3, (S.th t).rd, (S.th t).r1, false⟩, upd S.cell (2 * T.path t q + 1) (S.th t).rd⟩ : BS) = S' := ⟨_, rfl⟩
  rw [hS']
  have hth : ∀ u, u ≠ t → S'.th u = S.th u := fun u hu => by rw [← hS']; exact upd_ne _ _ hu
  have htt : S'.th t = ⟨.op i 3, (S.th t).rd, (S.th t).r1, false⟩ := by rw [← hS']; exact upd_same _ _ _
  have hc : S'.cell (2 * v) = S.cell (2 * v) := by rw [← hS']; exact upd_ne _ _ (by omega)
  have f1 := h.fet
  have f2 := h.zer
  have f3 := h.loa
  have n7 : opN (l ++ [(w, (t : Int), ((7 : Nat) : Int), ((2 * T.path t q + 1 : Nat) : Int), a, b)]) 7 (2 * v) = opN l 7 (2 * v) := by rw [opN_append, opN_one, if_neg (by omega)]; rfl
  have n8 : opN (l ++ [(w, (t : Int), ((7 : Nat) : Int), ((2 * T.path t q + 1 : Nat) : Int), a, b)]) 8 (2 * v) = opN l 8 (2 * v) := by rw [opN_append, opN_one, if_neg (by omega)]; rfl
  have n6 : opN (l ++ [(w, (t : Int), ((7 : Nat) : Int), ((2 * T.path t q + 1 : Nat) : Int), a, b)]) 6 (2 * v + 1) = opN l 6 (2 * v + 1) := by rw [opN_append, opN_one, if_neg (by omega)]; rfl
  have hcr : T.cred S' v t ≤ T.cred S v t + 0 := by
    unfold MT.cred Go.Proofs.YtkhaeabbbhfloaaDoor.cred
    rw [htt]
    dsimp only
    rw [if_neg (fun e => hni e.1)]
    omega
  by_cases hv : T.path t q = v
  · have hlast : lastAt T.h (T.sz t) (S.th t) q = true := by
      rw [hx, last_dn hni, hq]
      simp
    have g1 := (hI.own t ht).unop q hqh hlast
    have g2 := (hI.own t ht).floor q hqh
    rw [hv] at g1 g2
    have hgate : gateOf S' v = gateOf S v + 1 := by
      have : gateOf S' v = (S.th t).rd := by rw [← hS', ← hv]; exact upd_same _ _ _
      rw [this]
      omega
    have hs2 := cred_sum (T := T) (S := S) (S' := S') (v := v) ht (by omega) hth hcr
    have b1 : (if T.two S v then 1 else 0 : Nat) ≤ 1 := by split <;> omega
    have b2 : (if T.pend S' v then 1 else 0 : Nat) ≤ 1 := by split <;> omega
    exact ⟨by rw [n7, n8, hc]; omega, by rw [n7, hgate]; omega, by rw [n6, n8, hgate]; omega⟩
  · have hgate : gateOf S' v = gateOf S v := by rw [← hS']; exact upd_ne _ _ (by omega)
    have hs2 := cred_sum (T := T) (S := S) (S' := S') (v := v) ht (by omega) hth hcr
    have hjq : ∀ j, opAt T.h 2 (S.th t) j = true → j = q := fun j e => by rw [hx, op_dn hni, hq] at e; simpa using e
    have hjq3 : ∀ j, opAt T.h 3 (S'.th t) j = true → j = q := fun j e => by rw [htt, op_dn hni, hq] at e; simpa using e
    have h2 := two_mono (T := T) (S := S) (S' := S') (t := t) (v := v) (fun u hu j => by rw [hth u hu]) (fun j _ e1 e => by have := hjq j e; subst this; exact absurd e1 hv)
    have h3 := pend_mono (T := T) (S := S) (S' := S') (t := t) (v := v) (fun u hu j => by rw [hth u hu]) (fun j _ e1 e => by have := hjq3 j e; subst this; exact absurd e1 hv)
    exact ⟨by rw [n7, n8, hc]; omega, by rw [n7, hgate]; omega, by rw [n6, n8, hgate]; omega⟩

theorem ThinM.wake (h : ThinM T S l v) (hI : MInv T rounds S) (ha : T.alone S) (h2s : ∀ v, T.size v ≤ 2) (ht : t < n) (hs : (S.th t).slp = false) {i : Nat} (hph : (S.th t).ph = .op i 3) (hi : T.h ≤ i) (hi2 : i < 2 * T.h) :
    ThinM T ⟨upd (wakeAll ops (2 * T.path t (2 * T.h - 1 - i) + 1) S.th) t ⟨nxt (ops t) (i + 1), (S.th t).rd, (S.th t).r1, false⟩, S.cell⟩ l v := by
  have hl := T.len t ht
  have hni : ¬ i < T.h := by omega
  obtain ⟨q, hq⟩ : ∃ q, 2 * T.h - 1 - i = q := ⟨_, rfl⟩
  rw [hq]
  have hqh : q < T.h := by omega
  have hx : S.th t = ⟨.op i 3, (S.th t).rd, (S.th t).r1, false⟩ := by rw [← hph, ← hs]
  obtain ⟨S', hS'⟩ : ∃ S' : BS, (⟨upd (wakeAll ops (2 * T.path t q + 1) S.th) t ⟨nxt (ops t) (i + 1), (S.th t).rd, (S.th t).r1, false⟩, S.cell⟩ : BS) = S' := ⟨_, rfl⟩
  rw [hS']
  have htt : S'.th t = ⟨nxt (ops t) (i + 1), (S.th t).rd, (S.th t).r1, false⟩ := by rw [← hS']; exact upd_same _ _ _
  have hth : ∀ u, u ≠ t → (S'.th u = S.th u ∧ ¬ napCell (ops u) (S.th u).ph = some (2 * T.path t q + 1)) ∨ (napCell (ops u) (S.th u).ph = some (2 * T.path t q + 1) ∧ S'.th u = ⟨(S.th u).ph, (S.th u).rd, (S.th u).r1, false⟩) := fun u hu => by
    rw [← hS']
    dsimp only
    rw [upd_ne _ _ hu]
    unfold wakeAll
    split
    · rename_i e; exact .inr ⟨e, rfl⟩
    · rename_i e; exact .inl ⟨rfl, e⟩
  have hc : S'.cell (2 * v) = S.cell (2 * v) := by rw [← hS']
  have hgate : gateOf S' v = gateOf S v := by rw [← hS']; rfl
  have hnx := fun j => nxt_dn (s := T.sz t) hl (i := i + 1) (rd := (S.th t).rd) (r1 := (S.th t).r1) (by omega) (by omega) j
  have hop : ∀ k u, u ≠ t → ∀ j, opAt T.h k (S'.th u) j = opAt T.h k (S.th u) j := fun k u hu j => by
    rcases hth u hu with ⟨e, _⟩ | ⟨_, e⟩
    · rw [e]
    · rw [e]; rfl
  have h2 := two_mono (T := T) (S := S) (S' := S') (t := t) (v := v) (hop 2) (fun j' _ _ e => by rw [hx, op_dn hni] at e; simp at e)
  have h3 := pend_mono (T := T) (S := S) (S' := S') (t := t) (v := v) (hop 3) (fun j' _ _ e => by rw [htt, (hnx j').2.2.2.1] at e; cases e)
  have f1 := h.fet
  have f2 := h.zer
  have f3 := h.loa
  have hct : T.cred S' v t = 0 := by
    unfold MT.cred Go.Proofs.YtkhaeabbbhfloaaDoor.cred
    rw [htt]
    unfold nxt
    split
    · rename_i e
      split at e
      · injection e with e _
        rw [if_neg (fun e' => by omega)]
      · cases e
    · rfl
  by_cases hv : T.path t q = v
  · have h3o : opAt T.h 3 (S.th t) q = true := by rw [hx, op_dn hni, hq]; simp
    have hpo : T.pend S v = true := pend_iff.2 ⟨t, q, ht, hqh, hv, h3o⟩
    have hpn : T.pend S' v = false := by
      cases e : T.pend S' v with
      | false => rfl
      | true =>
        obtain ⟨u, j, hu, hj, e1, e2⟩ := pend_iff.1 e
        by_cases hut : u = t
        · subst hut; rw [htt, (hnx j).2.2.2.1] at e2; cases e2
        · rw [hop 3 u hut] at e2
          have hjq := T.level u t j q hu ht hj hqh (by rw [e1, hv])
          subst hjq
          exact absurd (ha u t j hu ht hj (by rw [e1, hv]) e2 h3o) hut
    -- who sleeps there
    obtain ⟨z, hz⟩ : ∃ z : Nat → Bool, z = fun u => (S.th u).slp && decide (u ≠ t) && decide (napCell (ops u) (S.th u).ph = some (2 * v + 1)) := ⟨_, rfl⟩
    have hzi : ∀ u, u < n → z u = true → u ≠ t ∧ T.path u q = v ∧ (S.th u).ph = .op q 6 := fun u hu e => by
      rw [hz] at e
      simp only [Bool.and_eq_true, decide_eq_true_eq] at e
      obtain ⟨⟨e1, e2⟩, e3⟩ := e
      obtain ⟨i', g1, g2, g3⟩ := mt_nap hI hu e1 e3
      have hiq := T.level u t i' q hu ht g1 hqh (by rw [hv]; omega)
      subst hiq
      exact ⟨e2, by omega, g2⟩
    have hfew : ((List.range n).filter z).length ≤ 1 := by
      have hm : ∀ a ∈ t :: (List.range n).filter z, a < n ∧ T.path a q = v ∧ (0 < q → T.last S a (q - 1) = true) := fun a ha => by
        rcases List.mem_cons.1 ha with e | e
        · subst e
          refine ⟨ht, hv, fun h0 => ?_⟩
          unfold MT.last
          rw [hx, last_dn hni, hq]
          simp
          omega
        · obtain ⟨e1, e2⟩ := List.mem_filter.1 e
          have hu := List.mem_range.1 e1
          obtain ⟨g1, g2, g3⟩ := hzi a hu e2
          exact ⟨hu, g2, fun h0 => six_last hI hqh g3 (by omega)⟩
      have := inj_le (f := T.memb q) (t :: (List.range n).filter z) (T.mem v) (by
        rw [List.nodup_cons]
        refine ⟨fun e => ?_, List.nodup_range.filter _⟩
        obtain ⟨e1, e2⟩ := List.mem_filter.1 e
        exact (hzi t ht e2).1 rfl) (fun a ha b hb e => by
        obtain ⟨a1, a2, a3⟩ := hm a ha
        obtain ⟨b1, b2, b3⟩ := hm b hb
        unfold MT.memb at e
        by_cases hl0 : q = 0
        · rw [if_pos hl0, if_pos hl0] at e
          exact e
        · rw [if_neg hl0, if_neg hl0] at e
          exact last_one hI b1 a1 (by omega) (b3 (by omega)) (a3 (by omega)) e) (fun a ha => by
        obtain ⟨a1, a2, _⟩ := hm a ha
        have := T.mem_in a q a1 hqh
        rw [a2] at this
        exact this)
      have hml := T.mem_len t q ht hqh
      rw [hv] at hml
      rw [hml, List.length_cons] at this
      have := h2s v
      omega
    have hsum : sumN n (fun u => T.cred S' v u) ≤ sumN n (fun u => T.cred S v u) + 1 := by
      have a1 : sumN n (fun u => T.cred S' v u) ≤ sumN n (fun u => T.cred S v u + if z u = true then 1 else 0) := sumN_le fun u hu => by
        by_cases hut : u = t
        · subst hut; rw [hct]; exact Nat.zero_le _
        · unfold MT.cred
          rw [hgate]
          rcases hth u hut with ⟨e, _⟩ | ⟨e1, e2⟩
          · rw [e]; exact Nat.le_add_right _ _
          · rw [e2]
            by_cases hsl : (S.th u).slp = true
            · have hzu : z u = true := by rw [hz]; simp only [Bool.and_eq_true, decide_eq_true_eq]; exact ⟨⟨hsl, hut⟩, by rw [e1, hv]⟩
              rw [if_pos hzu]
              exact cred_wake
            · have hsl' : (S.th u).slp = false := by simpa using hsl
              have hsame : (⟨(S.th u).ph, (S.th u).rd, (S.th u).r1, false⟩ : Th) = S.th u := by rw [← hsl']
              rw [hsame]
              exact Nat.le_add_right _ _
      have a2 := sumN_if n (fun u => T.cred S v u) z 1
      omega
    rw [hpo] at f3
    simp only [if_true] at f3
    exact ⟨by rw [hc]; omega, by rw [hgate]; omega, by rw [hgate, hpn]; simp only [Bool.false_eq_true, if_false]; omega⟩
  · have hsum : sumN n (fun u => T.cred S' v u) ≤ sumN n (fun u => T.cred S v u) := sumN_le fun u hu => by
      by_cases hut : u = t
      · subst hut; rw [hct]; exact Nat.zero_le _
      · unfold MT.cred
        rw [hgate]
        rcases hth u hut with ⟨e, _⟩ | ⟨e1, e2⟩
        · rw [e]; exact Nat.le_refl _
        · by_cases hsl : (S.th u).slp = true
          · obtain ⟨i', g1, g2, g3⟩ := mt_nap hI hu hsl e1
            rw [e2]
            unfold Go.Proofs.YtkhaeabbbhfloaaDoor.cred
            rw [g2]
            dsimp only
            rw [if_neg (fun e => hv (by omega))]
            exact Nat.zero_le _
          · have hsl' : (S.th u).slp = false := by simpa using hsl
            have hsame : (⟨(S.th u).ph, (S.th u).rd, (S.th u).r1, false⟩ : Th) = S.th u := by rw [← hsl']
            rw [e2, hsame]
            exact Nat.le_refl _
    exact ⟨by rw [hc]; omega, by rw [hgate]; omega, by rw [hgate]; omega⟩
end
end Go.Proofs.YtkhaeabbbhfloaaDoor

namespace Go.Proofs.YtkhaeabbbhfloaaDoor
set_option maxRecDepth 100000
set_option linter.unusedVariables false
set_option linter.unusedSimpArgs false

section
variable {ops : Nat → List BOp} {n nc rounds : Nat} {T : MT ops n nc} {S S' : BS} {t : Nat} {l : List Act6} {v : Nat}

end
end Go.Proofs.YtkhaeabbbhfloaaDoor

namespace Go.Proofs.YtkhaeabbbhfloaaDoor
set_option maxRecDepth 100000
set_option linter.unusedVariables false
set_option linter.unusedSimpArgs false

section
variable {ops : Nat → List BOp} {n nc rounds : Nat} {T : MT ops n nc} {S S' : BS} {t : Nat} {l : List Act6} {v : Nat}

end

end Go.Proofs.YtkhaeabbbhfloaaDoor
