/-
  Parties that tell, and await: what is kept by all of them, whoever goes on when, and whoever is woken for nothing; how many steps they take at most; what is said.
-/
import Derived.Test.YtgkfhihnfllmhaaGreatDoorQXF2
namespace Go.Proofs.YtgkfhihnfllmhaaGreatDoor
set_option maxRecDepth 100000
set_option linter.unusedVariables false
set_option linter.unusedSimpArgs false

/-- Parties that tell, and await, alone: who tells a cell, what a party knows behind so many pieces, which piece can be done ahead of which. -/
structure TA (ops : Nat → List BOp) (n nc : Nat) where
  tel : Nat → Option (Nat × Nat)
  know : Nat → Nat → Nat → Bool
  rank : Nat → Nat → Nat
  kind : ∀ t i, t < n → i < (ops t).length → (∃ c k, (ops t).getD i default = .tell c k) ∨ ∃ c, (ops t).getD i default = .await c
  wf : ∀ t, t < n → WF nc (ops t)
  tel_of : ∀ u j c k, u < n → j < (ops u).length → (ops u).getD j default = .tell c k → tel c = some (u, j)
  tel_ok : ∀ c u j, tel c = some (u, j) → u < n ∧ j < (ops u).length ∧ ∃ k, (ops u).getD j default = .tell c k
  aw_tel : ∀ t i c, t < n → i < (ops t).length → (ops t).getD i default = .await c → ∃ p, tel c = some p
  rank_up : ∀ t i j, t < n → j < (ops t).length → i ≤ j → rank t i ≤ rank t j
  rank_aw : ∀ t i c u j, t < n → i < (ops t).length → (ops t).getD i default = .await c → tel c = some (u, j) → rank u j < rank t i
  know0 : ∀ t w, t < n → know t 0 w = true → w = t
  knowS : ∀ t i w, t < n → i < (ops t).length → know t (i + 1) w = true → know t i w = true ∨ ∃ c u j, (ops t).getD i default = .await c ∧ tel c = some (u, j) ∧ know u j w = true
  know_mono : ∀ t i j w, t < n → j ≤ (ops t).length → i ≤ j → know t i w = true → know t j w = true
  know_all : ∀ t w, t < n → w < n → know t (ops t).length w = true
  few : ∀ u j c k, u < n → j < (ops u).length → (ops u).getD j default = .tell c k → ((List.range n).filter fun t => (ops t).any fun o => o == .await c).length ≤ k

/-- Was piece j told in this round? -/
def told (ph : Ph) (j : Nat) : Bool := match ph with
  | .op i k => decide (j < i) || (decide (j = i) && decide (1 ≤ k))
  | .gone => true
  | .plus => true
  | _ => false
def toldN (x : Th) (j : Nat) : Nat := if told x.ph j then x.rd else x.rd - 1
/-- How many rounds a party came to. -/
def cameN (x : Th) : Nat := match x.ph with
  | .op _ _ => x.rd
  | .gone => x.rd
  | .plus => x.rd
  | _ => x.rd - 1
/-- How many rounds it is gone of. -/
def goneN (x : Th) : Nat := match x.ph with
  | .plus => x.rd
  | _ => x.rd - 1
/-- How many pieces it did, if it came. -/
def doneN (L : Nat) (x : Th) : Option Nat := match x.ph with
  | .op i _ => some i
  | .gone => some L
  | .plus => some L
  | _ => none

section
variable {ops : Nat → List BOp} {n nc rounds : Nat}

/-- What is kept of a party by itself. -/
structure Own (T : TA ops n nc) (rounds : Nat) (S : BS) (t : Nat) (x : Th) : Prop where
  rd : 1 ≤ x.rd ∧ x.rd ≤ rounds + 1 ∧ (inRound x.ph = true → x.rd ≤ rounds) ∧ (x.ph = .b0 → x.rd = 1) ∧ (x.ph = .halt ∨ x.ph = .fin → x.rd = rounds + 1)
  ok : okPh (ops t) x.ph
  aw : ∀ i k c, x.ph = .op i k → (ops t).getD i default = .await c → (1 ≤ k → x.r1 ≤ S.cell c) ∧ (k = 2 → (x.rd : Int) ≤ x.r1) ∧ (k = 3 → x.r1 < x.rd) ∧ (x.slp = true → x.r1 < x.rd ∧ (S.cell c = x.r1 ∨ ∃ u j, T.tel c = some (u, j) ∧ (S.th u).ph = .op j 1))
  nap : x.slp = true → ∃ i c, x.ph = .op i 4 ∧ (ops t).getD i default = .await c
  know : ∀ w i, w < n → doneN (ops t).length x = some i → T.know t i w = true → x.rd ≤ cameN (S.th w)
  last : ∀ w, w < n → x.rd ≤ cameN (S.th w) + 1

structure TInv (T : TA ops n nc) (rounds : Nat) (S : BS) : Prop where
  own : ∀ t, t < n → Own T rounds S t (S.th t)
  cell : ∀ c u j, T.tel c = some (u, j) → S.cell c = toldN (S.th u) j
  zero : ∀ c, T.tel c = none → S.cell c = 0

/-- The same, but perhaps awake. -/
def Like (y x : Th) : Prop := y.ph = x.ph ∧ y.rd = x.rd ∧ y.r1 = x.r1 ∧ (y.slp = true → x.slp = true)
theorem Like.refl (x : Th) : Like x x := ⟨rfl, rfl, rfl, id⟩
theorem Like.came {y x : Th} (h : Like y x) : cameN y = cameN x := by unfold cameN; rw [h.1, h.2.1]
theorem Like.tolds {y x : Th} (h : Like y x) (j : Nat) : toldN y j = toldN x j := by unfold toldN; rw [h.1, h.2.1]

/-- A party moved; whoever is still asleep sleeps on as before. -/
theorem TInv.move {T : TA ops n nc} {S S' : BS} (h : TInv T rounds S) {t : Nat} (ht : t < n) (hl : ∀ u, u < n → u ≠ t → Like (S'.th u) (S.th u)) (hcam : cameN (S.th t) ≤ cameN (S'.th t)) (hown : Own T rounds S' t (S'.th t))
    (hcell : ∀ c u j, T.tel c = some (u, j) → S'.cell c = toldN (S'.th u) j) (hzero : ∀ c, T.tel c = none → S'.cell c = 0) (hup : ∀ c, S.cell c ≤ S'.cell c)
    (hnap : ∀ u i c, u < n → u ≠ t → (S'.th u).slp = true → (S.th u).ph = .op i 4 → (ops u).getD i default = .await c → (S.cell c = (S.th u).r1 ∨ ∃ v j, T.tel c = some (v, j) ∧ (S.th v).ph = .op j 1) → S'.cell c = (S.th u).r1 ∨ ∃ v j, T.tel c = some (v, j) ∧ (S'.th v).ph = .op j 1) : TInv T rounds S' := by
  refine ⟨fun u hu => ?_, hcell, hzero⟩
  by_cases e : u = t
  · subst e; exact hown
  have hL := hl u hu e
  have ho := h.own u hu
  have hc : ∀ w, w < n → cameN (S.th w) ≤ cameN (S'.th w) := fun w hw => by
    by_cases e' : w = t
    · subst e'; exact hcam
    · rw [(hl w hw e').came]; exact Nat.le_refl _
  obtain ⟨h1, h2, h3, h4⟩ := hL
  refine ⟨by rw [h1, h2]; exact ho.rd, by rw [h1]; exact ho.ok, fun i k c e1 e2 => ?_, fun hs => by rw [h1]; exact ho.nap (h4 hs), fun w i hw e1 e2 => ?_, fun w hw => ?_⟩
  · rw [h1] at e1
    obtain ⟨a1, a2, a3, a4⟩ := ho.aw i k c e1 e2
    refine ⟨fun hk => by rw [h3]; exact Int.le_trans (a1 hk) (hup c), fun hk => by rw [h2, h3]; exact a2 hk, fun hk => by rw [h2, h3]; exact a3 hk, fun hs => ?_⟩
    obtain ⟨b1, b2⟩ := a4 (h4 hs)
    rw [h2, h3]
    obtain ⟨i', c', e3, e4⟩ := ho.nap (h4 hs)
    rw [e1] at e3
    injection e3 with e5 e6
    subst e5 e6
    exact ⟨b1, hnap u i c hu e hs e1 e2 b2⟩
  · have e1' : doneN (ops u).length (S.th u) = some i := by unfold doneN at e1 ⊢; rw [h1] at e1; exact e1
    rw [h2]
    exact Nat.le_trans (ho.know w i hw e1' e2) (hc w hw)
  · rw [h2]
    have := ho.last w hw
    have := hc w hw
    omega
end
end Go.Proofs.YtgkfhihnfllmhaaGreatDoor

namespace Go.Proofs.YtgkfhihnfllmhaaGreatDoor
set_option maxRecDepth 100000
set_option linter.unusedVariables false
set_option linter.unusedSimpArgs false

section
variable {ops : Nat → List BOp} {n nc rounds : Nat} {T : TA ops n nc} {S S' : BS} {t : Nat}

/-- No cell changed, and nobody was woken. -/
theorem TInv.calm (h : TInv T rounds S) (ht : t < n) {x : Th} (hcam : cameN (S.th t) ≤ cameN x) (hown : Own T rounds ⟨upd S.th t x, S.cell⟩ t x)
    (htold : ∀ j c k, j < (ops t).length → (ops t).getD j default = .tell c k → toldN x j = toldN (S.th t) j) (hp : ∀ j c k, (S.th t).ph = .op j 1 → (ops t).getD j default ≠ .tell c k) : TInv T rounds ⟨upd S.th t x, S.cell⟩ := by
  refine h.move ht (fun u hu e => ?_) ?_ ?_ (fun c u j e => ?_) h.zero (fun c => Int.le_refl _) (fun u i c hu e hs h1 h2 h3 => ?_)
  · show Like (upd S.th t x u) (S.th u)
    rw [upd_ne _ _ e]
    exact Like.refl _
  · show _ ≤ cameN (upd S.th t x t)
    rw [upd_same]
    exact hcam
  · show Own T rounds _ t (upd S.th t x t)
    rw [upd_same]
    exact hown
  · show S.cell c = toldN (upd S.th t x u) j
    rw [h.cell c u j e]
    by_cases e' : u = t
    · subst e'
      obtain ⟨_, hj, k, hk⟩ := T.tel_ok c u j e
      rw [upd_same, htold j c k hj hk]
    · rw [upd_ne _ _ e']
  · rcases h3 with h3 | ⟨v, j, h3, h4⟩
    · exact .inl h3
    · refine .inr ⟨v, j, h3, ?_⟩
      show (upd S.th t x v).ph = _
      by_cases e' : v = t
      · subst e'
        obtain ⟨_, hj, k, hk⟩ := T.tel_ok c v j h3
        exact absurd hk (hp j c k h4)
      · rw [upd_ne _ _ e']
        exact h4

/-- Own of a party that stays in its round. -/
theorem own_of (h : TInv T rounds S) (ht : t < n) {x : Th} {cell : Nat → Int} (hrd : x.rd = (S.th t).rd) (hin : inRound x.ph = true → x.rd ≤ rounds) (hb0 : x.ph ≠ .b0) (hend : x.ph = .halt ∨ x.ph = .fin → x.rd = rounds + 1) (hok : okPh (ops t) x.ph) (hcam : cameN (S.th t) ≤ cameN x)
    (haw : ∀ i k c, x.ph = .op i k → (ops t).getD i default = .await c → (1 ≤ k → x.r1 ≤ cell c) ∧ (k = 2 → (x.rd : Int) ≤ x.r1) ∧ (k = 3 → x.r1 < x.rd) ∧ (x.slp = true → x.r1 < x.rd ∧ cell c = x.r1))
    (hnap : x.slp = true → ∃ i c, x.ph = .op i 4 ∧ (ops t).getD i default = .await c)
    (hknow : ∀ w i, w < n → doneN (ops t).length x = some i → T.know t i w = true → w ≠ t → x.rd ≤ cameN (S.th w)) (hself : ∀ i, doneN (ops t).length x = some i → x.rd ≤ cameN x) : Own T rounds ⟨upd S.th t x, cell⟩ t x := by
  have ho := h.own t ht
  refine ⟨⟨by rw [hrd]; exact ho.rd.1, by rw [hrd]; exact ho.rd.2.1, hin, fun e => absurd e hb0, hend⟩, hok, fun i k c e1 e2 => ?_, hnap, fun w i hw e1 e2 => ?_, fun w hw => ?_⟩
  · obtain ⟨a1, a2, a3, a4⟩ := haw i k c e1 e2
    exact ⟨a1, a2, a3, fun hs => ⟨(a4 hs).1, .inl (a4 hs).2⟩⟩
  · show x.rd ≤ cameN (upd S.th t x w)
    by_cases e : w = t
    · subst e
      rw [upd_same]
      exact hself i e1
    · rw [upd_ne _ _ e]
      exact hknow w i hw e1 e2 e
  · show x.rd ≤ cameN (upd S.th t x w) + 1
    by_cases e : w = t
    · subst e
      rw [upd_same, hrd]
      have := ho.last w hw
      omega
    · rw [upd_ne _ _ e, hrd]
      exact ho.last w hw

/-- A party that goes on in its pieces, or behind them, having done no more than before. -/
theorem TInv.frame (h : TInv T rounds S) (ht : t < n) (hs : (S.th t).slp = false) (hph : (S.th t).ph = .b0 ∨ (S.th t).ph = .b1 ∨ (S.th t).ph = .less ∨ (S.th t).ph = .halt ∨ (S.th t).ph = .came ∨ (S.th t).ph = .gone ∨ (S.th t).ph = .plus ∨ (S.th t).ph = .jump) : TInv T rounds (stepS ops rounds t S) := by
  have ho := h.own t ht
  obtain ⟨x, hx⟩ : ∃ x, S.th t = x := ⟨_, rfl⟩
  unfold stepS doTh
  have hold := fun (w : Nat) (hw : w < n) => ho.last w hw
  have hkn := ho.know
  have hrd := ho.rd
  rw [hx] at hph hs hkn hrd hold ⊢
  obtain ⟨ph, rd, r1, slp⟩ := x
  dsimp only at hph hs hrd hold ⊢
  subst hs
  have noaw : ∀ {p : Ph} {cell : Nat → Int}, (∀ i k, p ≠ .op i k) → ∀ i k c, (⟨p, rd, r1, false⟩ : Th).ph = .op i k → (ops t).getD i default = .await c → (1 ≤ k → r1 ≤ cell c) ∧ (k = 2 → (rd : Int) ≤ r1) ∧ (k = 3 → r1 < rd) ∧ (false = true → r1 < rd ∧ cell c = r1) := fun hne i k c e => absurd e (hne i k)
  rcases hph with rfl | rfl | rfl | rfl | rfl | rfl | rfl | rfl
  · -- b0
    have hrd1 : rd = 1 := hrd.2.2.2.1 rfl
    subst hrd1
    exact h.calm ht (by rw [hx]; exact Nat.le_refl _) (own_of h ht (by rw [hx]) (by intro e; cases e) (by simp) (by simp) trivial (by rw [hx]; exact Nat.le_refl _) (noaw (by simp)) (by simp) (fun w i hw e => by cases e) (fun i e => by cases e)) (fun j c k hj hk => by rw [hx]; rfl) (fun j c k e => by rw [hx] at e; cases e)
  · -- b1
    exact h.calm ht (by rw [hx]; exact Nat.le_refl _) (own_of h ht (by rw [hx]) (by intro e; cases e) (by simp) (by simp) trivial (by rw [hx]; exact Nat.le_refl _) (noaw (by simp)) (by simp) (fun w i hw e => by cases e) (fun i e => by cases e)) (fun j c k hj hk => by rw [hx]; rfl) (fun j c k e => by rw [hx] at e; cases e)
  · -- less
    by_cases hlt : rd < rounds + 1
    · rw [if_pos hlt]
      exact h.calm ht (by rw [hx]; exact Nat.le_refl _) (own_of h ht (by rw [hx]) (by intro _; dsimp only; omega) (by simp) (by simp) trivial (by rw [hx]; exact Nat.le_refl _) (noaw (by simp)) (by simp) (fun w i hw e => by cases e) (fun i e => by cases e)) (fun j c k hj hk => by rw [hx]; rfl) (fun j c k e => by rw [hx] at e; cases e)
    · rw [if_neg hlt]
      exact h.calm ht (by rw [hx]; exact Nat.le_refl _) (own_of h ht (by rw [hx]) (by intro e; cases e) (by simp) (by intro _; dsimp only; omega) trivial (by rw [hx]; exact Nat.le_refl _) (noaw (by simp)) (by simp) (fun w i hw e => by cases e) (fun i e => by cases e)) (fun j c k hj hk => by rw [hx]; rfl) (fun j c k e => by rw [hx] at e; cases e)
  · -- halt
    exact h.calm ht (by rw [hx]; exact Nat.le_refl _) (own_of h ht (by rw [hx]) (by intro e; cases e) (by simp) (by intro _; exact hrd.2.2.2.2 (.inl rfl)) trivial (by rw [hx]; exact Nat.le_refl _) (noaw (by simp)) (by simp) (fun w i hw e => by cases e) (fun i e => by cases e)) (fun j c k hj hk => by rw [hx]; rfl) (fun j c k e => by rw [hx] at e; cases e)
  · -- came
    have hin := hrd.2.2.1 rfl
    by_cases hL : 0 < (ops t).length
    · have e : nxt (ops t) 0 = .op 0 0 := if_pos hL
      rw [e]
      refine h.calm ht (by rw [hx]; show rd - 1 ≤ rd; omega) (own_of h ht (by rw [hx]) (fun _ => hin) (by simp) (by simp) ⟨hL, opLen_pos _⟩ (by rw [hx]; show rd - 1 ≤ rd; omega) ?_ (by simp) (fun w i hw e1 e2 e3 => ?_) (fun i e => Nat.le_refl _)) (fun j c k hj hk => by rw [hx]; show (if (decide (j < 0) || (decide (j = 0) && decide (1 ≤ 0))) = true then rd else rd - 1) = rd - 1; simp) (fun j c k e => by rw [hx] at e; cases e)
      · intro i k c e1 e2
        injection e1 with e1 e3
        subst e1 e3
        exact ⟨by omega, by omega, by omega, by simp⟩
      · injection e1 with e1
        subst e1
        exact absurd (T.know0 t w ht e2) e3
    · have e : nxt (ops t) 0 = .gone := if_neg hL
      rw [e]
      refine h.calm ht (by rw [hx]; show rd - 1 ≤ rd; omega) (own_of h ht (by rw [hx]) (fun _ => hin) (by simp) (by simp) trivial (by rw [hx]; show rd - 1 ≤ rd; omega) (noaw (by simp)) (by simp) (fun w i hw e1 e2 e3 => ?_) (fun i e => Nat.le_refl _)) (fun j c k hj hk => by omega) (fun j c k e => by rw [hx] at e; cases e)
      injection e1 with e1
      rw [← e1, show (ops t).length = 0 by omega] at e2
      exact absurd (T.know0 t w ht e2) e3
  · -- gone
    exact h.calm ht (by rw [hx]; exact Nat.le_refl _) (own_of h ht (by rw [hx]) (fun _ => hrd.2.2.1 rfl) (by simp) (by simp) trivial (by rw [hx]; exact Nat.le_refl _) (noaw (by simp)) (by simp) (fun w i hw e1 e2 _ => hkn w i hw e1 e2) (fun i e => Nat.le_refl _)) (fun j c k hj hk => by rw [hx]; rfl) (fun j c k e => by rw [hx] at e; cases e)
  · -- plus
    have hin := hrd.2.2.1 rfl
    have hall : ∀ w, w < n → rd ≤ cameN (S.th w) := fun w hw => hkn w _ hw rfl (T.know_all t w ht hw)
    have hcam : cameN (S.th t) ≤ cameN (⟨.jump, rd + 1, r1, false⟩ : Th) := by rw [hx]; show rd ≤ rd + 1 - 1; omega
    have hown : Own T rounds ⟨upd S.th t ⟨.jump, rd + 1, r1, false⟩, S.cell⟩ t ⟨.jump, rd + 1, r1, false⟩ := by
      refine ⟨⟨Nat.succ_le_succ (Nat.zero_le _), Nat.succ_le_succ hin, fun e => (by cases e), fun e => (by cases e), fun e => (by rcases e with e | e <;> cases e)⟩, trivial, fun i k c e => (by cases e), fun e => (by cases e), fun w i hw e => (by cases e), fun w hw => ?_⟩
      show rd + 1 ≤ cameN (upd S.th t _ w) + 1
      by_cases e : w = t
      · subst e
        rw [upd_same]
        show rd + 1 ≤ rd + 1 - 1 + 1
        omega
      · rw [upd_ne _ _ e]
        have := hall w hw
        omega
    exact h.calm ht hcam hown (fun j c k hj hk => by rw [hx]; show rd + 1 - 1 = rd; omega) (fun j c k e => by rw [hx] at e; cases e)
  · -- jump
    exact h.calm ht (by rw [hx]; exact Nat.le_refl _) (own_of h ht (by rw [hx]) (by intro e; cases e) (by simp) (by simp) trivial (by rw [hx]; exact Nat.le_refl _) (noaw (by simp)) (by simp) (fun w i hw e => by cases e) (fun i e => by cases e)) (fun j c k hj hk => by rw [hx]; rfl) (fun j c k e => by rw [hx] at e; cases e)
end
end Go.Proofs.YtgkfhihnfllmhaaGreatDoor

namespace Go.Proofs.YtgkfhihnfllmhaaGreatDoor
set_option maxRecDepth 100000
set_option linter.unusedVariables false
set_option linter.unusedSimpArgs false

section
variable {ops : Nat → List BOp} {n nc rounds : Nat} {T : TA ops n nc} {S S' : BS} {t : Nat}

theorem upd_self {α : Type} (f : Nat → α) (c : Nat) : upd f c (f c) = f := by
  funext d
  by_cases e : d = c
  · subst e; exact upd_same _ _ _
  · exact upd_ne _ _ e

/-- Who told a cell in a round, or later, knows who came. -/
theorem told_came (h : TInv T rounds S) {u j w r : Nat} (hu : u < n) (hw : w < n) (hj : j < (ops u).length) (hr : r ≤ toldN (S.th u) j) (hk : T.know u j w = true) : r ≤ cameN (S.th w) := by
  have ho := h.own u hu
  have hl := ho.last w hw
  have hkn := ho.know w
  have hok := ho.ok
  unfold toldN at hr
  split at hr
  · rename_i htold
    unfold doneN at hkn
    cases hph : (S.th u).ph with
    | op i k =>
      rw [hph] at htold hkn hok
      simp only [told, Bool.or_eq_true, Bool.and_eq_true, decide_eq_true_eq] at htold
      have h1 := hok.1
      exact Nat.le_trans hr (hkn i hw rfl (T.know_mono u j i w hu (by omega) (by omega) hk))
    | gone | plus =>
      rw [hph] at hkn
      exact Nat.le_trans hr (hkn _ hw rfl (T.know_mono u j _ w hu (Nat.le_refl _) (by omega) hk))
    | b0 | b1 | less | halt | came | jump | fin => rw [hph] at htold; cases htold
  · omega

/-- The same pieces are told. -/
theorem told_same {i k : Nat} {ph : Ph} (hi : i < (ops t).length) (hna : ∀ c s, (ops t).getD i default ≠ .tell c s) (hph : (∃ k', ph = .op i k') ∨ ph = nxt (ops t) (i + 1)) {j c s : Nat} (hj : j < (ops t).length) (hs : (ops t).getD j default = .tell c s) : told ph j = told (.op i k) j := by
  have hne : j ≠ i := fun e => by subst e; exact hna c s hs
  rcases hph with ⟨k', rfl⟩ | rfl
  · simp [told, hne]
  · unfold nxt
    split
    · simp only [told, hne, decide_false, Bool.false_and, Bool.or_false]
      rw [Bool.eq_iff_iff]
      simp
      omega
    · simp only [told, hne, decide_false, Bool.false_and, Bool.or_false]
      symm
      rw [decide_eq_true_eq]
      omega
theorem came_op {x : Th} {i k : Nat} (h : x.ph = .op i k) : cameN x = x.rd := by unfold cameN; rw [h]
theorem came_nxt {x : Th} {l : List BOp} {i : Nat} (h : x.ph = nxt l i) : cameN x = x.rd := by
  unfold cameN nxt at *
  split at h <;> rw [h]
theorem done_nxt {x : Th} {l : List BOp} {i : Nat} (hi : i ≤ l.length) (h : x.ph = nxt l i) : doneN l.length x = some i := by
  by_cases hlt : i < l.length
  · rw [show nxt l i = .op i 0 from if_pos hlt] at h
    unfold doneN
    rw [h]
  · rw [show nxt l i = .gone from if_neg hlt] at h
    unfold doneN
    rw [h]
    show some l.length = some i
    rw [show l.length = i by omega]
theorem done_op {x : Th} {L i k : Nat} (h : x.ph = .op i k) : doneN L x = some i := by unfold doneN; rw [h]

theorem told_past {l : List BOp} {i j : Nat} (hj : j < l.length) : told (nxt l (i + 1)) j = decide (j ≤ i) := by
  by_cases hlt : i + 1 < l.length
  · rw [show nxt l (i + 1) = .op (i + 1) 0 from if_pos hlt, Bool.eq_iff_iff]
    simp [told]
    omega
  · rw [show nxt l (i + 1) = .gone from if_neg hlt, Bool.eq_iff_iff]
    simp [told]
    omega
theorem told_one {i j : Nat} : told (.op i 1) j = decide (j ≤ i) := by
  rw [Bool.eq_iff_iff]
  simp [told]
  omega
/-- A step within an Await that does no more than go on. -/
theorem TInv.await_go (h : TInv T rounds S) (ht : t < n) {i k c : Nat} (hph : (S.th t).ph = .op i k) (hi : i < (ops t).length) (ho : (ops t).getD i default = .await c) {k' : Nat} (hk' : k' < 5) {r1 : Int} {slp : Bool}
    (h1 : 1 ≤ k' → r1 ≤ S.cell c) (h2 : k' = 2 → ((S.th t).rd : Int) ≤ r1) (h3 : k' = 3 → r1 < (S.th t).rd) (h4 : slp = true → k' = 4 ∧ r1 < (S.th t).rd ∧ S.cell c = r1) : TInv T rounds ⟨upd S.th t ⟨.op i k', (S.th t).rd, r1, slp⟩, S.cell⟩ := by
  have hown := h.own t ht
  have hin : (S.th t).rd ≤ rounds := hown.rd.2.2.1 (by rw [hph]; rfl)
  have hna : ∀ d s, (ops t).getD i default ≠ .tell d s := fun d s e => by rw [ho] at e; cases e
  have hcam : cameN (S.th t) ≤ cameN (⟨.op i k', (S.th t).rd, r1, slp⟩ : Th) := by rw [came_op hph, came_op rfl]; exact Nat.le_refl _
  refine h.calm ht hcam (own_of h ht rfl (fun _ => hin) (by simp) (by simp) ⟨hi, by rw [ho]; exact hk'⟩ hcam ?_ ?_ (fun w i' hw e1 e2 _ => ?_) (fun _ _ => by rw [came_op rfl]; exact Nat.le_refl _)) (fun j d s hj hd => ?_) (fun j d s e hd => ?_)
  · intro i' k'' d e1 e2
    injection e1 with e1 e3
    subst e1 e3
    rw [ho] at e2
    injection e2 with e2
    subst e2
    exact ⟨h1, h2, h3, fun hs => (h4 hs).2⟩
  · intro hs
    obtain ⟨e, _⟩ := h4 hs
    subst e
    exact ⟨i, c, rfl, ho⟩
  · rw [done_op rfl] at e1
    injection e1 with e1
    subst e1
    exact hown.know w i hw (done_op hph) e2
  · unfold toldN
    rw [told_same (k := k) hi hna (.inl ⟨k', rfl⟩) hj hd, hph]
  · rw [hph] at e
    injection e with e1 e2
    subst e1
    exact hna d s hd

/-- An Await is over. -/
theorem TInv.await_out (h : TInv T rounds S) (ht : t < n) (hs : (S.th t).slp = false) {i c : Nat} (hph : (S.th t).ph = .op i 2) (hi : i < (ops t).length) (ho : (ops t).getD i default = .await c) : TInv T rounds ⟨upd S.th t ⟨nxt (ops t) (i + 1), (S.th t).rd, (S.th t).r1, false⟩, S.cell⟩ := by
  have hown := h.own t ht
  have hin : (S.th t).rd ≤ rounds := hown.rd.2.2.1 (by rw [hph]; rfl)
  have hna : ∀ d s, (ops t).getD i default ≠ .tell d s := fun d s e => by rw [ho] at e; cases e
  obtain ⟨a1, a2, _⟩ := hown.aw i 2 c hph ho
  have hge : ((S.th t).rd : Int) ≤ S.cell c := Int.le_trans (a2 rfl) (a1 (by decide))
  have hcam : cameN (S.th t) ≤ cameN (⟨nxt (ops t) (i + 1), (S.th t).rd, (S.th t).r1, false⟩ : Th) := by rw [came_op hph, came_nxt rfl]; exact Nat.le_refl _
  refine h.calm ht hcam (own_of h ht rfl (fun _ => hin) (by unfold nxt; split <;> simp) (fun e => absurd e (by unfold nxt; split <;> simp)) (nxt_ok _ _) hcam ?_ (fun e => by cases e) (fun w i' hw e1 e2 hne => ?_) (fun _ _ => by rw [came_nxt rfl]; exact Nat.le_refl _)) (fun j d s hj hd => ?_) (fun j d s e hd => ?_)
  · intro i' k' d e1 e2
    have hk0 : k' = 0 := by
      dsimp only at e1
      unfold nxt at e1
      split at e1
      · injection e1 with _ e1; exact e1.symm
      · cases e1
    subst hk0
    exact ⟨by omega, by omega, by omega, by simp⟩
  · rw [done_nxt (by omega) rfl] at e1
    injection e1 with e1
    subst e1
    rcases T.knowS t i w ht hi e2 with e3 | ⟨d, u, j, e3, e4, e5⟩
    · exact hown.know w i hw (done_op hph) e3
    · rw [ho] at e3
      injection e3 with e3
      subst e3
      obtain ⟨hu, hj, _⟩ := T.tel_ok c u j e4
      rw [h.cell c u j e4] at hge
      exact told_came h hu hw hj (by exact_mod_cast hge) e5
  · unfold toldN
    rw [told_same (k := 2) hi hna (.inr rfl) hj hd, hph]
  · rw [hph] at e
    injection e with e1 e2
    cases e2

/-- A cell is told. -/
theorem TInv.tell_put (h : TInv T rounds S) (ht : t < n) (hs : (S.th t).slp = false) {i c s : Nat} (hph : (S.th t).ph = .op i 0) (hi : i < (ops t).length) (ho : (ops t).getD i default = .tell c s) : TInv T rounds ⟨upd S.th t ⟨.op i 1, (S.th t).rd, (S.th t).r1, false⟩, upd S.cell c (S.th t).rd⟩ := by
  have hown := h.own t ht
  have hin : (S.th t).rd ≤ rounds := hown.rd.2.2.1 (by rw [hph]; rfl)
  have htel := T.tel_of t i c s ht hi ho
  have hcc : S.cell c = ((S.th t).rd - 1 : Nat) := by
    rw [h.cell c t i htel]
    unfold toldN told
    rw [hph]
    simp
  have hcam : cameN (S.th t) ≤ cameN (⟨.op i 1, (S.th t).rd, (S.th t).r1, false⟩ : Th) := by rw [came_op hph, came_op rfl]; exact Nat.le_refl _
  refine h.move ht (fun u hu e => ?_) ?_ ?_ (fun d u j e => ?_) (fun d e => ?_) (fun d => ?_) (fun u i' d hu e hsl h1 h2 h3 => ?_)
  · show Like (upd S.th t _ u) (S.th u)
    rw [upd_ne _ _ e]
    exact Like.refl _
  · show _ ≤ cameN (upd S.th t _ t)
    rw [upd_same]
    exact hcam
  · show Own T rounds _ t (upd S.th t _ t)
    rw [upd_same]
    refine own_of h ht rfl (fun _ => hin) (by simp) (by simp) ⟨hi, by rw [ho]; show 1 < 2; decide⟩ hcam ?_ (fun e => by cases e) (fun w i' hw e1 e2 _ => ?_) (fun _ _ => by rw [came_op rfl]; exact Nat.le_refl _)
    · intro i' k' d e1 e2
      injection e1 with e1 e3
      subst e1
      rw [ho] at e2
      cases e2
    · rw [done_op rfl] at e1
      injection e1 with e1
      subst e1
      exact hown.know w i hw (done_op hph) e2
  · show upd S.cell c _ d = toldN (upd S.th t _ u) j
    by_cases hd : d = c
    · subst hd
      rw [htel] at e
      injection e with e
      injection e with e1 e2
      subst e1 e2
      rw [upd_same, upd_same]
      unfold toldN told
      simp
    · rw [upd_ne _ _ hd, h.cell d u j e]
      by_cases hu : u = t
      · subst hu
        rw [upd_same]
        have hji : j ≠ i := fun e' => by
          subst e'
          obtain ⟨_, _, k, hk⟩ := T.tel_ok d u j e
          rw [ho] at hk
          injection hk with hk
          exact hd hk.symm
        unfold toldN told
        rw [hph]
        simp [hji]
      · rw [upd_ne _ _ hu]
  · show upd S.cell c _ d = 0
    rw [upd_ne _ _ (fun e' => by subst e'; rw [htel] at e; cases e)]
    exact h.zero d e
  · show S.cell d ≤ upd S.cell c _ d
    by_cases hd : d = c
    · subst hd
      rw [upd_same, hcc]
      omega
    · rw [upd_ne _ _ hd]
      exact Int.le_refl _
  · show upd S.cell c _ d = _ ∨ ∃ v j, T.tel d = some (v, j) ∧ (upd S.th t _ v).ph = .op j 1
    by_cases hd : d = c
    · subst hd
      exact .inr ⟨t, i, htel, by rw [upd_same]⟩
    · rw [upd_ne _ _ hd]
      rcases h3 with h3 | ⟨v, j, h3, h4⟩
      · exact .inl h3
      · refine .inr ⟨v, j, h3, ?_⟩
        rw [upd_ne _ _ (fun e' => by subst e'; rw [hph] at h4; cases h4)]
        exact h4

/-- Who awaits a cell is woken. -/
theorem TInv.tell_wake (h : TInv T rounds S) (ht : t < n) (hs : (S.th t).slp = false) {i c s : Nat} (hph : (S.th t).ph = .op i 1) (hi : i < (ops t).length) (ho : (ops t).getD i default = .tell c s) : TInv T rounds ⟨upd (wakeAll ops c S.th) t ⟨nxt (ops t) (i + 1), (S.th t).rd, (S.th t).r1, false⟩, S.cell⟩ := by
  have hown := h.own t ht
  have hin : (S.th t).rd ≤ rounds := hown.rd.2.2.1 (by rw [hph]; rfl)
  have htel := T.tel_of t i c s ht hi ho
  have hcam : cameN (S.th t) ≤ cameN (⟨nxt (ops t) (i + 1), (S.th t).rd, (S.th t).r1, false⟩ : Th) := by rw [came_op hph, came_nxt rfl]; exact Nat.le_refl _
  have hlike : ∀ u, Like (wakeAll ops c S.th u) (S.th u) := fun u => by
    unfold wakeAll
    split
    · exact ⟨rfl, rfl, rfl, fun e => by cases e⟩
    · exact Like.refl _
  refine h.move ht (fun u hu e => ?_) ?_ ?_ (fun d u j e => ?_) h.zero (fun d => Int.le_refl _) (fun u i' d hu e hsl h1 h2 h3 => ?_)
  · show Like (upd _ t _ u) (S.th u)
    rw [upd_ne _ _ e]
    exact hlike u
  · show _ ≤ cameN (upd _ t _ t)
    rw [upd_same]
    exact hcam
  · show Own T rounds _ t (upd _ t _ t)
    rw [upd_same]
    have hw := own_of (cell := S.cell) h ht (x := ⟨nxt (ops t) (i + 1), (S.th t).rd, (S.th t).r1, false⟩) rfl (fun _ => hin) (by unfold nxt; split <;> simp) (fun e => absurd e (by unfold nxt; split <;> simp)) (nxt_ok _ _) hcam (by
      intro i' k' d e1 e2
      have hk0 : k' = 0 := by
        dsimp only at e1
        unfold nxt at e1
        split at e1
        · injection e1 with _ e1; exact e1.symm
        · cases e1
      subst hk0
      exact ⟨by omega, by omega, by omega, by simp⟩) (fun e => by cases e) (fun w i' hw e1 e2 hne => by
      rw [done_nxt (by omega) rfl] at e1
      injection e1 with e1
      subst e1
      rcases T.knowS t i w ht hi e2 with e3 | ⟨d, u, j, e3, e4, e5⟩
      · exact hown.know w i hw (done_op hph) e3
      · rw [ho] at e3
        cases e3) (fun _ _ => by rw [came_nxt rfl]; exact Nat.le_refl _)
    refine ⟨hw.rd, hw.ok, fun i' k' d e1 e2 => ?_, hw.nap, fun w i' hw' e1 e2 => ?_, fun w hw' => ?_⟩
    · obtain ⟨b1, b2, b3, _⟩ := hw.aw i' k' d e1 e2
      exact ⟨b1, b2, b3, fun e => by cases e⟩
    · have := hw.know w i' hw' e1 e2
      by_cases e : w = t
      · subst e
        dsimp only at this ⊢
        rw [upd_same] at this ⊢
        exact this
      · dsimp only at this ⊢
        rw [upd_ne _ _ e] at this ⊢
        rw [(hlike w).came]
        exact this
    · have := hw.last w hw'
      by_cases e : w = t
      · subst e
        dsimp only at this ⊢
        rw [upd_same] at this ⊢
        exact this
      · dsimp only at this ⊢
        rw [upd_ne _ _ e] at this ⊢
        rw [(hlike w).came]
        exact this
  · show S.cell d = toldN (upd _ t _ u) j
    rw [h.cell d u j e]
    by_cases hu : u = t
    · subst hu
      rw [upd_same]
      obtain ⟨_, hj, k, hk⟩ := T.tel_ok d u j e
      unfold toldN
      rw [hph, told_one, told_past hj]
    · rw [upd_ne _ _ hu, (hlike u).tolds]
  · show S.cell d = (S.th u).r1 ∨ ∃ v j, T.tel d = some (v, j) ∧ (upd (wakeAll ops c S.th) t (⟨nxt (ops t) (i + 1), (S.th t).rd, (S.th t).r1, false⟩ : Th) v).ph = .op j 1
    have hdc : d ≠ c := fun e' => by
      subst e'
      dsimp only at hsl
      rw [upd_ne _ _ e] at hsl
      unfold wakeAll at hsl
      rw [if_pos (by rw [h1]; show napOp ((ops u).getD i' default) 4 = _; rw [h2]; rfl)] at hsl
      cases hsl
    rcases h3 with h3 | ⟨v, j, h3, h4⟩
    · exact .inl h3
    · refine .inr ⟨v, j, h3, ?_⟩
      by_cases hv : v = t
      · subst hv
        rw [hph] at h4
        injection h4 with h4
        subst h4
        obtain ⟨_, _, k, hk⟩ := T.tel_ok d v i h3
        rw [ho] at hk
        injection hk with hk
        exact absurd hk.symm hdc
      · rw [upd_ne _ _ hv, (hlike v).1]
        exact h4

theorem TInv.step (h : TInv T rounds S) (ht : t < n) (hs : (S.th t).slp = false) : TInv T rounds (stepS ops rounds t S) := by
  have hown := h.own t ht
  cases hph : (S.th t).ph with
  | b0 | b1 | less | halt | came | gone | plus | jump => exact h.frame ht hs (by rw [hph]; simp)
  | fin =>
    have e : stepS ops rounds t S = S := by
      unfold stepS doTh
      rw [hph]
      show (⟨upd S.th t (S.th t), S.cell⟩ : BS) = S
      rw [upd_self]
    rw [e]
    exact h
  | op i k =>
    have hok := hown.ok
    rw [hph] at hok
    obtain ⟨hi, hk⟩ := hok
    have hx : S.th t = ⟨.op i k, (S.th t).rd, (S.th t).r1, false⟩ := by rw [← hph, ← hs]
    have hd : stepS ops rounds t S = (let d := doOp (ops t) S.cell (S.th t) i k ((ops t).getD i default); ⟨upd (match d.wake with | some w => wakeAll ops w.1 S.th | none => S.th) t d.th, match d.touch with | some q => upd S.cell q.2.1 q.2.2 | none => S.cell⟩) := by
      unfold stepS doTh
      rw [hph]
      rfl
    rw [hd]
    rcases T.kind t i ht hi with ⟨c, s, ho⟩ | ⟨c, ho⟩
    · rw [ho] at hk ⊢
      have hk2 : k < 2 := hk
      have h01 : k = 0 ∨ k = 1 := by omega
      rcases h01 with rfl | rfl
      ·
        have := h.tell_put ht hs hph hi ho
        simpa [doOp, hs] using this
      ·
        have := h.tell_wake ht hs hph hi ho
        simpa [doOp, hs] using this
    · rw [ho] at hk ⊢
      have hk5 : k < 5 := hk
      obtain ⟨a1, a2, a3, a4⟩ := hown.aw i k c hph ho
      have h04 : k = 0 ∨ k = 1 ∨ k = 2 ∨ k = 3 ∨ k = 4 := by omega
      rcases h04 with rfl | rfl | rfl | rfl | rfl
      ·
        have := h.await_go ht hph hi ho (k' := 1) (by decide) (r1 := S.cell c) (slp := false) (fun _ => Int.le_refl _) (by omega) (by omega) (by simp)
        simpa [doOp, doAwait, hs, upd_self] using this
      ·
        by_cases hlt : (S.th t).r1 < (S.th t).rd
        · have := h.await_go ht hph hi ho (k' := 3) (by decide) (r1 := (S.th t).r1) (slp := false) (fun _ => a1 (by decide)) (by omega) (fun _ => hlt) (by simp)
          simpa [doOp, doAwait, hs, hlt] using this
        · have := h.await_go ht hph hi ho (k' := 2) (by decide) (r1 := (S.th t).r1) (slp := false) (fun _ => a1 (by decide)) (fun _ => by omega) (by omega) (by simp)
          simpa [doOp, doAwait, hs, hlt] using this
      ·
        have := h.await_out ht hs hph hi ho
        simpa [doOp, doAwait, hs] using this
      ·
        by_cases he : S.cell c = (S.th t).r1
        · have := h.await_go ht hph hi ho (k' := 4) (by decide) (r1 := (S.th t).r1) (slp := true) (fun _ => a1 (by decide)) (by omega) (by omega) (fun _ => ⟨rfl, a3 rfl, he⟩)
          simpa [doOp, doAwait, hs, he] using this
        · have := h.await_go ht hph hi ho (k' := 4) (by decide) (r1 := (S.th t).r1) (slp := false) (fun _ => a1 (by decide)) (by omega) (by omega) (by simp)
          simpa [doOp, doAwait, hs, he] using this
      ·
        have := h.await_go ht hph hi ho (k' := 0) (by decide) (r1 := (S.th t).r1) (slp := false) (by omega) (by omega) (by omega) (by simp)
        simpa [doOp, doAwait, hs] using this

/-- Who is woken for nothing. -/
theorem TInv.poke (h : TInv T rounds S) (ht : t < n) : TInv T rounds ⟨upd S.th t { S.th t with slp := false }, S.cell⟩ := by
  have hlike : ∀ u, Like (upd S.th t { S.th t with slp := false } u) (S.th u) := fun u => by
    by_cases e : u = t
    · subst e
      rw [upd_same]
      exact ⟨rfl, rfl, rfl, fun e => by cases e⟩
    · rw [upd_ne _ _ e]
      exact Like.refl _
  have ho := h.own t ht
  refine h.move ht (fun u hu e => hlike u) (Nat.le_of_eq ((hlike t).came).symm) ?_ (fun d u j e => by rw [h.cell d u j e]; exact congrArg _ ((hlike u).tolds j).symm) h.zero (fun d => Int.le_refl _) (fun u i c hu e hsl h1 h2 h3 => ?_)
  · show Own T rounds _ t (upd S.th t _ t)
    rw [upd_same]
    refine ⟨ho.rd, ho.ok, fun i k c e1 e2 => ?_, fun e => (by cases e), fun w i hw e1 e2 => ?_, fun w hw => ?_⟩
    · obtain ⟨a1, a2, a3, _⟩ := ho.aw i k c e1 e2
      exact ⟨a1, a2, a3, fun e => by cases e⟩
    · rw [(hlike w).came]
      exact ho.know w i hw e1 e2
    · rw [(hlike w).came]
      exact ho.last w hw
  · rcases h3 with h3 | ⟨v, j, h3, h4⟩
    · exact .inl h3
    · exact .inr ⟨v, j, h3, by rw [(hlike v).1]; exact h4⟩
end
end Go.Proofs.YtgkfhihnfllmhaaGreatDoor

namespace Go.Proofs.YtgkfhihnfllmhaaGreatDoor
set_option maxRecDepth 100000
set_option linter.unusedVariables false
set_option linter.unusedSimpArgs false

section
variable {ops : Nat → List BOp} {n nc rounds : Nat} {T : TA ops n nc} {S S' : BS} {t : Nat} {m : Mach}

def bar0 : BS := ⟨fun _ => ⟨.b0, 1, 0, false⟩, fun _ => 0⟩
def barM (ops : Nat → List BOp) (n nc rounds : Nat) : Mach := newM ((List.range n).map fun t => barP rounds (ops t)) (List.replicate nc 0)

theorem getD_map_const {α β : Type} (l : List α) (v d : β) (i : Nat) (h : i < l.length) : (l.map fun _ => v).getD i d = v := by
  rw [List.getD_eq_getElem?_getD, List.getElem?_map, List.getElem?_eq_getElem h]
  rfl
theorem bar_sim0 : Sim ops n nc rounds bar0 (barM ops n nc rounds) := by
  have hl : ((List.range n).map fun t => barP rounds (ops t)).length = n := by simp
  refine ⟨rfl, by simp [barM, newM], by simp [barM, newM], by simp [barM, newM], by simp [barM, newM], fun t ht => ?_, fun c hc => ?_, ⟨fun s hs => (by cases hs), fun t c _ h => (by cases h), List.Pairwise.nil⟩⟩
  · unfold barM newM
    dsimp only
    rw [getD_map_const _ _ _ _ (by rw [hl]; exact ht), getD_map_const _ _ _ _ (by rw [hl]; exact ht), getD_map_const _ _ _ _ (by rw [hl]; exact ht)]
    exact ⟨rfl, rfl, rfl, trivial, .inl rfl, .inl rfl, rfl, fun _ _ _ _ h => (by cases h), ⟨Nat.succ_le_succ (Nat.zero_le _), fun h => (by cases h)⟩, fun h => (by cases h)⟩
  · unfold barM newM
    dsimp only
    rw [List.getD_eq_getElem?_getD, List.getElem?_replicate]
    simp [hc, bar0]
theorem bar_inv0 : TInv T rounds bar0 := by
  refine ⟨fun t ht => ⟨⟨Nat.le_refl _, Nat.succ_le_succ (Nat.zero_le _), fun h => (by cases h), fun _ => rfl, fun h => (by rcases h with h | h <;> cases h)⟩, trivial, fun i k c h => (by cases h), fun h => (by cases h), fun w i hw h => (by cases h), fun w hw => Nat.le_refl 1⟩, fun c u j e => rfl, fun c e => rfl⟩

/-- A list of pairs, no two with the same first one, all of which are in another list, is no longer. -/
theorem few_of (L : List Nat) : ∀ (l : List (Int × Int)), l.Pairwise (fun a b => a.1 ≠ b.1) → (∀ s ∈ l, ∃ t ∈ L, s.1 = (t : Int)) → l.length ≤ L.length := by
  intro l
  induction l generalizing L with
  | nil => intro _ _; exact Nat.zero_le _
  | cons s l ih =>
    intro hp hs
    obtain ⟨t, ht, e⟩ := hs s (.head _)
    rw [List.pairwise_cons] at hp
    have := ih (L.erase t) hp.2 (fun s' hs' => by
      obtain ⟨t', ht', e'⟩ := hs s' (.tail _ hs')
      refine ⟨t', (List.mem_erase_of_ne ?_).2 ht', e'⟩
      intro h
      subst h
      exact hp.1 s' hs' (e.trans e'.symm))
    rw [List.length_erase_of_mem ht] at this
    have hpos := List.length_pos_of_mem ht
    rw [List.length_cons]
    omega

theorem ta_wakes (h : TInv T rounds S) (hS : Sim ops n nc rounds S m) (ht : t < n) : WakesAll ops rounds S m t := by
  intro c s hw
  have ho := h.own t ht
  cases hph : (S.th t).ph with
  | b0 | b1 | less | halt | came | gone | plus | jump | fin => unfold doTh at hw; rw [hph] at hw; cases hw
  | op i k =>
    have hok := ho.ok
    rw [hph] at hok
    unfold doTh at hw
    rw [hph] at hw
    dsimp only at hw
    rcases T.kind t i ht hok.1 with ⟨c', s', e⟩ | ⟨c', e⟩
    · rw [e] at hw
      unfold doOp at hw
      dsimp only at hw
      split at hw
      · cases hw
      · injection hw with hw
        injection hw with h1 h2
        subst h1 h2
        refine Nat.le_trans ?_ (T.few t i c' s' ht hok.1 e)
        refine few_of _ _ (hS.lot.once.filter _) (fun z hz => ?_)
        obtain ⟨hz, hc⟩ := List.mem_filter.1 hz
        obtain ⟨u, d, e1, hu, h1, h2⟩ := hS.lot.sound z hz
        obtain ⟨i', d', e2, e3⟩ := (h.own u hu).nap h1
        rw [e2] at h2
        have h3 : napOp ((ops u).getD i' default) 4 = some d := h2
        rw [e3] at h3
        injection h3 with h3
        rw [e1] at hc
        have h4 : (d : Int) = c' := by simpa using hc
        have h5 : d = c' := by exact_mod_cast h4
        subst h5 h3
        refine ⟨u, List.mem_filter.2 ⟨List.mem_range.2 hu, ?_⟩, by rw [e1]⟩
        have hok' := (h.own u hu).ok
        rw [e2] at hok'
        rw [List.any_eq_true]
        refine ⟨(ops u).getD i' default, ?_, by rw [e3]; simp⟩
        rw [List.getD_eq_getElem?_getD, List.getElem?_eq_getElem hok'.1]
        exact List.getElem_mem _
    · rw [e] at hw
      unfold doOp doAwait at hw
      dsimp only at hw
      repeat' split at hw
      all_goals cases hw

/-- Somebody can go on, till all are at their ends. -/
theorem ta_live (h : TInv T rounds S) (hall : ∀ t, t < n → (S.th t).ph = .fin ∨ (S.th t).slp = true) : ∀ t, t < n → (S.th t).ph = .fin := by
  -- by the round, and the rank of the piece
  have key : ∀ N, ∀ t i, t < n → (S.th t).slp = true → (S.th t).ph = .op i 4 → ∀ r k, r = (S.th t).rd → k = T.rank t i → N = r + k → False := by
    suffices H : ∀ r k, ∀ t i, t < n → (S.th t).slp = true → (S.th t).ph = .op i 4 → (S.th t).rd = r → T.rank t i = k → False by
      intro N t i ht hs hp r k hr hk _
      exact H r k t i ht hs hp hr.symm hk.symm
    intro r
    induction r using Nat.strongRecOn with
    | ind r ihr =>
      intro k
      induction k using Nat.strongRecOn with
      | ind k ihk =>
        intro t i ht hs hp hr hk
        have ho := h.own t ht
        have hok := ho.ok
        rw [hp] at hok
        obtain ⟨i', c, e1, e2⟩ := ho.nap hs
        rw [hp] at e1
        injection e1 with e1
        subst e1
        obtain ⟨_, _, _, a4⟩ := ho.aw i 4 c hp e2
        obtain ⟨b1, b2⟩ := a4 hs
        obtain ⟨⟨u, j⟩, hp2⟩ := T.aw_tel t i c ht hok.1 e2
        obtain ⟨hu, hj, s, hts⟩ := T.tel_ok c u j hp2
        have hou := h.own u hu
        have hrank := T.rank_aw t i c u j ht hok.1 e2 hp2
        have hcell := h.cell c u j hp2
        rcases b2 with b2 | ⟨v, j', b2, b3⟩
        · have hlt : (toldN (S.th u) j : Int) < (S.th t).rd := by rw [← hcell, b2]; exact b1
          have hlt : toldN (S.th u) j < (S.th t).rd := by exact_mod_cast hlt
          have hin : (S.th t).rd ≤ rounds := ho.rd.2.2.1 (by rw [hp]; rfl)
          rcases hall u hu with hf | hsu
          · have hrd := hou.rd.2.2.2.2 (.inr hf)
            unfold toldN told at hlt
            rw [hf] at hlt
            simp at hlt
            omega
          · obtain ⟨iu, cu, e3, e4⟩ := hou.nap hsu
            have hoku := hou.ok
            rw [e3] at hoku
            unfold toldN told at hlt
            rw [e3] at hlt
            simp only [Bool.or_eq_true, Bool.and_eq_true, decide_eq_true_eq] at hlt
            split at hlt
            · exact ihr (S.th u).rd (by omega) (T.rank u iu) u iu hu hsu e3 rfl rfl
            · rename_i hnt
              by_cases hless : (S.th u).rd < r
              · exact ihr (S.th u).rd hless (T.rank u iu) u iu hu hsu e3 rfl rfl
              · have hle : iu ≤ j := by omega
                have := T.rank_up u iu j hu hj hle
                exact ihk (T.rank u iu) (by omega) u iu hu hsu e3 (by omega) rfl
        · obtain ⟨hv, hj', s', hts'⟩ := T.tel_ok c v j' b2
          have hov := h.own v hv
          rcases hall v hv with hf | hsv
          · rw [hf] at b3; cases b3
          · obtain ⟨iv, cv, e3, e4⟩ := hov.nap hsv
            rw [e3] at b3
            injection b3 with _ b3
            cases b3
  intro t ht
  rcases hall t ht with hf | hs
  · exact hf
  · obtain ⟨i, c, e1, e2⟩ := (h.own t ht).nap hs
    exact (key _ t i ht hs e1 _ _ rfl rfl rfl).elim
end
end Go.Proofs.YtgkfhihnfllmhaaGreatDoor

namespace Go.Proofs.YtgkfhihnfllmhaaGreatDoor
set_option maxRecDepth 100000
set_option linter.unusedVariables false
set_option linter.unusedSimpArgs false

/-- How often a thread said something. -/
def cntEv (l : List Ev4) (t : Nat) : Nat := (l.filter fun e => e.2.2.1 == (t : Int)).length
theorem cntEv_append (l r : List Ev4) (t : Nat) : cntEv (l ++ r) t = cntEv l t + cntEv r t := by unfold cntEv; rw [List.filter_append, List.length_append]
/-- What may be said by n: each comes, and goes, round by round; and goes of a round only when all came to it. -/
inductive OkEv (n : Nat) : List Ev4 → Prop where
  | nil : OkEv n []
  | snoc {l : List Ev4} {t k : Nat} {w : Int} (h : OkEv n l) (ht : t < n) (hk : cntEv l t = k) (hall : k % 2 = 1 → ∀ u, u < n → k ≤ cntEv l u) : OkEv n (l ++ [(w, ((1 + k % 2 : Nat) : Int), (t : Int), ((1 + k / 2 : Nat) : Int))])

section
variable {ops : Nat → List BOp} {n nc rounds : Nat} {S S' : BS} {t : Nat} {m m' : Mach}

/-- What is said hangs together with where the parties are. -/
structure EvInv (n : Nat) (S : BS) (l : List Ev4) : Prop where
  cnt : ∀ t, t < n → cntEv l t = cameN (S.th t) + goneN (S.th t)
  ok : OkEv n l

/-- Who comes to a round, and who goes of it, of which kind the barrier ever is. -/
structure EvGood (rounds n : Nat) (S : BS) (t : Nat) : Prop where
  rd : 1 ≤ (S.th t).rd
  b0 : (S.th t).ph = .b0 → (S.th t).rd = 1
  gone : (S.th t).ph = .gone → ∀ w, w < n → (S.th t).rd ≤ cameN (S.th w)

theorem cntEv_one (w a b : Int) (t u : Nat) : cntEv [(w, a, (t : Int), b)] u = if u = t then 1 else 0 := by
  unfold cntEv
  by_cases e : u = t
  · subst e; simp
  · rw [if_neg e, List.filter_cons_of_neg (by simp; omega)]
    rfl
theorem gone_le (x : Th) : goneN x ≤ cameN x ∧ cameN x ≤ goneN x + 1 := by
  obtain ⟨ph, rd, r1, slp⟩ := x
  unfold goneN cameN
  cases ph <;> dsimp only <;> omega

/-- The parts of a step that matter for what is said. -/
theorem said_step (ops : List BOp) (rounds : Nat) (cell : Nat → Int) (x : Th) (hr : 1 ≤ x.rd) (hb : x.ph = .b0 → x.rd = 1) :
    let d := doTh ops rounds cell x
    (d.say = none ∧ cameN d.th = cameN x ∧ goneN d.th = goneN x) ∨ (d.say = some 1 ∧ cameN x = x.rd - 1 ∧ goneN x = x.rd - 1 ∧ cameN d.th = x.rd ∧ goneN d.th = x.rd - 1) ∨ (d.say = some 2 ∧ x.ph = .gone ∧ cameN x = x.rd ∧ goneN x = x.rd - 1 ∧ cameN d.th = x.rd ∧ goneN d.th = x.rd) := by
  have hn : ∀ (rd : Nat) (r1 : Int) (s : Bool) (i : Nat), cameN (⟨nxt ops i, rd, r1, s⟩ : Th) = rd ∧ goneN (⟨nxt ops i, rd, r1, s⟩ : Th) = rd - 1 := fun rd r1 s i => by
    by_cases h : i < ops.length
    · rw [show nxt ops i = .op i 0 from if_pos h]; exact ⟨rfl, rfl⟩
    · rw [show nxt ops i = .gone from if_neg h]; exact ⟨rfl, rfl⟩
  obtain ⟨ph, rd, r1, slp⟩ := x
  dsimp only at hr hb
  have hop : ∀ (k i' k' : Nat) (i : Nat) (r1' : Int) (s' : Bool), cameN (⟨.op i' k', rd, r1', s'⟩ : Th) = cameN (⟨.op i k, rd, r1, slp⟩ : Th) ∧ goneN (⟨.op i' k', rd, r1', s'⟩ : Th) = goneN (⟨.op i k, rd, r1, slp⟩ : Th) := fun _ _ _ _ _ _ => ⟨rfl, rfl⟩
  cases ph with
  | b0 => left; have := hb rfl; subst this; exact ⟨rfl, rfl, rfl⟩
  | b1 => left; exact ⟨rfl, rfl, rfl⟩
  | less => left; unfold doTh; dsimp only; split <;> exact ⟨rfl, rfl, rfl⟩
  | halt => left; exact ⟨rfl, rfl, rfl⟩
  | fin => left; exact ⟨rfl, rfl, rfl⟩
  | jump => left; exact ⟨rfl, rfl, rfl⟩
  | plus => left; exact ⟨rfl, by show rd + 1 - 1 = rd; omega, by show rd + 1 - 1 = rd; omega⟩
  | came => right; left; exact ⟨rfl, rfl, rfl, (hn rd r1 slp 0).1, (hn rd r1 slp 0).2⟩
  | gone => right; right; exact ⟨rfl, rfl, rfl, rfl, rfl, rfl⟩
  | op i k =>
    left
    have hc : cameN (⟨.op i k, rd, r1, slp⟩ : Th) = rd ∧ goneN (⟨.op i k, rd, r1, slp⟩ : Th) = rd - 1 := ⟨rfl, rfl⟩
    have hd : doTh ops rounds cell ⟨.op i k, rd, r1, slp⟩ = doOp ops cell ⟨.op i k, rd, r1, slp⟩ i k (ops.getD i default) := rfl
    show (doTh ops rounds cell ⟨.op i k, rd, r1, slp⟩).say = none ∧ cameN (doTh ops rounds cell ⟨.op i k, rd, r1, slp⟩).th = cameN (⟨.op i k, rd, r1, slp⟩ : Th) ∧ goneN (doTh ops rounds cell ⟨.op i k, rd, r1, slp⟩).th = goneN (⟨.op i k, rd, r1, slp⟩ : Th)
    rw [hd, hc.1, hc.2]
    cases ops.getD i default with
    | tell c s => simp only [doOp]; split <;> first | exact ⟨rfl, rfl, rfl⟩ | exact ⟨rfl, (hn _ _ _ _).1, (hn _ _ _ _).2⟩
    | await c =>
      simp only [doOp, doAwait]
      repeat' split
      all_goals first | exact ⟨rfl, rfl, rfl⟩ | exact ⟨rfl, (hn _ _ _ _).1, (hn _ _ _ _).2⟩
    | meet c s d =>
      simp only [doOp, doAwait]
      repeat' split
      all_goals first | exact ⟨rfl, rfl, rfl⟩ | exact ⟨rfl, (hn _ _ _ _).1, (hn _ _ _ _).2⟩
    | opn c s =>
      simp only [doOp]
      repeat' split
      all_goals first | exact ⟨rfl, rfl, rfl⟩ | exact ⟨rfl, (hn _ _ _ _).1, (hn _ _ _ _).2⟩

theorem wake_said (c : Nat) (th : Nat → Th) (u : Nat) : cameN (wakeAll ops c th u) = cameN (th u) ∧ goneN (wakeAll ops c th u) = goneN (th u) := by
  unfold wakeAll
  split <;> exact ⟨rfl, rfl⟩
theorem step_th (t u : Nat) (h : u ≠ t) : cameN ((stepS ops rounds t S).th u) = cameN (S.th u) ∧ goneN ((stepS ops rounds t S).th u) = goneN (S.th u) := by
  unfold stepS
  dsimp only
  rw [upd_ne _ _ h]
  cases (doTh (ops t) rounds S.cell (S.th t)).wake with
  | none => exact ⟨rfl, rfl⟩
  | some w => exact wake_said w.1 S.th u
theorem step_th_self (t : Nat) : (stepS ops rounds t S).th t = (doTh (ops t) rounds S.cell (S.th t)).th := by
  unfold stepS
  dsimp only
  rw [upd_same]

theorem EvInv.step {l : List Ev4} (h : EvInv n S l) (ht : t < n) (hg : EvGood rounds n S t) (w : Int) : EvInv n (stepS ops rounds t S) (l ++ (match (doTh (ops t) rounds S.cell (S.th t)).say with | some a => [(w, (a : Int), (t : Int), ((S.th t).rd : Int))] | none => [])) := by
  have hc := h.cnt t ht
  have hr := hg.rd
  rcases said_step (ops t) rounds S.cell (S.th t) hg.rd hg.b0 with ⟨e, e1, e2⟩ | ⟨e, e1, e2, e3, e4⟩ | ⟨e, e0, e1, e2, e3, e4⟩
  · rw [e]
    refine ⟨fun u hu => ?_, by simpa using h.ok⟩
    rw [List.append_nil, h.cnt u hu]
    by_cases hut : u = t
    · subst hut
      rw [step_th_self, e1, e2]
    · rw [(step_th t u hut).1, (step_th t u hut).2]
  · rw [e]
    dsimp only
    refine ⟨fun u hu => ?_, ?_⟩
    · rw [cntEv_append, cntEv_one]
      by_cases hut : u = t
      · subst hut
        rw [step_th_self, if_pos rfl, hc, e1, e2, e3, e4]
        omega
      · rw [if_neg hut, (step_th t u hut).1, (step_th t u hut).2, h.cnt u hu, Nat.add_zero]
    · have hk : cntEv l t = 2 * ((S.th t).rd - 1) := by rw [hc, e1, e2]; omega
      have := OkEv.snoc (w := w) h.ok ht hk (fun h1 => by omega)
      rw [show 1 + 2 * ((S.th t).rd - 1) % 2 = 1 by omega, show 1 + 2 * ((S.th t).rd - 1) / 2 = (S.th t).rd by omega] at this
      exact this
  · rw [e]
    dsimp only
    refine ⟨fun u hu => ?_, ?_⟩
    · rw [cntEv_append, cntEv_one]
      by_cases hut : u = t
      · subst hut
        rw [step_th_self, if_pos rfl, hc, e1, e2, e3, e4]
        omega
      · rw [if_neg hut, (step_th t u hut).1, (step_th t u hut).2, h.cnt u hu, Nat.add_zero]
    · have hk : cntEv l t = 2 * (S.th t).rd - 1 := by rw [hc, e1, e2]; omega
      have := OkEv.snoc (w := w) h.ok ht hk (fun _ u hu => by
        have h1 := hg.gone e0 u hu
        have h2 := gone_le (S.th u)
        rw [h.cnt u hu]
        omega)
      rw [show 1 + (2 * (S.th t).rd - 1) % 2 = 2 by omega, show 1 + (2 * (S.th t).rd - 1) / 2 = (S.th t).rd by omega] at this
      exact this

theorem ta_evgood {T : TA ops n nc} (h : TInv T rounds S) (ht : t < n) : EvGood rounds n S t := by
  have ho := h.own t ht
  refine ⟨ho.rd.1, ho.rd.2.2.2.1, fun e w hw => ho.know w (ops t).length hw ?_ (T.know_all t w ht hw)⟩
  unfold doneN
  rw [e]
end
end Go.Proofs.YtgkfhihnfllmhaaGreatDoor

namespace Go.Proofs.YtgkfhihnfllmhaaGreatDoor
set_option maxRecDepth 100000
set_option linter.unusedVariables false
set_option linter.unusedSimpArgs false

/-- How many parties await a cell. -/
def nAw (ops : Nat → List BOp) (n c : Nat) : Nat := ((List.range n).filter fun t => (ops t).any fun o => o == .await c).length
/-- How many steps a piece may take at most, and whom it may let take more. -/
def wOp (ops : Nat → List BOp) (n : Nat) : BOp → Nat
  | .tell c _ => 2 + 4 * nAw ops n c
  | .await _ => 7
  | .meet _ _ _ => 0
  | .opn _ _ => 0
def wTo (ops : Nat → List BOp) (n : Nat) (l : List BOp) (i : Nat) : Nat := ((l.take i).map (wOp ops n)).sum
def wAll (ops : Nat → List BOp) (n : Nat) (l : List BOp) : Nat := (l.map (wOp ops n)).sum
theorem wTo_succ (ops : Nat → List BOp) (n : Nat) (l : List BOp) (i : Nat) (h : i < l.length) : wTo ops n l (i + 1) = wTo ops n l i + wOp ops n (l.getD i default) := by
  unfold wTo
  rw [List.take_add_one, List.map_append, List.sum_append, List.getElem?_eq_getElem h, List.getD_eq_getElem?_getD, List.getElem?_eq_getElem h]
  simp
theorem wTo_le (ops : Nat → List BOp) (n : Nat) (l : List BOp) : ∀ j, j ≤ l.length → wTo ops n l j ≤ wAll ops n l := by
  intro j hj
  unfold wTo wAll
  rw [← List.take_append_drop j l, List.map_append, List.sum_append, List.take_append_drop]
  omega

section
variable {ops : Nat → List BOp} {n nc rounds : Nat} {T : TA ops n nc} {S S' : BS} {t : Nat} {m : Mach}

/-- Ahead of a round, how many steps at most are left. -/
def baseR (ops : Nat → List BOp) (n rounds : Nat) (l : List BOp) (rd : Nat) : Nat := (rounds + 1 - rd) * (5 + wAll ops n l) + 2
def awPot (rd r1 cell : Int) (slp : Bool) (k : Nat) : Nat :=
  if k = 0 then (if rd ≤ cell then 3 else 7) else if k = 1 then (if r1 < rd then 6 else 2) else if k = 2 then 1 else if k = 3 then 5 else if slp = true ∨ rd ≤ cell then 4 else 8
def opPot (ops : Nat → List BOp) (n : Nat) (cell : Nat → Int) (x : Th) (k : Nat) : BOp → Nat
  | .tell c _ => if k = 0 then 2 + 4 * nAw ops n c else 1 + 4 * nAw ops n c
  | .await c => awPot x.rd x.r1 (cell c) x.slp k
  | _ => 0
/-- How many steps at most are left to a party. -/
def rem (ops : Nat → List BOp) (n rounds : Nat) (l : List BOp) (cell : Nat → Int) (x : Th) : Nat := match x.ph with
  | .b0 => baseR ops n rounds l 1 + 2
  | .b1 => baseR ops n rounds l 1 + 1
  | .less => baseR ops n rounds l x.rd
  | .halt => 1
  | .fin => 0
  | .came => baseR ops n rounds l (x.rd + 1) + 3 + wAll ops n l + 1
  | .op i k => baseR ops n rounds l (x.rd + 1) + 3 + (wAll ops n l - wTo ops n l (i + 1)) + opPot ops n cell x k (l.getD i default)
  | .gone => baseR ops n rounds l (x.rd + 1) + 3
  | .plus => baseR ops n rounds l (x.rd + 1) + 2
  | .jump => baseR ops n rounds l x.rd + 1

/-- Cells that are awaited were told the last round; what a party did was told this one. -/
structure Floor (ops : List BOp) (cell : Nat → Int) (x : Th) : Prop where
  last : ∀ i c, i < ops.length → ops.getD i default = .await c → ((x.rd - 1 : Nat) : Int) ≤ cell c
  done : ∀ i c d, i < ops.length → ops.getD i default = .await c → doneN ops.length x = some d → i < d → (x.rd : Int) ≤ cell c
  read : ∀ i k c, x.ph = .op i k → ops.getD i default = .await c → 1 ≤ k → ((x.rd - 1 : Nat) : Int) ≤ x.r1

theorem Floor.up {l : List BOp} {cell cell' : Nat → Int} {x y : Th} (h : Floor l cell x) (hc : ∀ c, cell c ≤ cell' c) (hy : Like y x) : Floor l cell' y := by
  obtain ⟨h1, h2, h3, _⟩ := hy
  refine ⟨fun i c hi e => by rw [h2]; exact Int.le_trans (h.last i c hi e) (hc c), fun i c d hi e e1 hd => ?_, fun i k c e e1 hk => ?_⟩
  · rw [h2]
    have e1' : doneN l.length x = some d := by unfold doneN at e1 ⊢; rw [h1] at e1; exact e1
    exact Int.le_trans (h.done i c d hi e e1' hd) (hc c)
  · rw [h2, h3]
    rw [h1] at e
    exact h.read i k c e e1 hk

theorem awPot_up {rd r1 c c' : Int} {k : Nat} {slp : Bool} (h : c ≤ c') : awPot rd r1 c' slp k ≤ awPot rd r1 c slp k := by
  unfold awPot
  cases slp
  all_goals simp only [Bool.false_eq_true, false_or, true_or, if_true]
  all_goals repeat' split
  all_goals omega
theorem rem_up {l : List BOp} {cell cell' : Nat → Int} {x : Th} (hc : ∀ c, cell c ≤ cell' c) : rem ops n rounds l cell' x ≤ rem ops n rounds l cell x := by
  unfold rem
  cases x.ph with
  | op i k =>
    dsimp only
    have : opPot ops n cell' x k (l.getD i default) ≤ opPot ops n cell x k (l.getD i default) := by
      unfold opPot
      cases l.getD i default with
      | await c => exact awPot_up (hc c)
      | _ => exact Nat.le_refl _
    omega
  | _ => exact Nat.le_refl _
theorem rem_awake {l : List BOp} {cell : Nat → Int} {x : Th} : rem ops n rounds l cell { x with slp := false } ≤ rem ops n rounds l cell x + 4 := by
  obtain ⟨ph, rd, r1, slp⟩ := x
  unfold rem
  cases ph with
  | op i k =>
    dsimp only
    have : opPot ops n cell ⟨.op i k, rd, r1, false⟩ k (l.getD i default) ≤ opPot ops n cell ⟨.op i k, rd, r1, slp⟩ k (l.getD i default) + 4 := by
      unfold opPot
      cases l.getD i default with
      | await c =>
        dsimp only
        unfold awPot
        cases slp
        all_goals simp only [Bool.false_eq_true, false_or, true_or, if_true]
        all_goals repeat' split
        all_goals omega
      | tell c s => dsimp only; omega
      | meet c s d => dsimp only; omega
      | opn c s => dsimp only; omega
    omega
  | _ => dsimp only; omega

theorem base_succ {l : List BOp} {rd : Nat} (h : rd ≤ rounds) : baseR ops n rounds l rd = baseR ops n rounds l (rd + 1) + (5 + wAll ops n l) := by
  unfold baseR
  rw [show rounds + 1 - rd = (rounds + 1 - (rd + 1)) + 1 by omega, Nat.add_mul]
  omega

theorem rem_nxt {l : List BOp} {cell : Nat → Int} {i rd : Nat} {r1 : Int} (hi : i < l.length) (hk : ∀ j, j < l.length → (∃ c s, l.getD j default = .tell c s) ∨ ∃ c, l.getD j default = .await c) : rem ops n rounds l cell ⟨nxt l (i + 1), rd, r1, false⟩ ≤ baseR ops n rounds l (rd + 1) + 3 + (wAll ops n l - wTo ops n l (i + 1)) := by
  by_cases hlt : i + 1 < l.length
  · rw [show nxt l (i + 1) = .op (i + 1) 0 from if_pos hlt]
    have h1 := wTo_succ ops n l (i + 1) hlt
    have h2 := wTo_le ops n l (i + 1 + 1) (by omega)
    show baseR ops n rounds l (rd + 1) + 3 + (wAll ops n l - wTo ops n l (i + 1 + 1)) + opPot ops n cell _ 0 (l.getD (i + 1) default) ≤ _
    rcases hk (i + 1) hlt with ⟨c, s, e⟩ | ⟨c, e⟩
    · rw [e] at h1 ⊢
      simp only [opPot, wOp, if_true] at h1 ⊢
      omega
    · rw [e] at h1 ⊢
      simp only [opPot, wOp, awPot, if_true] at h1 ⊢
      split <;> omega
  · rw [show nxt l (i + 1) = .gone from if_neg hlt]
    show baseR ops n rounds l (rd + 1) + 3 ≤ _
    omega

/-- A step takes one from what is left; and what Floor says goes on. -/
theorem ta_down (h : TInv T rounds S) (hF : Floor (ops t) S.cell (S.th t)) (ht : t < n) (hs : (S.th t).slp = false) (hf : (S.th t).ph ≠ .fin) :
    let d := doTh (ops t) rounds S.cell (S.th t)
    let cell' := (stepS ops rounds t S).cell
    Floor (ops t) cell' d.th ∧ rem ops n rounds (ops t) cell' d.th + 1 + (match d.wake with | some w => 4 * nAw ops n w.1 | none => 0) ≤ rem ops n rounds (ops t) S.cell (S.th t) ∧ (∀ c, S.cell c ≤ cell' c) := by
  have ho := h.own t ht
  have hkind := fun j hj => T.kind t j ht hj
  obtain ⟨x, hx⟩ : ∃ x, S.th t = x := ⟨_, rfl⟩
  unfold stepS
  rw [hx] at ho hF hs hf ⊢
  obtain ⟨ph, rd, r1, slp⟩ := x
  dsimp only at hs hf ⊢
  subst hs
  have hrd := ho.rd
  dsimp only at hrd
  have fl : ∀ (p : Ph), doneN (ops t).length (⟨p, rd, r1, false⟩ : Th) = none → (∀ i k, p ≠ .op i k) → Floor (ops t) S.cell ⟨p, rd, r1, false⟩ := fun p e1 e2 => ⟨hF.last, fun i c d _ _ e => (by rw [e1] at e; cases e), fun i k c e => absurd e (e2 i k)⟩
  cases ph with
  | fin => exact absurd rfl hf
  | b0 =>
    have h1 := hrd.2.2.2.1 rfl
    subst h1
    exact ⟨fl .b1 rfl (by simp), Nat.le_refl _, fun c => Int.le_refl _⟩
  | b1 =>
    refine ⟨fl .less rfl (by simp), ?_, fun c => Int.le_refl _⟩
    show baseR ops n rounds (ops t) rd + 1 + 0 ≤ baseR ops n rounds (ops t) 1 + 1
    have : baseR ops n rounds (ops t) rd ≤ baseR ops n rounds (ops t) 1 := by
      unfold baseR
      exact Nat.add_le_add_right (Nat.mul_le_mul_right _ (by omega)) 2
    omega
  | less =>
    by_cases hlt : rd < rounds + 1
    · simp only [doTh, if_pos hlt]
      refine ⟨fl .came rfl (by simp), ?_, fun c => Int.le_refl _⟩
      show baseR ops n rounds (ops t) (rd + 1) + 3 + wAll ops n (ops t) + 1 + 1 + 0 ≤ baseR ops n rounds (ops t) rd
      rw [base_succ (rd := rd) (by omega)]
      omega
    · simp only [doTh, if_neg hlt]
      refine ⟨fl .halt rfl (by simp), ?_, fun c => Int.le_refl _⟩
      show 1 + 1 + 0 ≤ baseR ops n rounds (ops t) rd
      unfold baseR
      omega
  | halt =>
    refine ⟨fl .fin rfl (by simp), Nat.le_refl _, fun c => Int.le_refl _⟩
  | came =>
    refine ⟨?_, ?_, fun c => Int.le_refl _⟩
    · show Floor (ops t) S.cell ⟨nxt (ops t) 0, rd, r1, false⟩
      refine ⟨hF.last, fun i c d hi e e1 hd => ?_, fun i k c e _ hk => ?_⟩
      · rw [done_nxt (Nat.zero_le _) rfl] at e1
        injection e1 with e1
        omega
      · dsimp only at e
        unfold nxt at e
        split at e
        · injection e with _ e; omega
        · cases e
    · show rem ops n rounds (ops t) S.cell ⟨nxt (ops t) 0, rd, r1, false⟩ + 1 + 0 ≤ baseR ops n rounds (ops t) (rd + 1) + 3 + wAll ops n (ops t) + 1
      by_cases hlt : 0 < (ops t).length
      · rw [show nxt (ops t) 0 = .op 0 0 from if_pos hlt]
        have h1 : wTo ops n (ops t) 1 = 0 + wOp ops n ((ops t).getD 0 default) := wTo_succ ops n (ops t) 0 hlt
        have h2 := wTo_le ops n (ops t) 1 (by omega)
        show baseR ops n rounds (ops t) (rd + 1) + 3 + (wAll ops n (ops t) - wTo ops n (ops t) 1) + opPot ops n S.cell _ 0 ((ops t).getD 0 default) + 1 + 0 ≤ _
        rcases hkind 0 hlt with ⟨c, s, e⟩ | ⟨c, e⟩
        · rw [e] at h1 ⊢
          simp only [opPot, wOp, if_true] at h1 ⊢
          omega
        · rw [e] at h1 ⊢
          simp only [opPot, wOp, awPot, if_true] at h1 ⊢
          split <;> omega
      · rw [show nxt (ops t) 0 = .gone from if_neg hlt]
        show baseR ops n rounds (ops t) (rd + 1) + 3 + 1 + 0 ≤ _
        omega
  | gone =>
    refine ⟨⟨hF.last, fun i c d hi e e1 hd => ?_, fun i k c e => (by cases e)⟩, Nat.le_refl _, fun c => Int.le_refl _⟩
    exact hF.done i c d hi e e1 hd
  | plus =>
    have hin := hrd.2.2.1 rfl
    refine ⟨⟨fun i c hi e => ?_, fun i c d _ _ e => (by cases e), fun i k c e => (by cases e)⟩, Nat.le_refl _, fun c => Int.le_refl _⟩
    have := hF.done i c _ hi e rfl hi
    show ((rd + 1 - 1 : Nat) : Int) ≤ S.cell c
    dsimp only at this
    omega
  | jump =>
    exact ⟨fl .less rfl (by simp), Nat.le_refl _, fun c => Int.le_refl _⟩
  | op i k =>
    obtain ⟨hi, hk⟩ := ho.ok
    have hcell := fun c u j (e : T.tel c = some (u, j)) => h.cell c u j e
    have hsucc := wTo_succ ops n (ops t) i hi
    have hle := wTo_le ops n (ops t) (i + 1) (by omega)
    show Floor (ops t) (match (doOp (ops t) S.cell ⟨.op i k, rd, r1, false⟩ i k ((ops t).getD i default)).touch with | some q => upd S.cell q.2.1 q.2.2 | none => S.cell) (doOp (ops t) S.cell ⟨.op i k, rd, r1, false⟩ i k ((ops t).getD i default)).th ∧
      rem ops n rounds (ops t) (match (doOp (ops t) S.cell ⟨.op i k, rd, r1, false⟩ i k ((ops t).getD i default)).touch with | some q => upd S.cell q.2.1 q.2.2 | none => S.cell) (doOp (ops t) S.cell ⟨.op i k, rd, r1, false⟩ i k ((ops t).getD i default)).th + 1 + (match (doOp (ops t) S.cell ⟨.op i k, rd, r1, false⟩ i k ((ops t).getD i default)).wake with | some w => 4 * nAw ops n w.1 | none => 0) ≤ baseR ops n rounds (ops t) (rd + 1) + 3 + (wAll ops n (ops t) - wTo ops n (ops t) (i + 1)) + opPot ops n S.cell ⟨.op i k, rd, r1, false⟩ k ((ops t).getD i default) ∧
      ∀ c, S.cell c ≤ (match (doOp (ops t) S.cell ⟨.op i k, rd, r1, false⟩ i k ((ops t).getD i default)).touch with | some q => upd S.cell q.2.1 q.2.2 | none => S.cell) c
    rcases hkind i hi with ⟨c, s, e⟩ | ⟨c, e⟩
    · rw [e] at hk ⊢
      have hk2 : k < 2 := hk
      have h01 : k = 0 ∨ k = 1 := by omega
      rcases h01 with rfl | rfl
      · simp only [doOp, if_true]
        have htel := T.tel_of t i c s ht hi e
        have hold : S.cell c ≤ rd := by
          rw [hcell c t i htel, hx]
          unfold toldN
          split <;> dsimp only <;> omega
        have hup : ∀ d, S.cell d ≤ upd S.cell c (rd : Int) d := fun d => by
          by_cases e : d = c
          · subst e; rw [upd_same]; exact hold
          · rw [upd_ne _ _ e]; exact Int.le_refl _
        refine ⟨⟨fun j d hj e2 => Int.le_trans (hF.last j d hj e2) (hup d), fun j d q hj e2 e3 hq => Int.le_trans (hF.done j d q hj e2 e3 hq) (hup d), fun j k d e2 e3 => ?_⟩, ?_, hup⟩
        · injection e2 with e2
          subst e2
          rw [e] at e3
          cases e3
        · show baseR ops n rounds (ops t) (rd + 1) + 3 + (wAll ops n (ops t) - wTo ops n (ops t) (i + 1)) + opPot ops n _ _ 1 ((ops t).getD i default) + 1 + 0 ≤ _
          rw [e]
          simp only [opPot, Nat.one_ne_zero, if_false, if_true]
          omega
      · simp only [doOp, Nat.one_ne_zero, if_false]
        refine ⟨⟨hF.last, fun j d q hj e2 e3 hq => ?_, fun j k' d e2 e3 hk' => ?_⟩, ?_, fun d => Int.le_refl _⟩
        · rw [done_nxt (by omega) rfl] at e3
          injection e3 with e3
          have hji : j ≠ i := fun e' => by subst e'; rw [e] at e2; cases e2
          exact hF.done j d i hj e2 rfl (by omega)
        · dsimp only at e2
          unfold nxt at e2
          split at e2
          · injection e2 with _ e2; omega
          · cases e2
        · have := rem_nxt (ops := ops) (n := n) (rounds := rounds) (cell := S.cell) (rd := rd) (r1 := r1) hi hkind
          simp only [opPot, Nat.one_ne_zero, if_false]
          show _ + 1 + 4 * nAw ops n c ≤ _
          omega
    · rw [e] at hk ⊢
      have hk5 : k < 5 := hk
      have hl1 := hF.last i c hi e
      have hl2 := hF.read i k c rfl e
      obtain ⟨a1, a2, a3, _⟩ := ho.aw i k c rfl e
      dsimp only at hl1 hl2 a1 a2 a3
      -- what stays as it is
      have keep : ∀ (k' : Nat) (r : Int) (s : Bool), (1 ≤ k' → ((rd - 1 : Nat) : Int) ≤ r) → Floor (ops t) S.cell ⟨.op i k', rd, r, s⟩ := fun k' r s hr => ⟨hF.last, fun j d q hj e2 e3 hq => hF.done j d q hj e2 e3 hq, fun j k'' d e2 e3 hk' => by
        injection e2 with e2 e4
        subst e4
        exact hr hk'⟩
      have pot : ∀ (k' : Nat) (r : Int) (s : Bool), rem ops n rounds (ops t) S.cell ⟨.op i k', rd, r, s⟩ = baseR ops n rounds (ops t) (rd + 1) + 3 + (wAll ops n (ops t) - wTo ops n (ops t) (i + 1)) + awPot rd r (S.cell c) s k' := fun k' r s => by
        show _ + opPot ops n S.cell _ k' ((ops t).getD i default) = _
        rw [e]
        rfl
      have h04 : k = 0 ∨ k = 1 ∨ k = 2 ∨ k = 3 ∨ k = 4 := by omega
      rcases h04 with rfl | rfl | rfl | rfl | rfl
      · simp only [doOp, doAwait, if_true, upd_self]
        refine ⟨keep 1 _ _ (fun _ => hl1), ?_, fun d => Int.le_refl _⟩
        rw [pot]
        by_cases hc : (rd : Int) ≤ S.cell c
        · have hn : ¬ S.cell c < (rd : Int) := by omega
          simp [opPot, awPot, hc, hn]
        · have hn : S.cell c < (rd : Int) := by omega
          simp [opPot, awPot, hc, hn]
      · simp only [doOp, doAwait, Nat.one_ne_zero, if_false, if_true]
        have hl2 := hl2 (by decide)
        by_cases hlt : r1 < (rd : Int)
        · simp only [if_pos hlt]
          refine ⟨keep 3 _ _ (fun _ => hl2), ?_, fun d => Int.le_refl _⟩
          rw [pot]
          simp [opPot, awPot, hlt]
        · simp only [if_neg hlt]
          refine ⟨keep 2 _ _ (fun _ => hl2), ?_, fun d => Int.le_refl _⟩
          rw [pot]
          simp [opPot, awPot, hlt]
      · simp only [doOp, doAwait]
        refine ⟨⟨hF.last, fun j d q hj e2 e3 hq => ?_, fun j k' d e2 e3 hk' => ?_⟩, ?_, fun d => Int.le_refl _⟩
        · rw [done_nxt (by omega) rfl] at e3
          injection e3 with e3
          by_cases hji : j = i
          · subst hji
            rw [e] at e2
            injection e2 with e2
            subst e2
            exact Int.le_trans (a2 rfl) (a1 (by decide))
          · exact hF.done j d i hj e2 rfl (by omega)
        · replace e2 : nxt (ops t) (i + 1) = .op j k' := e2
          unfold nxt at e2
          split at e2
          · injection e2 with _ e2; omega
          · cases e2
        · have := rem_nxt (ops := ops) (n := n) (rounds := rounds) (cell := S.cell) (rd := rd) (r1 := r1) hi hkind
          simp [opPot, awPot]
          omega
      · simp only [doOp, doAwait]
        have hl2 := hl2 (by decide)
        have a1 := a1 (by decide)
        have a3 := a3 rfl
        refine ⟨keep 4 _ _ (fun _ => hl2), ?_, fun d => Int.le_refl _⟩
        show rem ops n rounds (ops t) S.cell ⟨.op i 4, rd, r1, decide (S.cell c = r1)⟩ + 1 + 0 ≤ _
        rw [pot]
        by_cases he : S.cell c = r1
        · simp [opPot, awPot, he]
        · have : (rd : Int) ≤ S.cell c := by omega
          simp [opPot, awPot, this]
      · simp only [doOp, doAwait]
        refine ⟨keep 0 _ _ (by omega), ?_, fun d => Int.le_refl _⟩
        show rem ops n rounds (ops t) S.cell ⟨.op i 0, rd, r1, false⟩ + 1 + 0 ≤ _
        rw [pot]
        simp only [opPot, awPot, if_true]
        simp only [Bool.false_eq_true, false_or, show (4 : Nat) ≠ 0 by decide, show (4 : Nat) ≠ 1 by decide, show (4 : Nat) ≠ 2 by decide, show (4 : Nat) ≠ 3 by decide, if_false]
        split <;> omega
end
end Go.Proofs.YtgkfhihnfllmhaaGreatDoor

namespace Go.Proofs.YtgkfhihnfllmhaaGreatDoor
set_option maxRecDepth 100000
set_option linter.unusedVariables false
set_option linter.unusedSimpArgs false

def sumN (n : Nat) (f : Nat → Nat) : Nat := ((List.range n).map f).sum
theorem sumN_succ (n : Nat) (f : Nat → Nat) : sumN (n + 1) f = sumN n f + f n := by unfold sumN; rw [List.range_succ]; simp
theorem sumN_le {n : Nat} {f g : Nat → Nat} (h : ∀ u, u < n → f u ≤ g u) : sumN n f ≤ sumN n g := by
  induction n with
  | zero => exact Nat.le_refl _
  | succ n ih =>
    rw [sumN_succ, sumN_succ]
    have := ih (fun u hu => h u (by omega))
    have := h n (by omega)
    omega
theorem sumN_drop {n t d : Nat} {f g : Nat → Nat} (ht : t < n) (h : ∀ u, u < n → u ≠ t → f u ≤ g u) (hd : f t + d ≤ g t) : sumN n f + d ≤ sumN n g := by
  induction n with
  | zero => omega
  | succ n ih =>
    rw [sumN_succ, sumN_succ]
    by_cases e : t = n
    · subst e
      have := sumN_le (n := t) (f := f) (g := g) (fun u hu => h u (by omega) (by omega))
      omega
    · have := ih (by omega) (fun u hu hne => h u (by omega) hne)
      have := h n (by omega) (Ne.symm e)
      omega
theorem sumN_grow {n t d : Nat} {f g : Nat → Nat} (ht : t < n) (h : ∀ u, u < n → u ≠ t → f u ≤ g u) (hd : f t ≤ g t + d) : sumN n f ≤ sumN n g + d := by
  induction n with
  | zero => omega
  | succ n ih =>
    rw [sumN_succ, sumN_succ]
    by_cases e : t = n
    · subst e
      have := sumN_le (n := t) (f := f) (g := g) (fun u hu => h u (by omega) (by omega))
      omega
    · have := ih (by omega) (fun u hu hne => h u (by omega) hne)
      have := h n (by omega) (Ne.symm e)
      omega
theorem sumN_if (n : Nat) (f : Nat → Nat) (p : Nat → Bool) (k : Nat) : sumN n (fun u => f u + if p u = true then k else 0) = sumN n f + k * ((List.range n).filter p).length := by
  induction n with
  | zero => rfl
  | succ n ih =>
    rw [sumN_succ, sumN_succ, ih, List.range_succ, List.filter_append, List.length_append, Nat.mul_add]
    by_cases h : p n = true
    · rw [if_pos h, List.filter_cons_of_pos h]
      simp
      omega
    · rw [if_neg h, List.filter_cons_of_neg h]
      simp
      omega
theorem sumN_const (n k : Nat) : sumN n (fun _ => k) = n * k := by
  induction n with
  | zero => simp [sumN]
  | succ n ih => rw [sumN_succ, ih, Nat.succ_mul]

theorem eraseP_once' {t : Int} : ∀ (l : List (Int × Int)), l.Pairwise (fun a b => a.1 ≠ b.1) → ∀ s ∈ l.eraseP (fun s => s.1 == t), s.1 ≠ t
  | [], _, s, hs => by cases hs
  | x :: l, hp, s, hs => by
    rw [List.pairwise_cons] at hp
    by_cases hx : x.1 = t
    · rw [List.eraseP_cons_of_pos (by simp [hx])] at hs
      intro e
      exact hp.1 s hs (hx.trans e.symm)
    · rw [List.eraseP_cons_of_neg (by simp [hx])] at hs
      rcases List.mem_cons.1 hs with rfl | hs
      · exact hx
      · exact eraseP_once' l hp.2 s hs
def pokeS (t : Nat) (S : BS) : BS := ⟨upd S.th t { S.th t with slp := false }, S.cell⟩

/-- What is to be known of a kind of barrier. -/
structure Kind (ops : Nat → List BOp) (n nc rounds : Nat) where
  I : BS → Prop
  pot : BS → Nat
  wf : ∀ t, t < n → WF nc (ops t)
  init : I bar0
  step : ∀ S t, I S → t < n → (S.th t).slp = false → (S.th t).ph ≠ .fin → I (stepS ops rounds t S) ∧ pot (stepS ops rounds t S) + 1 ≤ pot S
  poke : ∀ S t, I S → t < n → I (pokeS t S) ∧ pot (pokeS t S) ≤ pot S + 4
  wakes : ∀ S t m, I S → Sim ops n nc rounds S m → t < n → WakesAll ops rounds S m t
  good : ∀ S t, I S → t < n → EvGood rounds n S t
  rd : ∀ S t, I S → t < n → (S.th t).rd ≤ rounds + 1 ∧ (inRound (S.th t).ph = true → (S.th t).rd ≤ rounds) ∧ ((S.th t).ph = .fin → (S.th t).rd = rounds + 1)
  live : ∀ S, I S → (∀ t, t < n → (S.th t).ph = .fin ∨ (S.th t).slp = true) → ∀ t, t < n → (S.th t).ph = .fin

section
variable {ops : Nat → List BOp} {n nc rounds : Nat}

def ta_kind (T : TA ops n nc) (rounds : Nat) : Kind ops n nc rounds where
  I := fun S => TInv T rounds S ∧ ∀ t, t < n → Floor (ops t) S.cell (S.th t)
  pot := fun S => sumN n fun t => rem ops n rounds (ops t) S.cell (S.th t)
  wf := T.wf
  init := ⟨bar_inv0, fun t ht => ⟨fun i c _ _ => Int.le_refl _, fun i c d _ _ e => (by cases e), fun i k c e => (by cases e)⟩⟩
  step := fun S t h ht hs hf => by
    obtain ⟨h1, h2⟩ := h
    obtain ⟨d1, d2, d3⟩ := ta_down h1 (h2 t ht) ht hs hf
    have hself : (stepS ops rounds t S).th t = (doTh (ops t) rounds S.cell (S.th t)).th := step_th_self t
    have hoth : ∀ u, u ≠ t → Like ((stepS ops rounds t S).th u) (S.th u) ∧ ((stepS ops rounds t S).th u = S.th u ∨ ∃ w, (doTh (ops t) rounds S.cell (S.th t)).wake = some w ∧ napCell (ops u) (S.th u).ph = some w.1 ∧ (stepS ops rounds t S).th u = { S.th u with slp := false }) := fun u hu => by
      unfold stepS
      dsimp only
      rw [upd_ne _ _ hu]
      cases (doTh (ops t) rounds S.cell (S.th t)).wake with
      | none => exact ⟨Like.refl _, .inl rfl⟩
      | some w =>
        dsimp only
        unfold wakeAll
        split
        · rename_i hn
          exact ⟨⟨rfl, rfl, rfl, fun e => by cases e⟩, .inr ⟨w, rfl, hn, rfl⟩⟩
        · exact ⟨Like.refl _, .inl rfl⟩
    refine ⟨⟨h1.step ht hs, fun u hu => ?_⟩, ?_⟩
    · by_cases e : u = t
      · subst e
        rw [hself]
        exact d1
      · exact (h2 u hu).up d3 (hoth u e).1
    · cases hw : (doTh (ops t) rounds S.cell (S.th t)).wake with
      | none =>
        rw [hw] at d2
        refine sumN_drop ht (fun u hu hne => ?_) (by rw [hself]; exact d2)
        rcases (hoth u hne).2 with e | ⟨w, e, _⟩
        · rw [e]
          exact rem_up d3
        · rw [hw] at e; cases e
      | some w =>
        rw [hw] at d2
        dsimp only at d2
        have hsum := sumN_if n (fun u => rem ops n rounds (ops u) S.cell (S.th u)) (fun u => (ops u).any fun o => o == .await w.1) 4
        have hdrop := sumN_drop (f := fun u => rem ops n rounds (ops u) (stepS ops rounds t S).cell ((stepS ops rounds t S).th u)) (g := fun u => rem ops n rounds (ops u) S.cell (S.th u) + if ((ops u).any fun o => o == .await w.1) = true then 4 else 0) (d := 1 + 4 * nAw ops n w.1) ht (fun u hu hne => ?_) (by
          rw [hself]
          omega)
        · rw [hsum] at hdrop
          unfold nAw at hdrop
          omega
        · rcases (hoth u hne).2 with e | ⟨w', e, e2, e3⟩
          · rw [e]
            exact Nat.le_trans (rem_up d3) (Nat.le_add_right _ _)
          · rw [hw] at e
            injection e with e
            subst e
            rw [e3]
            have haw : ((ops u).any fun o => o == .await w.1) = true := by
              have hok := (h1.own u hu).ok
              cases hph : (S.th u).ph with
              | op i k =>
                rw [hph] at e2 hok
                have e4 : napOp ((ops u).getD i default) k = some w.1 := e2
                rcases T.kind u i hu hok.1 with ⟨c, s, e5⟩ | ⟨c, e5⟩
                · rw [e5] at e4; cases e4
                · rw [e5] at e4
                  unfold napOp at e4
                  dsimp only at e4
                  split at e4
                  · injection e4 with e4
                    rw [List.any_eq_true]
                    refine ⟨(ops u).getD i default, ?_, by rw [e5, e4]; simp⟩
                    rw [List.getD_eq_getElem?_getD, List.getElem?_eq_getElem hok.1]
                    exact List.getElem_mem _
                  · cases e4
              | b0 | b1 | less | halt | came | gone | plus | jump | fin => rw [hph] at e2; cases e2
            rw [if_pos haw]
            exact Nat.le_trans (rem_up d3) rem_awake
  poke := fun S t h ht => by
    obtain ⟨h1, h2⟩ := h
    have hoth : ∀ u, Like ((pokeS t S).th u) (S.th u) := fun u => by
      unfold pokeS
      dsimp only
      by_cases e : u = t
      · subst e
        rw [upd_same]
        exact ⟨rfl, rfl, rfl, fun e => by cases e⟩
      · rw [upd_ne _ _ e]
        exact Like.refl _
    refine ⟨⟨h1.poke ht, fun u hu => (h2 u hu).up (fun c => Int.le_refl _) (hoth u)⟩, ?_⟩
    refine sumN_grow ht (fun u hu hne => ?_) ?_
    · unfold pokeS
      dsimp only
      rw [upd_ne _ _ hne]
      exact Nat.le_refl _
    · unfold pokeS
      dsimp only
      rw [upd_same]
      exact rem_awake
  wakes := fun S t m h hS ht => ta_wakes h.1 hS ht
  good := fun S t h ht => ta_evgood h.1 ht
  rd := fun S t h ht => ⟨(h.1.own t ht).rd.2.1, (h.1.own t ht).rd.2.2.1, fun e => (h.1.own t ht).rd.2.2.2.2 (.inr e)⟩
  live := fun S h hall => ta_live h.1 hall

/-- A barrier's machine, behind whatever was done: so many were woken for nothing. -/
structure Ran (K : Kind ops n nc rounds) (p : Nat) (S : BS) (m : Mach) : Prop where
  sim : Sim ops n nc rounds S m
  inv : K.I S
  ev : EvInv n S m.events
  few : m.steps + K.pot S ≤ K.pot bar0 + 4 * p

variable {K : Kind ops n nc rounds} {p : Nat} {S : BS} {m : Mach}

theorem ran_new : Ran K 0 bar0 (barM ops n nc rounds) := ⟨bar_sim0, K.init, ⟨fun t _ => rfl, .nil⟩, Nat.le_of_eq (by show 0 + _ = _; omega)⟩

theorem ran_none (h : Ran K p S m) {t : Nat} (ht : t < n) (hn : (S.th t).slp = true ∨ (S.th t).ph = .fin) : (stepM 20000 m t).2 = m := by
  have hT := h.sim.th t ht
  unfold stepM
  rw [if_neg (by rw [h.sim.plen]; omega), Int.toNat_natCast]
  by_cases hf : (S.th t).ph = .fin
  · rw [if_pos (by rw [hT.fin]; exact decide_eq_true hf)]
  · rw [if_neg (by rw [hT.fin]; simpa using hf)]
    have hs : (S.th t).slp = true := hn.resolve_right hf
    obtain ⟨c, hc⟩ := hT.nap hs
    have hm := h.sim.lot.all t c ht hs hc
    rw [if_pos (by unfold asleepM; rw [List.any_eq_true]; exact ⟨_, hm, by simp⟩)]

theorem ran_step (h : Ran K p S m) (hro : rounds ≤ 20) {t : Nat} (ht : t < n) (hst : m.steps < 20000) : ∃ S', Ran K p S' (stepM 20000 m t).2 := by
  by_cases hn : (S.th t).slp = true ∨ (S.th t).ph = .fin
  · exact ⟨S, by rw [ran_none h ht hn]; exact h⟩
  · have hs : (S.th t).slp = false := by
      cases e : (S.th t).slp with
      | false => rfl
      | true => exact absurd (.inl e) hn
    have hf : (S.th t).ph ≠ .fin := fun e => hn (.inr e)
    obtain ⟨s1, s2, s3, s4⟩ := sim_step h.sim (K.wf t ht) ht hs hf hst hro (K.wakes S t m h.inv h.sim ht)
    obtain ⟨i1, i2⟩ := K.step S t h.inv ht hs hf
    refine ⟨stepS ops rounds t S, s1, i1, ?_, ?_⟩
    · rw [s3]
      exact h.ev.step ht (K.good S t h.inv ht) _
    · rw [s2]
      have := h.few
      omega

/-- Poke of the machine. -/
theorem ran_poke (h : Ran K p S m) {t : Nat} (ht : t < n) : Ran K (p + 1) (pokeS t S) (pokeM m t).2 := by
  obtain ⟨i1, i2⟩ := K.poke S t h.inv ht
  have hev : EvInv n (pokeS t S) m.events := ⟨fun u hu => by
    rw [h.ev.cnt u hu]
    unfold pokeS
    dsimp only
    by_cases e : u = t
    · subst e; rw [upd_same]; rfl
    · rw [upd_ne _ _ e], h.ev.ok⟩
  have hfew := h.few
  have hlot : LotOK ops n (pokeS t S).th (m.lot.eraseP fun s => s.1 == (t : Int)) := by
    refine ⟨fun s hm => ?_, fun u c hu h1 h2 => ?_, h.sim.lot.once.sublist List.eraseP_sublist⟩
    · obtain ⟨u, c, e, hu, h1, h2⟩ := h.sim.lot.sound s (List.mem_of_mem_eraseP hm)
      have hne : u ≠ t := fun e' => by
        subst e'
        exact eraseP_once' _ h.sim.lot.once s hm (by rw [e])
      refine ⟨u, c, e, hu, ?_, ?_⟩ <;> (show _ = _; unfold pokeS; dsimp only; rw [upd_ne _ _ hne]; assumption)
    · by_cases e : u = t
      · subst e
        unfold pokeS at h1
        dsimp only at h1
        rw [upd_same] at h1
        cases h1
      · unfold pokeS at h1 h2
        dsimp only at h1 h2
        rw [upd_ne _ _ e] at h1 h2
        exact (List.mem_eraseP_of_neg (by simp; omega)).2 (h.sim.lot.all u c hu h1 h2)
  have hsim : ∀ l, LotOK ops n (pokeS t S).th l → Sim ops n nc rounds (pokeS t S) { m with lot := l } := fun l hl => by
    refine ⟨h.sim.progs, h.sim.la, h.sim.le, h.sim.lr, h.sim.lc, fun u hu => ?_, h.sim.cell, hl⟩
    unfold pokeS
    dsimp only
    by_cases e : u = t
    · subst e
      rw [upd_same]
      exact (h.sim.th u hu).awake
    · rw [upd_ne _ _ e]
      exact h.sim.th u hu
  unfold pokeM
  rw [if_neg (by rw [h.sim.plen]; omega)]
  by_cases ha : asleepM m t = true
  · rw [if_pos ha]
    exact ⟨hsim _ hlot, i1, hev, by show m.steps + _ ≤ _; omega⟩
  · rw [if_neg ha]
    have he : (m.lot.eraseP fun s => s.1 == (t : Int)) = m.lot := by
      refine List.eraseP_of_forall_not (fun s hs => ?_)
      have ha' : asleepM m t = false := by simpa using ha
      unfold asleepM at ha'
      rw [List.any_eq_false] at ha'
      exact ha' s hs
    rw [he] at hlot
    exact ⟨hsim _ hlot, i1, hev, by show m.steps + _ ≤ _; omega⟩
end
end Go.Proofs.YtgkfhihnfllmhaaGreatDoor
