/-
  Parties that tell, and await: what is kept by all of them, whoever goes on when, and whoever is woken for nothing; how many steps they take at most; what is said.
-/
import Derived.Test.YtkhaeabbbhfloaaDoorQF2
namespace Go.Proofs.YtkhaeabbbhfloaaDoor
set_option maxRecDepth 100000
set_option linter.unusedVariables false
set_option linter.unusedSimpArgs false

/-- Parties that tell, and await, alone: who tells a cell, what a party knows behind so many pieces, which piece can be done ahead of which. -/
structure TA (ops : Nat → List BOp) (n nc : Nat) where
  tel : Nat → Option (Nat × Nat)
  know : Nat → Nat → Nat → Bool
  rank : Nat → Nat → Nat
  kind : ∀ t i, t < n → i < (ops t).length → (∃ c k, (ops t).getD i default = .tell c k) ∨ ∃ c, (ops t).getD i default = .await c
  wf : ∀ t, t < n → WF nc (ops t)
  tel_of : ∀ u j c k, u < n → j < (ops u).length → (ops u).getD j default = .tell c k → tel c = some (u, j)
  tel_ok : ∀ c u j, tel c = some (u, j) → u < n ∧ j < (ops u).length ∧ ∃ k, (ops u).getD j default = .tell c k
  aw_tel : ∀ t i c, t < n → i < (ops t).length → (ops t).getD i default = .await c → ∃ p, tel c = some p
  rank_up : ∀ t i j, t < n → j < (ops t).length → i ≤ j → rank t i ≤ rank t j
  rank_aw : ∀ t i c u j, t < n → i < (ops t).length → (ops t).getD i default = .await c → tel c = some (u, j) → rank u j < rank t i
  know0 : ∀ t w, t < n → know t 0 w = true → w = t
  knowS : ∀ t i w, t < n → i < (ops t).length → know t (i + 1) w = true → know t i w = true ∨ ∃ c u j, (ops t).getD i default = .await c ∧ tel c = some (u, j) ∧ know u j w = true
  know_mono : ∀ t i j w, t < n → j ≤ (ops t).length → i ≤ j → know t i w = true → know t j w = true
  know_all : ∀ t w, t < n → w < n → know t (ops t).length w = true
  few : ∀ u j c k, u < n → j < (ops u).length → (ops u).getD j default = .tell c k → ((List.range n).filter fun t => (ops t).any fun o => o == .await c).length ≤ k

/-- Was piece j told in this round? -/
def told (ph : Ph) (j : Nat) : Bool := match ph with
  | .op i k => decide (j < i) || (decide (j = i) && decide (1 ≤ k))
  | .gone => true
  | .plus => true
  | _ => false
def toldN (x : Th) (j : Nat) : Nat := if told x.ph j then x.rd else x.rd - 1
/-- How many rounds a party came to. -/
def cameN (x : Th) : Nat := match x.ph with
  | .op _ _ => x.rd
  | .gone => x.rd
  | .plus => x.rd
  | _ => x.rd - 1
/-- How many rounds it is gone of. -/
def goneN (x : Th) : Nat := match x.ph with
  | .plus => x.rd
  | _ => x.rd - 1
/-- How many pieces it did, if it came. -/
def doneN (L : Nat) (x : Th) : Option Nat := match x.ph with
  | .op i _ => some i
  | .gone => some L
  | .plus => some L
  | _ => none

section
variable {ops : Nat → List BOp} {n nc rounds : Nat}

/-- What is kept of a party by itself. -/
structure Own (T : TA ops n nc) (rounds : Nat) (S : BS) (t : Nat) (x : Th) : Prop where
  rd : 1 ≤ x.rd ∧ x.rd ≤ rounds + 1 ∧ (inRound x.ph = true → x.rd ≤ rounds) ∧ (x.ph = .b0 → x.rd = 1) ∧ (x.ph = .halt ∨ x.ph = .fin → x.rd = rounds + 1)
  ok : okPh (ops t) x.ph
  aw : ∀ i k c, x.ph = .op i k → (ops t).getD i default = .await c → (1 ≤ k → x.r1 ≤ S.cell c) ∧ (k = 2 → (x.rd : Int) ≤ x.r1) ∧ (k = 3 → x.r1 < x.rd) ∧ (x.slp = true → x.r1 < x.rd ∧ (S.cell c = x.r1 ∨ ∃ u j, T.tel c = some (u, j) ∧ (S.th u).ph = .op j 1))
  nap : x.slp = true → ∃ i c, x.ph = .op i 4 ∧ (ops t).getD i default = .await c
  know : ∀ w i, w < n → doneN (ops t).length x = some i → T.know t i w = true → x.rd ≤ cameN (S.th w)
  last : ∀ w, w < n → x.rd ≤ cameN (S.th w) + 1

structure TInv (T : TA ops n nc) (rounds : Nat) (S : BS) : Prop where
  own : ∀ t, t < n → Own T rounds S t (S.th t)
  cell : ∀ c u j, T.tel c = some (u, j) → S.cell c = toldN (S.th u) j
  zero : ∀ c, T.tel c = none → S.cell c = 0

/-- The same, but perhaps awake. -/
def Like (y x : Th) : Prop := y.ph = x.ph ∧ y.rd = x.rd ∧ y.r1 = x.r1 ∧ (y.slp = true → x.slp = true)
theorem Like.refl (x : Th) : Like x x := ⟨rfl, rfl, rfl, id⟩
theorem Like.came {y x : Th} (h : Like y x) : cameN y = cameN x := by unfold cameN; rw [h.1, h.2.1]
theorem Like.tolds {y x : Th} (h : Like y x) (j : Nat) : toldN y j = toldN x j := by unfold toldN; rw [h.1, h.2.1]

/-- A party moved; whoever is still asleep sleeps on as before. -/
theorem TInv.move {T : TA ops n nc} {S S' : BS} (h : TInv T rounds S) {t : Nat} (ht : t < n) (hl : ∀ u, u < n → u ≠ t → Like (S'.th u) (S.th u)) (hcam : cameN (S.th t) ≤ cameN (S'.th t)) (hown : Own T rounds S' t (S'.th t))
    (hcell : ∀ c u j, T.tel c = some (u, j) → S'.cell c = toldN (S'.th u) j) (hzero : ∀ c, T.tel c = none → S'.cell c = 0) (hup : ∀ c, S.cell c ≤ S'.cell c)
    (hnap : ∀ u i c, u < n → u ≠ t → (S'.th u).slp = true → (S.th u).ph = .op i 4 → (ops u).getD i default = .await c → (S.cell c = (S.th u).r1 ∨ ∃ v j, T.tel c = some (v, j) ∧ (S.th v).ph = .op j 1) → S'.cell c = (S.th u).r1 ∨ ∃ v j, T.tel c = some (v, j) ∧ (S'.th v).ph = .op j 1) : TInv T rounds S' := by
  refine ⟨fun u hu => ?_, hcell, hzero⟩
  by_cases e : u = t
  · subst e; exact hown
  have hL := hl u hu e
  have ho := h.own u hu
  have hc : ∀ w, w < n → cameN (S.th w) ≤ cameN (S'.th w) := fun w hw => by
    by_cases e' : w = t
    · subst e'; exact hcam
    · rw [(hl w hw e').came]; exact Nat.le_refl _
  obtain ⟨h1, h2, h3, h4⟩ := hL
  refine ⟨by rw [h1, h2]; exact ho.rd, by rw [h1]; exact ho.ok, fun i k c e1 e2 => ?_, fun hs => by rw [h1]; exact ho.nap (h4 hs), fun w i hw e1 e2 => ?_, fun w hw => ?_⟩
  · rw [h1] at e1
    obtain ⟨a1, a2, a3, a4⟩ := ho.aw i k c e1 e2
    refine ⟨fun hk => by rw [h3]; exact Int.le_trans (a1 hk) (hup c), fun hk => by rw [h2, h3]; exact a2 hk, fun hk => by rw [h2, h3]; exact a3 hk, fun hs => ?_⟩
    obtain ⟨b1, b2⟩ := a4 (h4 hs)
    rw [h2, h3]
    obtain ⟨i', c', e3, e4⟩ := ho.nap (h4 hs)
    rw [e1] at e3
    injection e3 with e5 e6
    subst e5 e6
    exact ⟨b1, hnap u i c hu e hs e1 e2 b2⟩
  · have e1' : doneN (ops u).length (S.th u) = some i := by unfold doneN at e1 ⊢; rw [h1] at e1; exact e1
    rw [h2]
    exact Nat.le_trans (ho.know w i hw e1' e2) (hc w hw)
  · rw [h2]
    have := ho.last w hw
    have := hc w hw
    omega
end
end Go.Proofs.YtkhaeabbbhfloaaDoor

namespace Go.Proofs.YtkhaeabbbhfloaaDoor
set_option maxRecDepth 100000
set_option linter.unusedVariables false
set_option linter.unusedSimpArgs false

section
variable {ops : Nat → List BOp} {n nc rounds : Nat} {T : TA ops n nc} {S S' : BS} {t : Nat}

/-- No cell changed, and nobody was woken. -/
theorem TInv.calm (h : TInv T rounds S) (ht : t < n) {x : Th} (hcam : cameN (S.th t) ≤ cameN x) (hown : Own T rounds ⟨upd S.th t x, S.cell⟩ t x)
    (htold : ∀ j c k, j < (ops t).length → (ops t).getD j default = .tell c k → toldN x j = toldN (S.th t) j) (hp : ∀ j c k, (S.th t).ph = .op j 1 → (ops t).getD j default ≠ .tell c k) : TInv T rounds ⟨upd S.th t x, S.cell⟩ := by
  refine h.move ht (fun u hu e => ?_) ?_ ?_ (fun c u j e => ?_) h.zero (fun c => Int.le_refl _) (fun u i c hu e hs h1 h2 h3 => ?_)
  · show Like (upd S.th t x u) (S.th u)
    rw [upd_ne _ _ e]
    exact Like.refl _
  · show _ ≤ cameN (upd S.th t x t)
    rw [upd_same]
    exact hcam
  · show Own T rounds _ t (upd S.th t x t)
    rw [upd_same]
    exact hown
  · show S.cell c = toldN (upd S.th t x u) j
    rw [h.cell c u j e]
    by_cases e' : u = t
    · subst e'
      obtain ⟨_, hj, k, hk⟩ := T.tel_ok c u j e
      rw [upd_same, htold j c k hj hk]
    · rw [upd_ne _ _ e']
  · rcases h3 with h3 | ⟨v, j, h3, h4⟩
    · exact .inl h3
    · refine .inr ⟨v, j, h3, ?_⟩
      show (upd S.th t x v).ph = _
      by_cases e' : v = t
      · subst e'
        obtain ⟨_, hj, k, hk⟩ := T.tel_ok c v j h3
        exact absurd hk (hp j c k h4)
      · rw [upd_ne _ _ e']
        exact h4

/-- Own of a party that stays in its round. -/
theorem own_of (h : TInv T rounds S) (ht : t < n) {x : Th} {cell : Nat → Int} (hrd : x.rd = (S.th t).rd) (hin : inRound x.ph = true → x.rd ≤ rounds) (hb0 : x.ph ≠ .b0) (hend : x.ph = .halt ∨ x.ph = .fin → x.rd = rounds + 1) (hok : okPh (ops t) x.ph) (hcam : cameN (S.th t) ≤ cameN x)
    (haw : ∀ i k c, x.ph = .op i k → (ops t).getD i default = .await c → (1 ≤ k → x.r1 ≤ cell c) ∧ (k = 2 → (x.rd : Int) ≤ x.r1) ∧ (k = 3 → x.r1 < x.rd) ∧ (x.slp = true → x.r1 < x.rd ∧ cell c = x.r1))
    (hnap : x.slp = true → ∃ i c, x.ph = .op i 4 ∧ (ops t).getD i default = .await c)
    (hknow : ∀ w i, w < n → doneN (ops t).length x = some i → T.know t i w = true → w ≠ t → x.rd ≤ cameN (S.th w)) (hself : ∀ i, doneN (ops t).length x = some i → x.rd ≤ cameN x) : Own T rounds ⟨upd S.th t x, cell⟩ t x := by
  have ho := h.own t ht
  refine ⟨⟨by rw [hrd]; exact ho.rd.1, by rw [hrd]; exact ho.rd.2.1, hin, fun e => absurd e hb0, hend⟩, hok, fun i k c e1 e2 => ?_, hnap, fun w i hw e1 e2 => ?_, fun w hw => ?_⟩
  · obtain ⟨a1, a2, a3, a4⟩ := haw i k c e1 e2
    exact ⟨a1, a2, a3, fun hs => ⟨(a4 hs).1, .inl (a4 hs).2⟩⟩
  · show x.rd ≤ cameN (upd S.th t x w)
    by_cases e : w = t
    · subst e
      rw [upd_same]
      exact hself i e1
    · rw [upd_ne _ _ e]
      exact hknow w i hw e1 e2 e
  · show x.rd ≤ cameN (upd S.th t x w) + 1
    by_cases e : w = t
    · subst e
      rw [upd_same, hrd]
      have := ho.last w hw
      omega
    · rw [upd_ne _ _ e, hrd]
      exact ho.last w hw

/-- A party that goes on in its pieces, or behind them, having done no more than before. -/
theorem TInv.frame (h : TInv T rounds S) (ht : t < n) (hs : (S.th t).slp = false) (hph : (S.th t).ph = .b0 ∨ (S.th t).ph = .b1 ∨ (S.th t).ph = .less ∨ (S.th t).ph = .halt ∨ (S.th t).ph = .came ∨ (S.th t).ph = .gone ∨ (S.th t).ph = .plus ∨ (S.th t).ph = .jump) : TInv T rounds (stepS ops rounds t S) := by
  have ho := h.own t ht
  obtain ⟨x, hx⟩ : ∃ x, S.th t = x := ⟨_, rfl⟩
  unfold stepS doTh
  have hold := fun (w : Nat) (hw : w < n) => ho.last w hw
  have hkn := ho.know
  have hrd := ho.rd
  rw [hx] at hph hs hkn hrd hold ⊢
  obtain ⟨ph, rd, r1, slp⟩ := x
  dsimp only at hph hs hrd hold ⊢
  subst hs
  have noaw : ∀ {p : Ph} {cell : Nat → Int}, (∀ i k, p ≠ .op i k) → ∀ i k c, (⟨p, rd, r1, false⟩ : Th).ph = .op i k → (ops t).getD i default = .await c → (1 ≤ k → r1 ≤ cell c) ∧ (k = 2 → (rd : Int) ≤ r1) ∧ (k = 3 → r1 < rd) ∧ (false = true → r1 < rd ∧ cell c = r1) := fun hne i k c e => absurd e (hne i k)
  rcases hph with rfl | rfl | rfl | rfl | rfl | rfl | rfl | rfl
  · -- b0
    have hrd1 : rd = 1 := hrd.2.2.2.1 rfl
    subst hrd1
    exact h.calm ht (by rw [hx]; exact Nat.le_refl _) (own_of h ht (by rw [hx]) (by intro e; cases e) (by simp) (by simp) trivial (by rw [hx]; exact Nat.le_refl _) (noaw (by simp)) (by simp) (fun w i hw e => by cases e) (fun i e => by cases e)) (fun j c k hj hk => by rw [hx]; rfl) (fun j c k e => by rw [hx] at e; cases e)
  · -- b1
    exact h.calm ht (by rw [hx]; exact Nat.le_refl _) (own_of h ht (by rw [hx]) (by intro e; cases e) (by simp) (by simp) trivial (by rw [hx]; exact Nat.le_refl _) (noaw (by simp)) (by simp) (fun w i hw e => by cases e) (fun i e => by cases e)) (fun j c k hj hk => by rw [hx]; rfl) (fun j c k e => by rw [hx] at e; cases e)
  · -- less
    by_cases hlt : rd < rounds + 1
    · rw [if_pos hlt]
      exact h.calm ht (by rw [hx]; exact Nat.le_refl _) (own_of h ht (by rw [hx]) (by intro _; dsimp only; omega) (by simp) (by simp) trivial (by rw [hx]; exact Nat.le_refl _) (noaw (by simp)) (by simp) (fun w i hw e => by cases e) (fun i e => by cases e)) (fun j c k hj hk => by rw [hx]; rfl) (fun j c k e => by rw [hx] at e; cases e)
    · rw [if_neg hlt]
      exact h.calm ht (by rw [hx]; exact Nat.le_refl _) (own_of h ht (by rw [hx]) (by intro e; cases e) (by simp) (by intro _; dsimp only; omega) trivial (by rw [hx]; exact Nat.le_refl _) (noaw (by simp)) (by simp) (fun w i hw e => by cases e) (fun i e => by cases e)) (fun j c k hj hk => by rw [hx]; rfl) (fun j c k e => by rw [hx] at e; cases e)
  · -- halt
    exact h.calm ht (by rw [hx]; exact Nat.le_refl _) (own_of h ht (by rw [hx]) (by intro e; cases e) (by simp) (by intro _; exact hrd.2.2.2.2 (.inl rfl)) trivial (by rw [hx]; exact Nat.le_refl _) (noaw (by simp)) (by simp) (fun w i hw e => by cases e) (fun i e => by cases e)) (fun j c k hj hk => by rw [hx]; rfl) (fun j c k e => by rw [hx] at e; cases e)
  · -- came
    have hin := hrd.2.2.1 rfl
    by_cases hL : 0 < (ops t).length
    · have e : nxt (ops t) 0 = .op 0 0 := if_pos hL
      rw [e]
      refine h.calm ht (by rw [hx]; show rd - 1 ≤ rd; omega) (own_of h ht (by rw [hx]) (fun _ => hin) (by simp) (by simp) ⟨hL, opLen_pos _⟩ (by rw [hx]; show rd - 1 ≤ rd; omega) ?_ (by simp) (fun w i hw e1 e2 e3 => ?_) (fun i e => Nat.le_refl _)) (fun j c k hj hk => by rw [hx]; show (if (decide (j < 0) || (decide (j = 0) && decide (1 ≤ 0))) = true then rd else rd - 1) = rd - 1; simp) (fun j c k e => by rw [hx] at e; cases e)
      · intro i k c e1 e2
        injection e1 with e1 e3
        subst e1 e3
        exact ⟨by omega, by omega, by omega, by simp⟩
      · injection e1 with e1
        subst e1
        exact absurd (T.know0 t w ht e2) e3
    · have e : nxt (ops t) 0 = .gone := if_neg hL
      rw [e]
      refine h.calm ht (by rw [hx]; show rd - 1 ≤ rd; omega) (own_of h ht (by rw [hx]) (fun _ => hin) (by simp) (by simp) trivial (by rw [hx]; show rd - 1 ≤ rd; omega) (noaw (by simp)) (by simp) (fun w i hw e1 e2 e3 => ?_) (fun i e => Nat.le_refl _)) (fun j c k hj hk => by omega) (fun j c k e => by rw [hx] at e; cases e)
      injection e1 with e1
      rw [← e1, show (ops t).length = 0 by omega] at e2
      exact absurd (T.know0 t w ht e2) e3
  · -- gone
    exact h.calm ht (by rw [hx]; exact Nat.le_refl _) (own_of h ht (by rw [hx]) (fun _ => hrd.2.2.1 rfl) (by simp) (by simp) trivial (by rw [hx]; exact Nat.le_refl _) (noaw (by simp)) (by simp) (fun w i hw e1 e2 _ => hkn w i hw e1 e2) (fun i e => Nat.le_refl _)) (fun j c k hj hk => by rw [hx]; rfl) (fun j c k e => by rw [hx] at e; cases e)
  · -- plus
    have hin := hrd.2.2.1 rfl
    have hall : ∀ w, w < n → rd ≤ cameN (S.th w) := fun w hw => hkn w _ hw rfl (T.know_all t w ht hw)
    have hcam : cameN (S.th t) ≤ cameN (⟨.jump, rd + 1, r1, false⟩ : Th) := by rw [hx]; show rd ≤ rd + 1 - 1; omega
    have hown : Own T rounds ⟨upd S.th t ⟨.jump, rd + 1, r1, false⟩, S.cell⟩ t ⟨.jump, rd + 1, r1, false⟩ := by
      refine ⟨⟨Nat.succ_le_succ (Nat.zero_le _), Nat.succ_le_succ hin, fun e => (by cases e), fun e => (by cases e), fun e => (by rcases e with e | e <;> cases e)⟩, trivial, fun i k c e => (by cases e), fun e => (by cases e), fun w i hw e => (by cases e), fun w hw => ?_⟩
      show rd + 1 ≤ cameN (upd S.th t _ w) + 1
      by_cases e : w = t
      · subst e
        rw [upd_same]
        show rd + 1 ≤ rd + 1 - 1 + 1
        omega
      · rw [upd_ne _ _ e]
        have := hall w hw
        omega
    exact h.calm ht hcam hown (fun j c k hj hk => by rw [hx]; show rd + 1 - 1 = rd; omega) (fun j c k e => by rw [hx] at e; cases e)
  · -- jump
    exact h.calm ht (by rw [hx]; exact Nat.le_refl _) (own_of h ht (by rw [hx]) (by intro e; cases e) (by simp) (by simp) trivial (by rw [hx]; exact Nat.le_refl _) (noaw (by simp)) (by simp) (fun w i hw e => by cases e) (fun i e => by cases e)) (fun j c k hj hk => by rw [hx]; rfl) (fun j c k e => by rw [hx] at e; cases e)
end
end Go.Proofs.YtkhaeabbbhfloaaDoor

namespace Go.Proofs.YtkhaeabbbhfloaaDoor
set_option maxRecDepth 100000
set_option linter.unusedVariables false
set_option linter.unusedSimpArgs false

section
variable {ops : Nat → List BOp} {n nc rounds : Nat} {T : TA ops n nc} {S S' : BS} {t : Nat}

theorem upd_self {α : Type} (f : Nat → α) (c : Nat) : upd f c (f c) = f := by
  funext d
  by_cases e : d = c
  · subst e; exact upd_same _ _ _
  · exact upd_ne _ _ e

/-- Who told a cell in a round, or later, knows who came. -/
theorem told_came (h : TInv T rounds S) {u j w r : Nat} (hu : u < n) (hw : w < n) (hj : j < (ops u).length) (hr : r ≤ toldN (S.th u) j) (hk : T.know u j w = true) : r ≤ cameN (S.th w) := by
  have ho := h.own u hu
  have hl := ho.last w hw
  have hkn := ho.know w
  have hok := ho.ok
  unfold toldN at hr
  split at hr
  · rename_i htold
    unfold doneN at hkn
    cases hph : (S.th u).ph with
    | op i k =>
      rw [hph] at htold hkn hok
      simp only [told, Bool.or_eq_true, Bool.and_eq_true, decide_eq_true_eq] at htold
      have h1 := hok.1
      exact Nat.le_trans hr (hkn i hw rfl (T.know_mono u j i w hu (by omega) (by omega) hk))
    | gone | plus =>
      rw [hph] at hkn
      exact Nat.le_trans hr (hkn _ hw rfl (T.know_mono u j _ w hu (Nat.le_refl _) (by omega) hk))
    | b0 | b1 | less | halt | came | jump | fin => rw [hph] at htold; cases htold
  · omega

/-- The same pieces are told. -/
theorem told_same {i k : Nat} {ph : Ph} (hi : i < (ops t).length) (hna : ∀ c s, (ops t).getD i default ≠ .tell c s) (hph : (∃ k', ph = .op i k') ∨ ph = nxt (ops t) (i + 1)) {j c s : Nat} (hj : j < (ops t).length) (hs : (ops t).getD j default = .tell c s) : told ph j = told (.op i k) j := by
  have hne : j ≠ i := fun e => by subst e; exact hna c s hs
  rcases hph with ⟨k', rfl⟩ | rfl
  · simp [told, hne]
  · unfold nxt
    split
    · simp only [told, hne, decide_false, Bool.false_and, Bool.or_false]
      rw [Bool.eq_iff_iff]
      simp
      omega
    · simp only [told, hne, decide_false, Bool.false_and, Bool.or_false]
      symm
      rw [decide_eq_true_eq]
      omega
theorem came_op {x : Th} {i k : Nat} (h : x.ph = .op i k) : cameN x = x.rd := by unfold cameN; rw [h]
theorem came_nxt {x : Th} {l : List BOp} {i : Nat} (h : x.ph = nxt l i) : cameN x = x.rd := by
  unfold cameN nxt at *
  split at h <;> rw [h]
theorem done_nxt {x : Th} {l : List BOp} {i : Nat} (hi : i ≤ l.length) (h : x.ph = nxt l i) : doneN l.length x = some i := by
  by_cases hlt : i < l.length
  · rw [show nxt l i = .op i 0 from if_pos hlt] at h
    unfold doneN
    rw [h]
  · rw [show nxt l i = .gone from if_neg hlt] at h
    unfold doneN
    rw [h]
    show some l.length = some i
    rw [show l.length = i by omega]
theorem done_op {x : Th} {L i k : Nat} (h : x.ph = .op i k) : doneN L x = some i := by unfold doneN; rw [h]

theorem told_past {l : List BOp} {i j : Nat} (hj : j < l.length) : told (nxt l (i + 1)) j = decide (j ≤ i) := by
  by_cases hlt : i + 1 < l.length
  · rw [show nxt l (i + 1) = .op (i + 1) 0 from if_pos hlt, Bool.eq_iff_iff]
    simp [told]
    omega
  · rw [show nxt l (i + 1) = .gone from if_neg hlt, Bool.eq_iff_iff]
    simp [told]
    omega
theorem told_one {i j : Nat} : told (.op i 1) j = decide (j ≤ i) := by
  rw [Bool.eq_iff_iff]
  simp [told]
  omega
/-- A step within an Await that does no more than go on. -/
theorem TInv.await_go (h : TInv T rounds S) (ht : t < n) {i k c : Nat} (hph : (S.th t).ph = .op i k) (hi : i < (ops t).length) (ho : (ops t).getD i default = .await c) {k' : Nat} (hk' : k' < 5) {r1 : Int} {slp : Bool}
    (h1 : 1 ≤ k' → r1 ≤ S.cell c) (h2 : k' = 2 → ((S.th t).rd : Int) ≤ r1) (h3 : k' = 3 → r1 < (S.th t).rd) (h4 : slp = true → k' = 4 ∧ r1 < (S.th t).rd ∧ S.cell c = r1) : TInv T rounds ⟨upd S.th t ⟨.op i k', (S.th t).rd, r1, slp⟩, S.cell⟩ := by
  have hown := h.own t ht
  have hin : (S.th t).rd ≤ rounds := hown.rd.2.2.1 (by rw [hph]; rfl)
  have hna : ∀ d s, (ops t).getD i default ≠ .tell d s := fun d s e => by rw [ho] at e; cases e
  have hcam : cameN (S.th t) ≤ cameN (⟨.op i k', (S.th t).rd, r1, slp⟩ : Th) := by rw [came_op hph, came_op rfl]; exact Nat.le_refl _
  refine h.calm ht hcam (own_of h ht rfl (fun _ => hin) (by simp) (by simp) ⟨hi, by rw [ho]; exact hk'⟩ hcam ?_ ?_ (fun w i' hw e1 e2 _ => ?_) (fun _ _ => by rw [came_op rfl]; exact Nat.le_refl _)) (fun j d s hj hd => ?_) (fun j d s e hd => ?_)
  · intro i' k'' d e1 e2
    injection e1 with e1 e3
    subst e1 e3
    rw [ho] at e2
    injection e2 with e2
    subst e2
    exact ⟨h1, h2, h3, fun hs => (h4 hs).2⟩
  · intro hs
    obtain ⟨e, _⟩ := h4 hs
    subst e
    exact ⟨i, c, rfl, ho⟩
  · rw [done_op rfl] at e1
    injection e1 with e1
    subst e1
    exact hown.know w i hw (done_op hph) e2
  · unfold toldN
    rw [told_same (k := k) hi hna (.inl ⟨k', rfl⟩) hj hd, hph]
  · rw [hph] at e
    injection e with e1 e2
    subst e1
    exact hna d s hd

/-- An Await is over. -/
theorem TInv.await_out (h : TInv T rounds S) (ht : t < n) (hs : (S.th t).slp = false) {i c : Nat} (hph : (S.th t).ph = .op i 2) (hi : i < (ops t).length) (ho : (ops t).getD i default = .await c) : TInv T rounds ⟨upd S.th t ⟨nxt (ops t) (i + 1), (S.th t).rd, (S.th t).r1, false⟩, S.cell⟩ := by
  have hown := h.own t ht
  have hin : (S.th t).rd ≤ rounds := hown.rd.2.2.1 (by rw [hph]; rfl)
  have hna : ∀ d s, (ops t).getD i default ≠ .tell d s := fun d s e => by rw [ho] at e; cases e
  obtain ⟨a1, a2, _⟩ := hown.aw i 2 c hph ho
  have hge : ((S.th t).rd : Int) ≤ S.cell c := Int.le_trans (a2 rfl) (a1 (by decide))
  have hcam : cameN (S.th t) ≤ cameN (⟨nxt (ops t) (i + 1), (S.th t).rd, (S.th t).r1, false⟩ : Th) := by rw [came_op hph, came_nxt rfl]; exact Nat.le_refl _
  refine h.calm ht hcam (own_of h ht rfl (fun _ => hin) (by unfold nxt; split <;> simp) (fun e => absurd e (by unfold nxt; split <;> simp)) (nxt_ok _ _) hcam ?_ (fun e => by cases e) (fun w i' hw e1 e2 hne => ?_) (fun _ _ => by rw [came_nxt rfl]; exact Nat.le_refl _)) (fun j d s hj hd => ?_) (fun j d s e hd => ?_)
  · intro i' k' d e1 e2
    have hk0 : k' = 0 := by
      dsimp only at e1
      unfold nxt at e1
      split at e1
      · injection e1 with _ e1; exact e1.symm
      · cases e1
    subst hk0
    exact ⟨by omega, by omega, by omega, by simp⟩
  · rw [done_nxt (by omega) rfl] at e1
    injection e1 with e1
    subst e1
    rcases T.knowS t i w ht hi e2 with e3 | ⟨d, u, j, e3, e4, e5⟩
    · exact hown.know w i hw (done_op hph) e3
    · rw [ho] at e3
      injection e3 with e3
      subst e3
      obtain ⟨hu, hj, _⟩ := T.tel_ok c u j e4
      rw [h.cell c u j e4] at hge
      exact told_came h hu hw hj (by exact_mod_cast hge) e5
  · unfold toldN
    rw [told_same (k := 2) hi hna (.inr rfl) hj hd, hph]
  · rw [hph] at e
    injection e with e1 e2
    cases e2

/-- A cell is told. -/
theorem TInv.tell_put (h : TInv T rounds S) (ht : t < n) (hs : (S.th t).slp = false) {i c s : Nat} (hph : (S.th t).ph = .op i 0) (hi : i < (ops t).length) (ho : (ops t).getD i default = .tell c s) : TInv T rounds ⟨upd S.th t ⟨.op i 1, (S.th t).rd, (S.th t).r1, false⟩, upd S.cell c (S.th t).rd⟩ := by
  have hown := h.own t ht
  have hin : (S.th t).rd ≤ rounds := hown.rd.2.2.1 (by rw [hph]; rfl)
  have htel := T.tel_of t i c s ht hi ho
  have hcc : S.cell c = ((S.th t).rd - 1 : Nat) := by
    rw [h.cell c t i htel]
    unfold toldN told
    rw [hph]
    simp
  have hcam : cameN (S.th t) ≤ cameN (⟨.op i 1, (S.th t).rd, (S.th t).r1, false⟩ : Th) := by rw [came_op hph, came_op rfl]; exact Nat.le_refl _
  refine h.move ht (fun u hu e => ?_) ?_ ?_ (fun d u j e => ?_) (fun d e => ?_) (fun d => ?_) (fun u i' d hu e hsl h1 h2 h3 => ?_)
  · show Like (upd S.th t _ u) (S.th u)
    rw [upd_ne _ _ e]
    exact Like.refl _
  · show _ ≤ cameN (upd S.th t _ t)
    rw [upd_same]
    exact hcam
  · show Own T rounds _ t (upd S.th t _ t)
    rw [upd_same]
    refine own_of h ht rfl (fun _ => hin) (by simp) (by simp) ⟨hi, by rw [ho]; show 1 < 2; decide⟩ hcam ?_ (fun e => by cases e) (fun w i' hw e1 e2 _ => ?_) (fun _ _ => by rw [came_op rfl]; exact Nat.le_refl _)
    · intro i' k' d e1 e2
      injection e1 with e1 e3
      subst e1
      rw [ho] at e2
      cases e2
    · rw [done_op rfl] at e1
      injection e1 with e1
      subst e1
      exact hown.know w i hw (done_op hph) e2
  · show upd S.cell c _ d = toldN (upd S.th t _ u) j
    by_cases hd : d = c
    · subst hd
      rw [htel] at e
      injection e with e
      injection e with e1 e2
      subst e1 e2
      rw [upd_same, upd_same]
      unfold toldN told
      simp
    · rw [upd_ne _ _ hd, h.cell d u j e]
      by_cases hu : u = t
      · subst hu
        rw [upd_same]
        have hji : j ≠ i := fun e' => by
          subst e'
          obtain ⟨_, _, k, hk⟩ := T.tel_ok d u j e
          rw [ho] at hk
          injection hk with hk
          exact hd hk.symm
        unfold toldN told
        rw [hph]
        simp [hji]
      · rw [upd_ne _ _ hu]
  · show upd S.cell c _ d = 0
    rw [upd_ne _ _ (fun e' => by subst e'; rw [htel] at e; cases e)]
    exact h.zero d e
  · show S.cell d ≤ upd S.cell c _ d
    by_cases hd : d = c
    · subst hd
      rw [upd_same, hcc]
      omega
    · rw [upd_ne _ _ hd]
      exact Int.le_refl _
  · show upd S.cell c _ d = _ ∨ ∃ v j, T.tel d = some (v, j) ∧ (upd S.th t _ v).ph = .op j 1
    by_cases hd : d = c
    · subst hd
      exact .inr ⟨t, i, htel, by rw [upd_same]⟩
    · rw [upd_ne _ _ hd]
      rcases h3 with h3 | ⟨v, j, h3, h4⟩
      · exact .inl h3
      · refine .inr ⟨v, j, h3, ?_⟩
        rw [upd_ne _ _ (fun e' => by subst e'; rw [hph] at h4; cases h4)]
        exact h4

/-- Who awaits a cell is woken. -/
theorem TInv.tell_wake (h : TInv T rounds S) (ht : t < n) (hs : (S.th t).slp = false) {i c s : Nat} (hph : (S.th t).ph = .op i 1) (hi : i < (ops t).length) (ho : (ops t).getD i default = .tell c s) : TInv T rounds ⟨upd (wakeAll ops c S.th) t ⟨nxt (ops t) (i + 1), (S.th t).rd, (S.th t).r1, false⟩, S.cell⟩ := by
  have hown := h.own t ht
  have hin : (S.th t).rd ≤ rounds := hown.rd.2.2.1 (by rw [hph]; rfl)
  have htel := T.tel_of t i c s ht hi ho
  have hcam : cameN (S.th t) ≤ cameN (⟨nxt (ops t) (i + 1), (S.th t).rd, (S.th t).r1, false⟩ : Th) := by rw [came_op hph, came_nxt rfl]; exact Nat.le_refl _
  have hlike : ∀ u, Like (wakeAll ops c S.th u) (S.th u) := fun u => by
    unfold wakeAll
    split
    · exact ⟨rfl, rfl, rfl, fun e => by cases e⟩
    · exact Like.refl _
  refine h.move ht (fun u hu e => ?_) ?_ ?_ (fun d u j e => ?_) h.zero (fun d => Int.le_refl _) (fun u i' d hu e hsl h1 h2 h3 => ?_)
  · show Like (upd _ t _ u) (S.th u)
    rw [upd_ne _ _ e]
    exact hlike u
  · show _ ≤ cameN (upd _ t _ t)
    rw [upd_same]
    exact hcam
  · show Own T rounds _ t (upd _ t _ t)
    rw [upd_same]
    have hw := own_of (cell := S.cell) h ht (x := ⟨nxt (ops t) (i + 1), (S.th t).rd, (S.th t).r1, false⟩) rfl (fun _ => hin) (by unfold nxt; split <;> simp) (fun e => absurd e (by unfold nxt; split <;> simp)) (nxt_ok _ _) hcam (by
      intro i' k' d e1 e2
      have hk0 : k' = 0 := by
        dsimp only at e1
        unfold nxt at e1
        split at e1
        · injection e1 with _ e1; exact e1.symm
        · cases e1
      subst hk0
      exact ⟨by omega, by omega, by omega, by simp⟩) (fun e => by cases e) (fun w i' hw e1 e2 hne => by
      rw [done_nxt (by omega) rfl] at e1
      injection e1 with e1
      subst e1
      rcases T.knowS t i w ht hi e2 with e3 | ⟨d, u, j, e3, e4, e5⟩
      · exact hown.know w i hw (done_op hph) e3
      · rw [ho] at e3
        cases e3) (fun _ _ => by rw [came_nxt rfl]; exact Nat.le_refl _)
    refine ⟨hw.rd, hw.ok, fun i' k' d e1 e2 => ?_, hw.nap, fun w i' hw' e1 e2 => ?_, fun w hw' => ?_⟩
    · obtain ⟨b1, b2, b3, _⟩ := hw.aw i' k' d e1 e2
      exact ⟨b1, b2, b3, fun e => by cases e⟩
    · have := hw.know w i' hw' e1 e2
      by_cases e : w = t
      · subst e
        dsimp only at this ⊢
        rw [upd_same] at this ⊢
        exact this
      · dsimp only at this ⊢
        rw [upd_ne _ _ e] at this ⊢
        rw [(hlike w).came]
        exact this
    · have := hw.last w hw'
      by_cases e : w = t
      · subst e
        dsimp only at this ⊢
        rw [upd_same] at this ⊢
        exact this
      · dsimp only at this ⊢
        rw [upd_ne _ _ e] at this ⊢
        rw [(hlike w).came]
        exact this
  · show S.cell d = toldN (upd _ t _ u) j
    rw [h.cell d u j e]
    by_cases hu : u = t
    · subst hu
      rw [upd_same]
      obtain ⟨_, hj, k, hk⟩ := T.tel_ok d u j e
      unfold toldN
      rw [hph, told_one, told_past hj]
    · rw [upd_ne _ _ hu, (hlike u).tolds]
  · show S.cell d = (S.th u).r1 ∨ ∃ v j, T.tel d = some (v, j) ∧ (upd (wakeAll ops c S.th) t (⟨nxt (ops t) (i + 1), (S.th t).rd, (S.th t).r1, false⟩ : Th) v).ph = .op j 1
    have hdc : d ≠ c := fun e' => by
      subst e'
      dsimp only at hsl
      rw [upd_ne _ _ e] at hsl
      unfold wakeAll at hsl
      rw [if_pos (by rw [h1]; show napOp ((ops u).getD i' default) 4 = _; rw [h2]; rfl)] at hsl
      cases hsl
    rcases h3 with h3 | ⟨v, j, h3, h4⟩
    · exact .inl h3
    · refine .inr ⟨v, j, h3, ?_⟩
      by_cases hv : v = t
      · subst hv
        rw [hph] at h4
        injection h4 with h4
        subst h4
        obtain ⟨_, _, k, hk⟩ := T.tel_ok d v i h3
        rw [ho] at hk
        injection hk with hk
        exact absurd hk.symm hdc
      · rw [upd_ne _ _ hv, (hlike v).1]
        exact h4

theorem TInv.step (h : TInv T rounds S) (ht : t < n) (hs : (S.th t).slp = false) : TInv T rounds (stepS ops rounds t S) := by
  have hown := h.own t ht
  cases hph : (S.th t).ph with
  | b0 | b1 | less | halt | came | gone | plus | jump => exact h.frame ht hs (by rw [hph]; simp)
  | fin =>
    have e : stepS ops rounds t S = S := by
      unfold stepS doTh
      rw [hph]
      show (⟨upd S.th t (S.th t), S.cell⟩ : BS) = S
      rw [upd_self]
    rw [e]
    exact h
  | op i k =>
    have hok := hown.ok
    rw [hph] at hok
    obtain ⟨hi, hk⟩ := hok
    have hx : S.th t = ⟨.op i k, (S.th t).rd, (S.th t).r1, false⟩ := by rw [← hph, ← hs]
    have hd : stepS ops rounds t S = (let d := doOp (ops t) S.cell (S.th t) i k ((ops t).getD i default); ⟨upd (match d.wake with | some w => wakeAll ops w.1 S.th | none => S.th) t d.th, match d.touch with | some q => upd S.cell q.2.1 q.2.2 | none => S.cell⟩) := by
      unfold stepS doTh
      rw [hph]
      rfl
    rw [hd]
    rcases T.kind t i ht hi with ⟨c, s, ho⟩ | ⟨c, ho⟩
    · rw [ho] at hk ⊢
      have hk2 : k < 2 := hk
      have h01 : k = 0 ∨ k = 1 := by omega
      rcases h01 with rfl | rfl
      ·
        have := h.tell_put ht hs hph hi ho
        simpa [doOp, hs] using this
      ·
        have := h.tell_wake ht hs hph hi ho
        simpa [doOp, hs] using this
    · rw [ho] at hk ⊢
      have hk5 : k < 5 := hk
      obtain ⟨a1, a2, a3, a4⟩ := hown.aw i k c hph ho
      have h04 : k = 0 ∨ k = 1 ∨ k = 2 ∨ k = 3 ∨ k = 4 := by omega
      rcases h04 with rfl | rfl | rfl | rfl | rfl
      ·
        have := h.await_go ht hph hi ho (k' := 1) (by decide) (r1 := S.cell c) (slp := false) (fun _ => Int.le_refl _) (by omega) (by omega) (by simp)
        simpa [doOp, doAwait, hs, upd_self] using this
      ·
        by_cases hlt : (S.th t).r1 < (S.th t).rd
        · have := h.await_go ht hph hi ho (k' := 3) (by decide) (r1 := (S.th t).r1) (slp := false) (fun _ => a1 (by decide)) (by omega) (fun _ => hlt) (by simp)
          simpa [doOp, doAwait, hs, hlt] using this
        · have := h.await_go ht hph hi ho (k' := 2) (by decide) (r1 := (S.th t).r1) (slp := false) (fun _ => a1 (by decide)) (fun _ => by omega) (by omega) (by simp)
          simpa [doOp, doAwait, hs, hlt] using this
      ·
        have := h.await_out ht hs hph hi ho
        simpa [doOp, doAwait, hs] using this
      ·
        by_cases he : S.cell c = (S.th t).r1
        · have := h.await_go ht hph hi ho (k' := 4) (by decide) (r1 := (S.th t).r1) (slp := true) (fun _ => a1 (by decide)) (by omega) (by omega) (fun _ => ⟨rfl, a3 rfl, he⟩)
          simpa [doOp, doAwait, hs, he] using this
        · have := h.await_go ht hph hi ho (k' := 4) (by decide) (r1 := (S.th t).r1) (slp := false) (fun _ => a1 (by decide)) (by omega) (by omega) (by simp)
          simpa [doOp, doAwait, hs, he] using this
      ·
        have := h.await_go ht hph hi ho (k' := 0) (by decide) (r1 := (S.th t).r1) (slp := false) (by omega) (by omega) (by omega) (by simp)
        simpa [doOp, doAwait, hs] using this

/-- Who is woken for nothing. -/
theorem TInv.poke (h : TInv T rounds S) (ht : t < n) : TInv T rounds ⟨upd S.th t { S.th t with slp := false }, S.cell⟩ := by
  have hlike : ∀ u, Like (upd S.th t { S.th t with slp := false } u) (S.th u) := fun u => by
    by_cases e : u = t
    · subst e
      rw [upd_same]
      exact ⟨rfl, rfl, rfl, fun e => by cases e⟩
    · rw [upd_ne _ _ e]
      exact Like.refl _
  have ho := h.own t ht
  refine h.move ht (fun u hu e => hlike u) (Nat.le_of_eq ((hlike t).came).symm) ?_ (fun d u j e => by rw [h.cell d u j e]; exact congrArg _ ((hlike u).tolds j).symm) h.zero (fun d => Int.le_refl _) (fun u i c hu e hsl h1 h2 h3 => ?_)
  · show Own T rounds _ t (upd S.th t _ t)
    rw [upd_same]
    refine ⟨ho.rd, ho.ok, fun i k c e1 e2 => ?_, fun e => (by cases e), fun w i hw e1 e2 => ?_, fun w hw => ?_⟩
    · obtain ⟨a1, a2, a3, _⟩ := ho.aw i k c e1 e2
      exact ⟨a1, a2, a3, fun e => by cases e⟩
    · rw [(hlike w).came]
      exact ho.know w i hw e1 e2
    · rw [(hlike w).came]
      exact ho.last w hw
  · rcases h3 with h3 | ⟨v, j, h3, h4⟩
    · exact .inl h3
    · exact .inr ⟨v, j, h3, by rw [(hlike v).1]; exact h4⟩
end
end Go.Proofs.YtkhaeabbbhfloaaDoor

namespace Go.Proofs.YtkhaeabbbhfloaaDoor
set_option maxRecDepth 100000
set_option linter.unusedVariables false
set_option linter.unusedSimpArgs false

section
variable {ops : Nat → List BOp} {n nc rounds : Nat} {T : TA ops n nc} {S S' : BS} {t : Nat} {m : Mach}

def bar0 : BS := ⟨fun _ => ⟨.b0, 1, 0, false⟩, fun _ => 0⟩
def barM (ops : Nat → List BOp) (n nc rounds : Nat) : Mach := newM ((List.range n).map fun t => barP rounds (ops t)) (List.replicate nc 0)

end
end Go.Proofs.YtkhaeabbbhfloaaDoor

namespace Go.Proofs.YtkhaeabbbhfloaaDoor
set_option maxRecDepth 100000
set_option linter.unusedVariables false
set_option linter.unusedSimpArgs false

/-- How often a thread said something. -/
def cntEv (l : List Ev4) (t : Nat) : Nat := (l.filter fun e => e.2.2.1 == (t : Int)).length
theorem cntEv_append (l r : List Ev4) (t : Nat) : cntEv (l ++ r) t = cntEv l t + cntEv r t := by unfold cntEv; rw [List.filter_append, List.length_append]
/-- What may be said by n: each comes, and goes, round by round; and goes of a round only when all came to it. -/
inductive OkEv (n : Nat) : List Ev4 → Prop where
  | nil : OkEv n []
  | snoc {l : List Ev4} {t k : Nat} {w : Int} (h : OkEv n l) (ht : t < n) (hk : cntEv l t = k) (hall : k % 2 = 1 → ∀ u, u < n → k ≤ cntEv l u) : OkEv n (l ++ [(w, ((1 + k % 2 : Nat) : Int), (t : Int), ((1 + k / 2 : Nat) : Int))])

section
variable {ops : Nat → List BOp} {n nc rounds : Nat} {S S' : BS} {t : Nat} {m m' : Mach}

/-- What is said hangs together with where the parties are. -/
structure EvInv (n : Nat) (S : BS) (l : List Ev4) : Prop where
  cnt : ∀ t, t < n → cntEv l t = cameN (S.th t) + goneN (S.th t)
  ok : OkEv n l

/-- Who comes to a round, and who goes of it, of which kind the barrier ever is. -/
structure EvGood (rounds n : Nat) (S : BS) (t : Nat) : Prop where
  rd : 1 ≤ (S.th t).rd
  b0 : (S.th t).ph = .b0 → (S.th t).rd = 1
  gone : (S.th t).ph = .gone → ∀ w, w < n → (S.th t).rd ≤ cameN (S.th w)

theorem cntEv_one (w a b : Int) (t u : Nat) : cntEv [(w, a, (t : Int), b)] u = if u = t then 1 else 0 := by
  unfold cntEv
  by_cases e : u = t
  · subst e; simp
  · rw [if_neg e, List.filter_cons_of_neg (by simp; omega)]
    rfl
theorem gone_le (x : Th) : goneN x ≤ cameN x ∧ cameN x ≤ goneN x + 1 := by
  obtain ⟨ph, rd, r1, slp⟩ := x
  unfold goneN cameN
  cases ph <;> dsimp only <;> omega

/-- The parts of a step that matter for what is said. -/
theorem said_step (ops : List BOp) (rounds : Nat) (cell : Nat → Int) (x : Th) (hr : 1 ≤ x.rd) (hb : x.ph = .b0 → x.rd = 1) :
    let d := doTh ops rounds cell x
    (d.say = none ∧ cameN d.th = cameN x ∧ goneN d.th = goneN x) ∨ (d.say = some 1 ∧ cameN x = x.rd - 1 ∧ goneN x = x.rd - 1 ∧ cameN d.th = x.rd ∧ goneN d.th = x.rd - 1) ∨ (d.say = some 2 ∧ x.ph = .gone ∧ cameN x = x.rd ∧ goneN x = x.rd - 1 ∧ cameN d.th = x.rd ∧ goneN d.th = x.rd) := by
  have hn : ∀ (rd : Nat) (r1 : Int) (s : Bool) (i : Nat), cameN (⟨nxt ops i, rd, r1, s⟩ : Th) = rd ∧ goneN (⟨nxt ops i, rd, r1, s⟩ : Th) = rd - 1 := fun rd r1 s i => by
    by_cases h : i < ops.length
    · rw [show nxt ops i = .op i 0 from if_pos h]; exact ⟨rfl, rfl⟩
    · rw [show nxt ops i = .gone from if_neg h]; exact ⟨rfl, rfl⟩
  obtain ⟨ph, rd, r1, slp⟩ := x
  dsimp only at hr hb
  have hop : ∀ (k i' k' : Nat) (i : Nat) (r1' : Int) (s' : Bool), cameN (⟨.op i' k', rd, r1', s'⟩ : Th) = cameN (⟨.op i k, rd, r1, slp⟩ : Th) ∧ goneN (⟨.op i' k', rd, r1', s'⟩ : Th) = goneN (⟨.op i k, rd, r1, slp⟩ : Th) := fun _ _ _ _ _ _ => ⟨rfl, rfl⟩
  cases ph with
  | b0 => left; have := hb rfl; subst this; exact ⟨rfl, rfl, rfl⟩
  | b1 => left; exact ⟨rfl, rfl, rfl⟩
  | less => left; unfold doTh; dsimp only; split <;> exact ⟨rfl, rfl, rfl⟩
  | halt => left; exact ⟨rfl, rfl, rfl⟩
  | fin => left; exact ⟨rfl, rfl, rfl⟩
  | jump => left; exact ⟨rfl, rfl, rfl⟩
  | plus => left; exact ⟨rfl, by show rd + 1 - 1 = rd; omega, by show rd + 1 - 1 = rd; omega⟩
  | came => right; left; exact ⟨rfl, rfl, rfl, (hn rd r1 slp 0).1, (hn rd r1 slp 0).2⟩
  | gone => right; right; exact ⟨rfl, rfl, rfl, rfl, rfl, rfl⟩
  | op i k =>
    left
    have hc : cameN (⟨.op i k, rd, r1, slp⟩ : Th) = rd ∧ goneN (⟨.op i k, rd, r1, slp⟩ : Th) = rd - 1 := ⟨rfl, rfl⟩
    have hd : doTh ops rounds cell ⟨.op i k, rd, r1, slp⟩ = doOp ops cell ⟨.op i k, rd, r1, slp⟩ i k (ops.getD i default) := rfl
    show (doTh ops rounds cell ⟨.op i k, rd, r1, slp⟩).say = none ∧ cameN (doTh ops rounds cell ⟨.op i k, rd, r1, slp⟩).th = cameN (⟨.op i k, rd, r1, slp⟩ : Th) ∧ goneN (doTh ops rounds cell ⟨.op i k, rd, r1, slp⟩).th = goneN (⟨.op i k, rd, r1, slp⟩ : Th)
    rw [hd, hc.1, hc.2]
    cases ops.getD i default with
    | tell c s => simp only [doOp]; split <;> first | exact ⟨rfl, rfl, rfl⟩ | exact ⟨rfl, (hn _ _ _ _).1, (hn _ _ _ _).2⟩
    | await c =>
      simp only [doOp, doAwait]
      repeat' split
      all_goals first | exact ⟨rfl, rfl, rfl⟩ | exact ⟨rfl, (hn _ _ _ _).1, (hn _ _ _ _).2⟩
    | meet c s d =>
      simp only [doOp, doAwait]
      repeat' split
      all_goals first | exact ⟨rfl, rfl, rfl⟩ | exact ⟨rfl, (hn _ _ _ _).1, (hn _ _ _ _).2⟩
    | opn c s =>
      simp only [doOp]
      repeat' split
      all_goals first | exact ⟨rfl, rfl, rfl⟩ | exact ⟨rfl, (hn _ _ _ _).1, (hn _ _ _ _).2⟩

theorem wake_said (c : Nat) (th : Nat → Th) (u : Nat) : cameN (wakeAll ops c th u) = cameN (th u) ∧ goneN (wakeAll ops c th u) = goneN (th u) := by
  unfold wakeAll
  split <;> exact ⟨rfl, rfl⟩
theorem step_th (t u : Nat) (h : u ≠ t) : cameN ((stepS ops rounds t S).th u) = cameN (S.th u) ∧ goneN ((stepS ops rounds t S).th u) = goneN (S.th u) := by
  unfold stepS
  dsimp only
  rw [upd_ne _ _ h]
  cases (doTh (ops t) rounds S.cell (S.th t)).wake with
  | none => exact ⟨rfl, rfl⟩
  | some w => exact wake_said w.1 S.th u
theorem step_th_self (t : Nat) : (stepS ops rounds t S).th t = (doTh (ops t) rounds S.cell (S.th t)).th := by
  unfold stepS
  dsimp only
  rw [upd_same]

theorem EvInv.step {l : List Ev4} (h : EvInv n S l) (ht : t < n) (hg : EvGood rounds n S t) (w : Int) : EvInv n (stepS ops rounds t S) (l ++ (match (doTh (ops t) rounds S.cell (S.th t)).say with | some a => [(w, (a : Int), (t : Int), ((S.th t).rd : Int))] | none => [])) := by
  have hc := h.cnt t ht
  have hr := hg.rd
  rcases said_step (ops t) rounds S.cell (S.th t) hg.rd hg.b0 with ⟨e, e1, e2⟩ | ⟨e, e1, e2, e3, e4⟩ | ⟨e, e0, e1, e2, e3, e4⟩
  · rw [e]
    refine ⟨fun u hu => ?_, by simpa using h.ok⟩
    rw [List.append_nil, h.cnt u hu]
    by_cases hut : u = t
    · subst hut
      rw [step_th_self, e1, e2]
    · rw [(step_th t u hut).1, (step_th t u hut).2]
  · rw [e]
    dsimp only
    refine ⟨fun u hu => ?_, ?_⟩
    · rw [cntEv_append, cntEv_one]
      by_cases hut : u = t
      · subst hut
        rw [step_th_self, if_pos rfl, hc, e1, e2, e3, e4]
        omega
      · rw [if_neg hut, (step_th t u hut).1, (step_th t u hut).2, h.cnt u hu, Nat.add_zero]
    · have hk : cntEv l t = 2 * ((S.th t).rd - 1) := by rw [hc, e1, e2]; omega
      have := OkEv.snoc (w := w) h.ok ht hk (fun h1 => by omega)
      rw [show 1 + 2 * ((S.th t).rd - 1) % 2 = 1 by omega, show 1 + 2 * ((S.th t).rd - 1) / 2 = (S.th t).rd by omega] at this
      exact this
  · rw [e]
    dsimp only
    refine ⟨fun u hu => ?_, ?_⟩
    · rw [cntEv_append, cntEv_one]
      by_cases hut : u = t
      · subst hut
        rw [step_th_self, if_pos rfl, hc, e1, e2, e3, e4]
        omega
      · rw [if_neg hut, (step_th t u hut).1, (step_th t u hut).2, h.cnt u hu, Nat.add_zero]
    · have hk : cntEv l t = 2 * (S.th t).rd - 1 := by rw [hc, e1, e2]; omega
      have := OkEv.snoc (w := w) h.ok ht hk (fun _ u hu => by
        have h1 := hg.gone e0 u hu
        have h2 := gone_le (S.th u)
        rw [h.cnt u hu]
        omega)
      rw [show 1 + (2 * (S.th t).rd - 1) % 2 = 2 by omega, show 1 + (2 * (S.th t).rd - 1) / 2 = (S.th t).rd by omega] at this
      exact this

end
end Go.Proofs.YtkhaeabbbhfloaaDoor

namespace Go.Proofs.YtkhaeabbbhfloaaDoor
set_option maxRecDepth 100000
set_option linter.unusedVariables false
set_option linter.unusedSimpArgs false

/-- How many parties await a cell. -/
def nAw (ops : Nat → List BOp) (n c : Nat) : Nat := ((List.range n).filter fun t => (ops t).any fun o => o == .await c).length
/-- How many steps a piece may take at most, and whom it may let take more. -/
def wOp (ops : Nat → List BOp) (n : Nat) : BOp → Nat
  | .tell c _ => 2 + 4 * nAw ops n c
  | .await _ => 7
  | .meet _ _ _ => 0
  | .opn _ _ => 0
def wAll (ops : Nat → List BOp) (n : Nat) (l : List BOp) : Nat := (l.map (wOp ops n)).sum
section
variable {ops : Nat → List BOp} {n nc rounds : Nat} {T : TA ops n nc} {S S' : BS} {t : Nat} {m : Mach}

def awPot (rd r1 cell : Int) (slp : Bool) (k : Nat) : Nat :=
  if k = 0 then (if rd ≤ cell then 3 else 7) else if k = 1 then (if r1 < rd then 6 else 2) else if k = 2 then 1 else if k = 3 then 5 else if slp = true ∨ rd ≤ cell then 4 else 8
/-- Cells that are awaited were told the last round; what a party did was told this one. -/
structure Floor (ops : List BOp) (cell : Nat → Int) (x : Th) : Prop where
  last : ∀ i c, i < ops.length → ops.getD i default = .await c → ((x.rd - 1 : Nat) : Int) ≤ cell c
  done : ∀ i c d, i < ops.length → ops.getD i default = .await c → doneN ops.length x = some d → i < d → (x.rd : Int) ≤ cell c
  read : ∀ i k c, x.ph = .op i k → ops.getD i default = .await c → 1 ≤ k → ((x.rd - 1 : Nat) : Int) ≤ x.r1

theorem Floor.up {l : List BOp} {cell cell' : Nat → Int} {x y : Th} (h : Floor l cell x) (hc : ∀ c, cell c ≤ cell' c) (hy : Like y x) : Floor l cell' y := by
  obtain ⟨h1, h2, h3, _⟩ := hy
  refine ⟨fun i c hi e => by rw [h2]; exact Int.le_trans (h.last i c hi e) (hc c), fun i c d hi e e1 hd => ?_, fun i k c e e1 hk => ?_⟩
  · rw [h2]
    have e1' : doneN l.length x = some d := by unfold doneN at e1 ⊢; rw [h1] at e1; exact e1
    exact Int.le_trans (h.done i c d hi e e1' hd) (hc c)
  · rw [h2, h3]
    rw [h1] at e
    exact h.read i k c e e1 hk

end
end Go.Proofs.YtkhaeabbbhfloaaDoor

namespace Go.Proofs.YtkhaeabbbhfloaaDoor
set_option maxRecDepth 100000
set_option linter.unusedVariables false
set_option linter.unusedSimpArgs false

def sumN (n : Nat) (f : Nat → Nat) : Nat := ((List.range n).map f).sum
theorem sumN_succ (n : Nat) (f : Nat → Nat) : sumN (n + 1) f = sumN n f + f n := by unfold sumN; rw [List.range_succ]; simp
theorem sumN_le {n : Nat} {f g : Nat → Nat} (h : ∀ u, u < n → f u ≤ g u) : sumN n f ≤ sumN n g := by
  induction n with
  | zero => exact Nat.le_refl _
  | succ n ih =>
    rw [sumN_succ, sumN_succ]
    have := ih (fun u hu => h u (by omega))
    have := h n (by omega)
    omega
theorem sumN_drop {n t d : Nat} {f g : Nat → Nat} (ht : t < n) (h : ∀ u, u < n → u ≠ t → f u ≤ g u) (hd : f t + d ≤ g t) : sumN n f + d ≤ sumN n g := by
  induction n with
  | zero => omega
  | succ n ih =>
    rw [sumN_succ, sumN_succ]
    by_cases e : t = n
    · subst e
      have := sumN_le (n := t) (f := f) (g := g) (fun u hu => h u (by omega) (by omega))
      omega
    · have := ih (by omega) (fun u hu hne => h u (by omega) hne)
      have := h n (by omega) (Ne.symm e)
      omega
theorem sumN_grow {n t d : Nat} {f g : Nat → Nat} (ht : t < n) (h : ∀ u, u < n → u ≠ t → f u ≤ g u) (hd : f t ≤ g t + d) : sumN n f ≤ sumN n g + d := by
  induction n with
  | zero => omega
  | succ n ih =>
    rw [sumN_succ, sumN_succ]
    by_cases e : t = n
    · subst e
      have := sumN_le (n := t) (f := f) (g := g) (fun u hu => h u (by omega) (by omega))
      omega
    · have := ih (by omega) (fun u hu hne => h u (by omega) hne)
      have := h n (by omega) (Ne.symm e)
      omega
theorem sumN_if (n : Nat) (f : Nat → Nat) (p : Nat → Bool) (k : Nat) : sumN n (fun u => f u + if p u = true then k else 0) = sumN n f + k * ((List.range n).filter p).length := by
  induction n with
  | zero => rfl
  | succ n ih =>
    rw [sumN_succ, sumN_succ, ih, List.range_succ, List.filter_append, List.length_append, Nat.mul_add]
    by_cases h : p n = true
    · rw [if_pos h, List.filter_cons_of_pos h]
      simp
      omega
    · rw [if_neg h, List.filter_cons_of_neg h]
      simp
      omega
theorem sumN_const (n k : Nat) : sumN n (fun _ => k) = n * k := by
  induction n with
  | zero => simp [sumN]
  | succ n ih => rw [sumN_succ, ih, Nat.succ_mul]

def pokeS (t : Nat) (S : BS) : BS := ⟨upd S.th t { S.th t with slp := false }, S.cell⟩

/-- What is to be known of a kind of barrier. -/
structure Kind (ops : Nat → List BOp) (n nc rounds : Nat) where
  I : BS → Prop
  pot : BS → Nat
  wf : ∀ t, t < n → WF nc (ops t)
  init : I bar0
  step : ∀ S t, I S → t < n → (S.th t).slp = false → (S.th t).ph ≠ .fin → I (stepS ops rounds t S) ∧ pot (stepS ops rounds t S) + 1 ≤ pot S
  poke : ∀ S t, I S → t < n → I (pokeS t S) ∧ pot (pokeS t S) ≤ pot S + 4
  wakes : ∀ S t m, I S → Sim ops n nc rounds S m → t < n → WakesAll ops rounds S m t
  good : ∀ S t, I S → t < n → EvGood rounds n S t
  rd : ∀ S t, I S → t < n → (S.th t).rd ≤ rounds + 1 ∧ (inRound (S.th t).ph = true → (S.th t).rd ≤ rounds) ∧ ((S.th t).ph = .fin → (S.th t).rd = rounds + 1)
  live : ∀ S, I S → (∀ t, t < n → (S.th t).ph = .fin ∨ (S.th t).slp = true) → ∀ t, t < n → (S.th t).ph = .fin

section
variable {ops : Nat → List BOp} {n nc rounds : Nat}

/-- A barrier's machine, behind whatever was done: so many were woken for nothing. -/
structure Ran (K : Kind ops n nc rounds) (p : Nat) (S : BS) (m : Mach) : Prop where
  sim : Sim ops n nc rounds S m
  inv : K.I S
  ev : EvInv n S m.events
  few : m.steps + K.pot S ≤ K.pot bar0 + 4 * p

variable {K : Kind ops n nc rounds} {p : Nat} {S : BS} {m : Mach}

end
end Go.Proofs.YtkhaeabbbhfloaaDoor
