/-
  What was done to cells, as all went on: in which order, how often, to which.
-/
import Derived.Test.YtgkfhihnfllmhaaGreatDoorQXG4
namespace Go.Proofs.YtgkfhihnfllmhaaGreatDoor
set_option maxRecDepth 100000
set_option linter.unusedVariables false
set_option linter.unusedSimpArgs false

section
variable {ops : Nat → List BOp} {n nc rounds : Nat}

/-- What more is kept by whoever goes on (and by whoever is woken for nothing). -/
structure KeepsK (K : Kind ops n nc rounds) (X : BS → Mach → Prop) : Prop where
  new : X bar0 (barM ops n nc rounds)
  step : ∀ p S m t, Ran K p S m → X S m → t < n → (S.th t).slp = false → (S.th t).ph ≠ .fin → Stepped ops n nc rounds S m t (stepM 20000 m t).2 → X (stepS ops rounds t S) (stepM 20000 m t).2
variable {K : Kind ops n nc rounds} {X : BS → Mach → Prop} {p : Nat} {S : BS} {m : Mach}

/-! What was done to cells. -/

/-- Cells to which each store is one more. -/
def MonoK (K : Kind ops n nc rounds) (mono : Nat → Bool) : Prop := ∀ S t q, K.I S → t < n → (doTh (ops t) rounds S.cell (S.th t)).touch = some q → mono q.2.1 = true → (q.1 = 7 ∧ q.2.2 = S.cell q.2.1 + 1) ∨ (q.1 ≠ 7 ∧ q.2.2 = S.cell q.2.1)

end
end Go.Proofs.YtgkfhihnfllmhaaGreatDoor

namespace Go.Proofs.YtgkfhihnfllmhaaGreatDoor
set_option maxRecDepth 100000
set_option linter.unusedVariables false
set_option linter.unusedSimpArgs false

section
variable {ops : Nat → List BOp} {n nc rounds : Nat} {K : Kind ops n nc rounds}

end
end Go.Proofs.YtgkfhihnfllmhaaGreatDoor

namespace Go.Proofs.YtgkfhihnfllmhaaGreatDoor
set_option maxRecDepth 100000
set_option linter.unusedVariables false
set_option linter.unusedSimpArgs false

section
variable {ops : Nat → List BOp} {n nc rounds : Nat}

theorem aw_touch {cell : Nat → Int} {x : Th} {i k b c : Nat} {out : Ph} {q : Nat × Nat × Int} (h : (doAwait cell x i k b c out).touch = some q) : q.1 ≠ 7 ∧ q.2.2 = cell q.2.1 := by
  unfold doAwait at h
  repeat' split at h
  all_goals first | (cases h; done) | skip
  injection h with h
  subst h
  exact ⟨(by show (6 : Nat) ≠ 7; omega), rfl⟩
theorem ta_mono (T : TA ops n nc) : MonoK (ta_kind T rounds) (fun c => (T.tel c).isSome) := fun S t q hI ht hq hm => by
  have hT : TInv T rounds S := hI.1
  have ho := hT.own t ht
  unfold doTh at hq
  cases hph : (S.th t).ph with
  | op i k =>
    rw [hph] at hq
    have hok := ho.ok
    rw [hph] at hok
    dsimp only at hq
    rcases T.kind t i ht hok.1 with ⟨c, s, e⟩ | ⟨c, e⟩
    · rw [e] at hq
      unfold doOp at hq
      dsimp only at hq
      split at hq
      · rename_i hk
        injection hq with hq
        subst hq
        left
        refine ⟨rfl, ?_⟩
        have h1 := T.tel_of t i c s ht hok.1 e
        show ((S.th t).rd : Int) = S.cell c + 1
        rw [hT.cell c t i h1]
        unfold toldN told
        rw [hph]
        have := ho.rd.1
        simp [hk]
        omega
      · cases hq
    · rw [e] at hq
      right
      exact aw_touch hq
  | _ => rw [hph] at hq; cases hq
theorem mt_mono (T : MT ops n nc) : MonoK (mt_kind T rounds) (fun c => c % 2 == 1) := fun S t q hI ht hq hm => by
  have hT : MInv T rounds S := hI.1
  have ho := hT.own t ht
  have hm' : q.2.1 % 2 = 1 := by simpa using hm
  unfold doTh at hq
  cases hph : (S.th t).ph with
  | op i k =>
    rw [hph] at hq
    have hok := ho.ok
    rw [hph] at hok
    have hl := T.len t ht
    have hi := hok.1
    dsimp only at hq
    by_cases hih : i < T.h
    · rw [T.up_op t i ht hih] at hq
      unfold doOp at hq
      dsimp only at hq
      by_cases h0 : k = 0
      · rw [if_pos h0] at hq
        injection hq with hq
        subst hq
        exfalso
        have e : (2 * T.path t i) % 2 = 1 := hm'
        omega
      · rw [if_neg h0] at hq
        by_cases h1 : k = 1
        · rw [if_pos h1] at hq; cases hq
        · rw [if_neg h1] at hq
          by_cases h7 : k = 7
          · rw [if_pos h7] at hq; cases hq
          · rw [if_neg h7] at hq
            exact .inr (aw_touch hq)
    · have hop := T.dn_op t (2 * T.h - 1 - i) ht (by omega)
      rw [show 2 * T.h - 1 - (2 * T.h - 1 - i) = i by omega] at hop
      rw [hop] at hq
      unfold doOp at hq
      dsimp only at hq
      by_cases h0 : k = 0
      · rw [if_pos h0] at hq; cases hq
      · rw [if_neg h0] at hq
        by_cases h1 : k = 1
        · rw [if_pos h1] at hq
          injection hq with hq
          subst hq
          exfalso
          have e : (2 * T.path t (2 * T.h - 1 - i)) % 2 = 1 := hm'
          omega
        · rw [if_neg h1] at hq
          by_cases h2 : k = 2
          · rw [if_pos h2] at hq
            injection hq with hq
            subst hq
            left
            refine ⟨rfl, ?_⟩
            have hla : lastAt T.h (T.sz t) (S.th t) (2 * T.h - 1 - i) = true := by
              unfold lastAt
              rw [hph]
              dsimp only
              rw [if_neg hih]
              simp [h2]
            have a := ho.unop _ (by omega) hla
            have b := ho.floor (2 * T.h - 1 - i) (by omega)
            unfold gateOf at a b
            show ((S.th t).rd : Int) = S.cell (2 * T.path t (2 * T.h - 1 - i) + 1) + 1
            omega
          · rw [if_neg h2] at hq; cases hq
  | _ => rw [hph] at hq; cases hq
/-- What a party awaits ahead of telling is told ahead. -/
theorem ta_le {T : TA ops n nc} {S : BS} (hI : (ta_kind T rounds).I S) {u i j a b s : Nat} (hu : u < n) (hij : i < j) (hj : j < (ops u).length) (hi : (ops u).getD i default = .await a) (hb : (ops u).getD j default = .tell b s) : S.cell b ≤ S.cell a := by
  have hT : TInv T rounds S := hI.1
  have hF := hI.2 u hu
  rw [hT.cell b u j (T.tel_of u j b s hu hj hb)]
  have hl := hF.last i a (by omega) hi
  have hd := hF.done i a
  unfold toldN
  split
  · rename_i ht
    unfold told at ht
    unfold doneN at hd
    cases hph : (S.th u).ph with
    | op i' k =>
      rw [hph] at ht hd
      simp only [Bool.or_eq_true, Bool.and_eq_true, decide_eq_true_eq] at ht
      exact hd i' (by omega) hi rfl (by omega)
    | gone => rw [hph] at hd; exact hd _ (by omega) hi rfl (by omega)
    | plus => rw [hph] at hd; exact hd _ (by omega) hi rfl (by omega)
    | _ => rw [hph] at ht; cases ht
  · exact hl
end

/-- Cells each store to which is one more; and which is stored to ahead of which. -/
def kMono (k n c : Nat) : Bool := if k ≤ 2 then c % 2 == 1 else ((kTab k n).telOf n c).isSome
def kOrd (k n a b : Nat) : Bool := match k with
  | 2 => (List.range n).any fun t => (List.range (cmH n - 1)).any fun j => decide (a = 2 * cmPath n t (j + 1) + 1) && decide (b = 2 * cmPath n t j + 1)
  | 3 => decide (1 ≤ b) && decide (2 * b < a) && decide (a ≤ 2 * b + 2) && decide (a < n)
  | 6 => decide (1 ≤ b) && decide (4 * b < a) && decide (a ≤ 4 * b + 4) && decide (a < n)
  | _ => false
structure KMOK (k n rounds : Nat) (K : Kind (kOps k n) n (kCells k n) rounds) : Prop where
  mono : MonoK K (kMono k n)
  ord : ∀ a b, kOrd k n a b = true → a ≠ b ∧ kMono k n a = true ∧ kMono k n b = true ∧ ∀ S, K.I S → S.cell b ≤ S.cell a

def chkUp (k n : Nat) : Bool := (List.range n).all fun b => (List.range n).all fun a => !kOrd k n a b || (kMono k n a && kMono k n b && (List.range (kOps k n b).length).any fun j => (List.range j).any fun i => (kOps k n b).getD i default == .await a && isTell b ((kOps k n b).getD j default))
set_option maxRecDepth 100000 in
theorem up_chk : ∀ k n, k = 3 ∨ k = 6 → n ≤ 16 → chkUp k n = true := by
  have h : ([3, 6].all fun k => (List.range 17).all fun n => chkUp k n) = true := of_decide_eq_true (by decide +kernel)
  intro k n hk hn
  rw [List.all_eq_true] at h
  have := h k (by rcases hk with e | e <;> subst e <;> decide)
  rw [List.all_eq_true] at this
  exact this n (List.mem_range.2 (by omega))

theorem up_ord {k n nc rounds : Nat} {T : TA (kOps k n) n nc} (hc : chkUp k n = true) (hlt : ∀ a b, kOrd k n a b = true → a < n ∧ b < a) : ∀ a b, kOrd k n a b = true → a ≠ b ∧ kMono k n a = true ∧ kMono k n b = true ∧ ∀ S, (ta_kind T rounds).I S → S.cell b ≤ S.cell a := fun a b hab => by
  obtain ⟨h1, h2⟩ := hlt a b hab
  unfold chkUp at hc
  rw [List.all_eq_true] at hc
  have := hc b (List.mem_range.2 (by omega))
  rw [List.all_eq_true] at this
  have := this a (List.mem_range.2 h1)
  rw [hab] at this
  simp only [Bool.not_true, Bool.false_or, Bool.and_eq_true, List.any_eq_true, List.mem_range, beq_iff_eq] at this
  obtain ⟨⟨m1, m2⟩, j, hj, i, hi, e1, e2⟩ := this
  obtain ⟨s, e3⟩ := isTell_of e2
  exact ⟨by omega, m1, m2, fun S hS => ta_le hS (show b < n by omega) hi hj e1 e3⟩

theorem kmok1 {n rounds : Nat} (n1 : 1 ≤ n) (n16 : n ≤ 16) : KMOK 1 n rounds (mt_kind (mt_of (central_chk n n1 n16)) rounds) := ⟨mt_mono _, fun a b h => by cases h⟩
theorem kmok2 {n rounds : Nat} (n1 : 1 ≤ n) (n16 : n ≤ 16) : KMOK 2 n rounds (mt_kind (mt_of (combine_chk n n1 n16)) rounds) := ⟨mt_mono _, fun a b h => by
  unfold kOrd at h
  simp only [List.any_eq_true, List.mem_range, Bool.and_eq_true, decide_eq_true_eq] at h
  obtain ⟨t, ht, j, hj, ha, hb⟩ := h
  have hp : ∀ i, i < cmH n → (mt_of (combine_chk n n1 n16)).path t i = cmPath n t i := fun i hi => by
    show ((cmPaths n).getD t []).getD i 0 = _
    unfold cmPaths
    simp [List.getD_eq_getElem?_getD, ht, hi]
  refine ⟨fun e => ?_, ?_, ?_, fun S hS => ?_⟩
  · have := (mt_of (combine_chk n n1 n16)).level t t j (j + 1) ht ht (show j < cmH n by omega) (show j + 1 < cmH n by omega) (by rw [hp j (by omega), hp (j + 1) (by omega)]; omega)
    omega
  · show a % 2 == 1
    simp; omega
  · show b % 2 == 1
    simp; omega
  · have := hS.1.mono t j ht (show j + 1 < cmH n by omega)
    unfold gateOf at this
    rw [hp j (by omega), hp (j + 1) (by omega)] at this
    rw [ha, hb]
    exact this⟩
theorem kmok3 {n rounds : Nat} (n1 : 1 ≤ n) (n16 : n ≤ 16) : KMOK 3 n rounds (ta_kind (ta_of (static_chk n n1 n16)) rounds) := ⟨ta_mono _, up_ord (up_chk 3 n (.inl rfl) n16) (fun a b h => by
  unfold kOrd at h
  simp only [Bool.and_eq_true, decide_eq_true_eq] at h
  omega)⟩
theorem kmok4 {n rounds : Nat} (n1 : 1 ≤ n) (n16 : n ≤ 16) : KMOK 4 n rounds (ta_kind (ta_of (spread_chk n n1 n16)) rounds) := ⟨ta_mono _, fun a b h => by cases h⟩
theorem kmok5 {n rounds : Nat} (n1 : 1 ≤ n) (n16 : n ≤ 16) : KMOK 5 n rounds (ta_kind (ta_of (tourney_chk n n1 n16)) rounds) := ⟨ta_mono _, fun a b h => by cases h⟩
theorem kmok6 {n rounds : Nat} (n1 : 1 ≤ n) (n16 : n ≤ 16) : KMOK 6 n rounds (ta_kind (ta_of (mcs_chk n n1 n16)) rounds) := ⟨ta_mono _, up_ord (up_chk 6 n (.inr rfl) n16) (fun a b h => by
  unfold kOrd at h
  simp only [Bool.and_eq_true, decide_eq_true_eq] at h
  omega)⟩
theorem kind_all {k n rounds : Nat} (k1 : 1 ≤ k) (k6 : k ≤ 6) (n1 : 1 ≤ n) (n16 : n ≤ 16) : ∃ K, KOK k n rounds K ∧ KMOK k n rounds K := by
  match k, k1, k6 with
  | 1, _, _ => exact ⟨_, kok1 n1 n16, kmok1 n1 n16⟩
  | 2, _, _ => exact ⟨_, kok2 n1 n16, kmok2 n1 n16⟩
  | 3, _, _ => exact ⟨_, kok3 n1 n16, kmok3 n1 n16⟩
  | 4, _, _ => exact ⟨_, kok4 n1 n16, kmok4 n1 n16⟩
  | 5, _, _ => exact ⟨_, kok5 n1 n16, kmok5 n1 n16⟩
  | 6, _, _ => exact ⟨_, kok6 n1 n16, kmok6 n1 n16⟩
  | k + 7, _, h => exact absurd h (by omega)
end Go.Proofs.YtgkfhihnfllmhaaGreatDoor

namespace Go.Proofs.YtgkfhihnfllmhaaGreatDoor
set_option maxRecDepth 100000
set_option linter.unusedVariables false
set_option linter.unusedSimpArgs false

section
variable {k n rounds p : Nat} {K : Kind (kOps k n) n (kCells k n) rounds} {S : BS} {m : Mach}

/-- Steps at most never are as many as there may be. -/
theorem KOK.purse (hK : KOK k n rounds K) (k1 : 1 ≤ k) (k6 : k ≤ 6) (n1 : 1 ≤ n) (n16 : n ≤ 16) (hr : rounds ≤ 6) (hp : p ≤ 900) : K.pot bar0 + 4 * p < 20000 := by
  have h1 := hK.pot
  have h2 := (pot_le (rounds := rounds) k1 k6 n1 n16).2
  omega
end

end Go.Proofs.YtgkfhihnfllmhaaGreatDoor
