/-
  Parties that tell, and await, by tables that are checked.
-/
import Derived.Test.YtgkfhihnfllmhaaGreatDoorQXF3
namespace Go.Proofs.YtgkfhihnfllmhaaGreatDoor
set_option maxRecDepth 100000
set_option linter.unusedVariables false

/-- Tables: who tells a cell (its piece), what a party knows behind so many pieces (bit by bit), which piece can be done ahead of which. -/
structure TabK where
  tel : List (Nat × Nat)
  know : List (List Nat)
  rank : List (List Nat)
def TabK.telOf (T : TabK) (n c : Nat) : Option (Nat × Nat) := match T.tel[c]? with
  | some p => if p.1 < n then some p else none
  | none => none
def TabK.knows (T : TabK) (t i w : Nat) : Bool := ((T.know.getD t []).getD i 0).testBit w
def TabK.rk (T : TabK) (t i : Nat) : Nat := (T.rank.getD t []).getD i 0

def isTell (c : Nat) : BOp → Bool
  | .tell d _ => d == c
  | _ => false
def chkOp (ops : Nat → List BOp) (n nc : Nat) (T : TabK) (t i : Nat) : BOp → Bool
  | .tell c k => decide (c < nc) && (T.telOf n c == some (t, i)) && decide (nAw ops n c ≤ k) && ((T.know.getD t []).getD (i + 1) 0 == (T.know.getD t []).getD i 0)
  | .await c => decide (c < nc) && match T.telOf n c with
    | some (u, j) => decide (T.rk u j < T.rk t i) && ((T.know.getD t []).getD (i + 1) 0 == (T.know.getD t []).getD i 0 ||| (T.know.getD u []).getD j 0)
    | none => false
  | _ => false
def chkTA (ops : Nat → List BOp) (n nc : Nat) (T : TabK) : Bool :=
  ((List.range n).all fun t => ((T.know.getD t []).getD 0 0 == 2 ^ t) && ((T.know.getD t []).getD (ops t).length 0 == 2 ^ n - 1) &&
    ((List.range (ops t).length).all fun i => chkOp ops n nc T t i ((ops t).getD i default) && (decide (i + 1 = (ops t).length) || decide (T.rk t i ≤ T.rk t (i + 1))))) &&
  ((List.range T.tel.length).all fun c => match T.telOf n c with
    | some (u, j) => decide (j < (ops u).length) && isTell c ((ops u).getD j default)
    | none => true)

section
variable {ops : Nat → List BOp} {n nc : Nat} {T : TabK}

theorem chk_parts (h : chkTA ops n nc T = true) : (∀ t, t < n → ((T.know.getD t []).getD 0 0 = 2 ^ t ∧ (T.know.getD t []).getD (ops t).length 0 = 2 ^ n - 1) ∧ ∀ i, i < (ops t).length → chkOp ops n nc T t i ((ops t).getD i default) = true ∧ (i + 1 = (ops t).length ∨ T.rk t i ≤ T.rk t (i + 1))) ∧
    ∀ c u j, T.telOf n c = some (u, j) → u < n ∧ j < (ops u).length ∧ isTell c ((ops u).getD j default) = true := by
  unfold chkTA at h
  rw [Bool.and_eq_true, List.all_eq_true, List.all_eq_true] at h
  obtain ⟨h1, h2⟩ := h
  refine ⟨fun t ht => ?_, fun c u j e => ?_⟩
  · have := h1 t (List.mem_range.2 ht)
    rw [Bool.and_eq_true, Bool.and_eq_true, beq_iff_eq, beq_iff_eq, List.all_eq_true] at this
    obtain ⟨⟨a, b⟩, c⟩ := this
    refine ⟨⟨a, b⟩, fun i hi => ?_⟩
    have := c i (List.mem_range.2 hi)
    rw [Bool.and_eq_true, Bool.or_eq_true, decide_eq_true_eq, decide_eq_true_eq] at this
    exact this
  · have hc : c < T.tel.length := by
      unfold TabK.telOf at e
      split at e
      · rename_i p hp
        exact (List.getElem?_eq_some_iff.1 hp).1
      · cases e
    have := h2 c (List.mem_range.2 hc)
    rw [e] at this
    dsimp only at this
    rw [Bool.and_eq_true, decide_eq_true_eq] at this
    refine ⟨?_, this⟩
    unfold TabK.telOf at e
    split at e
    · split at e
      · injection e with e
        subst e
        assumption
      · cases e
    · cases e

theorem knows_or {a b w : Nat} (h : (a ||| b).testBit w = true) : a.testBit w = true ∨ b.testBit w = true := by
  rw [Nat.testBit_or, Bool.or_eq_true] at h
  exact h
theorem isTell_of {c : Nat} {o : BOp} (h : isTell c o = true) : ∃ k, o = .tell c k := by
  cases o with
  | tell d k => simp [isTell] at h; subst h; exact ⟨k, rfl⟩
  | _ => cases h

def ta_of (h : chkTA ops n nc T = true) : TA ops n nc where
  tel := T.telOf n
  know := T.knows
  rank := T.rk
  kind := fun t i ht hi => by
    have := (((chk_parts h).1 t ht).2 i hi).1
    cases e : (ops t).getD i default with
    | tell c k => exact .inl ⟨c, k, rfl⟩
    | await c => exact .inr ⟨c, rfl⟩
    | meet c s d => rw [e] at this; cases this
    | opn c s => rw [e] at this; cases this
  wf := fun t ht i hi => by
    have := (((chk_parts h).1 t ht).2 i hi).1
    cases e : (ops t).getD i default with
    | tell c k =>
      rw [e] at this
      simp only [chkOp, Bool.and_eq_true, decide_eq_true_eq] at this
      exact this.1.1.1
    | await c =>
      rw [e] at this
      simp only [chkOp, Bool.and_eq_true, decide_eq_true_eq] at this
      exact this.1
    | meet c s d => rw [e] at this; cases this
    | opn c s => rw [e] at this; cases this
  tel_of := fun u j c k hu hj e => by
    have := (((chk_parts h).1 u hu).2 j hj).1
    rw [e] at this
    simp only [chkOp, Bool.and_eq_true, decide_eq_true_eq, beq_iff_eq] at this
    exact this.1.1.2
  tel_ok := fun c u j e => by
    obtain ⟨h1, h2, h3⟩ := (chk_parts h).2 c u j e
    exact ⟨h1, h2, isTell_of h3⟩
  aw_tel := fun t i c ht hi e => by
    have := (((chk_parts h).1 t ht).2 i hi).1
    rw [e] at this
    simp only [chkOp, Bool.and_eq_true] at this
    cases e2 : T.telOf n c with
    | none => rw [e2] at this; cases this.2
    | some p => exact ⟨p, rfl⟩
  rank_up := fun t i j ht hj hij => by
    obtain ⟨d, rfl⟩ : ∃ d, j = i + d := ⟨j - i, by omega⟩
    clear hij
    induction d with
    | zero => exact Nat.le_refl _
    | succ d ih =>
      have h1 := ih (by omega)
      have h2 := (((chk_parts h).1 t ht).2 (i + d) (by omega)).2
      rcases h2 with h2 | h2
      · omega
      · exact Nat.le_trans h1 h2
  rank_aw := fun t i c u j ht hi e e2 => by
    have := (((chk_parts h).1 t ht).2 i hi).1
    rw [e] at this
    simp only [chkOp, Bool.and_eq_true, e2, decide_eq_true_eq] at this
    exact this.2.1
  know0 := fun t w ht e => by
    have := ((chk_parts h).1 t ht).1.1
    unfold TabK.knows at e
    rw [this, Nat.testBit_two_pow] at e
    exact (of_decide_eq_true e).symm
  knowS := fun t i w ht hi e => by
    have := (((chk_parts h).1 t ht).2 i hi).1
    unfold TabK.knows at e ⊢
    cases e1 : (ops t).getD i default with
    | tell c k =>
      rw [e1] at this
      simp only [chkOp, Bool.and_eq_true, decide_eq_true_eq, beq_iff_eq] at this
      rw [this.2] at e
      exact .inl e
    | await c =>
      rw [e1] at this
      simp only [chkOp, Bool.and_eq_true] at this
      cases e2 : T.telOf n c with
      | none => rw [e2] at this; cases this.2
      | some p =>
        obtain ⟨u, j⟩ := p
        rw [e2] at this
        simp only [Bool.and_eq_true, decide_eq_true_eq, beq_iff_eq] at this
        rw [this.2.2] at e
        rcases knows_or e with e3 | e3
        · exact .inl e3
        · exact .inr ⟨c, u, j, rfl, e2, e3⟩
    | meet c s d => rw [e1] at this; cases this
    | opn c s => rw [e1] at this; cases this
  know_mono := fun t i j w ht hj hij e => by
    obtain ⟨d, rfl⟩ : ∃ d, j = i + d := ⟨j - i, by omega⟩
    clear hij
    induction d with
    | zero => exact e
    | succ d ih =>
      have h1 := ih (by omega)
      have := (((chk_parts h).1 t ht).2 (i + d) (by omega)).1
      unfold TabK.knows at h1 ⊢
      show ((T.know.getD t []).getD (i + d + 1) 0).testBit w = true
      cases e1 : (ops t).getD (i + d) default with
      | tell c k =>
        rw [e1] at this
        simp only [chkOp, Bool.and_eq_true, decide_eq_true_eq, beq_iff_eq] at this
        rw [this.2]
        exact h1
      | await c =>
        rw [e1] at this
        simp only [chkOp, Bool.and_eq_true] at this
        cases e2 : T.telOf n c with
        | none => rw [e2] at this; cases this.2
        | some p =>
          obtain ⟨u, j⟩ := p
          rw [e2] at this
          simp only [Bool.and_eq_true, decide_eq_true_eq, beq_iff_eq] at this
          rw [this.2.2, Nat.testBit_or, h1]
          rfl
      | meet c s d => rw [e1] at this; cases this
      | opn c s => rw [e1] at this; cases this
  know_all := fun t w ht hw => by
    have := ((chk_parts h).1 t ht).1.2
    unfold TabK.knows
    rw [this, Nat.testBit_two_pow_sub_one]
    exact decide_eq_true hw
  few := fun u j c k hu hj e => by
    have := (((chk_parts h).1 u hu).2 j hj).1
    rw [e] at this
    simp only [chkOp, Bool.and_eq_true, decide_eq_true_eq, beq_iff_eq] at this
    exact this.1.2
end

/-- Static (chapter 8). -/
def staticOps (n id : Nat) : List BOp := (if 2 * id + 1 < n then [.await (2 * id + 1)] else []) ++ (if 2 * id + 2 < n then [.await (2 * id + 2)] else []) ++ (if id = 0 then [.tell n n] else [.tell id 1, .await n])
/-- Levels: how often 1 is doubled. -/
def lvls (n : Nat) : Nat := ((List.range 5).find? fun l => decide (n ≤ 2 ^ l)).getD 0
/-- Spread (chapter 9). -/
def spreadOps (n id : Nat) : List BOp := (List.range (lvls n)).flatMap fun r => [.tell ((id + 2 ^ r) % n * lvls n + r) 1, .await (id * lvls n + r)]
/-- Tourney (chapter 10): how many levels a party wins. -/
def wins (n id : Nat) : Nat := ((List.range (lvls n)).find? fun r => !decide (id % 2 ^ (r + 1) = 0)).getD (lvls n)
def tourneyOps (n id : Nat) : List BOp :=
  ((List.range (wins n id)).flatMap fun r => if id + 2 ^ r < n then [.await (id * lvls n + r)] else []) ++
  (if wins n id < lvls n then [.tell ((id - 2 ^ wins n id) * lvls n + wins n id) 1, .await (n * lvls n + id)] else []) ++
  ((List.range (wins n id)).reverse.flatMap fun r => if id + 2 ^ r < n then [.tell (n * lvls n + id + 2 ^ r) 1] else [])
/-- Mcs (chapter 11). -/
def mcsOps (n id : Nat) : List BOp :=
  ((List.range 4).flatMap fun k => if 4 * id + 1 + k < n then [.await (4 * id + 1 + k)] else []) ++
  (if id = 0 then [] else [.tell id 1, .await (n + id)]) ++
  ((List.range 2).flatMap fun k => if 2 * id + 1 + k < n then [.tell (n + (2 * id + 1 + k)) 1] else [])
end Go.Proofs.YtgkfhihnfllmhaaGreatDoor
