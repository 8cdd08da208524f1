/-
  Few at a cell: how often cells are loaded where each is awaited by one (Spread, Tourney, Mcs). Few at a cell, where parties meet (Combine); how often all count themselves (Central).
-/
import Derived.Test.YtaagdmompaphiaaGreatDoorQH2
namespace Go.Proofs.YtaagdmompaphiaaGreatDoor
set_option maxRecDepth 100000
set_option linter.unusedVariables false
set_option linter.unusedSimpArgs false

/-- Is piece j done in this round? -/
def pastP (ph : Ph) (j : Nat) : Bool := match ph with
  | .op i _ => decide (j < i)
  | .gone => true
  | .plus => true
  | _ => false
/-- In how many rounds it was done. -/
def pastN (x : Th) (j : Nat) : Nat := if pastP x.ph j then x.rd else x.rd - 1
def leavesK (k : Nat) : BOp → Bool
  | .tell _ _ => !decide (k = 0)
  | .await _ => decide (k = 2)
  | _ => false
def leavesP (l : List BOp) (x : Th) (j : Nat) : Nat := match x.ph with
  | .op i k => if i = j ∧ leavesK k (l.getD i default) = true then 1 else 0
  | _ => 0
theorem past_nxt {l : List BOp} {i j : Nat} (hj : j < l.length) : pastP (nxt l i) j = decide (j < i) := by
  unfold nxt
  split
  · rfl
  · show true = _
    exact (decide_eq_true (by omega)).symm

section
variable {ops : Nat → List BOp} {n nc rounds : Nat} {T : TA ops n nc} {S : BS} {t : Nat}

theorem past_step {l : List BOp} {cell : Nat → Int} {x : Th} (hkind : ∀ i, i < l.length → (∃ c k, l.getD i default = .tell c k) ∨ ∃ c, l.getD i default = .await c) (hok : okPh l x.ph) (hr : 1 ≤ x.rd) (hb : x.ph = .b0 → x.rd = 1) {j : Nat} (hj : j < l.length) :
    pastN (doTh l rounds cell x).th j = pastN x j + leavesP l x j := by
  obtain ⟨ph, rd, r1, slp⟩ := x
  dsimp only at hok hr hb
  unfold doTh
  cases ph with
  | b0 => have := hb rfl; subst this; rfl
  | b1 | halt | fin => rfl
  | jump => rfl
  | gone => rfl
  | plus => show rd + 1 - 1 = rd + 0; omega
  | less => dsimp only; unfold pastN; dsimp only; split <;> rfl
  | came =>
    show pastN ⟨nxt l 0, rd, r1, slp⟩ j = rd - 1 + 0
    unfold pastN
    dsimp only
    rw [past_nxt hj]
    simp
  | op i k =>
    have hp : ∀ k' (r1' : Int) s', pastN ⟨.op i k', rd, r1', s'⟩ j = pastN ⟨.op i k, rd, r1, slp⟩ j := fun _ _ _ => rfl
    have hnx : ∀ s', pastN ⟨nxt l (i + 1), rd, r1, s'⟩ j = pastN ⟨.op i k, rd, r1, slp⟩ j + if i = j then 1 else 0 := fun s' => by
      unfold pastN
      dsimp only
      rw [past_nxt hj]
      unfold pastP
      dsimp only
      by_cases e : i = j
      · subst e
        simp
        omega
      · by_cases h : j < i
        · simp [h, e, show j < i + 1 by omega]
        · simp [h, e, show ¬ j < i + 1 by omega]
    have hlv : leavesP l ⟨.op i k, rd, r1, slp⟩ j = if i = j ∧ leavesK k (l.getD i default) = true then 1 else 0 := rfl
    rw [hlv]
    show pastN (doOp l cell ⟨.op i k, rd, r1, slp⟩ i k (l.getD i default)).th j = _
    rcases hkind i hok.1 with ⟨c, s, e⟩ | ⟨c, e⟩
    · rw [e]
      unfold doOp leavesK
      dsimp only
      by_cases h0 : k = 0
      · rw [if_pos h0, if_neg (by simp [h0])]; rfl
      · rw [if_neg h0, hnx]
        simp [h0]
    · rw [e]
      unfold doOp doAwait leavesK
      dsimp only
      by_cases h0 : k = 0
      · rw [if_pos h0, show (if i = j ∧ decide (k = 2) = true then 1 else 0 : Nat) = 0 from if_neg (by simp [h0])]; rfl
      · rw [if_neg h0]
        by_cases h1 : k = 1
        · rw [if_pos h1, show (if i = j ∧ decide (k = 2) = true then 1 else 0 : Nat) = 0 from if_neg (by simp [h1])]
          split <;> rfl
        · rw [if_neg h1]
          by_cases h2 : k = 2
          · rw [if_pos h2, hnx]; simp [h2]
          · rw [if_neg h2, show (if i = j ∧ decide (k = 2) = true then 1 else 0 : Nat) = 0 from if_neg (by simp [h2])]
            by_cases h3 : k = 3
            · rw [if_pos h3]; rfl
            · rw [if_neg h3]; rfl

/-- How often a thread loaded a cell. -/
def ld (l : List Act6) (t c : Nat) : Nat := (l.filter fun a => a.2.2.1 == 6 && a.2.1 == (t : Int) && a.2.2.2.1 == (c : Int)).length
theorem ld_append (l r : List Act6) (t c : Nat) : ld (l ++ r) t c = ld l t c + ld r t c := by unfold ld; rw [List.filter_append, List.length_append]
theorem ld_one (w : Int) (u op d t c : Nat) (a b : Int) : ld [(w, (u : Int), (op : Int), (d : Int), a, b)] t c = if op = 6 ∧ u = t ∧ d = c then 1 else 0 := by
  unfold ld
  by_cases h : op = 6 ∧ u = t ∧ d = c
  · obtain ⟨rfl, rfl, rfl⟩ := h
    rw [if_pos ⟨rfl, rfl, rfl⟩, List.filter_cons_of_pos (by simp)]
    rfl
  · rw [if_neg h, List.filter_cons_of_neg (by simp; omega)]
    rfl
/-- How often it may have loaded in this round already, but for being woken. -/
def inA (x : Th) (cell : Int) (i : Nat) : Nat := match x.ph with
  | .op i' k => if i' = i then (if k = 0 then (if (x.rd : Int) ≤ cell then 1 else 0) else if k = 1 then (if x.r1 < x.rd then 1 else 2) else if k = 2 then 2 else if k = 3 then 1 else if x.slp = true ∨ (x.rd : Int) ≤ cell then 1 else 0) else 0
  | _ => 0
theorem inA_up {x : Th} {c c' : Int} {i : Nat} (h : c ≤ c') : inA x c i ≤ inA x c' i := by
  obtain ⟨ph, rd, r1, slp⟩ := x
  unfold inA
  cases ph with
  | op i' k =>
    dsimp only
    cases slp
    all_goals simp only [Bool.false_eq_true, false_or, true_or, if_true]
    all_goals repeat' split
    all_goals omega
  | _ => exact Nat.le_refl _
theorem inA_wake {x : Th} {c : Int} {i : Nat} : inA x c i ≤ inA { x with slp := false } c i + 1 := by
  obtain ⟨ph, rd, r1, slp⟩ := x
  unfold inA
  cases ph with
  | op i' k =>
    dsimp only
    cases slp
    all_goals simp only [Bool.false_eq_true, false_or, true_or, if_true]
    all_goals repeat' split
    all_goals omega
  | _ => dsimp only; omega
structure Thin (T : TA ops n nc) (S : BS) (m : Mach) : Prop where
  most : ∀ t i c u j, t < n → i < (ops t).length → (ops t).getD i default = .await c → T.tel c = some (u, j) → ld m.acts t c ≤ 2 * pastN (S.th t) i + inA (S.th t) (S.cell c) i + pastN (S.th u) j
  form : ∀ a ∈ m.acts, ∃ t i c : Nat, t < n ∧ i < (ops t).length ∧ a.2.1 = t ∧ a.2.2.2.1 = c ∧ ((a.2.2.1 = 7 ∧ ∃ s, (ops t).getD i default = .tell c s) ∨ (a.2.2.1 = 6 ∧ (ops t).getD i default = .await c))
structure Least (ops : Nat → List BOp) (n : Nat) (S : BS) (m : Mach) : Prop where
  least : ∀ t i c, t < n → i < (ops t).length → (ops t).getD i default = .await c → pastN (S.th t) i ≤ ld m.acts t c ∧ ∀ k, (S.th t).ph = .op i k → 1 ≤ k → k < 4 → pastN (S.th t) i + 1 ≤ ld m.acts t c

theorem touch_form {l : List BOp} {cell : Nat → Int} {x : Th} (hkind : ∀ i, i < l.length → (∃ c k, l.getD i default = .tell c k) ∨ ∃ c, l.getD i default = .await c) (hok : okPh l x.ph) {q : Nat × Nat × Int} (hq : (doTh l rounds cell x).touch = some q) :
    ∃ i k, x.ph = .op i k ∧ i < l.length ∧ k = 0 ∧ ((q.1 = 7 ∧ ∃ s, l.getD i default = .tell q.2.1 s) ∨ (q.1 = 6 ∧ l.getD i default = .await q.2.1)) := by
  obtain ⟨ph, rd, r1, slp⟩ := x
  unfold doTh at hq
  cases ph with
  | op i k =>
    refine ⟨i, k, rfl, hok.1, ?_⟩
    dsimp only at hq
    rcases hkind i hok.1 with ⟨c, s, e⟩ | ⟨c, e⟩
    · rw [e] at hq ⊢
      unfold doOp at hq
      dsimp only at hq
      by_cases h0 : k = 0
      · rw [if_pos h0] at hq
        injection hq with hq
        subst hq
        exact ⟨h0, .inl ⟨rfl, s, rfl⟩⟩
      · rw [if_neg h0] at hq
        cases hq
    · rw [e] at hq ⊢
      unfold doOp doAwait at hq
      dsimp only at hq
      by_cases h0 : k = 0
      · rw [if_pos h0] at hq
        injection hq with hq
        subst hq
        exact ⟨h0, .inr ⟨rfl, rfl⟩⟩
      · rw [if_neg h0] at hq
        repeat' split at hq
        all_goals cases hq
  | _ => cases hq
theorem wake_form {l : List BOp} {cell : Nat → Int} {x : Th} (hkind : ∀ i, i < l.length → (∃ c k, l.getD i default = .tell c k) ∨ ∃ c, l.getD i default = .await c) (hok : okPh l x.ph) {c s : Nat} (hq : (doTh l rounds cell x).wake = some (c, s)) :
    ∃ i k, x.ph = .op i k ∧ i < l.length ∧ k ≠ 0 ∧ l.getD i default = .tell c s := by
  obtain ⟨ph, rd, r1, slp⟩ := x
  unfold doTh at hq
  cases ph with
  | op i k =>
    refine ⟨i, k, rfl, hok.1, ?_⟩
    dsimp only at hq
    rcases hkind i hok.1 with ⟨c', s', e⟩ | ⟨c', e⟩
    · rw [e] at hq ⊢
      unfold doOp at hq
      dsimp only at hq
      by_cases h0 : k = 0
      · rw [if_pos h0] at hq; cases hq
      · rw [if_neg h0] at hq
        injection hq with hq
        injection hq with e1 e2
        subst e1 e2
        exact ⟨h0, rfl⟩
    · rw [e] at hq
      unfold doOp doAwait at hq
      dsimp only at hq
      repeat' split at hq
      all_goals cases hq
  | _ => cases hq
/-- Others are as they were, or are woken. -/
theorem step_other (u : Nat) (hu : u ≠ t) : (stepS ops rounds t S).th u = S.th u ∨ ∃ w, (doTh (ops t) rounds S.cell (S.th t)).wake = some w ∧ napCell (ops u) (S.th u).ph = some w.1 ∧ (stepS ops rounds t S).th u = { S.th u with slp := false } := by
  unfold stepS
  dsimp only
  rw [upd_ne _ _ hu]
  cases (doTh (ops t) rounds S.cell (S.th t)).wake with
  | none => exact .inl rfl
  | some w =>
    dsimp only
    unfold wakeAll
    split
    · rename_i hn
      exact .inr ⟨w, rfl, hn, rfl⟩
    · exact .inl rfl

theorem thin_keep (T : TA ops n nc) (one : ∀ t i i' c, t < n → i < (ops t).length → i' < (ops t).length → (ops t).getD i default = .await c → (ops t).getD i' default = .await c → i = i') : KeepsK (ta_kind T rounds) (Thin T) where
  new := ⟨fun t i c u j _ _ _ _ => Nat.zero_le _, fun a h => by cases h⟩
  step := fun p S m t hR h ht hs hf hS => by
    obtain ⟨s1, s2, s3, s4⟩ := hS
    have hT : TInv T rounds S := hR.inv.1
    have hF := hR.inv.2
    have hkind := fun u (hu : u < n) i hi => T.kind u i hu hi
    have hok := (hT.own t ht).ok
    have hrd := (hT.own t ht).rd
    have hup := (ta_down hT (hF t ht) ht hs hf).2.2
    have hself : (stepS ops rounds t S).th t = (doTh (ops t) rounds S.cell (S.th t)).th := step_th_self t
    have hpast : ∀ w j, w < n → j < (ops w).length → pastN ((stepS ops rounds t S).th w) j = pastN (S.th w) j + if w = t then leavesP (ops t) (S.th t) j else 0 := fun w j hw hj => by
      by_cases e : w = t
      · subst e
        rw [if_pos rfl, hself]
        exact past_step (hkind w hw) hok hrd.1 hrd.2.2.2.1 hj
      · rw [if_neg e]
        rcases step_other (S := S) (ops := ops) (rounds := rounds) w e with e1 | ⟨_, _, _, e1⟩
        · rw [e1]; rfl
        · rw [e1]; rfl
    refine ⟨fun u i c v j hu hi ha htel => ?_, ?_⟩
    · obtain ⟨hv, hj, s, htl⟩ := T.tel_ok c v j htel
      have hm := h.most u i c v j hu hi ha htel
      have hpi := hpast u i hu hi
      have hpj := hpast v j hv hj
      rw [hpi, hpj]
      by_cases hut : u = t
      · subst hut
        rw [if_pos rfl, hself]
        have hvj : pastN (S.th v) j ≤ pastN (S.th v) j + if v = u then leavesP (ops u) (S.th u) j else 0 := Nat.le_add_right _ _
        by_cases hop : ∃ k, (S.th u).ph = .op i k
        · obtain ⟨k, hk⟩ := hop
          have hx : S.th u = ⟨.op i k, (S.th u).rd, (S.th u).r1, false⟩ := by rw [← hk, ← hs]
          have hok' := hok
          rw [hk] at hok'
          have hk5 : k < 5 := by have := hok'.2; rw [ha] at this; exact this
          have hd : doTh (ops u) rounds S.cell (S.th u) = doAwait S.cell (S.th u) i k 0 c (nxt (ops u) (i + 1)) := by
            unfold doTh
            rw [hk]
            show doOp (ops u) S.cell (S.th u) i k ((ops u).getD i default) = _
            rw [ha]
            rfl
          have hlv : leavesP (ops u) (S.th u) i = if k = 2 then 1 else 0 := by
            unfold leavesP
            rw [hk]
            dsimp only
            rw [ha]
            simp [leavesK]
          rw [hlv]
          have haw := (hT.own u hu).aw i k c hk ha
          have hrr := (hF u hu).read i k c hk ha
          have hcu := hup c
          have hin : inA (S.th u) (S.cell c) i = if k = 0 then (if ((S.th u).rd : Int) ≤ S.cell c then 1 else 0) else if k = 1 then (if (S.th u).r1 < (S.th u).rd then 1 else 2) else if k = 2 then 2 else if k = 3 then 1 else if ((S.th u).rd : Int) ≤ S.cell c then 1 else 0 := by
            unfold inA
            rw [hk, hs]
            simp
          rw [hin] at hm
          rw [hd] at s4 ⊢
          have hcell : (doAwait S.cell (S.th u) i k 0 c (nxt (ops u) (i + 1))).touch = none ∨ k = 0 := by
            by_cases h0 : k = 0
            · exact .inr h0
            · left
              unfold doAwait
              rw [if_neg h0]
              repeat' split
              all_goals rfl
          have hc' : (stepS ops rounds u S).cell c = S.cell c := by
            unfold stepS
            dsimp only
            rw [hd]
            unfold doAwait
            by_cases h0 : k = 0
            · rw [if_pos h0]
              show upd S.cell c (S.cell c) c = _
              rw [upd_same]
            · rw [if_neg h0]
              repeat' split
              all_goals rfl
          rw [hc']
          by_cases h0 : k = 0
          · subst h0
            have hl : ld (stepM 20000 m u).2.acts u c = ld m.acts u c + 1 := by
              rw [s4]
              show ld (m.acts ++ [((m.steps : Int) + 1, (u : Int), ((6 : Nat) : Int), (c : Int), _, _)]) u c = _
              rw [ld_append, ld_one, if_pos ⟨rfl, rfl, rfl⟩]
            have hi' : inA (doAwait S.cell (S.th u) i 0 0 c (nxt (ops u) (i + 1))).th (S.cell c) i = if S.cell c < (S.th u).rd then 1 else 2 := by
              show inA ⟨.op i 1, (S.th u).rd, S.cell c, (S.th u).slp⟩ (S.cell c) i = _
              unfold inA
              simp
            rw [hl, hi']
            rw [if_pos rfl] at hm
            rw [if_neg (by omega : ¬ (0 = 2))]
            split at hm <;> split <;> omega
          · have hl : ld (stepM 20000 m u).2.acts u c = ld m.acts u c := by
              rw [s4, hcell.resolve_right h0]
              simp
            rw [hl]
            rw [if_neg h0] at hm
            by_cases h1 : k = 1
            · subst h1
              have hi' : inA (doAwait S.cell (S.th u) i 1 0 c (nxt (ops u) (i + 1))).th (S.cell c) i = if (S.th u).r1 < (S.th u).rd then 1 else 2 := by
                unfold doAwait
                rw [if_neg (by omega : ¬ (1 = 0)), if_pos rfl]
                by_cases hlt : (S.th u).r1 < (S.th u).rd
                · rw [if_pos hlt, if_pos hlt]
                  show inA ⟨.op i 3, _, _, _⟩ _ i = 1
                  unfold inA
                  simp
                · rw [if_neg hlt, if_neg hlt]
                  show inA ⟨.op i 2, _, _, _⟩ _ i = 2
                  unfold inA
                  simp
              rw [hi']
              rw [if_pos rfl] at hm
              rw [if_neg (by omega : ¬ (1 = 2))]
              omega
            · rw [if_neg h1] at hm
              by_cases h2 : k = 2
              · rw [if_pos h2] at hm ⊢
                omega
              · rw [if_neg h2] at hm ⊢
                by_cases h3 : k = 3
                · subst h3
                  rw [if_pos rfl] at hm
                  have hi' : inA (doAwait S.cell (S.th u) i 3 0 c (nxt (ops u) (i + 1))).th (S.cell c) i = 1 := by
                    show inA ⟨.op i 4, (S.th u).rd, (S.th u).r1, decide (S.cell c = (S.th u).r1)⟩ (S.cell c) i = 1
                    unfold inA
                    simp
                    have a1 := haw.1 (by omega)
                    have a3 := haw.2.2.1 rfl
                    have a4 := hrr (by omega)
                    intro e
                    have := hrd.1
                    omega
                  rw [hi']
                  omega
                · rw [if_neg h3] at hm
                  have hi' : inA (doAwait S.cell (S.th u) i k 0 c (nxt (ops u) (i + 1))).th (S.cell c) i = if ((S.th u).rd : Int) ≤ S.cell c then 1 else 0 := by
                    unfold doAwait
                    rw [if_neg h0, if_neg h1, if_neg h2, if_neg h3]
                    show inA ⟨.op i 0, _, _, _⟩ _ i = _
                    unfold inA
                    simp
                  rw [hi']
                  omega
        · have hi0 : inA (S.th u) (S.cell c) i = 0 := by
            unfold inA
            cases hph : (S.th u).ph with
            | op i' k' =>
              dsimp only
              rw [if_neg (fun e => hop ⟨k', by rw [hph, e]⟩)]
            | _ => rfl
          rw [hi0] at hm
          have hl : ld (stepM 20000 m u).2.acts u c = ld m.acts u c := by
            rw [s4]
            cases hq : (doTh (ops u) rounds S.cell (S.th u)).touch with
            | none => simp
            | some q =>
              dsimp only
              rw [ld_append, ld_one]
              obtain ⟨i', k', e1, e2, e3, e4⟩ := touch_form (hkind u hu) hok hq
              have hno : ¬ (q.1 = 6 ∧ u = u ∧ q.2.1 = c) := by
                rintro ⟨f1, _, f3⟩
                rcases e4 with ⟨g, _⟩ | ⟨g, g2⟩
                · omega
                · rw [f3] at g2
                  have := one u i i' c hu hi e2 ha g2
                  subst this
                  exact hop ⟨k', e1⟩
              rw [if_neg hno]
              rfl
          rw [hl]
          omega
      · have hl : ld (stepM 20000 m t).2.acts u c = ld m.acts u c := by
          rw [s4]
          cases hq : (doTh (ops t) rounds S.cell (S.th t)).touch with
          | none => simp
          | some q =>
            dsimp only
            rw [ld_append, ld_one, if_neg (fun e => hut e.2.1.symm)]
            rfl
        rw [hl, if_neg hut]
        rcases step_other (S := S) (ops := ops) (rounds := rounds) u hut with e1 | ⟨w, e0, e2, e1⟩
        · rw [e1]
          have := inA_up (x := S.th u) (i := i) (hup c)
          omega
        · rw [e1]
          by_cases hop : ∃ k, (S.th u).ph = .op i k
          · obtain ⟨k, hk⟩ := hop
            rw [hk] at e2
            have e2' : napOp ((ops u).getD i default) k = some w.1 := e2
            rw [ha] at e2'
            have hwc : w.1 = c := by
              unfold napOp at e2'
              dsimp only at e2'
              split at e2'
              · injection e2' with e; exact e.symm
              · cases e2'
            obtain ⟨w1, w2⟩ := w
            dsimp only at hwc
            subst hwc
            obtain ⟨j', k', f1, f2, f3, f4⟩ := wake_form (hkind t ht) hok e0
            have hvt := T.tel_of t j' w1 w2 ht f2 f4
            rw [htel] at hvt
            injection hvt with hvt
            injection hvt with g1 g2
            subst g1 g2
            have hlv : leavesP (ops v) (S.th v) j = 1 := by
              unfold leavesP
              rw [f1]
              dsimp only
              rw [if_pos ⟨rfl, by rw [f4]; simp [leavesK, f3]⟩]
            rw [if_pos rfl, hlv]
            have a1 := inA_wake (x := S.th u) (c := S.cell w1) (i := i)
            have a2 := inA_up (x := { S.th u with slp := false }) (i := i) (hup w1)
            dsimp only at a1 a2 ⊢
            omega
          · have hi0 : inA (S.th u) (S.cell c) i = 0 := by
              unfold inA
              cases hph : (S.th u).ph with
              | op i' k' =>
                dsimp only
                rw [if_neg (fun e => hop ⟨k', by rw [hph, e]⟩)]
              | _ => rfl
            rw [hi0] at hm
            exact Nat.le_trans hm (Nat.add_le_add (Nat.add_le_add (Nat.le_refl _) (Nat.zero_le _)) (Nat.le_add_right _ _))
    · rw [s4]
      intro a ha
      cases hq : (doTh (ops t) rounds S.cell (S.th t)).touch with
      | none => rw [hq] at ha; simp at ha; exact h.form a ha
      | some q =>
        rw [hq] at ha
        rcases List.mem_append.1 ha with ha | ha
        · exact h.form a ha
        · rw [List.mem_singleton] at ha
          subst ha
          obtain ⟨i, k, e1, e2, e3, e4⟩ := touch_form (hkind t ht) hok hq
          refine ⟨t, i, q.2.1, ht, e2, rfl, rfl, ?_⟩
          rcases e4 with ⟨g, s, g2⟩ | ⟨g, g2⟩
          · exact .inl ⟨by show (q.1 : Int) = 7; omega, s, g2⟩
          · exact .inr ⟨by show (q.1 : Int) = 6; omega, g2⟩
end
end Go.Proofs.YtaagdmompaphiaaGreatDoor

namespace Go.Proofs.YtaagdmompaphiaaGreatDoor
set_option maxRecDepth 100000
set_option linter.unusedVariables false
set_option linter.unusedSimpArgs false

section
variable {ops : Nat → List BOp} {n nc rounds : Nat} {T : TA ops n nc} {S : BS} {t : Nat}

theorem nxt_op {l : List BOp} {i j k : Nat} (h : nxt l i = .op j k) : j = i ∧ k = 0 := by
  unfold nxt at h
  split at h
  · injection h with a b; exact ⟨a.symm, b.symm⟩
  · cases h
theorem enter {l : List BOp} {cell : Nat → Int} {x : Th} (hkind : ∀ i, i < l.length → (∃ c k, l.getD i default = .tell c k) ∨ ∃ c, l.getD i default = .await c) (hok : okPh l x.ph) {i k : Nat} (hq : (doTh l rounds cell x).th.ph = .op i k) : (∃ k0, x.ph = .op i k0) ∨ k = 0 := by
  obtain ⟨ph, rd, r1, slp⟩ := x
  unfold doTh at hq
  cases ph with
  | came => exact .inr (nxt_op hq).2
  | less => dsimp only at hq; split at hq <;> cases hq
  | op i' k' =>
    dsimp only at hq
    rcases hkind i' hok.1 with ⟨c, s, e⟩ | ⟨c, e⟩
    · rw [e] at hq
      unfold doOp at hq
      dsimp only at hq
      by_cases h0 : k' = 0
      · rw [if_pos h0] at hq
        injection hq with a b
        subst a
        exact .inl ⟨k', rfl⟩
      · rw [if_neg h0] at hq
        exact .inr (nxt_op hq).2
    · rw [e] at hq
      unfold doOp doAwait at hq
      dsimp only at hq
      by_cases h0 : k' = 0
      · rw [if_pos h0] at hq
        injection hq with a b
        subst a
        exact .inl ⟨k', rfl⟩
      · rw [if_neg h0] at hq
        by_cases h1 : k' = 1
        · rw [if_pos h1] at hq
          left
          dsimp only at hq
          split at hq
          · injection hq with a b; subst a; exact ⟨k', rfl⟩
          · injection hq with a b; subst a; exact ⟨k', rfl⟩
        · rw [if_neg h1] at hq
          by_cases h2 : k' = 2
          · rw [if_pos h2] at hq
            exact .inr (nxt_op hq).2
          · rw [if_neg h2] at hq
            left
            by_cases h3 : k' = 3
            · rw [if_pos h3] at hq
              injection hq with a b; subst a; exact ⟨k', rfl⟩
            · rw [if_neg h3] at hq
              injection hq with a b; subst a; exact ⟨k', rfl⟩
  | _ => cases hq

theorem least_keep (T : TA ops n nc) : KeepsK (ta_kind T rounds) (Least ops n) where
  new := ⟨fun t i c _ _ _ => ⟨Nat.le_refl _, fun k e => by cases e⟩⟩
  step := fun p S m t hR h ht hs hf hS => by
    obtain ⟨s1, s2, s3, s4⟩ := hS
    have hT : TInv T rounds S := hR.inv.1
    have hkind := fun u (hu : u < n) i hi => T.kind u i hu hi
    have hok := (hT.own t ht).ok
    have hrd := (hT.own t ht).rd
    have hself : (stepS ops rounds t S).th t = (doTh (ops t) rounds S.cell (S.th t)).th := step_th_self t
    have hldm : ∀ u c, ld m.acts u c ≤ ld (stepM 20000 m t).2.acts u c := fun u c => by rw [s4, ld_append]; exact Nat.le_add_right _ _
    refine ⟨fun u i c hu hi ha => ?_⟩
    obtain ⟨h1, h2⟩ := h.least u i c hu hi ha
    have hl := hldm u c
    by_cases hut : u = t
    · subst hut
      rw [hself]
      have hp := past_step (rounds := rounds) (cell := S.cell) (hkind u hu) hok hrd.1 hrd.2.2.2.1 hi
      rw [hp]
      by_cases hop : ∃ k, (S.th u).ph = .op i k
      · obtain ⟨k, hk⟩ := hop
        have hlv : leavesP (ops u) (S.th u) i = if k = 2 then 1 else 0 := by
          unfold leavesP
          rw [hk]
          dsimp only
          rw [ha]
          simp [leavesK]
        rw [hlv]
        have hd : doTh (ops u) rounds S.cell (S.th u) = doAwait S.cell (S.th u) i k 0 c (nxt (ops u) (i + 1)) := by
          unfold doTh
          rw [hk]
          show doOp (ops u) S.cell (S.th u) i k ((ops u).getD i default) = _
          rw [ha]
          rfl
        have h2' := h2 k hk
        by_cases h0 : k = 0
        · subst h0
          have : ld (stepM 20000 m u).2.acts u c = ld m.acts u c + 1 := by
            rw [s4, hd]
            show ld (m.acts ++ [((m.steps : Int) + 1, (u : Int), ((6 : Nat) : Int), (c : Int), _, _)]) u c = _
            rw [ld_append, ld_one, if_pos ⟨rfl, rfl, rfl⟩]
          rw [if_neg (by omega : ¬ (0 = 2)), this]
          exact ⟨by omega, fun _ _ _ _ => by omega⟩
        · by_cases hk2 : k = 2
          · rw [if_pos hk2]
            have := h2' (by omega) (by omega)
            refine ⟨by omega, fun k' e h3 h4 => ?_⟩
            rw [hd] at e
            unfold doAwait at e
            rw [if_neg h0, if_neg (by omega), if_pos hk2] at e
            have := (nxt_op e).2
            omega
          · rw [if_neg hk2]
            refine ⟨by omega, fun k' e h3 h4 => ?_⟩
            by_cases hk4 : k < 4
            · have := h2' (by omega) hk4
              omega
            · exfalso
              rw [hd] at e
              unfold doAwait at e
              rw [if_neg h0, if_neg (by omega), if_neg hk2, if_neg (by omega)] at e
              injection e with _ e
              omega
      · have hlv : leavesP (ops u) (S.th u) i = 0 := by
          unfold leavesP
          cases hph : (S.th u).ph with
          | op i' k' =>
            dsimp only
            rw [if_neg (fun e => hop ⟨k', by rw [hph, e.1]⟩)]
          | _ => rfl
        rw [hlv]
        refine ⟨by omega, fun k e h3 h4 => ?_⟩
        rcases enter (hkind u hu) hok e with e2 | e2
        · exact absurd e2 hop
        · omega
    · rcases step_other (S := S) (ops := ops) (rounds := rounds) u hut with e1 | ⟨w, e0, e2, e1⟩
      · rw [e1]
        exact ⟨by omega, fun k a b c' => by have := h2 k a b c'; omega⟩
      · rw [e1]
        refine ⟨?_, fun k a b c' => ?_⟩
        · show pastN (S.th u) i ≤ _
          omega
        · have := h2 k a b c'
          show pastN (S.th u) i + 1 ≤ _
          omega

theorem past_fin {x : Th} {j : Nat} (h : x.ph = .fin) : pastN x j = x.rd - 1 := by
  unfold pastN pastP
  rw [h]
  rfl

/-- Each await of each round loads. -/
theorem ta_loads {p : Nat} {m : Mach} (hR : Ran (ta_kind T rounds) p S m) (h : Least ops n S m) (hd : Done n S) {t i c : Nat} (ht : t < n) (hi : i < (ops t).length) (ha : (ops t).getD i default = .await c) : rounds ≤ ld m.acts t c := by
  have hT : TInv T rounds S := hR.inv.1
  have h1 := (h.least t i c ht hi ha).1
  rw [past_fin (hd t ht), (hT.own t ht).rd.2.2.2.2 (.inr (hd t ht))] at h1
  omega
end
end Go.Proofs.YtaagdmompaphiaaGreatDoor

namespace Go.Proofs.YtaagdmompaphiaaGreatDoor
set_option maxRecDepth 100000
set_option linter.unusedVariables false
set_option linter.unusedSimpArgs false

def awC : BOp → Option Nat
  | .await c => some c
  | _ => none
def awaits (ops : Nat → List BOp) (n : Nat) : List Nat := (List.range n).flatMap fun t => (ops t).filterMap awC
theorem awaits_one {ops : Nat → List BOp} {n : Nat} (h : (awaits ops n).Nodup) : ∀ t i t' i' c, t < n → i < (ops t).length → t' < n → i' < (ops t').length → (ops t).getD i default = .await c → (ops t').getD i' default = .await c → t = t' ∧ i = i' := by
  unfold awaits List.Nodup at h
  rw [List.pairwise_flatMap] at h
  obtain ⟨h1, h2⟩ := h
  intro t i t' i' c ht hi ht' hi' e e'
  have hin : ∀ t i, i < (ops t).length → (ops t).getD i default = .await c → c ∈ (ops t).filterMap awC := fun t i hi e => by
    rw [List.mem_filterMap]
    refine ⟨(ops t)[i], List.getElem_mem hi, ?_⟩
    rw [List.getD_eq_getElem?_getD, List.getElem?_eq_getElem hi] at e
    simp only [Option.getD_some] at e
    rw [e]
    rfl
  have htt : t = t' := by
    rw [List.pairwise_iff_getElem] at h2
    rcases Nat.lt_trichotomy t t' with hlt | he | hlt
    · have := h2 t t' (by simpa using ht) (by simpa using ht') hlt c (by simpa using hin t i hi e) c (by simpa using hin t' i' hi' e')
      exact absurd rfl this
    · exact he
    · have := h2 t' t (by simpa using ht') (by simpa using ht) hlt c (by simpa using hin t' i' hi' e') c (by simpa using hin t i hi e)
      exact absurd rfl this
  subst htt
  refine ⟨rfl, ?_⟩
  have h3 := h1 t (List.mem_range.2 ht)
  rw [List.pairwise_filterMap, List.pairwise_iff_getElem] at h3
  have hg : ∀ i, (hi : i < (ops t).length) → (ops t).getD i default = .await c → awC (ops t)[i] = some c := fun i hi e => by
    rw [List.getD_eq_getElem?_getD, List.getElem?_eq_getElem hi] at e
    simp only [Option.getD_some] at e
    rw [e]
    rfl
  rcases Nat.lt_trichotomy i i' with hlt | he | hlt
  · exact absurd rfl (h3 i i' hi hi' hlt c (hg i hi e) c (hg i' hi' e'))
  · exact he
  · exact absurd rfl (h3 i' i hi' hi hlt c (hg i' hi' e') c (hg i hi e))

set_option maxRecDepth 100000 in
theorem one_chk : ∀ k n, k = 4 ∨ k = 5 ∨ k = 6 → 1 ≤ n → n ≤ 16 → (awaits (kOps k n) n).Nodup := by
  have h : ([4, 5, 6].all fun k => (List.range 16).all fun n => decide (awaits (kOps k (n + 1)) (n + 1)).Nodup) = true := of_decide_eq_true (by decide +kernel)
  intro k n hk h1 hn
  rw [List.all_eq_true] at h
  have := h k (by rcases hk with e | e | e <;> subst e <;> decide)
  rw [List.all_eq_true] at this
  have := this (n - 1) (List.mem_range.2 (by omega))
  rw [show n - 1 + 1 = n by omega] at this
  exact of_decide_eq_true this
/-- In Spread each cell that is told is awaited. -/
def chkBack (k n : Nat) : Bool := (List.range (kCells k n)).all fun c => !((kTab k n).telOf n c).isSome || (awaits (kOps k n) n).contains c
set_option maxRecDepth 100000 in
theorem back_chk : ∀ n, 1 ≤ n → n ≤ 16 → chkBack 4 n = true := by
  have h : ((List.range 16).all fun n => chkBack 4 (n + 1)) = true := of_decide_eq_true (by decide +kernel)
  intro n h1 hn
  rw [List.all_eq_true] at h
  have := h (n - 1) (List.mem_range.2 (by omega))
  rwa [show n - 1 + 1 = n by omega] at this
end Go.Proofs.YtaagdmompaphiaaGreatDoor

namespace Go.Proofs.YtaagdmompaphiaaGreatDoor
set_option maxRecDepth 100000
section
variable {ops : Nat → List BOp} {n nc rounds : Nat}
theorem KeepsK.and {K : Kind ops n nc rounds} {X Y : BS → Mach → Prop} (hX : KeepsK K X) (hY : KeepsK K Y) : KeepsK K (fun S m => X S m ∧ Y S m) where
  new := ⟨hX.new, hY.new⟩
  step := fun p S m t hR h ht hs hf hS => ⟨hX.step p S m t hR h.1 ht hs hf hS, hY.step p S m t hR h.2 ht hs hf hS⟩

/-- One loads a cell, one stores to it; and each cell is loaded that is stored to. -/
theorem apart_ta (T : TA ops n nc) (one : (awaits ops n).Nodup) (hback : ∀ c p, T.tel c = some p → c ∈ awaits ops n) : ∃ X, KeepsK (ta_kind T rounds) X ∧ ∀ p S m, Ran (ta_kind T rounds) p S m → X S m →
    (∀ a ∈ m.acts, a.2.2.1 = 7 ∨ a.2.2.1 = 6) ∧ (∀ a ∈ m.acts, ∀ b ∈ m.acts, a.2.2.2.1 = b.2.2.2.1 → a.2.2.1 = b.2.2.1 → a.2.1 = b.2.1) ∧
    (Done n S → 1 ≤ rounds → ∀ c : Int, (∃ a ∈ m.acts, a.2.2.1 = 6 ∧ a.2.2.2.1 = c) ↔ ∃ a ∈ m.acts, a.2.2.1 = 7 ∧ a.2.2.2.1 = c) := by
  refine ⟨_, ((acts_keep (ta_mono T)).and (thin_keep T (fun t i i' c ht hi hi' e e' => (awaits_one one t i t i' c ht hi ht hi' e e').2))).and (least_keep T), fun p S m hR hX => ⟨fun a ha => ?_, fun a ha b hb e1 e2 => ?_, fun hd hr c => ?_⟩⟩
  · obtain ⟨t, i, c, _, _, _, _, h⟩ := hX.1.2.form a ha
    rcases h with ⟨h, _⟩ | ⟨h, _⟩
    · exact .inl h
    · exact .inr h
  · obtain ⟨t, i, c, ht, hi, f1, f2, f3⟩ := hX.1.2.form a ha
    obtain ⟨t', i', c', ht', hi', g1, g2, g3⟩ := hX.1.2.form b hb
    have hcc : c = c' := by omega
    subst hcc
    rw [f1, g1]
    rcases f3 with ⟨f3, s, f4⟩ | ⟨f3, f4⟩ <;> rcases g3 with ⟨g3, s', g4⟩ | ⟨g3, g4⟩
    · have h1 := T.tel_of t i c s ht hi f4
      have h2 := T.tel_of t' i' c s' ht' hi' g4
      rw [h1] at h2
      injection h2 with h2
      injection h2 with h2 _
      rw [h2]
    · omega
    · omega
    · rw [(awaits_one one t i t' i' c ht hi ht' hi' f4 g4).1]
  · have hT : TInv T rounds S := hR.inv.1
    have hst : ∀ c p, T.tel c = some p → ∃ a ∈ m.acts, a.2.2.1 = 7 ∧ a.2.2.2.1 = (c : Int) := fun c p hp => by
      have h1 := hX.1.1.st c (by show (T.tel c).isSome = true; rw [hp]; rfl)
      rw [ta_leaves hT (fun c u j e => (T.tel_ok c u j e).1) hd c, hp] at h1
      simp only [Option.isSome_some, if_true] at h1
      have h2 : 0 < (st7 m.acts c).length := by omega
      unfold st7 at h2
      rw [List.length_map] at h2
      obtain ⟨a, ha⟩ := List.exists_mem_of_length_pos h2
      rw [List.mem_filter] at ha
      simp only [Bool.and_eq_true, beq_iff_eq] at ha
      exact ⟨a, ha.1, ha.2⟩
    constructor
    · rintro ⟨a, ha, e1, e2⟩
      obtain ⟨t, i, c', ht, hi, f1, f2, f3⟩ := hX.1.2.form a ha
      rcases f3 with ⟨f3, _⟩ | ⟨f3, f4⟩
      · omega
      · obtain ⟨p, hp⟩ := T.aw_tel t i c' ht hi f4
        have := hst c' p hp
        rw [← f2, e2] at this
        exact this
    · rintro ⟨a, ha, e1, e2⟩
      obtain ⟨t, i, c', ht, hi, f1, f2, f3⟩ := hX.1.2.form a ha
      rcases f3 with ⟨f3, s, f4⟩ | ⟨f3, _⟩
      · have h1 := hback c' _ (T.tel_of t i c' s ht hi f4)
        unfold awaits at h1
        rw [List.mem_flatMap] at h1
        obtain ⟨t', ht', h1⟩ := h1
        rw [List.mem_filterMap] at h1
        obtain ⟨o, ho, h1⟩ := h1
        obtain ⟨i', hi', e3⟩ := List.getElem_of_mem ho
        have ho' : o = .await c' := by
          unfold awC at h1
          cases o <;> simp at h1
          rw [h1]
        have h2 := ta_loads hR hX.2 hd (List.mem_range.1 ht') hi' (by rw [List.getD_eq_getElem?_getD, List.getElem?_eq_getElem hi', e3, ho']; rfl)
        have h3 : 0 < ld m.acts t' c' := by omega
        unfold ld at h3
        obtain ⟨b, hb⟩ := List.exists_mem_of_length_pos h3
        rw [List.mem_filter] at hb
        simp only [Bool.and_eq_true, beq_iff_eq] at hb
        exact ⟨b, hb.1, hb.2.1.1, by rw [hb.2.2]; omega⟩
      · omega
end
theorem spread_apart {n rounds : Nat} (n1 : 1 ≤ n) (n16 : n ≤ 16) : ∃ K, KOK 4 n rounds K ∧ ∃ X, KeepsK K X ∧ ∀ p S m, Ran K p S m → X S m →
    (∀ a ∈ m.acts, a.2.2.1 = 7 ∨ a.2.2.1 = 6) ∧ (∀ a ∈ m.acts, ∀ b ∈ m.acts, a.2.2.2.1 = b.2.2.2.1 → a.2.2.1 = b.2.2.1 → a.2.1 = b.2.1) ∧
    (Done n S → 1 ≤ rounds → ∀ c : Int, (∃ a ∈ m.acts, a.2.2.1 = 6 ∧ a.2.2.2.1 = c) ↔ ∃ a ∈ m.acts, a.2.2.1 = 7 ∧ a.2.2.2.1 = c) :=
  ⟨_, kok4 n1 n16, apart_ta (ta_of (spread_chk n n1 n16)) (one_chk 4 n (.inl rfl) n1 n16) (fun c p hp => by
    have h := back_chk n n1 n16
    unfold chkBack at h
    rw [List.all_eq_true] at h
    have hc : c < kCells 4 n := by
      obtain ⟨u, j⟩ := p
      obtain ⟨hu, hj, s, hs⟩ := (ta_of (spread_chk n n1 n16)).tel_ok c u j hp
      have := (ta_of (spread_chk n n1 n16)).wf u hu j hj
      rw [hs] at this
      exact this
    have := h c (List.mem_range.2 hc)
    rw [Bool.or_eq_true] at this
    rcases this with h1 | h1
    · have h2 : ((kTab 4 n).telOf n c).isSome = true := by show ((ta_of (spread_chk n n1 n16)).tel c).isSome = true; rw [hp]; rfl
      rw [h2] at h1
      cases h1
    · exact List.contains_iff_mem.1 h1)⟩
end Go.Proofs.YtaagdmompaphiaaGreatDoor

namespace Go.Proofs.YtaagdmompaphiaaGreatDoor
set_option maxRecDepth 100000
set_option linter.unusedVariables false
set_option linter.unusedSimpArgs false

theorem sumN_at {n t d : Nat} {f g : Nat → Nat} (ht : t < n) (h : ∀ u, u < n → u ≠ t → f u = g u) (hd : f t = g t + d) : sumN n f = sumN n g + d :=
  Nat.le_antisymm (sumN_grow ht (fun u hu hne => Nat.le_of_eq (h u hu hne)) (Nat.le_of_eq hd)) (sumN_drop ht (fun u hu hne => Nat.le_of_eq (h u hu hne).symm) (Nat.le_of_eq hd.symm))
/-- How often op was done to a cell. -/
def opN (l : List Act6) (o c : Nat) : Nat := (l.filter fun a => a.2.2.1 == (o : Int) && a.2.2.2.1 == (c : Int)).length
theorem opN_append (l r : List Act6) (o c : Nat) : opN (l ++ r) o c = opN l o c + opN r o c := by unfold opN; rw [List.filter_append, List.length_append]
theorem opN_one (w : Int) (u op d o c : Nat) (a b : Int) : opN [(w, (u : Int), (op : Int), (d : Int), a, b)] o c = if op = o ∧ d = c then 1 else 0 := by
  unfold opN
  by_cases h : op = o ∧ d = c
  · obtain ⟨rfl, rfl⟩ := h
    rw [if_pos ⟨rfl, rfl⟩, List.filter_cons_of_pos (by simp)]
    rfl
  · rw [if_neg h, List.filter_cons_of_neg (by simp; omega)]
    rfl
end Go.Proofs.YtaagdmompaphiaaGreatDoor

namespace Go.Proofs.YtaagdmompaphiaaGreatDoor
set_option maxRecDepth 100000
set_option linter.unusedVariables false
set_option linter.unusedSimpArgs false

/-- How often who waits may load yet, but for being woken. -/
def cred (h : Nat) (s path : Nat → Nat) (v : Nat) (g : Int) (x : Th) : Nat := match x.ph with
  | .op i k => if i < h ∧ path i = v then
      (if k = 0 then 0 else if k = 1 then (if x.r1 = (s i : Int) - 1 then 0 else 2) else if k = 2 then (if (x.rd : Int) ≤ g then 1 else 2) else if k = 3 then (if x.r1 < x.rd then 1 else 0) else if k = 4 then 0 else if k = 5 then 1 else if k = 6 then (if x.slp = true ∨ (x.rd : Int) ≤ g then 1 else 2) else 0) else 0
  | _ => 0
theorem cred_up {h : Nat} {s path : Nat → Nat} {v : Nat} {g g' : Int} {x : Th} (hg : g ≤ g') : cred h s path v g' x ≤ cred h s path v g x := by
  obtain ⟨ph, rd, r1, slp⟩ := x
  unfold cred
  cases ph with
  | op i k =>
    dsimp only
    cases slp
    all_goals simp only [Bool.false_eq_true, false_or, true_or, if_true]
    all_goals repeat' split
    all_goals omega
  | _ => exact Nat.le_refl _
theorem cred_wake {h : Nat} {s path : Nat → Nat} {v : Nat} {g : Int} {x : Th} : cred h s path v g ⟨x.ph, x.rd, x.r1, false⟩ ≤ cred h s path v g x + 1 := by
  obtain ⟨ph, rd, r1, slp⟩ := x
  unfold cred
  cases ph with
  | op i k =>
    dsimp only
    cases slp
    all_goals simp only [Bool.false_eq_true, false_or, true_or, if_true]
    all_goals repeat' split
    all_goals omega
  | _ => dsimp only; omega

section
variable {ops : Nat → List BOp} {n nc rounds : Nat} {T : MT ops n nc} {S S' : BS} {t : Nat}
variable (T) in
def MT.cred (S : BS) (v u : Nat) : Nat := Go.Proofs.YtaagdmompaphiaaGreatDoor.cred T.h (T.sz u) (T.path u) v (gateOf S v) (S.th u)
variable (T) in
def MT.two (S : BS) (v : Nat) : Bool := (List.range n).any fun u => (List.range T.h).any fun j => decide (T.path u j = v) && opAt T.h 2 (S.th u) j
theorem two_iff {v : Nat} : T.two S v = true ↔ ∃ u j, u < n ∧ j < T.h ∧ T.path u j = v ∧ opAt T.h 2 (S.th u) j = true := by
  unfold MT.two
  simp only [List.any_eq_true, List.mem_range, Bool.and_eq_true, decide_eq_true_eq]
  constructor
  · rintro ⟨u, hu, j, hj, e, e2⟩
    exact ⟨u, j, hu, hj, e, e2⟩
  · rintro ⟨u, j, hu, hj, e, e2⟩
    exact ⟨u, hu, j, hj, e, e2⟩

structure ThinM (T : MT ops n nc) (S : BS) (l : List Act6) (v : Nat) : Prop where
  fet : (opN l 8 (2 * v) : Int) ≤ 2 * opN l 7 (2 * v) + S.cell (2 * v)
  zer : (opN l 7 (2 * v) : Int) ≤ gateOf S v + ((if T.two S v then 1 else 0 : Nat) : Int)
  loa : (opN l 6 (2 * v + 1) : Int) + (sumN n (fun u => T.cred S v u) : Nat) + ((if T.pend S v then 1 else 0 : Nat) : Int) ≤ 2 * opN l 8 (2 * v) + gateOf S v

/-- No cell changed, no wake: t alone did. -/
theorem ThinM.calm {l : List Act6} {v : Nat} (h : ThinM T S l v) (ht : t < n) {x : Th} (h2 : ∀ j, opAt T.h 2 x j = opAt T.h 2 (S.th t) j) (h3 : ∀ j, opAt T.h 3 x j = opAt T.h 3 (S.th t) j) (hc : Go.Proofs.YtaagdmompaphiaaGreatDoor.cred T.h (T.sz t) (T.path t) v (gateOf S v) x ≤ Go.Proofs.YtaagdmompaphiaaGreatDoor.cred T.h (T.sz t) (T.path t) v (gateOf S v) (S.th t)) : ThinM T ⟨upd S.th t x, S.cell⟩ l v := by
  have e2 : T.two ⟨upd S.th t x, S.cell⟩ v = T.two S v := by
    unfold MT.two
    congr 1
    funext u
    congr 1
    funext j
    congr 1
    dsimp only
    by_cases e : u = t
    · subst e; rw [upd_same, h2]
    · rw [upd_ne _ _ e]
  have e3 : T.pend ⟨upd S.th t x, S.cell⟩ v = T.pend S v := by
    unfold MT.pend
    congr 1
    funext u
    congr 1
    funext j
    congr 1
    dsimp only
    by_cases e : u = t
    · subst e; rw [upd_same, h3]
    · rw [upd_ne _ _ e]
  have e4 : sumN n (fun u => T.cred ⟨upd S.th t x, S.cell⟩ v u) ≤ sumN n (fun u => T.cred S v u) := sumN_le fun u hu => by
    unfold MT.cred
    by_cases e : u = t
    · subst e
      show Go.Proofs.YtaagdmompaphiaaGreatDoor.cred _ _ _ _ _ (upd S.th u x u) ≤ _
      rw [upd_same]
      exact hc
    · show Go.Proofs.YtaagdmompaphiaaGreatDoor.cred _ _ _ _ _ (upd S.th t x u) ≤ _
      rw [upd_ne _ _ e]
      exact Nat.le_refl _
  refine ⟨h.fet, by rw [e2]; exact h.zer, ?_⟩
  rw [e3]
  have := h.loa
  show _ ≤ _ + gateOf S v
  omega
end
end Go.Proofs.YtaagdmompaphiaaGreatDoor

namespace Go.Proofs.YtaagdmompaphiaaGreatDoor
set_option maxRecDepth 100000
set_option linter.unusedVariables false
set_option linter.unusedSimpArgs false

section
variable {ops : Nat → List BOp} {n nc rounds : Nat} {T : MT ops n nc} {S S' : BS} {t : Nat} {l : List Act6} {v : Nat}

/-- Another party as it was, t at x: who is at opAt k somewhere. -/
theorem two_mono (hth : ∀ u, u ≠ t → ∀ j, opAt T.h 2 (S'.th u) j = opAt T.h 2 (S.th u) j) (h2 : ∀ j, j < T.h → T.path t j = v → opAt T.h 2 (S.th t) j = true → opAt T.h 2 (S'.th t) j = true) : (if T.two S v then 1 else 0 : Nat) ≤ if T.two S' v then 1 else 0 := by
  by_cases e : T.two S v = true
  · have : T.two S' v = true := by
      obtain ⟨u, j, hu, hj, e1, e2⟩ := two_iff.1 e
      refine two_iff.2 ⟨u, j, hu, hj, e1, ?_⟩
      by_cases hut : u = t
      · subst hut; exact h2 j hj e1 e2
      · rw [hth u hut]; exact e2
    rw [if_pos this, if_pos e]
    exact Nat.le_refl _
  · rw [if_neg e]
    exact Nat.zero_le _
theorem pend_mono (hth : ∀ u, u ≠ t → ∀ j, opAt T.h 3 (S'.th u) j = opAt T.h 3 (S.th u) j) (h3 : ∀ j, j < T.h → T.path t j = v → opAt T.h 3 (S'.th t) j = true → opAt T.h 3 (S.th t) j = true) : (if T.pend S' v then 1 else 0 : Nat) ≤ if T.pend S v then 1 else 0 := by
  by_cases e : T.pend S' v = true
  · have : T.pend S v = true := by
      obtain ⟨u, j, hu, hj, e1, e2⟩ := pend_iff.1 e
      refine pend_iff.2 ⟨u, j, hu, hj, e1, ?_⟩
      by_cases hut : u = t
      · subst hut; exact h3 j hj e1 e2
      · rw [← hth u hut]; exact e2
    rw [if_pos this, if_pos e]
    exact Nat.le_refl _
  · rw [if_neg e]
    exact Nat.zero_le _
/-- The sum of what all may load yet, where t alone changed, and a gate is no lower. -/
theorem cred_sum (ht : t < n) (hg : gateOf S v ≤ gateOf S' v) (hth : ∀ u, u ≠ t → S'.th u = S.th u) {d : Nat} (hd : T.cred S' v t ≤ T.cred S v t + d) : sumN n (fun u => T.cred S' v u) ≤ sumN n (fun u => T.cred S v u) + d :=
  sumN_grow ht (fun u hu hne => by unfold MT.cred; rw [hth u hne]; exact cred_up hg) hd
theorem cred_less (ht : t < n) (hg : gateOf S v ≤ gateOf S' v) (hth : ∀ u, u ≠ t → S'.th u = S.th u) {d : Nat} (hd : T.cred S' v t + d ≤ T.cred S v t) : sumN n (fun u => T.cred S' v u) + d ≤ sumN n (fun u => T.cred S v u) :=
  sumN_drop ht (fun u hu hne => by unfold MT.cred; rw [hth u hne]; exact cred_up hg) hd

theorem ThinM.fetch (h : ThinM T S l v) (hI : MInv T rounds S) (ht : t < n) (hs : (S.th t).slp = false) {j : Nat} (hph : (S.th t).ph = .op j 0) (hj : j < T.h) {a b w : Int} :
    ThinM T ⟨upd S.th t ⟨.op j 1, (S.th t).rd, S.cell (2 * T.path t j), false⟩, upd S.cell (2 * T.path t j) ((S.cell (2 * T.path t j) + 1) % m64)⟩ (l ++ [(w, (t : Int), ((8 : Nat) : Int), ((2 * T.path t j : Nat) : Int), a, b)]) v := by
  obtain ⟨_, c0, c1⟩ := hI.fetch ht hs hph hj
  have hsz := (T.node t j ht hj).2.2
  have hmod : (S.cell (2 * T.path t j) + 1) % m64 = S.cell (2 * T.path t j) + 1 := small_mod (by omega) (by unfold MT.sz at c1; omega)
  rw [hmod]
  have hx : S.th t = ⟨.op j 0, (S.th t).rd, (S.th t).r1, false⟩ := by rw [← hph, ← hs]
  obtain ⟨S', hS'⟩ : ∃ S' : BS, (⟨upd S.th t ⟨.op j 1, (S.th t).rd, S.cell (2 * T.path t j), false⟩, upd S.cell (2 * T.path t j) (S.cell (2 * T.path t j) + 1)⟩ : BS) = S' := ⟨_, rfl⟩
  rw [hS']
  have hth : ∀ u, u ≠ t → S'.th u = S.th u := fun u hu => by rw [← hS']; exact upd_ne _ _ hu
  have htt : S'.th t = ⟨.op j 1, (S.th t).rd, S.cell (2 * T.path t j), false⟩ := by rw [← hS']; exact upd_same _ _ _
  have hgate : gateOf S' v = gateOf S v := by rw [← hS']; exact upd_ne _ _ (by omega)
  have h2 := two_mono (T := T) (S := S) (S' := S') (t := t) (v := v) (fun u hu j => by rw [hth u hu]) (fun j' _ _ e => by rw [hx, op_up hj] at e; cases e)
  have h3 := pend_mono (T := T) (S := S) (S' := S') (t := t) (v := v) (fun u hu j => by rw [hth u hu]) (fun j' _ _ e => by rw [htt, op_up hj] at e; cases e)
  have f1 := h.fet
  have f2 := h.zer
  have f3 := h.loa
  have n7 : opN (l ++ [(w, (t : Int), ((8 : Nat) : Int), ((2 * T.path t j : Nat) : Int), a, b)]) 7 (2 * v) = opN l 7 (2 * v) := by rw [opN_append, opN_one, if_neg (by omega)]; rfl
  have n6 : opN (l ++ [(w, (t : Int), ((8 : Nat) : Int), ((2 * T.path t j : Nat) : Int), a, b)]) 6 (2 * v + 1) = opN l 6 (2 * v + 1) := by rw [opN_append, opN_one, if_neg (by omega)]; rfl
  by_cases hv : T.path t j = v
  · have n8 : opN (l ++ [(w, (t : Int), ((8 : Nat) : Int), ((2 * T.path t j : Nat) : Int), a, b)]) 8 (2 * v) = opN l 8 (2 * v) + 1 := by rw [opN_append, opN_one, if_pos ⟨rfl, by rw [hv]⟩]
    have hc : S'.cell (2 * v) = S.cell (2 * v) + 1 := by rw [← hS', ← hv]; exact upd_same _ _ _
    have hs2 := cred_sum (T := T) (S := S) (S' := S') (v := v) ht (Int.le_of_eq hgate.symm) hth (d := 2) (by
      unfold MT.cred Go.Proofs.YtaagdmompaphiaaGreatDoor.cred
      rw [htt]
      dsimp only
      split
      · simp only [show ¬ (1 = 0) by omega, if_false, if_true]
        split <;> omega
      · omega)
    exact ⟨by rw [n7, n8, hc]; omega, by rw [n7, hgate]; omega, by rw [n6, n8, hgate]; omega⟩
  · have n8 : opN (l ++ [(w, (t : Int), ((8 : Nat) : Int), ((2 * T.path t j : Nat) : Int), a, b)]) 8 (2 * v) = opN l 8 (2 * v) := by rw [opN_append, opN_one, if_neg (by omega)]; rfl
    have hc : S'.cell (2 * v) = S.cell (2 * v) := by rw [← hS']; exact upd_ne _ _ (by omega)
    have hs2 := cred_sum (T := T) (S := S) (S' := S') (v := v) ht (Int.le_of_eq hgate.symm) hth (d := 0) (by
      unfold MT.cred Go.Proofs.YtaagdmompaphiaaGreatDoor.cred
      rw [htt]
      dsimp only
      rw [if_neg (fun e => hv e.2)]
      omega)
    exact ⟨by rw [n7, n8, hc]; omega, by rw [n7, hgate]; omega, by rw [n6, n8, hgate]; omega⟩

theorem ThinM.load (h : ThinM T S l v) (ht : t < n) (hs : (S.th t).slp = false) {j : Nat} (hph : (S.th t).ph = .op j 2) (hj : j < T.h) {a b w : Int} :
    ThinM T ⟨upd S.th t ⟨.op j 3, (S.th t).rd, gateOf S (T.path t j), false⟩, S.cell⟩ (l ++ [(w, (t : Int), ((6 : Nat) : Int), ((2 * T.path t j + 1 : Nat) : Int), a, b)]) v := by
  have hx : S.th t = ⟨.op j 2, (S.th t).rd, (S.th t).r1, false⟩ := by rw [← hph, ← hs]
  obtain ⟨S', hS'⟩ : ∃ S' : BS, (⟨upd S.th t ⟨.op j 3, (S.th t).rd, gateOf S (T.path t j), false⟩, S.cell⟩ : BS) = S' := ⟨_, rfl⟩
  rw [hS']
  have hth : ∀ u, u ≠ t → S'.th u = S.th u := fun u hu => by rw [← hS']; exact upd_ne _ _ hu
  have htt : S'.th t = ⟨.op j 3, (S.th t).rd, gateOf S (T.path t j), false⟩ := by rw [← hS']; exact upd_same _ _ _
  have hgate : gateOf S' v = gateOf S v := by rw [← hS']; rfl
  have hc : S'.cell (2 * v) = S.cell (2 * v) := by rw [← hS']
  have h2 := two_mono (T := T) (S := S) (S' := S') (t := t) (v := v) (fun u hu j => by rw [hth u hu]) (fun j' _ _ e => by rw [hx, op_up hj] at e; cases e)
  have h3 := pend_mono (T := T) (S := S) (S' := S') (t := t) (v := v) (fun u hu j => by rw [hth u hu]) (fun j' _ _ e => by rw [htt, op_up hj] at e; cases e)
  have f1 := h.fet
  have f2 := h.zer
  have f3 := h.loa
  have n7 : opN (l ++ [(w, (t : Int), ((6 : Nat) : Int), ((2 * T.path t j + 1 : Nat) : Int), a, b)]) 7 (2 * v) = opN l 7 (2 * v) := by rw [opN_append, opN_one, if_neg (by omega)]; rfl
  have n8 : opN (l ++ [(w, (t : Int), ((6 : Nat) : Int), ((2 * T.path t j + 1 : Nat) : Int), a, b)]) 8 (2 * v) = opN l 8 (2 * v) := by rw [opN_append, opN_one, if_neg (by omega)]; rfl
  by_cases hv : T.path t j = v
  · have n6 : opN (l ++ [(w, (t : Int), ((6 : Nat) : Int), ((2 * T.path t j + 1 : Nat) : Int), a, b)]) 6 (2 * v + 1) = opN l 6 (2 * v + 1) + 1 := by rw [opN_append, opN_one, if_pos ⟨rfl, by rw [hv]⟩]
    have hs2 := cred_less (T := T) (S := S) (S' := S') (v := v) ht (Int.le_of_eq hgate.symm) hth (d := 1) (by
      unfold MT.cred Go.Proofs.YtaagdmompaphiaaGreatDoor.cred
      rw [htt, hgate, hph, hv]
      dsimp only
      have hjv : j < T.h ∧ T.path t j = v := ⟨hj, hv⟩
      rw [if_pos hjv, if_pos hjv]
      simp only [show ¬ (3 = 0) by omega, show ¬ (3 = 1) by omega, show ¬ (3 = 2) by omega, show ¬ (2 = 0) by omega, show ¬ (2 = 1) by omega, if_false, if_true]
      split <;> split <;> omega)
    exact ⟨by rw [n7, n8, hc]; omega, by rw [n7, hgate]; omega, by rw [n6, n8, hgate]; omega⟩
  · have n6 : opN (l ++ [(w, (t : Int), ((6 : Nat) : Int), ((2 * T.path t j + 1 : Nat) : Int), a, b)]) 6 (2 * v + 1) = opN l 6 (2 * v + 1) := by rw [opN_append, opN_one, if_neg (by omega)]; rfl
    have hs2 := cred_sum (T := T) (S := S) (S' := S') (v := v) ht (Int.le_of_eq hgate.symm) hth (d := 0) (by
      unfold MT.cred Go.Proofs.YtaagdmompaphiaaGreatDoor.cred
      rw [htt]
      dsimp only
      rw [if_neg (fun e => hv e.2)]
      omega)
    exact ⟨by rw [n7, n8, hc]; omega, by rw [n7, hgate]; omega, by rw [n6, n8, hgate]; omega⟩

theorem ThinM.zero (h : ThinM T S l v) (hI : MInv T rounds S) (h2s : ∀ v, T.size v ≤ 2) (ht : t < n) (hs : (S.th t).slp = false) {i : Nat} (hph : (S.th t).ph = .op i 1) (hi : T.h ≤ i) (hi2 : i < 2 * T.h) {a b w : Int} :
    ThinM T ⟨upd S.th t ⟨.op i 2, (S.th t).rd, (S.th t).r1, false⟩, upd S.cell (2 * T.path t (2 * T.h - 1 - i)) 0⟩ (l ++ [(w, (t : Int), ((7 : Nat) : Int), ((2 * T.path t (2 * T.h - 1 - i) : Nat) : Int), a, b)]) v := by
  have hni : ¬ i < T.h := by omega
  obtain ⟨q, hq⟩ : ∃ q, 2 * T.h - 1 - i = q := ⟨_, rfl⟩
  rw [hq]
  have hqh : q < T.h := by omega
  have hx : S.th t = ⟨.op i 1, (S.th t).rd, (S.th t).r1, false⟩ := by rw [← hph, ← hs]
  obtain ⟨S', hS'⟩ : ∃ S' : BS, (⟨upd S.th t ⟨.op i 2, (S.th t).rd, (S.th t).r1, false⟩, upd S.cell (2 * T.path t q) 0⟩ : BS) = S' := ⟨_, rfl⟩
  rw [hS']
  have hth : ∀ u, u ≠ t → S'.th u = S.th u := fun u hu => by rw [← hS']; exact upd_ne _ _ hu
  have htt : S'.th t = ⟨.op i 2, (S.th t).rd, (S.th t).r1, false⟩ := by rw [← hS']; exact upd_same _ _ _
  have hgate : gateOf S' v = gateOf S v := by rw [← hS']; exact upd_ne _ _ (by omega)
  have h2 := two_mono (T := T) (S := S) (S' := S') (t := t) (v := v) (fun u hu j => by rw [hth u hu]) (fun j' _ _ e => by rw [hx, op_dn hni] at e; simp at e)
  have h3 := pend_mono (T := T) (S := S) (S' := S') (t := t) (v := v) (fun u hu j => by rw [hth u hu]) (fun j' _ _ e => by rw [htt, op_dn hni] at e; simp at e)
  have f1 := h.fet
  have f2 := h.zer
  have f3 := h.loa
  have n8 : opN (l ++ [(w, (t : Int), ((7 : Nat) : Int), ((2 * T.path t q : Nat) : Int), a, b)]) 8 (2 * v) = opN l 8 (2 * v) := by rw [opN_append, opN_one, if_neg (by omega)]; rfl
  have n6 : opN (l ++ [(w, (t : Int), ((7 : Nat) : Int), ((2 * T.path t q : Nat) : Int), a, b)]) 6 (2 * v + 1) = opN l 6 (2 * v + 1) := by rw [opN_append, opN_one, if_neg (by omega)]; rfl
  have hs2 := cred_sum (T := T) (S := S) (S' := S') (v := v) ht (Int.le_of_eq hgate.symm) hth (d := 0) (by
    unfold MT.cred Go.Proofs.YtaagdmompaphiaaGreatDoor.cred
    rw [htt]
    dsimp only
    rw [if_neg (fun e => hni e.1)]
    omega)
  by_cases hv : T.path t q = v
  · have n7 : opN (l ++ [(w, (t : Int), ((7 : Nat) : Int), ((2 * T.path t q : Nat) : Int), a, b)]) 7 (2 * v) = opN l 7 (2 * v) + 1 := by rw [opN_append, opN_one, if_pos ⟨rfl, by rw [hv]⟩]
    have hc : S'.cell (2 * v) = 0 := by rw [← hS', ← hv]; exact upd_same _ _ _
    have hlast : T.last S t q = true := by
      unfold MT.last
      rw [hx, last_dn hni, hq]
      simp
    have hno : T.two S v = false := by
      cases e : T.two S v with
      | false => rfl
      | true =>
        obtain ⟨u, j, hu, hj, e1, e2⟩ := two_iff.1 e
        have hjq := T.level u t j q hu ht hj hqh (by rw [e1, hv])
        subst hjq
        have := last_one hI ht hu hqh hlast (op_last e2 (by omega)) (by rw [e1, hv])
        subst this
        rw [hx, op_dn hni] at e2
        simp at e2
    have hyes : T.two S' v = true := two_iff.2 ⟨t, q, ht, hqh, hv, by rw [htt, op_dn hni, hq]; simp⟩
    have hcell : S.cell (2 * v) ≤ 2 := by
      rcases hI.count t q ht hqh with ⟨⟨u, hu, e1, e2⟩, _⟩ | ⟨_, e⟩
      · have := two_iff.2 ⟨u, q, hu, hqh, e1.trans hv, e2⟩
        rw [hno] at this
        cases this
      · have h5 := cnt_le hI ht hqh
        have h6 := h2s (T.path t q)
        unfold MT.sz at h5
        rw [hv] at e h5 h6
        omega
    rw [hno] at f2
    exact ⟨by rw [n7, n8, hc]; omega, by rw [n7, hgate, hyes]; simp at f2 ⊢; omega, by rw [n6, n8, hgate]; omega⟩
  · have n7 : opN (l ++ [(w, (t : Int), ((7 : Nat) : Int), ((2 * T.path t q : Nat) : Int), a, b)]) 7 (2 * v) = opN l 7 (2 * v) := by rw [opN_append, opN_one, if_neg (by omega)]; rfl
    have hc : S'.cell (2 * v) = S.cell (2 * v) := by rw [← hS']; exact upd_ne _ _ (by omega)
    exact ⟨by rw [n7, n8, hc]; omega, by rw [n7, hgate]; omega, by rw [n6, n8, hgate]; omega⟩
end
end Go.Proofs.YtaagdmompaphiaaGreatDoor

namespace Go.Proofs.YtaagdmompaphiaaGreatDoor
set_option maxRecDepth 100000
set_option linter.unusedVariables false
set_option linter.unusedSimpArgs false

section
variable {ops : Nat → List BOp} {n nc rounds : Nat} {T : MT ops n nc} {S S' : BS} {t : Nat} {l : List Act6} {v : Nat}

theorem ThinM.gate (h : ThinM T S l v) (hI : MInv T rounds S) (ht : t < n) (hs : (S.th t).slp = false) {i : Nat} (hph : (S.th t).ph = .op i 2) (hi : T.h ≤ i) (hi2 : i < 2 * T.h) {a b w : Int} :
    ThinM T ⟨upd S.th t ⟨.op i 3, (S.th t).rd, (S.th t).r1, false⟩, upd S.cell (2 * T.path t (2 * T.h - 1 - i) + 1) (S.th t).rd⟩ (l ++ [(w, (t : Int), ((7 : Nat) : Int), ((2 * T.path t (2 * T.h - 1 - i) + 1 : Nat) : Int), a, b)]) v := by
  have hni : ¬ i < T.h := by omega
  obtain ⟨q, hq⟩ : ∃ q, 2 * T.h - 1 - i = q := ⟨_, rfl⟩
  rw [hq]
  have hqh : q < T.h := by omega
  have hx : S.th t = ⟨.op i 2, (S.th t).rd, (S.th t).r1, false⟩ := by rw [← hph, ← hs]
  obtain ⟨S', hS'⟩ : ∃ S' : BS, (⟨upd S.th t ⟨.op i 3, (S.th t).rd, (S.th t).r1, false⟩, upd S.cell (2 * T.path t q + 1) (S.th t).rd⟩ : BS) = S' := ⟨_, rfl⟩
  rw [hS']
  have hth : ∀ u, u ≠ t → S'.th u = S.th u := fun u hu => by rw [← hS']; exact upd_ne _ _ hu
  have htt : S'.th t = ⟨.op i 3, (S.th t).rd, (S.th t).r1, false⟩ := by rw [← hS']; exact upd_same _ _ _
  have hc : S'.cell (2 * v) = S.cell (2 * v) := by rw [← hS']; exact upd_ne _ _ (by omega)
  have f1 := h.fet
  have f2 := h.zer
  have f3 := h.loa
  have n7 : opN (l ++ [(w, (t : Int), ((7 : Nat) : Int), ((2 * T.path t q + 1 : Nat) : Int), a, b)]) 7 (2 * v) = opN l 7 (2 * v) := by rw [opN_append, opN_one, if_neg (by omega)]; rfl
  have n8 : opN (l ++ [(w, (t : Int), ((7 : Nat) : Int), ((2 * T.path t q + 1 : Nat) : Int), a, b)]) 8 (2 * v) = opN l 8 (2 * v) := by rw [opN_append, opN_one, if_neg (by omega)]; rfl
  have n6 : opN (l ++ [(w, (t : Int), ((7 : Nat) : Int), ((2 * T.path t q + 1 : Nat) : Int), a, b)]) 6 (2 * v + 1) = opN l 6 (2 * v + 1) := by rw [opN_append, opN_one, if_neg (by omega)]; rfl
  have hcr : T.cred S' v t ≤ T.cred S v t + 0 := by
    unfold MT.cred Go.Proofs.YtaagdmompaphiaaGreatDoor.cred
    rw [htt]
    dsimp only
    rw [if_neg (fun e => hni e.1)]
    omega
  by_cases hv : T.path t q = v
  · have hlast : lastAt T.h (T.sz t) (S.th t) q = true := by
      rw [hx, last_dn hni, hq]
      simp
    have g1 := (hI.own t ht).unop q hqh hlast
    have g2 := (hI.own t ht).floor q hqh
    rw [hv] at g1 g2
    have hgate : gateOf S' v = gateOf S v + 1 := by
      have : gateOf S' v = (S.th t).rd := by rw [← hS', ← hv]; exact upd_same _ _ _
      rw [this]
      omega
    have hs2 := cred_sum (T := T) (S := S) (S' := S') (v := v) ht (by omega) hth hcr
    have b1 : (if T.two S v then 1 else 0 : Nat) ≤ 1 := by split <;> omega
    have b2 : (if T.pend S' v then 1 else 0 : Nat) ≤ 1 := by split <;> omega
    exact ⟨by rw [n7, n8, hc]; omega, by rw [n7, hgate]; omega, by rw [n6, n8, hgate]; omega⟩
  · have hgate : gateOf S' v = gateOf S v := by rw [← hS']; exact upd_ne _ _ (by omega)
    have hs2 := cred_sum (T := T) (S := S) (S' := S') (v := v) ht (by omega) hth hcr
    have hjq : ∀ j, opAt T.h 2 (S.th t) j = true → j = q := fun j e => by rw [hx, op_dn hni, hq] at e; simpa using e
    have hjq3 : ∀ j, opAt T.h 3 (S'.th t) j = true → j = q := fun j e => by rw [htt, op_dn hni, hq] at e; simpa using e
    have h2 := two_mono (T := T) (S := S) (S' := S') (t := t) (v := v) (fun u hu j => by rw [hth u hu]) (fun j _ e1 e => by have := hjq j e; subst this; exact absurd e1 hv)
    have h3 := pend_mono (T := T) (S := S) (S' := S') (t := t) (v := v) (fun u hu j => by rw [hth u hu]) (fun j _ e1 e => by have := hjq3 j e; subst this; exact absurd e1 hv)
    exact ⟨by rw [n7, n8, hc]; omega, by rw [n7, hgate]; omega, by rw [n6, n8, hgate]; omega⟩

theorem ThinM.wake (h : ThinM T S l v) (hI : MInv T rounds S) (ha : T.alone S) (h2s : ∀ v, T.size v ≤ 2) (ht : t < n) (hs : (S.th t).slp = false) {i : Nat} (hph : (S.th t).ph = .op i 3) (hi : T.h ≤ i) (hi2 : i < 2 * T.h) :
    ThinM T ⟨upd (wakeAll ops (2 * T.path t (2 * T.h - 1 - i) + 1) S.th) t ⟨nxt (ops t) (i + 1), (S.th t).rd, (S.th t).r1, false⟩, S.cell⟩ l v := by
  have hl := T.len t ht
  have hni : ¬ i < T.h := by omega
  obtain ⟨q, hq⟩ : ∃ q, 2 * T.h - 1 - i = q := ⟨_, rfl⟩
  rw [hq]
  have hqh : q < T.h := by omega
  have hx : S.th t = ⟨.op i 3, (S.th t).rd, (S.th t).r1, false⟩ := by rw [← hph, ← hs]
  obtain ⟨S', hS'⟩ : ∃ S' : BS, (⟨upd (wakeAll ops (2 * T.path t q + 1) S.th) t ⟨nxt (ops t) (i + 1), (S.th t).rd, (S.th t).r1, false⟩, S.cell⟩ : BS) = S' := ⟨_, rfl⟩
  rw [hS']
  have htt : S'.th t = ⟨nxt (ops t) (i + 1), (S.th t).rd, (S.th t).r1, false⟩ := by rw [← hS']; exact upd_same _ _ _
  have hth : ∀ u, u ≠ t → (S'.th u = S.th u ∧ ¬ napCell (ops u) (S.th u).ph = some (2 * T.path t q + 1)) ∨ (napCell (ops u) (S.th u).ph = some (2 * T.path t q + 1) ∧ S'.th u = ⟨(S.th u).ph, (S.th u).rd, (S.th u).r1, false⟩) := fun u hu => by
    rw [← hS']
    dsimp only
    rw [upd_ne _ _ hu]
    unfold wakeAll
    split
    · rename_i e; exact .inr ⟨e, rfl⟩
    · rename_i e; exact .inl ⟨rfl, e⟩
  have hc : S'.cell (2 * v) = S.cell (2 * v) := by rw [← hS']
  have hgate : gateOf S' v = gateOf S v := by rw [← hS']; rfl
  have hnx := fun j => nxt_dn (s := T.sz t) hl (i := i + 1) (rd := (S.th t).rd) (r1 := (S.th t).r1) (by omega) (by omega) j
  have hop : ∀ k u, u ≠ t → ∀ j, opAt T.h k (S'.th u) j = opAt T.h k (S.th u) j := fun k u hu j => by
    rcases hth u hu with ⟨e, _⟩ | ⟨_, e⟩
    · rw [e]
    · rw [e]; rfl
  have h2 := two_mono (T := T) (S := S) (S' := S') (t := t) (v := v) (hop 2) (fun j' _ _ e => by rw [hx, op_dn hni] at e; simp at e)
  have h3 := pend_mono (T := T) (S := S) (S' := S') (t := t) (v := v) (hop 3) (fun j' _ _ e => by rw [htt, (hnx j').2.2.2.1] at e; cases e)
  have f1 := h.fet
  have f2 := h.zer
  have f3 := h.loa
  have hct : T.cred S' v t = 0 := by
    unfold MT.cred Go.Proofs.YtaagdmompaphiaaGreatDoor.cred
    rw [htt]
    unfold nxt
    split
    · rename_i e
      split at e
      · injection e with e _
        rw [if_neg (fun e' => by omega)]
      · cases e
    · rfl
  by_cases hv : T.path t q = v
  · have h3o : opAt T.h 3 (S.th t) q = true := by rw [hx, op_dn hni, hq]; simp
    have hpo : T.pend S v = true := pend_iff.2 ⟨t, q, ht, hqh, hv, h3o⟩
    have hpn : T.pend S' v = false := by
      cases e : T.pend S' v with
      | false => rfl
      | true =>
        obtain ⟨u, j, hu, hj, e1, e2⟩ := pend_iff.1 e
        by_cases hut : u = t
        · subst hut; rw [htt, (hnx j).2.2.2.1] at e2; cases e2
        · rw [hop 3 u hut] at e2
          have hjq := T.level u t j q hu ht hj hqh (by rw [e1, hv])
          subst hjq
          exact absurd (ha u t j hu ht hj (by rw [e1, hv]) e2 h3o) hut
    -- who sleeps there
    obtain ⟨z, hz⟩ : ∃ z : Nat → Bool, z = fun u => (S.th u).slp && decide (u ≠ t) && decide (napCell (ops u) (S.th u).ph = some (2 * v + 1)) := ⟨_, rfl⟩
    have hzi : ∀ u, u < n → z u = true → u ≠ t ∧ T.path u q = v ∧ (S.th u).ph = .op q 6 := fun u hu e => by
      rw [hz] at e
      simp only [Bool.and_eq_true, decide_eq_true_eq] at e
      obtain ⟨⟨e1, e2⟩, e3⟩ := e
      obtain ⟨i', g1, g2, g3⟩ := mt_nap hI hu e1 e3
      have hiq := T.level u t i' q hu ht g1 hqh (by rw [hv]; omega)
      subst hiq
      exact ⟨e2, by omega, g2⟩
    have hfew : ((List.range n).filter z).length ≤ 1 := by
      have hm : ∀ a ∈ t :: (List.range n).filter z, a < n ∧ T.path a q = v ∧ (0 < q → T.last S a (q - 1) = true) := fun a ha => by
        rcases List.mem_cons.1 ha with e | e
        · subst e
          refine ⟨ht, hv, fun h0 => ?_⟩
          unfold MT.last
          rw [hx, last_dn hni, hq]
          simp
          omega
        · obtain ⟨e1, e2⟩ := List.mem_filter.1 e
          have hu := List.mem_range.1 e1
          obtain ⟨g1, g2, g3⟩ := hzi a hu e2
          exact ⟨hu, g2, fun h0 => six_last hI hqh g3 (by omega)⟩
      have := inj_le (f := T.memb q) (t :: (List.range n).filter z) (T.mem v) (by
        rw [List.nodup_cons]
        refine ⟨fun e => ?_, List.nodup_range.filter _⟩
        obtain ⟨e1, e2⟩ := List.mem_filter.1 e
        exact (hzi t ht e2).1 rfl) (fun a ha b hb e => by
        obtain ⟨a1, a2, a3⟩ := hm a ha
        obtain ⟨b1, b2, b3⟩ := hm b hb
        unfold MT.memb at e
        by_cases hl0 : q = 0
        · rw [if_pos hl0, if_pos hl0] at e
          exact e
        · rw [if_neg hl0, if_neg hl0] at e
          exact last_one hI b1 a1 (by omega) (b3 (by omega)) (a3 (by omega)) e) (fun a ha => by
        obtain ⟨a1, a2, _⟩ := hm a ha
        have := T.mem_in a q a1 hqh
        rw [a2] at this
        exact this)
      have hml := T.mem_len t q ht hqh
      rw [hv] at hml
      rw [hml, List.length_cons] at this
      have := h2s v
      omega
    have hsum : sumN n (fun u => T.cred S' v u) ≤ sumN n (fun u => T.cred S v u) + 1 := by
      have a1 : sumN n (fun u => T.cred S' v u) ≤ sumN n (fun u => T.cred S v u + if z u = true then 1 else 0) := sumN_le fun u hu => by
        by_cases hut : u = t
        · subst hut; rw [hct]; exact Nat.zero_le _
        · unfold MT.cred
          rw [hgate]
          rcases hth u hut with ⟨e, _⟩ | ⟨e1, e2⟩
          · rw [e]; exact Nat.le_add_right _ _
          · rw [e2]
            by_cases hsl : (S.th u).slp = true
            · have hzu : z u = true := by rw [hz]; simp only [Bool.and_eq_true, decide_eq_true_eq]; exact ⟨⟨hsl, hut⟩, by rw [e1, hv]⟩
              rw [if_pos hzu]
              exact cred_wake
            · have hsl' : (S.th u).slp = false := by simpa using hsl
              have hsame : (⟨(S.th u).ph, (S.th u).rd, (S.th u).r1, false⟩ : Th) = S.th u := by rw [← hsl']
              rw [hsame]
              exact Nat.le_add_right _ _
      have a2 := sumN_if n (fun u => T.cred S v u) z 1
      omega
    rw [hpo] at f3
    simp only [if_true] at f3
    exact ⟨by rw [hc]; omega, by rw [hgate]; omega, by rw [hgate, hpn]; simp only [Bool.false_eq_true, if_false]; omega⟩
  · have hsum : sumN n (fun u => T.cred S' v u) ≤ sumN n (fun u => T.cred S v u) := sumN_le fun u hu => by
      by_cases hut : u = t
      · subst hut; rw [hct]; exact Nat.zero_le _
      · unfold MT.cred
        rw [hgate]
        rcases hth u hut with ⟨e, _⟩ | ⟨e1, e2⟩
        · rw [e]; exact Nat.le_refl _
        · by_cases hsl : (S.th u).slp = true
          · obtain ⟨i', g1, g2, g3⟩ := mt_nap hI hu hsl e1
            rw [e2]
            unfold Go.Proofs.YtaagdmompaphiaaGreatDoor.cred
            rw [g2]
            dsimp only
            rw [if_neg (fun e => hv (by omega))]
            exact Nat.zero_le _
          · have hsl' : (S.th u).slp = false := by simpa using hsl
            have hsame : (⟨(S.th u).ph, (S.th u).rd, (S.th u).r1, false⟩ : Th) = S.th u := by rw [← hsl']
            rw [e2, hsame]
            exact Nat.le_refl _
    exact ⟨by rw [hc]; omega, by rw [hgate]; omega, by rw [hgate]; omega⟩
end
end Go.Proofs.YtaagdmompaphiaaGreatDoor

namespace Go.Proofs.YtaagdmompaphiaaGreatDoor
set_option maxRecDepth 100000
set_option linter.unusedVariables false
set_option linter.unusedSimpArgs false

section
variable {ops : Nat → List BOp} {n nc rounds : Nat} {T : MT ops n nc} {S S' : BS} {t : Nat} {l : List Act6} {v : Nat}

end
end Go.Proofs.YtaagdmompaphiaaGreatDoor

namespace Go.Proofs.YtaagdmompaphiaaGreatDoor
set_option maxRecDepth 100000
set_option linter.unusedVariables false
set_option linter.unusedSimpArgs false

section
variable {ops : Nat → List BOp} {n nc rounds : Nat} {T : MT ops n nc} {S S' : BS} {t : Nat} {l : List Act6} {v : Nat}

end

end Go.Proofs.YtaagdmompaphiaaGreatDoor
