/-
  One at a time: who has it
-/
import Derived.Test.YtdfljhechmanlaaDoorQK
namespace Go.Proofs.YtdfljhechmanlaaDoor
set_option maxRecDepth 100000
set_option linter.unusedVariables false
set_option linter.unusedSimpArgs false

/-! More that is kept; one at a time. -/
def KindF.more {κ : Type} {F : Fam κ} {n : Nat} {calls : Nat → List κ} {c0 : Nat → Int} (K : KindF F n calls c0) (X : CS → List Act6 → List Ev4 → Prop) (h0 : X (newK c0) [] [])
    (hs : ∀ S a e s t, WfK F n calls S → K.I S a e → X S a e → t < n → (S.th t).en = false → slK S t = false → X (stepK F calls t S) (a ++ actsK F calls t S s) (e ++ evsK F calls t S s))
    (hp : ∀ S a e t, X S a e → X (pokeK t S) a e) : KindF F n calls c0 where
  I S a e := K.I S a e ∧ X S a e
  pot := K.pot
  pk := K.pk
  init := ⟨K.init, h0⟩
  step S a e s t hw hw' h ht he hl := ⟨⟨(K.step S a e s t hw hw' h.1 ht he hl).1, hs S a e s t hw h.1 h.2 ht he hl⟩, (K.step S a e s t hw hw' h.1 ht he hl).2⟩
  poke S a e t hw h ht hl := ⟨⟨(K.poke S a e t hw h.1 ht hl).1, hp S a e t h.2⟩, (K.poke S a e t hw h.1 ht hl).2⟩

/-- Who has it behind an act; none: two have it, or who has it not gives it back. -/
def holdA (h : Int) (x : Act6) : Option Int :=
  if x.2.2.1 = 9 ∧ x.2.2.2.2.1 ≠ x.2.2.2.2.2 then (if 0 ≤ h then none else some x.2.1) else if x.2.2.1 = 8 then (if h ≠ x.2.1 then none else some (-1)) else some h
def holdL (a : List Act6) : Option Int := a.foldl (fun o x => o.bind fun h => holdA h x) (some (-1))
theorem holdL_snoc (a : List Act6) (x : Act6) : holdL (a ++ [x]) = (holdL a).bind fun h => holdA h x := by unfold holdL; rw [List.foldl_append]; rfl
theorem hold_none : ∀ a : List Act6, a.foldl (fun (o : Option Int) x => o.bind fun h => holdA h x) none = none
  | [] => rfl
  | x :: a => hold_none a
theorem holdL_take {a : List Act6} {h : Int} (ha : holdL a = some h) (i : Nat) : ∃ h', holdL (a.take i) = some h' := by
  cases hi : holdL (a.take i) with
  | some h' => exact ⟨h', rfl⟩
  | none =>
    have e : holdL a = (a.drop i).foldl (fun o x => o.bind fun h => holdA h x) (holdL (a.take i)) := by
      unfold holdL
      rw [← List.foldl_append, List.take_append_drop]
    rw [hi, hold_none, ha] at e
    cases e

/-- Who has it. -/
def hasS (o : Option Bool) (x : TK) : Nat :=
  match o with
  | none => 0
  | some false => tkS (some false) x
  | some true => 1 - gvS (some true) x
def OneX (n : Nat) (calls : Nat → List Bool) (S : CS) (a : List Act6) : Prop :=
  (holdL a = some (-1) ∧ S.cell 0 = 1 ∧ ∀ u, u < n → hasS (calls u)[(S.th u).k]? (S.th u) = 0) ∨
  ∃ v, v < n ∧ holdL a = some (v : Int) ∧ S.cell 0 = 0 ∧ hasS (calls v)[(S.th v).k]? (S.th v) = 1 ∧ ∀ u, u < n → u ≠ v → hasS (calls u)[(S.th u).k]? (S.th u) = 0

section
variable {n : Nat} {calls : Nat → List Bool} {S S' : CS} {a a' : List Act6} {t : Nat} {x' : TK}
/-- One moved, but has what it had. -/
theorem onx_same (h : OneX n calls S a) (hth : S'.th = upd S.th t x') (hc : S'.cell 0 = S.cell 0) (hl : holdL a' = holdL a) (hx : hasS (calls t)[x'.k]? x' = hasS (calls t)[(S.th t).k]? (S.th t)) : OneX n calls S' a' := by
  have hu : ∀ u, hasS (calls u)[(S'.th u).k]? (S'.th u) = hasS (calls u)[(S.th u).k]? (S.th u) := fun u => by
    by_cases e : u = t
    · subst e; rw [hth, upd_same]; exact hx
    · rw [hth, upd_ne _ _ e]
  rcases h with ⟨h1, h2, h3⟩ | ⟨v, hv, h1, h2, h3, h4⟩
  · exact .inl ⟨by rw [hl]; exact h1, by rw [hc]; exact h2, fun u q => by rw [hu]; exact h3 u q⟩
  · exact .inr ⟨v, hv, by rw [hl]; exact h1, by rw [hc]; exact h2, by rw [hu]; exact h3, fun u q q2 => by rw [hu]; exact h4 u q q2⟩
theorem onx_took (h : OneX n calls S a) (ht : t < n) (hth : S'.th = upd S.th t x') (h0 : S.cell 0 ≠ 0) (hc : S'.cell 0 = S.cell 0 - 1) (hx : hasS (calls t)[x'.k]? x' = 1) (s d : Int) {o w : Int} (how : o ≠ w) : OneX n calls S' (a ++ [(s, (t : Int), 9, d, o, w)]) := by
  rcases h with ⟨h1, h2, h3⟩ | ⟨v, hv, h1, h2, h3, h4⟩
  · refine .inr ⟨t, ht, ?_, by rw [hc, h2]; decide, by rw [hth, upd_same]; exact hx, fun u q q2 => by rw [hth, upd_ne _ _ q2]; exact h3 u q⟩
    rw [holdL_snoc, h1]
    show holdA (-1) _ = _
    unfold holdA
    rw [if_pos ⟨rfl, how⟩, if_neg (by decide)]
  · exact absurd h2 h0
theorem onx_gave (h : OneX n calls S a) (ht : t < n) (hth : S'.th = upd S.th t x') (hh : hasS (calls t)[(S.th t).k]? (S.th t) = 1) (hc : S'.cell 0 = (S.cell 0 + 1) % m64) (hx : hasS (calls t)[x'.k]? x' = 0) (s d : Int) {o w : Int} : OneX n calls S' (a ++ [(s, (t : Int), 8, d, o, w)]) := by
  rcases h with ⟨h1, h2, h3⟩ | ⟨v, hv, h1, h2, h3, h4⟩
  · rw [h3 t ht] at hh; cases hh
  · have e : v = t := by
      by_cases e : t = v
      · exact e.symm
      · rw [h4 t ht e] at hh; cases hh
    subst e
    refine .inl ⟨?_, by rw [hc, h2]; rfl, fun u q => ?_⟩
    · rw [holdL_snoc, h1]
      show holdA (v : Int) _ = _
      unfold holdA
      rw [if_neg (fun h => by cases h.1), if_pos rfl, if_neg (fun h => h rfl)]
    · by_cases e : u = v
      · subst e; rw [hth, upd_same]; exact hx
      · rw [hth, upd_ne _ _ e]; exact h4 u q e
theorem hold_skip (a : List Act6) (s t op d o : Int) {w : Int} (h : op ≠ 8) (h2 : op = 9 → o = w) : holdL (a ++ [(s, t, op, d, o, w)]) = holdL a := by
  rw [holdL_snoc]
  cases holdL a with
  | none => rfl
  | some q =>
    show holdA q _ = _
    unfold holdA
    rw [if_neg (fun h3 => h3.2 (h2 h3.1)), if_neg h]

/-- Each who took gives back next, and only they do. -/
structure Alt (l : List Bool) : Prop where
  zero : l[0]? ≠ some true
  take : ∀ k, l[k]? = some false → l[k + 1]? = some true
  give : ∀ k, l[k]? = some true → l[k + 1]? ≠ some true

theorem onx_step {B first : Int} {e : List Ev4} (hI : SemI n calls first B S a e) (hA : ∀ u, u < n → Alt (calls u)) (hwf : WfK semaF n calls S) (h : OneX n calls S a) (ht : t < n) (s : Int) : OneX n calls (stepK semaF calls t S) (a ++ actsK semaF calls t S s) := by
  cases hc : (calls t)[(S.th t).k]? with
  | none =>
    rw [stepK_end hc, actsK_end hc, List.append_nil]
    exact onx_same h rfl rfl rfl rfl
  | some b =>
    have hok := hI.ok t ht
    rw [hc] at hok
    rw [stepK_eq hc, actsK_eq hc]
    have hcc := hI.cell
    have hjl := (hwf.th t ht).j _ hc
    cases b
    · have hnx := (hA t ht).take _ hc
      have hjl : (S.th t).j < 9 := hjl
      have hcs : upd S.cell 0 (S.cell 0) 0 = S.cell 0 := upd_same _ _ _
      show OneX n calls (doneK 9 t S (S.th t) (semaF.dos false (S.th t).j S.cell (S.th t).r)) (a ++ actD t (semaF.op false (S.th t).j) s S.cell (semaF.dos false (S.th t).j S.cell (S.th t).r))
      have hgo : ∀ j, (S.th t).j = j → j < 9 → OneX n calls (doneK 9 t S (S.th t) (semaF.dos false j S.cell (S.th t).r)) (a ++ actD t (semaF.op false j) s S.cell (semaF.dos false j S.cell (S.th t).r)) := fun j hj hjj => by
        match j, hj, hjj with
        | 0, hj, _ =>
          have hg : goK 9 (S.th t) ((S.th t).j + 1) = { S.th t with j := 1 } := by rw [goK_in (by rw [hj]; decide)]; rw [hj]
          refine onx_same (x' := { S.th t with j := 1, r := upd (S.th t).r 1 (S.cell 0) }) h (by show upd S.th t { goK 9 (S.th t) ((S.th t).j + 1) with r := _ } = _; rw [hg]) hcs (hold_skip a s t 6 0 (S.cell 0) (by decide) (fun h => by cases h)) ?_
          show hasS (calls t)[(S.th t).k]? _ = _
          rw [hc]; simp [hasS, tkS, hj]
        | 1, hj, _ =>
          by_cases h0 : (S.th t).r 1 = 0
          · have hd : semaF.dos false 1 S.cell (S.th t).r = .goto 6 := if_pos h0
            rw [hd]
            show OneX n calls _ (a ++ [])
            rw [List.append_nil]
            have hg : goK 9 (S.th t) 6 = { S.th t with j := 6 } := goK_in (by decide)
            refine onx_same (x' := { S.th t with j := 6 }) h (by show upd S.th t (goK 9 (S.th t) 6) = _; rw [hg]) rfl rfl ?_
            show hasS (calls t)[(S.th t).k]? _ = _
            rw [hc]; simp [hasS, tkS, hj]
          · have hd : semaF.dos false 1 S.cell (S.th t).r = .next := if_neg h0
            rw [hd]
            show OneX n calls _ (a ++ [])
            rw [List.append_nil]
            have hg : goK 9 (S.th t) ((S.th t).j + 1) = { S.th t with j := 2 } := by rw [goK_in (by rw [hj]; decide)]; rw [hj]
            refine onx_same (x' := { S.th t with j := 2 }) h (by show upd S.th t (goK 9 (S.th t) ((S.th t).j + 1)) = _; rw [hg]) rfl rfl ?_
            show hasS (calls t)[(S.th t).k]? _ = _
            rw [hc]; simp [hasS, tkS, hj]
        | 2, hj, _ =>
          show OneX n calls _ (a ++ [])
          rw [List.append_nil]
          have hg : goK 9 (S.th t) ((S.th t).j + 1) = { S.th t with j := 3 } := by rw [goK_in (by rw [hj]; decide)]; rw [hj]
          refine onx_same (x' := { S.th t with j := 3, r := upd (S.th t).r 2 (((S.th t).r 1 + -1) % m64) }) h (by show upd S.th t { goK 9 (S.th t) ((S.th t).j + 1) with r := _ } = _; rw [hg]) rfl rfl ?_
          show hasS (calls t)[(S.th t).k]? _ = _
          rw [hc]; simp [hasS, tkS, hj]
        | 3, hj, _ =>
          simp [ltS, hj] at hok
          have hg : goK 9 (S.th t) ((S.th t).j + 1) = { S.th t with j := 4 } := by rw [goK_in (by rw [hj]; decide)]; rw [hj]
          by_cases h0 : S.cell 0 = (S.th t).r 1
          · have hd : semaF.dos false 3 S.cell (S.th t).r = .mem 0 ((S.th t).r 2) (some (3, 1)) := if_pos h0
            rw [hd]
            refine onx_took (x' := { S.th t with j := 4, r := upd (S.th t).r 3 1 }) h ht (by show upd S.th t { goK 9 (S.th t) ((S.th t).j + 1) with r := _ } = _; rw [hg]) (by omega) (by show upd S.cell 0 ((S.th t).r 2) 0 = _; rw [upd_same]; omega) ?_ s 0 (by omega)
            show hasS (calls t)[(S.th t).k]? _ = _
            rw [hc]; simp [hasS, tkS, upd]
          · have hd : semaF.dos false 3 S.cell (S.th t).r = .mem 0 (S.cell 0) (some (3, 0)) := if_neg h0
            rw [hd]
            refine onx_same (x' := { S.th t with j := 4, r := upd (S.th t).r 3 0 }) h (by show upd S.th t { goK 9 (S.th t) ((S.th t).j + 1) with r := _ } = _; rw [hg]) hcs (hold_skip a s t 9 0 (S.cell 0) (by decide) (fun h => rfl)) ?_
            show hasS (calls t)[(S.th t).k]? _ = _
            rw [hc]; simp [hasS, tkS, hj, upd]
        | 4, hj, _ =>
          simp [ltS, hj] at hok
          by_cases h0 : (S.th t).r 3 = 0
          · have hd : semaF.dos false 4 S.cell (S.th t).r = .goto 0 := if_pos h0
            rw [hd]
            show OneX n calls _ (a ++ [])
            rw [List.append_nil]
            have hg : goK 9 (S.th t) 0 = { S.th t with j := 0 } := goK_in (by decide)
            refine onx_same (x' := { S.th t with j := 0 }) h (by show upd S.th t (goK 9 (S.th t) 0) = _; rw [hg]) rfl rfl ?_
            show hasS (calls t)[(S.th t).k]? _ = _
            rw [hc]; simp [hasS, tkS, hj, h0]
          · have hd : semaF.dos false 4 S.cell (S.th t).r = .next := if_neg h0
            rw [hd]
            show OneX n calls _ (a ++ [])
            rw [List.append_nil]
            have hg : goK 9 (S.th t) ((S.th t).j + 1) = { S.th t with j := 5 } := by rw [goK_in (by rw [hj]; decide)]; rw [hj]
            refine onx_same (x' := { S.th t with j := 5 }) h (by show upd S.th t (goK 9 (S.th t) ((S.th t).j + 1)) = _; rw [hg]) rfl rfl ?_
            show hasS (calls t)[(S.th t).k]? _ = _
            have h1 : (S.th t).r 3 = 1 := by omega
            rw [hc]; simp [hasS, tkS, hj, h1]
        | 5, hj, _ =>
          show OneX n calls _ (a ++ [])
          rw [List.append_nil]
          have hg : goK 9 (S.th t) 8 = { S.th t with j := 8 } := goK_in (by decide)
          refine onx_same (x' := { S.th t with j := 8 }) h (by show upd S.th t (goK 9 (S.th t) 8) = _; rw [hg]) rfl rfl ?_
          show hasS (calls t)[(S.th t).k]? _ = _
          rw [hc]; simp [hasS, tkS, hj]
        | 6, hj, _ =>
          have hg : goK 9 (S.th t) ((S.th t).j + 1) = { S.th t with j := 7 } := by rw [goK_in (by rw [hj]; decide)]; rw [hj]
          by_cases h0 : S.cell 0 = (S.th t).r 1
          · have hd : semaF.dos false 6 S.cell (S.th t).r = .sleep 0 := if_pos h0
            rw [hd]
            show OneX n calls _ (a ++ [])
            rw [List.append_nil]
            refine onx_same (x' := { S.th t with j := 7 }) h (by show upd S.th t (goK 9 (S.th t) ((S.th t).j + 1)) = _; rw [hg]) rfl rfl ?_
            show hasS (calls t)[(S.th t).k]? _ = _
            rw [hc]; simp [hasS, tkS, hj]
          · have hd : semaF.dos false 6 S.cell (S.th t).r = .next := if_neg h0
            rw [hd]
            show OneX n calls _ (a ++ [])
            rw [List.append_nil]
            refine onx_same (x' := { S.th t with j := 7 }) h (by show upd S.th t (goK 9 (S.th t) ((S.th t).j + 1)) = _; rw [hg]) rfl rfl ?_
            show hasS (calls t)[(S.th t).k]? _ = _
            rw [hc]; simp [hasS, tkS, hj]
        | 7, hj, _ =>
          show OneX n calls _ (a ++ [])
          rw [List.append_nil]
          have hg : goK 9 (S.th t) 0 = { S.th t with j := 0 } := goK_in (by decide)
          refine onx_same (x' := { S.th t with j := 0 }) h (by show upd S.th t (goK 9 (S.th t) 0) = _; rw [hg]) rfl rfl ?_
          show hasS (calls t)[(S.th t).k]? _ = _
          rw [hc]; simp [hasS, tkS, hj]
        | 8, hj, _ =>
          show OneX n calls _ (a ++ [])
          rw [List.append_nil]
          have hg : goK 9 (S.th t) ((S.th t).j + 1) = { S.th t with k := (S.th t).k + 1, j := 0 } := by rw [goK_out (by rw [hj]; decide)]
          refine onx_same (x' := { S.th t with k := (S.th t).k + 1, j := 0 }) h (by show upd S.th t (goK 9 (S.th t) ((S.th t).j + 1)) = _; rw [hg]) rfl rfl ?_
          show hasS (calls t)[(S.th t).k + 1]? _ = _
          rw [hc, hnx]; simp [hasS, tkS, gvS, hj]
      exact hgo _ rfl hjl
    · have hnx := (hA t ht).give _ hc
      have hjl : (S.th t).j < 4 := hjl
      show OneX n calls (doneK 4 t S (S.th t) (semaF.dos true (S.th t).j S.cell (S.th t).r)) (a ++ actD t (semaF.op true (S.th t).j) s S.cell (semaF.dos true (S.th t).j S.cell (S.th t).r))
      have hgo : ∀ j, (S.th t).j = j → j < 4 → OneX n calls (doneK 4 t S (S.th t) (semaF.dos true j S.cell (S.th t).r)) (a ++ actD t (semaF.op true j) s S.cell (semaF.dos true j S.cell (S.th t).r)) := fun j hj hjj => by
        match j, hj, hjj with
        | 0, hj, _ =>
          have hg : goK 4 (S.th t) ((S.th t).j + 1) = { S.th t with j := 1 } := by rw [goK_in (by rw [hj]; decide)]; rw [hj]
          refine onx_gave (x' := { S.th t with j := 1, r := upd (S.th t).r 1 (S.cell 0) }) h ht (by show upd S.th t { goK 4 (S.th t) ((S.th t).j + 1) with r := _ } = _; rw [hg]) (by rw [hc]; simp [hasS, gvS, hj]) (by show upd S.cell 0 _ 0 = _; exact upd_same _ _ _) ?_ s 0
          show hasS (calls t)[(S.th t).k]? _ = _
          rw [hc]; simp [hasS, gvS]
        | 1, hj, _ =>
          show OneX n calls _ (a ++ [])
          rw [List.append_nil]
          have hg : goK 4 (S.th t) ((S.th t).j + 1) = { S.th t with j := 2 } := by rw [goK_in (by rw [hj]; decide)]; rw [hj]
          refine onx_same (x' := { S.th t with j := 2, r := upd (S.th t).r 2 (((S.th t).r 1 + 1) % m64) }) h (by show upd S.th t { goK 4 (S.th t) ((S.th t).j + 1) with r := _ } = _; rw [hg]) rfl rfl ?_
          show hasS (calls t)[(S.th t).k]? _ = _
          rw [hc]; simp [hasS, gvS, hj]
        | 2, hj, _ =>
          show OneX n calls _ (a ++ [])
          rw [List.append_nil]
          have hg : goK 4 (S.th t) ((S.th t).j + 1) = { S.th t with j := 3 } := by rw [goK_in (by rw [hj]; decide)]; rw [hj]
          refine onx_same (x' := { S.th t with j := 3 }) h (by show upd S.th t (goK 4 (S.th t) ((S.th t).j + 1)) = _; rw [hg]) rfl rfl ?_
          show hasS (calls t)[(S.th t).k]? _ = _
          rw [hc]; simp [hasS, gvS, hj]
        | 3, hj, _ =>
          show OneX n calls _ (a ++ [])
          rw [List.append_nil]
          have hg : goK 4 (S.th t) ((S.th t).j + 1) = { S.th t with k := (S.th t).k + 1, j := 0 } := by rw [goK_out (by rw [hj]; decide)]
          refine onx_same (x' := { S.th t with k := (S.th t).k + 1, j := 0 }) h (by show upd S.th t (goK 4 (S.th t) ((S.th t).j + 1)) = _; rw [hg]) rfl rfl ?_
          show hasS (calls t)[(S.th t).k + 1]? _ = _
          rw [hc]
          cases hn : (calls t)[(S.th t).k + 1]? with
          | none => simp [hasS, gvS, hj]
          | some b =>
            cases b
            · simp [hasS, gvS, tkS, hj]
            · exact absurd hn hnx
      exact hgo _ rfl hjl
theorem onx_new (hA : ∀ u, u < n → Alt (calls u)) : OneX n calls (newK fun c => ([((1 : Nat) : Int)] : List Int).getD c 0) [] := by
  refine .inl ⟨rfl, rfl, fun u hu => ?_⟩
  show hasS (calls u)[0]? ⟨0, 0, false, fun _ => 0⟩ = 0
  cases hc : (calls u)[0]? with
  | none => rfl
  | some b =>
    cases b
    · simp [hasS, tkS]
    · exact absurd hc (hA u hu).zero
/-- Nobody can go on: all are at their ends, and nobody has it. -/
theorem onx_over {B first : Int} {e : List Ev4} (hI : SemI n calls first B S a e) (hwf : WfK semaF n calls S) (hA : ∀ u, u < n → Alt (calls u)) (h : OneX n calls S a) (hq : ∀ t, t < n → stillK S t) :
    (∀ u, u < n → (S.th u).en = true ∧ (S.th u).k = (calls u).length) ∧ holdL a = some (-1) := by
  obtain ⟨h1, h2, h3⟩ := sem_over hI hwf hq
  have hno : ∀ u, u < n → hasS (calls u)[(S.th u).k]? (S.th u) = 0 := fun u hu => by
    rcases h1 u hu with ⟨q1, q2⟩ | ⟨q1, q2⟩
    · rw [q2, List.getElem?_eq_none (Nat.le_refl _)]; rfl
    · obtain ⟨c, hc⟩ := slK_mem q1
      have hj := (hI.lot _ hc).2.2
      rw [q2]
      have hj7 : (S.th u).j = 7 := hj
      simp [hasS, tkS, hj7]
  rcases h with ⟨q1, q2, q3⟩ | ⟨v, hv, q1, q2, q3, q4⟩
  · have hen := h2 (by rw [q2]; decide)
    refine ⟨fun u hu => ?_, q1⟩
    rcases h1 u hu with ⟨r1, r2⟩ | ⟨r1, r2⟩
    · exact ⟨r1, r2⟩
    · have := (hwf.th u hu).fin (hen u hu)
      rw [r2] at this; cases this
  · rw [hno v hv] at q3; cases q3
end
end Go.Proofs.YtdfljhechmanlaaDoor
