/-
  What may be said, for seats without a machine.
-/
import Derived.Test.YtlikbmbcjipolaaDoorBase
namespace Go.Proofs.YtlikbmbcjipolaaDoor
set_option maxRecDepth 100000
set_option linter.unusedVariables false
set_option linter.unusedSimpArgs false

abbrev Ev4 := Int × Int × Int × Int
/-- How often a thread said something. -/
def cntEv (l : List Ev4) (t : Nat) : Nat := (l.filter fun e => e.2.2.1 == (t : Int)).length
theorem cntEv_append (l r : List Ev4) (t : Nat) : cntEv (l ++ r) t = cntEv l t + cntEv r t := by unfold cntEv; rw [List.filter_append, List.length_append]
/-- What may be said by n: each comes, and goes, round by round; and goes of a round only when all came to it. -/
inductive OkEv (n : Nat) : List Ev4 → Prop where
  | nil : OkEv n []
  | snoc {l : List Ev4} {t k : Nat} {w : Int} (h : OkEv n l) (ht : t < n) (hk : cntEv l t = k) (hall : k % 2 = 1 → ∀ u, u < n → k ≤ cntEv l u) : OkEv n (l ++ [(w, ((1 + k % 2 : Nat) : Int), (t : Int), ((1 + k / 2 : Nat) : Int))])

theorem cntEv_one (w a b : Int) (t u : Nat) : cntEv [(w, a, (t : Int), b)] u = if u = t then 1 else 0 := by
  unfold cntEv
  by_cases e : u = t
  · subst e; simp
  · rw [if_neg e, List.filter_cons_of_neg (by simp; omega)]
    rfl
def sumN (n : Nat) (f : Nat → Nat) : Nat := ((List.range n).map f).sum
theorem sumN_succ (n : Nat) (f : Nat → Nat) : sumN (n + 1) f = sumN n f + f n := by unfold sumN; rw [List.range_succ]; simp
theorem sumN_le {n : Nat} {f g : Nat → Nat} (h : ∀ u, u < n → f u ≤ g u) : sumN n f ≤ sumN n g := by
  induction n with
  | zero => exact Nat.le_refl _
  | succ n ih =>
    rw [sumN_succ, sumN_succ]
    have := ih (fun u hu => h u (by omega))
    have := h n (by omega)
    omega
theorem sumN_const (n k : Nat) : sumN n (fun _ => k) = n * k := by
  induction n with
  | zero => simp [sumN]
  | succ n ih => rw [sumN_succ, ih, Nat.succ_mul]
section
variable {n : Nat} {l : List Ev4}

/-- The event that a thread that said k already is to say next. -/
def evAt (w : Int) (t k : Nat) : Ev4 := (w, ((1 + k % 2 : Nat) : Int), (t : Int), ((1 + k / 2 : Nat) : Int))
theorem cntEv_snoc (l : List Ev4) (w : Int) (t k u : Nat) : cntEv (l ++ [evAt w t k]) u = cntEv l u + if u = t then 1 else 0 := by rw [cntEv_append]; unfold evAt; rw [cntEv_one]
theorem OkEv.mem (h : OkEv n l) : ∀ e ∈ l, ∃ w t k, t < n ∧ e = evAt w t k := by
  induction h with
  | nil => intro e he; cases he
  | @snoc l t k w _ ht _ _ ih =>
    intro e he
    rcases List.mem_append.1 he with he | he
    · exact ih e he
    · rw [List.mem_singleton] at he
      exact ⟨w, t, k, ht, he⟩
theorem OkEv.zero (h : OkEv n l) {w : Nat} (hw : w < n) (hz : cntEv l w = 0) : ∀ e ∈ l, e.2.1 ≠ 2 ∧ e.2.2.1 ≠ w := by
  induction h with
  | nil => intro e he; cases he
  | @snoc l t k wh h ht hk hall ih =>
    have hs := cntEv_snoc l wh t k w
    unfold evAt at hs
    rw [hs] at hz
    intro e he
    rcases List.mem_append.1 he with he | he
    · exact ih (by omega) e he
    · rw [List.mem_singleton] at he
      subst he
      have hne : w ≠ t := fun e => by rw [if_pos e] at hz; omega
      refine ⟨fun e2 => ?_, fun e2 => hne ?_⟩
      · have e2' : ((1 + k % 2 : Nat) : Int) = 2 := e2
        have := hall (by omega) w hw
        omega
      · have e2' : ((t : Nat) : Int) = w := e2
        omega
theorem sumN_one (n t : Nat) (f : Nat → Nat) (ht : t < n) : sumN n (fun u => f u + if u = t then 1 else 0) = sumN n f + 1 := by
  have h : ∀ m, sumN m (fun u => f u + if u = t then 1 else 0) = sumN m f + if t < m then 1 else 0 := by
    intro m
    induction m with
    | zero => rfl
    | succ m ih =>
      rw [sumN_succ, sumN_succ, ih]
      by_cases h1 : t < m
      · rw [if_pos h1, if_neg (by omega : ¬ m = t), if_pos (by omega : t < m + 1)]; omega
      · by_cases h2 : m = t
        · rw [if_neg h1, if_pos h2, if_pos (by omega : t < m + 1)]; omega
        · rw [if_neg h1, if_neg h2, if_neg (by omega : ¬ t < m + 1)]; omega
  rw [h n, if_pos ht]
theorem OkEv.len (h : OkEv n l) : l.length = sumN n (cntEv l) := by
  induction h with
  | nil => show 0 = sumN n (fun _ => 0); rw [sumN_const]; omega
  | @snoc l t k w h ht hk hall ih =>
    have hs : (fun u => cntEv (l ++ [evAt w t k]) u) = fun u => cntEv l u + if u = t then 1 else 0 := by funext u; exact cntEv_snoc l w t k u
    show (l ++ [evAt w t k]).length = sumN n (fun u => cntEv (l ++ [evAt w t k]) u)
    rw [hs, sumN_one n t _ ht, List.length_append, ih]
    rfl
/-- What a thread said: What and Value. -/
def saidBy (l : List Ev4) (t : Nat) : List (Int × Int) := (l.filter fun e => e.2.2.1 == (t : Int)).map fun e => (e.2.1, e.2.2.2)
theorem OkEv.said (h : OkEv n l) (u : Nat) : saidBy l u = (List.range (cntEv l u)).map fun k => (((1 + k % 2 : Nat) : Int), ((1 + k / 2 : Nat) : Int)) := by
  induction h with
  | nil => rfl
  | @snoc l t k w h ht hk hall ih =>
    have hs := cntEv_snoc l w t k u
    unfold evAt at hs
    rw [hs]
    unfold saidBy at ih ⊢
    rw [List.filter_append, List.map_append, ih]
    by_cases e : u = t
    · subst e
      rw [if_pos rfl, List.range_succ, List.map_append, hk]
      simp
    · rw [if_neg e, List.filter_cons_of_neg (by simp; omega)]
      simp
/-- Who is gone of a round: all came to it. -/
theorem OkEv.all (h : OkEv n l) {t u : Nat} (ht : t < n) (hu : u < n) : 2 * (cntEv l t / 2) ≤ cntEv l u + 1 := by
  induction h with
  | nil => show 2 * (0 / 2) ≤ 0 + 1; omega
  | @snoc l t' k w h ht' hk hall ih =>
    have h1 := cntEv_snoc l w t' k t
    have h2 := cntEv_snoc l w t' k u
    unfold evAt at h1 h2
    rw [h1, h2]
    by_cases e : t = t'
    · subst e
      rw [if_pos rfl]
      by_cases hk2 : k % 2 = 1
      · have := hall hk2 u hu
        omega
      · omega
    · rw [if_neg e]
      omega
theorem OkEv.init {l r : List Ev4} (h : OkEv n (l ++ r)) : OkEv n l := by
  generalize e : l ++ r = q at h
  induction h generalizing r with
  | nil =>
    rw [(List.append_eq_nil_iff.1 e).1]
    exact .nil
  | @snoc q t k w h ht hk hall ih =>
    rcases List.eq_nil_or_concat r with e2 | ⟨r', x, e2⟩
    · subst e2
      rw [List.append_nil] at e
      subst e
      exact .snoc h ht hk hall
    · subst e2
      rw [List.concat_eq_append, ← List.append_assoc] at e
      have := List.append_inj' e rfl
      exact ih this.1
/-- Event by event. -/
theorem OkEv.at (h : OkEv n l) {a b : List Ev4} {e : Ev4} (hl : l = a ++ e :: b) : ∃ w t, t < n ∧ e = evAt w t (cntEv a t) ∧ (cntEv a t % 2 = 1 → ∀ u, u < n → cntEv a t ≤ cntEv a u) := by
  subst hl
  have h2 : OkEv n (a ++ [e]) := by
    have : a ++ e :: b = (a ++ [e]) ++ b := by simp
    rw [this] at h
    exact h.init
  generalize hq : a ++ [e] = q at h2
  cases h2 with
  | nil => simp at hq
  | @snoc l t k w h ht hk hall =>
    have := List.append_inj' hq rfl
    obtain ⟨h1, h2⟩ := this
    subst h1
    injection h2 with h2 _
    exact ⟨w, t, ht, by rw [hk]; exact h2, by rw [hk]; exact hall⟩
/-- NOBODY IS LEFT BEHIND. -/
theorem OkEv.lag (h : OkEv n l) {a b : List Ev4} {e : Ev4} (hl : l = a ++ e :: b) (h2 : e.2.1 = 2) {u : Nat} (hu : u < n) : 2 * e.2.2.2 - 1 ≤ cntEv a u := by
  obtain ⟨w, t, ht, he, hall⟩ := h.at hl
  subst he
  have h2' : ((1 + cntEv a t % 2 : Nat) : Int) = 2 := h2
  have := hall (by omega) u hu
  show 2 * ((1 + cntEv a t / 2 : Nat) : Int) - 1 ≤ _
  omega
end
end Go.Proofs.YtlikbmbcjipolaaDoor
