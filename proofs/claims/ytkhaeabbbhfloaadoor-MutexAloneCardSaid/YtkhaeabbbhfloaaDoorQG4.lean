/-
  The six kinds, by number: their programs, what each is, what is left in the end, how many steps at most; runs, sweeps, what was said.
-/
import Derived.Test.YtkhaeabbbhfloaaDoorQG2
import Derived.Test.YtkhaeabbbhfloaaDoorQG3
namespace Go.Proofs.YtkhaeabbbhfloaaDoor
set_option maxRecDepth 100000
set_option linter.unusedVariables false

/-- Central (chapter 6). -/
def centralOps (n : Nat) (_ : Nat) : List BOp := [.meet 0 n 2, .opn 0 n]
/-- Combine (chapter 7): how many nodes a level has, which is its first, how many levels; who meets at a node. -/
def cmCnt (n j : Nat) : Nat := (n + 2 ^ (j + 1) - 1) / 2 ^ (j + 1)
def cmFirst (n j : Nat) : Nat := ((List.range j).map (cmCnt n)).sum
def cmPath (n t j : Nat) : Nat := cmFirst n j + t / 2 ^ (j + 1)
def cmH (n : Nat) : Nat := if n ≤ 1 then 1 else lvls n
def cmNodes (n : Nat) : List (List Nat) := (List.range (cmH n)).flatMap fun j => (List.range (cmCnt n j)).map fun q =>
  (if 2 * q < (if j = 0 then n else cmCnt n (j - 1)) then [(if j = 0 then 0 else cmFirst n (j - 1)) + 2 * q] else []) ++ (if 2 * q + 1 < (if j = 0 then n else cmCnt n (j - 1)) then [(if j = 0 then 0 else cmFirst n (j - 1)) + 2 * q + 1] else [])
def cmMem (n v : Nat) : List Nat := (cmNodes n).getD v []
def cmSize (n v : Nat) : Nat := (cmMem n v).length
def cmCells (n : Nat) : Nat := 2 * (cmNodes n).length
def combineOps (n id : Nat) : List BOp :=
  ((List.range (cmH n)).map fun j => .meet (2 * cmPath n id j) (cmSize n (cmPath n id j)) (2 * cmH n - j)) ++
  ((List.range (cmH n)).reverse.map fun j => .opn (2 * cmPath n id j) (cmSize n (cmPath n id j)))

section
variable {ops : Nat → List BOp} {n nc h : Nat} {path mem : List (List Nat)}
end

end Go.Proofs.YtkhaeabbbhfloaaDoor

namespace Go.Proofs.YtkhaeabbbhfloaaDoor
set_option maxRecDepth 100000
set_option linter.unusedVariables false

/-- The kinds, by number: Central, Combine, Static, Spread, Tourney, Mcs. -/
def kOps (k n : Nat) : Nat → List BOp := match k with
  | 1 => centralOps n
  | 2 => combineOps n
  | 3 => staticOps n
  | 4 => spreadOps n
  | 5 => tourneyOps n
  | _ => mcsOps n
def kCells (k n : Nat) : Nat := match k with
  | 1 => 2
  | 2 => cmCells n
  | 3 => n + 1
  | 4 => n * lvls n
  | 5 => n * lvls n + n
  | _ => 2 * n
def kTab (k n : Nat) : TabK := match k with
  | 3 => staticTab n
  | 4 => spreadTab n
  | 5 => tourneyTab n
  | _ => mcsTab n
/-- What a cell is in the end. -/
def kLeaf (k n rounds c : Nat) : Nat :=
  if k ≤ 2 then (if c % 2 = 0 then 0 else rounds) else if ((kTab k n).telOf n c).isSome then rounds else 0
/-- How long all programs are. -/
def kSize (k n : Nat) : Nat := sumN n fun t => 8 + offs (kOps k n t) (kOps k n t).length
/-- How many steps a round takes at most. -/
def kRound (k n : Nat) : Nat := sumN n fun t => if k ≤ 2 then 5 + 18 * ((kOps k n t).length / 2) else 5 + wAll (kOps k n) n (kOps k n t)

structure KOK (k n rounds : Nat) (K : Kind (kOps k n) n (kCells k n) rounds) : Prop where
  pot : K.pot bar0 ≤ rounds * kRound k n + 4 * n
  leaves : ∀ S, K.I S → (∀ t, t < n → (S.th t).ph = .fin) → ∀ c, c < kCells k n → S.cell c = kLeaf k n rounds c

section
variable {ops : Nat → List BOp} {n nc rounds : Nat}

end

section
variable {n rounds : Nat}
end
/-- What a round takes at most, against how long the programs are. -/
def chkLen (k n : Nat) : Bool := decide (kRound k n ≤ 3 * kSize k n) && decide (kRound k n ≤ 2000)
set_option maxRecDepth 100000 in
theorem len_chk : ∀ k n, 1 ≤ k → k ≤ 6 → 1 ≤ n → n ≤ 16 → chkLen k n = true := by
  have h : ((List.range 6).all fun k => (List.range 16).all fun n => chkLen (k + 1) (n + 1)) = true := of_decide_eq_true (by decide +kernel)
  intro k n h1 h2 h3 h4
  rw [List.all_eq_true] at h
  have := h (k - 1) (List.mem_range.2 (by omega))
  rw [List.all_eq_true] at this
  have := this (n - 1) (List.mem_range.2 (by omega))
  rwa [show k - 1 + 1 = k by omega, show n - 1 + 1 = n by omega] at this
theorem size_ge (k n : Nat) : 8 * n ≤ kSize k n := by
  rw [Nat.mul_comm, ← sumN_const]
  exact sumN_le fun u _ => by omega
/-- Steps at most, if nobody is woken for nothing. -/
theorem pot_le {k n rounds : Nat} (k1 : 1 ≤ k) (k6 : k ≤ 6) (n1 : 1 ≤ n) (n16 : n ≤ 16) : rounds * kRound k n + 4 * n ≤ 3 * kSize k n * (rounds + 1) ∧ rounds * kRound k n + 4 * n ≤ rounds * 2000 + 64 := by
  have h := len_chk k n k1 k6 n1 n16
  unfold chkLen at h
  rw [Bool.and_eq_true, decide_eq_true_eq, decide_eq_true_eq] at h
  have h8 := size_ge k n
  have a := Nat.mul_le_mul_left rounds h.1
  have b := Nat.mul_le_mul_left rounds h.2
  rw [Nat.mul_succ, Nat.mul_comm (3 * kSize k n) rounds]
  omega
end Go.Proofs.YtkhaeabbbhfloaaDoor

namespace Go.Proofs.YtkhaeabbbhfloaaDoor
set_option maxRecDepth 100000
set_option linter.unusedVariables false
set_option linter.unusedSimpArgs false

section
variable {ops : Nat → List BOp} {n nc rounds : Nat} {K : Kind ops n nc rounds} {p : Nat} {S : BS} {m : Mach}

/-- How many moves wake somebody for nothing. -/
def pokesM (l : List (Int × Bool)) : Nat := (l.filter (·.2)).length
theorem pokesM_le (l : List (Int × Bool)) : pokesM l ≤ l.length := List.length_filter_le _ _

theorem Ran.steps_lt (h : Ran K p S m) (hp : K.pot bar0 + 4 * p < 20000) : m.steps < 20000 := by have := h.few; omega

/-- Each of these goes on, one behind the other. -/
def sweepM (l : List Nat) (m : Mach) : Mach := l.foldl (fun (m : Mach) (t : Nat) => (stepM 20000 m (t : Int)).2) m
/-- All are at their ends. -/
def Done (n : Nat) (S : BS) : Prop := ∀ t, t < n → (S.th t).ph = .fin
theorem ran_quiet (h : Ran K p S m) (hq : ∀ t, t < n → (S.th t).slp = true ∨ (S.th t).ph = .fin) : Done n S := K.live S h.inv (fun t ht => (hq t ht).symm)
end
end Go.Proofs.YtkhaeabbbhfloaaDoor

namespace Go.Proofs.YtkhaeabbbhfloaaDoor
set_option maxRecDepth 100000
set_option linter.unusedVariables false
set_option linter.unusedSimpArgs false

section
variable {n : Nat} {l : List Ev4}

/-- The event that a thread that said k already is to say next. -/
def evAt (w : Int) (t k : Nat) : Ev4 := (w, ((1 + k % 2 : Nat) : Int), (t : Int), ((1 + k / 2 : Nat) : Int))
theorem cntEv_snoc (l : List Ev4) (w : Int) (t k u : Nat) : cntEv (l ++ [evAt w t k]) u = cntEv l u + if u = t then 1 else 0 := by rw [cntEv_append]; unfold evAt; rw [cntEv_one]
theorem OkEv.mem (h : OkEv n l) : ∀ e ∈ l, ∃ w t k, t < n ∧ e = evAt w t k := by
  induction h with
  | nil => intro e he; cases he
  | @snoc l t k w _ ht _ _ ih =>
    intro e he
    rcases List.mem_append.1 he with he | he
    · exact ih e he
    · rw [List.mem_singleton] at he
      exact ⟨w, t, k, ht, he⟩
theorem OkEv.zero (h : OkEv n l) {w : Nat} (hw : w < n) (hz : cntEv l w = 0) : ∀ e ∈ l, e.2.1 ≠ 2 ∧ e.2.2.1 ≠ w := by
  induction h with
  | nil => intro e he; cases he
  | @snoc l t k wh h ht hk hall ih =>
    have hs := cntEv_snoc l wh t k w
    unfold evAt at hs
    rw [hs] at hz
    intro e he
    rcases List.mem_append.1 he with he | he
    · exact ih (by omega) e he
    · rw [List.mem_singleton] at he
      subst he
      have hne : w ≠ t := fun e => by rw [if_pos e] at hz; omega
      refine ⟨fun e2 => ?_, fun e2 => hne ?_⟩
      · have e2' : ((1 + k % 2 : Nat) : Int) = 2 := e2
        have := hall (by omega) w hw
        omega
      · have e2' : ((t : Nat) : Int) = w := e2
        omega
theorem sumN_one (n t : Nat) (f : Nat → Nat) (ht : t < n) : sumN n (fun u => f u + if u = t then 1 else 0) = sumN n f + 1 := by
  have h : ∀ m, sumN m (fun u => f u + if u = t then 1 else 0) = sumN m f + if t < m then 1 else 0 := by
    intro m
    induction m with
    | zero => rfl
    | succ m ih =>
      rw [sumN_succ, sumN_succ, ih]
      by_cases h1 : t < m
      · rw [if_pos h1, if_neg (by omega : ¬ m = t), if_pos (by omega : t < m + 1)]; omega
      · by_cases h2 : m = t
        · rw [if_neg h1, if_pos h2, if_pos (by omega : t < m + 1)]; omega
        · rw [if_neg h1, if_neg h2, if_neg (by omega : ¬ t < m + 1)]; omega
  rw [h n, if_pos ht]
theorem OkEv.len (h : OkEv n l) : l.length = sumN n (cntEv l) := by
  induction h with
  | nil => show 0 = sumN n (fun _ => 0); rw [sumN_const]; omega
  | @snoc l t k w h ht hk hall ih =>
    have hs : (fun u => cntEv (l ++ [evAt w t k]) u) = fun u => cntEv l u + if u = t then 1 else 0 := by funext u; exact cntEv_snoc l w t k u
    show (l ++ [evAt w t k]).length = sumN n (fun u => cntEv (l ++ [evAt w t k]) u)
    rw [hs, sumN_one n t _ ht, List.length_append, ih]
    rfl
/-- What a thread said: What and Value. -/
def saidBy (l : List Ev4) (t : Nat) : List (Int × Int) := (l.filter fun e => e.2.2.1 == (t : Int)).map fun e => (e.2.1, e.2.2.2)
theorem OkEv.said (h : OkEv n l) (u : Nat) : saidBy l u = (List.range (cntEv l u)).map fun k => (((1 + k % 2 : Nat) : Int), ((1 + k / 2 : Nat) : Int)) := by
  induction h with
  | nil => rfl
  | @snoc l t k w h ht hk hall ih =>
    have hs := cntEv_snoc l w t k u
    unfold evAt at hs
    rw [hs]
    unfold saidBy at ih ⊢
    rw [List.filter_append, List.map_append, ih]
    by_cases e : u = t
    · subst e
      rw [if_pos rfl, List.range_succ, List.map_append, hk]
      simp
    · rw [if_neg e, List.filter_cons_of_neg (by simp; omega)]
      simp
/-- Who is gone of a round: all came to it. -/
theorem OkEv.all (h : OkEv n l) {t u : Nat} (ht : t < n) (hu : u < n) : 2 * (cntEv l t / 2) ≤ cntEv l u + 1 := by
  induction h with
  | nil => show 2 * (0 / 2) ≤ 0 + 1; omega
  | @snoc l t' k w h ht' hk hall ih =>
    have h1 := cntEv_snoc l w t' k t
    have h2 := cntEv_snoc l w t' k u
    unfold evAt at h1 h2
    rw [h1, h2]
    by_cases e : t = t'
    · subst e
      rw [if_pos rfl]
      by_cases hk2 : k % 2 = 1
      · have := hall hk2 u hu
        omega
      · omega
    · rw [if_neg e]
      omega
theorem OkEv.init {l r : List Ev4} (h : OkEv n (l ++ r)) : OkEv n l := by
  generalize e : l ++ r = q at h
  induction h generalizing r with
  | nil =>
    rw [(List.append_eq_nil_iff.1 e).1]
    exact .nil
  | @snoc q t k w h ht hk hall ih =>
    rcases List.eq_nil_or_concat r with e2 | ⟨r', x, e2⟩
    · subst e2
      rw [List.append_nil] at e
      subst e
      exact .snoc h ht hk hall
    · subst e2
      rw [List.concat_eq_append, ← List.append_assoc] at e
      have := List.append_inj' e rfl
      exact ih this.1
/-- Event by event. -/
theorem OkEv.at (h : OkEv n l) {a b : List Ev4} {e : Ev4} (hl : l = a ++ e :: b) : ∃ w t, t < n ∧ e = evAt w t (cntEv a t) ∧ (cntEv a t % 2 = 1 → ∀ u, u < n → cntEv a t ≤ cntEv a u) := by
  subst hl
  have h2 : OkEv n (a ++ [e]) := by
    have : a ++ e :: b = (a ++ [e]) ++ b := by simp
    rw [this] at h
    exact h.init
  generalize hq : a ++ [e] = q at h2
  cases h2 with
  | nil => simp at hq
  | @snoc l t k w h ht hk hall =>
    have := List.append_inj' hq rfl
    obtain ⟨h1, h2⟩ := this
    subst h1
    injection h2 with h2 _
    exact ⟨w, t, ht, by rw [hk]; exact h2, by rw [hk]; exact hall⟩
end

section
variable {ops : Nat → List BOp} {n nc rounds : Nat} {K : Kind ops n nc rounds} {p : Nat} {S : BS} {m : Mach}
theorem ran_cnt (h : Ran K p S m) {t : Nat} (ht : t < n) : cntEv m.events t ≤ 2 * rounds := by
  rw [h.ev.cnt t ht]
  have hr := K.rd S t h.inv ht
  unfold cameN goneN
  have h1 := hr.2.1
  cases hp : (S.th t).ph <;> rw [hp] at h1 <;> dsimp only <;> (first | (have := h1 rfl; omega) | omega)
theorem ran_done_cnt (h : Ran K p S m) (hd : Done n S) {t : Nat} (ht : t < n) : cntEv m.events t = 2 * rounds := by
  rw [h.ev.cnt t ht]
  have hr := (K.rd S t h.inv ht).2.2 (hd t ht)
  unfold cameN goneN
  rw [hd t ht]
  dsimp only
  omega
theorem ran_done_len (h : Ran K p S m) (hd : Done n S) : m.events.length = 2 * n * rounds := by
  rw [h.ev.ok.len]
  have : sumN n (cntEv m.events) = sumN n fun _ => 2 * rounds := Nat.le_antisymm (sumN_le fun u hu => Nat.le_of_eq (ran_done_cnt h hd hu)) (sumN_le fun u hu => Nat.le_of_eq (ran_done_cnt h hd hu).symm)
  rw [this, sumN_const, ← Nat.mul_assoc, Nat.mul_comm n 2]
theorem ran_done_ended (h : Ran K p S m) (hd : Done n S) {t : Nat} (ht : t < n) : m.ended.getD t false = true := by
  rw [(h.sim.th t ht).fin]
  exact decide_eq_true (hd t ht)
theorem ran_done_iff (h : Ran K p S m) : (∀ t, t < n → m.ended.getD t false = true) ↔ Done n S := by
  refine ⟨fun H t ht => ?_, fun hd t ht => ran_done_ended h hd ht⟩
  have := H t ht
  rw [(h.sim.th t ht).fin] at this
  exact of_decide_eq_true this
theorem ran_asleep (h : Ran K p S m) {t : Nat} (ht : t < n) : asleepM m t = (S.th t).slp := by
  unfold asleepM
  cases e : (S.th t).slp with
  | true =>
    obtain ⟨c, hc⟩ := (h.sim.th t ht).nap e
    rw [List.any_eq_true]
    exact ⟨_, h.sim.lot.all t c ht e hc, by simp⟩
  | false =>
    rw [List.any_eq_false]
    intro s hs
    obtain ⟨u, c, e1, hu, h1, _⟩ := h.sim.lot.sound s hs
    subst e1
    simp only [beq_iff_eq]
    intro e2
    have e2' : (u : Int) = t := e2
    have : u = t := by omega
    subst this
    rw [h1] at e
    cases e
/-- SOMEBODY CAN ALWAYS GO ON. -/
theorem ran_goes (h : Ran K p S m) : (∃ t, t < n ∧ m.ended.getD t false = false ∧ asleepM m t = false) ∨ ∀ t, t < n → m.ended.getD t false = true := by
  by_cases hd : ∃ t, t < n ∧ m.ended.getD t false = false ∧ asleepM m t = false
  · exact .inl hd
  · right
    refine (ran_done_iff h).2 (ran_quiet h fun t ht => ?_)
    by_cases h1 : (S.th t).slp = true
    · exact .inl h1
    · right
      cases h2 : m.ended.getD t false with
      | false => exact absurd ⟨t, ht, h2, by rw [ran_asleep h ht]; simpa using h1⟩ hd
      | true =>
        rw [(h.sim.th t ht).fin] at h2
        exact of_decide_eq_true h2
/-- In the end. -/
theorem ran_leaves {k n rounds p : Nat} {K : Kind (kOps k n) n (kCells k n) rounds} (hK : KOK k n rounds K) {S : BS} {m : Mach} (h : Ran K p S m) (hd : Done n S) : m.cells = (List.range (kCells k n)).map fun c => (kLeaf k n rounds c : Int) := by
  refine List.ext_getElem (by rw [h.sim.lc]; simp) fun c h1 h2 => ?_
  have hc : c < kCells k n := by rw [← h.sim.lc]; exact h1
  have e := h.sim.cell c hc
  rw [List.getD_eq_getElem?_getD, List.getElem?_eq_getElem h1] at e
  simp only [Option.getD_some] at e
  rw [e, hK.leaves S h.inv hd c hc]
  simp
end
end Go.Proofs.YtkhaeabbbhfloaaDoor
