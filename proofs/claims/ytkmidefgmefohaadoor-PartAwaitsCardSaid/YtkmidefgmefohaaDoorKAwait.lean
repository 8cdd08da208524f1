/-
  Who awaits, and who tells: whoever goes on when.
-/
import Derived.Test.YtkmidefgmefohaaDoorKPart
namespace Go.Proofs.YtkmidefgmefohaaDoor
set_option maxRecDepth 100000

def awaitA : List Ins5 := [(1, 0, 1, 0, 0), (6, 1, 0, 0, 0), (12, 1, 0, 4, 0), (10, 6, 0, 0, 0), (14, 0, 1, 0, 0), (10, 1, 0, 0, 0), (16, 3, 0, 0, 0), (0, 0, 0, 0, 0)]
def awaitB : List Ins5 := [(1, 0, 1, 0, 0), (7, 0, 0, -1, 0), (15, 0, 1, -1, 0), (16, 3, 0, 0, 0), (0, 0, 0, 0, 0)]

/-- Where the two are: who awaits (its place, what it read, whether it sleeps), who tells; where a thread is behind its end it is at 8, or 5. -/
structure Two2 where
  a : Nat
  r : Nat
  s : Bool
  b : Nat
deriving DecidableEq

/-- Who awaits goes on. -/
def stepA (x : Two2) : Two2 :=
  if x.s then x else match x.a with
  | 0 => { x with a := 1 }
  | 1 => { x with a := 2, r := if 2 ≤ x.b then 1 else 0 }
  | 2 => { x with a := if x.r < 1 then 4 else 3 }
  | 3 => { x with a := 6 }
  | 4 => { x with a := 5, s := decide (x.r = if 2 ≤ x.b then 1 else 0) }
  | 5 => { x with a := 1 }
  | 6 => { x with a := 7 }
  | 7 => { x with a := 8 }
  | _ => x
/-- Who tells goes on. -/
def stepB (x : Two2) : Two2 := if x.b < 5 then { x with b := x.b + 1, s := if x.b = 2 then false else x.s } else x

/-- All that there is. -/
def allT : List Two2 := (List.range 9).flatMap fun a => (List.range 2).flatMap fun r => [false, true].flatMap fun s => (List.range 6).map fun b => ⟨a, r, s, b⟩

/-- What is kept. -/
def okT (x : Two2) : Bool := decide (x.a ≤ 8) && decide (x.r ≤ 1) && decide (x.b ≤ 5) && (decide (x.r = 0) || decide (2 ≤ x.b)) && (!decide (x.a = 3) || decide (x.r = 1)) && (!decide (6 ≤ x.a) || decide (x.r = 1)) && (!x.s || (decide (x.a = 5) && decide (x.b ≤ 2))) && (!decide (x.a = 4) || decide (x.r = 0)) && (!decide (x.a = 5) || decide (x.r = 0)) && (!decide (x.a ≤ 1) || decide (x.r = 0))

theorem okT_mem (x : Two2) (h : okT x = true) : x ∈ allT := by
  obtain ⟨a, r, s, b⟩ := x
  simp only [okT, Bool.and_eq_true, decide_eq_true_eq] at h
  unfold allT
  simp only [List.mem_flatMap, List.mem_range, List.mem_map]
  exact ⟨a, by omega, r, by omega, s, by cases s <;> simp, b, by omega, rfl⟩
set_option maxRecDepth 100000 in
theorem okT_steps : ∀ x ∈ allT, okT x = true → okT (stepA x) = true ∧ okT (stepB x) = true := by decide
def bothT : Nat → Two2 → Two2
  | 0, x => x
  | n + 1, x => bothT n (stepA (stepB x))
set_option maxRecDepth 100000 in
theorem okT_ends : ∀ x ∈ allT, okT x = true → bothT 30 x = ⟨8, 1, false, 5⟩ := by decide

def cellT (b : Nat) : Int := if 2 ≤ b then 1 else 0
def bedT (s : Bool) : List (Int × Int) := if s then [(0, 0)] else []
def awaitM (x : Two2) (ac : List Act6) (ev : List Ev4) (st : Nat) : Mach :=
  { progs := [awaitA, awaitB], at_ := [if x.a = 8 then 7 else (x.a : Int), if x.b = 5 then 4 else (x.b : Int)], ended := [x.a == 8, x.b == 5], regs := [[if x.a = 0 then 0 else 1, (x.r : Int), 0, 0, 0, 0, 0, 0], [if x.b = 0 then 0 else 1, 0, 0, 0, 0, 0, 0, 0]], cells := [cellT x.b], lot := bedT x.s, acts := ac, events := ev, steps := st }

theorem awaitM_new : newM [awaitA, awaitB] [0] = awaitM ⟨0, 0, false, 0⟩ [] [] 0 := rfl

theorem stepM_does {m : Mach} {k : Nat} {e : Eff} (hl : k < m.progs.length) (he : m.ended.getD k false = false) (ha : asleepM m k = false) (hs : m.steps < 20000) (h : effAt m k = e) : (stepM 20000 m k).2 = doEff m k (insOf m k).1 e := by
  unfold stepM
  rw [if_neg (by omega), if_neg (by rw [Int.toNat_natCast, he]; decide), if_neg (by rw [ha]; decide), if_neg (by omega), Int.toNat_natCast, h]

def evA (x : Two2) (st : Nat) : List Ev4 := if x.a = 6 then [((st : Int) + 1, 3, 0, 1)] else []
def evB (x : Two2) (st : Nat) : List Ev4 := if x.b = 3 then [((st : Int) + 1, 3, 1, 1)] else []

theorem stepA_sim (x : Two2) (hx : okT x = true) (ac : List Act6) (ev : List Ev4) (st : Nat) (hs : st < 20000) :
    ∃ ac' st', (stepM 20000 (awaitM x ac ev st) 0).2 = awaitM (stepA x) ac' (ev ++ evA x st) st' ∧ st' ≤ st + 1 := by
  obtain ⟨a, r, s, b⟩ := x
  simp only [okT, Bool.and_eq_true, Bool.or_eq_true, decide_eq_true_eq, Bool.not_eq_true', decide_eq_false_iff_not] at hx
  have ha : a ≤ 8 := by omega
  have hr : r ≤ 1 := by omega
  cases s
  · have hc : cellT b = 1 ∧ 2 ≤ b ∨ cellT b = 0 ∧ ¬ 2 ≤ b := by unfold cellT; by_cases h : 2 ≤ b <;> simp [h]
    match a, ha with
    | 0, _ => exact ⟨_, _, (stepM_does (k := 0) (e := .set 0 1) (by show 0 < 2; decide) rfl rfl hs rfl).trans (by simp [doEff, awaitM, stepA, evA]; rfl), Nat.le_refl _⟩
    | 1, _ =>
      have e1 := stepM_does (m := awaitM ⟨1, r, false, b⟩ ac ev st) (k := 0) (e := .mem 0 (cellT b) (some (1, cellT b))) (by show 0 < 2; decide) rfl rfl hs rfl
      refine ⟨ac ++ [((st : Int) + 1, 0, 6, 0, cellT b, cellT b)], _, e1.trans (Eq.trans (?_ : _ = awaitM ⟨2, if 2 ≤ b then 1 else 0, false, b⟩ _ (ev ++ []) (st + 1)) rfl), Nat.le_refl _⟩
      rcases hc with ⟨h1, h2⟩ | ⟨h1, h2⟩ <;> simp [h1, h2, doEff, awaitM] <;> rfl
    | 2, _ =>
      have e1 := stepM_does (m := awaitM ⟨2, r, false, b⟩ ac ev st) (k := 0) (e := if (r : Int) < 1 then .goto 4 else .next) (by show 0 < 2; decide) rfl rfl hs rfl
      refine ⟨ac, _, e1.trans (Eq.trans (?_ : _ = awaitM ⟨if r < 1 then 4 else 3, r, false, b⟩ ac (ev ++ []) (st + 1)) rfl), Nat.le_refl _⟩
      by_cases h : r < 1
      · rw [if_pos (show (r : Int) < 1 by omega), if_pos h]
        simp [doEff, awaitM]
      · rw [if_neg (show ¬ (r : Int) < 1 by omega), if_neg h]
        simp [doEff, awaitM]
    | 3, _ => exact ⟨_, _, (stepM_does (k := 0) (e := .goto 6) (by show 0 < 2; decide) rfl rfl hs rfl).trans (by simp [doEff, awaitM, stepA, evA]; rfl), Nat.le_refl _⟩
    | 4, _ =>
      have h0 : r = 0 := by omega
      subst h0
      have e1 := stepM_does (m := awaitM ⟨4, 0, false, b⟩ ac ev st) (k := 0) (e := if cellT b = 0 then .sleep 0 else .next) (by show 0 < 2; decide) rfl rfl hs rfl
      refine ⟨ac, _, e1.trans (Eq.trans (?_ : _ = awaitM ⟨5, 0, decide (0 = if 2 ≤ b then 1 else 0), b⟩ ac (ev ++ []) (st + 1)) rfl), Nat.le_refl _⟩
      rcases hc with ⟨h1, h2⟩ | ⟨h1, h2⟩ <;> simp [doEff, awaitM, h1, h2, bedT]
    | 5, _ => exact ⟨_, _, (stepM_does (k := 0) (e := .goto 1) (by show 0 < 2; decide) rfl rfl hs rfl).trans (by simp [doEff, awaitM, stepA, evA]; rfl), Nat.le_refl _⟩
    | 6, _ => exact ⟨_, _, (stepM_does (k := 0) (e := .say 3 (signed 1)) (by show 0 < 2; decide) rfl rfl hs rfl).trans (by simp [doEff, awaitM, stepA, evA, signed]; rfl), Nat.le_refl _⟩
    | 7, _ => exact ⟨_, _, (stepM_does (k := 0) (e := .halt) (by show 0 < 2; decide) rfl rfl hs rfl).trans (by simp [doEff, awaitM, stepA, evA]; rfl), Nat.le_refl _⟩
    | 8, _ => exact ⟨ac, st, by rw [stepM_of_ended 20000 (awaitM ⟨8, r, false, b⟩ ac ev st) 0 (by decide) (show (0 : Int) < 2 by decide) rfl]; simp [stepA, evA], Nat.le_succ _⟩
  · have h5 : a = 5 := by
      rcases hx.1.1.1.2 with h | h
      · cases h
      · exact h.1
    subst h5
    refine ⟨ac, st, ?_, Nat.le_succ _⟩
    have e : (stepM 20000 (awaitM ⟨5, r, true, b⟩ ac ev st) 0) = (8, awaitM ⟨5, r, true, b⟩ ac ev st) := rfl
    rw [e]
    simp [stepA, evA]

theorem stepB_sim (x : Two2) (hx : okT x = true) (ac : List Act6) (ev : List Ev4) (st : Nat) (hs : st < 20000) :
    ∃ ac' st', (stepM 20000 (awaitM x ac ev st) 1).2 = awaitM (stepB x) ac' (ev ++ evB x st) st' ∧ st' ≤ st + 1 := by
  obtain ⟨a, r, s, b⟩ := x
  simp only [okT, Bool.and_eq_true, Bool.or_eq_true, decide_eq_true_eq, Bool.not_eq_true', decide_eq_false_iff_not] at hx
  have hb : b ≤ 5 := by omega
  have hz : asleepM (awaitM ⟨a, r, s, b⟩ ac ev st) (1 : Nat) = false := by cases s <;> rfl
  match b, hb with
  | 0, _ => exact ⟨_, _, (stepM_does (k := 1) (e := .set 0 1) (by show 1 < 2; decide) rfl hz hs rfl).trans (by simp [doEff, awaitM, stepB, evB, cellT]; rfl), Nat.le_refl _⟩
  | 1, _ => exact ⟨_, _, (stepM_does (k := 1) (e := .mem 0 1 none) (by show 1 < 2; decide) rfl hz hs rfl).trans (by simp [doEff, awaitM, stepB, evB, cellT]; rfl), Nat.le_refl _⟩
  | 2, _ =>
    have e1 := stepM_does (m := awaitM ⟨a, r, s, 2⟩ ac ev st) (k := 1) (e := .wake 0 1) (by show 1 < 2; decide) rfl hz hs rfl
    refine ⟨ac, _, e1.trans (Eq.trans (?_ : _ = awaitM ⟨a, r, false, 3⟩ ac (ev ++ []) (st + 1)) rfl), Nat.le_refl _⟩
    cases s <;> simp [doEff, awaitM, bedT, wakeL, cellT]
  | 3, _ => exact ⟨_, _, (stepM_does (k := 1) (e := .say 3 (signed 1)) (by show 1 < 2; decide) rfl hz hs rfl).trans (by simp [doEff, awaitM, stepB, evB, signed, cellT]; rfl), Nat.le_refl _⟩
  | 4, _ => exact ⟨_, _, (stepM_does (k := 1) (e := .halt) (by show 1 < 2; decide) rfl hz hs rfl).trans (by simp [doEff, awaitM, stepB, evB, cellT]; rfl), Nat.le_refl _⟩
  | 5, _ => exact ⟨ac, st, by rw [stepM_of_ended 20000 (awaitM ⟨a, r, s, 5⟩ ac ev st) 1 (by decide) (show (1 : Int) < 2 by decide) rfl]; simp [stepB, evB], Nat.le_succ _⟩

/-- What is known of the two at any time: n: how many picks there were. -/
def AwaitAt (x : Two2) (n : Nat) (m : Mach) : Prop := okT x = true ∧ ∃ ac ev st, m = awaitM x ac ev st ∧ st ≤ n ∧ ev.length = (if 7 ≤ x.a then 1 else 0) + (if 4 ≤ x.b then 1 else 0) ∧ (∀ e ∈ ev, 7 ≤ x.a ∨ 4 ≤ x.b)

theorem await_new : AwaitAt ⟨0, 0, false, 0⟩ 0 (newM [awaitA, awaitB] [0]) := ⟨rfl, [], [], 0, awaitM_new, Nat.le_refl _, rfl, fun _ h => by cases h⟩
theorem okT_both (x : Two2) (h : okT x = true) : okT (stepA x) = true ∧ okT (stepB x) = true := okT_steps x (okT_mem x h) h
theorem await_0 {x : Two2} {n : Nat} {m : Mach} (h : AwaitAt x n m) (hn : n < 20000) : AwaitAt (stepA x) (n + 1) (stepM 20000 m 0).2 := by
  obtain ⟨ho, ac, ev, st, rfl, hs, hl, he⟩ := h
  obtain ⟨ac', st', e, h2⟩ := stepA_sim x ho ac ev st (by omega)
  have hev : (stepA x).b = x.b ∧ (7 ≤ x.a → 7 ≤ (stepA x).a) ∧ (7 ≤ (stepA x).a → x.a = 6 ∨ 7 ≤ x.a) ∧ (x.a = 6 → 7 ≤ (stepA x).a) := by
    revert ho
    have := okT_mem
    obtain ⟨a, r, s, b⟩ := x
    intro ho
    simp only [okT, Bool.and_eq_true, Bool.or_eq_true, decide_eq_true_eq, Bool.not_eq_true', decide_eq_false_iff_not] at ho
    unfold stepA
    cases s
    · have ha : a ≤ 8 := by omega
      match a, ha with
      | 0, _ | 1, _ | 3, _ | 4, _ | 5, _ | 6, _ | 7, _ | 8, _ => simp
      | 2, _ => simp; split <;> omega
    · have h5 : a = 5 := by
        rcases ho.1.1.1.2 with h | h
        · cases h
        · exact h.1
      subst h5
      simp
  refine ⟨(okT_both x ho).1, ac', _, st', e, by omega, ?_, ?_⟩
  · rw [List.length_append, hl, hev.1]
    unfold evA
    by_cases h6 : x.a = 6
    · rw [if_pos h6, if_pos (hev.2.2.2 h6), if_neg (by omega)]
      simp; omega
    · rw [if_neg h6]
      by_cases h7 : 7 ≤ x.a
      · rw [if_pos h7, if_pos (hev.2.1 h7)]; rfl
      · rw [if_neg h7, if_neg (show ¬ 7 ≤ (stepA x).a from fun h => by rcases hev.2.2.1 h with h | h <;> contradiction)]; simp
  · intro q hq
    rcases List.mem_append.1 hq with h | h
    · rcases he q h with h1 | h1
      · exact .inl (hev.2.1 h1)
      · exact .inr (by rw [hev.1]; exact h1)
    · unfold evA at h
      split at h
      · rename_i h6; exact .inl (hev.2.2.2 h6)
      · cases h
theorem await_1 {x : Two2} {n : Nat} {m : Mach} (h : AwaitAt x n m) (hn : n < 20000) : AwaitAt (stepB x) (n + 1) (stepM 20000 m 1).2 := by
  obtain ⟨ho, ac, ev, st, rfl, hs, hl, he⟩ := h
  obtain ⟨ac', st', e, h2⟩ := stepB_sim x ho ac ev st (by omega)
  have hab : (stepB x).a = x.a := by unfold stepB; split <;> rfl
  have hbb : (stepB x).b = if x.b < 5 then x.b + 1 else x.b := by unfold stepB; split <;> rfl
  refine ⟨(okT_both x ho).2, ac', _, st', e, by omega, ?_, ?_⟩
  · rw [List.length_append, hl, hab, hbb]
    unfold evB
    by_cases h3 : x.b = 3
    · simp [h3]
    · rw [if_neg h3]
      repeat' split
      all_goals (simp; try omega)
  · intro q hq
    rw [hab, hbb]
    rcases List.mem_append.1 hq with h | h
    · rcases he q h with h1 | h1
      · exact .inl h1
      · exact .inr (by split <;> omega)
    · unfold evB at h
      split at h
      · rename_i h3; exact .inr (by rw [h3]; decide)
      · cases h

/-- If any of the two said that it is behind, the cell was told. -/
theorem await_safe {x : Two2} {n : Nat} {m : Mach} (h : AwaitAt x n m) : ∃ v, m.cells = [v] ∧ (0 < m.events.length → v = 1) := by
  obtain ⟨ho, ac, ev, st, rfl, hs, hl, he⟩ := h
  refine ⟨cellT x.b, rfl, fun hpos => ?_⟩
  have hpos' : 0 < ev.length := hpos
  obtain ⟨q, hq⟩ := List.exists_mem_of_length_pos hpos'
  have h7 := he q hq
  obtain ⟨a, r, s, b⟩ := x
  simp only [okT, Bool.and_eq_true, Bool.or_eq_true, decide_eq_true_eq, Bool.not_eq_true', decide_eq_false_iff_not] at ho
  show cellT b = 1
  unfold cellT
  dsimp only at h7
  rw [if_pos (by omega)]
theorem await_few {x : Two2} {n : Nat} {m : Mach} (h : AwaitAt x n m) : m.events.length ≤ 2 ∧ m.progs = [awaitA, awaitB] := by
  obtain ⟨ho, ac, ev, st, rfl, hs, hl, he⟩ := h
  refine ⟨?_, rfl⟩
  show ev.length ≤ 2
  rw [hl]
  split <;> split <;> decide
theorem await_all {x : Two2} {n : Nat} {m : Mach} (h : AwaitAt x n m) : bothT 30 x = ⟨8, 1, false, 5⟩ := okT_ends x (okT_mem x h.1) h.1
end Go.Proofs.YtkmidefgmefohaaDoor
