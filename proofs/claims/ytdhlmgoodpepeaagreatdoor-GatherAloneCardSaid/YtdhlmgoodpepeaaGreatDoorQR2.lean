/-
  Threads that ask for calls: what is kept by steps that are later than all that was done and said What a listing's instruction comes to, by its number What was done and said by threads that ask a phaser, in one row: each call within itself What is kept by all steps of threads that ask a phaser
-/
import Derived.Test.YtdhlmgoodpepeaaGreatDoorQK
import Derived.Test.YtdhlmgoodpepeaaGreatDoorQR
namespace Go.Proofs.YtdhlmgoodpepeaaGreatDoor
set_option maxRecDepth 100000
set_option linter.unusedVariables false
set_option linter.unusedSimpArgs false

theorem actsK_when {κ : Type} {F : Fam κ} {calls : Nat → List κ} {S : CS} {t : Nat} {s : Int} {x : Act6} (h : x ∈ actsK F calls t S s) : x.1 = s := by
  unfold actsK at h
  split at h
  · cases h
  · unfold actD at h
    split at h
    · rw [List.mem_singleton.1 h]
    · cases h
theorem evsK_when {κ : Type} {F : Fam κ} {calls : Nat → List κ} {S : CS} {t : Nat} {s : Int} {x : Ev4} (h : x ∈ evsK F calls t S s) : x.1 = s := by
  unfold evsK at h
  split at h
  · cases h
  · unfold evD at h
    split at h
    · rw [List.mem_singleton.1 h]
    · cases h
/-- What is kept by all steps, and how many more there can be. -/
structure KindW {κ : Type} (F : Fam κ) (n : Nat) (calls : Nat → List κ) (c0 : Nat → Int) where
  I : CS → List Act6 → List Ev4 → Prop
  pot : CS → Nat
  pk : Nat
  init : I (newK c0) [] []
  can : ∀ S a e t c, I S a e → t < n → (calls t)[(S.th t).k]? = some c → F.can c (S.th t).j (S.th t).r := by intros; exact trivial
  step : ∀ S a e s t, WfK F n calls S → WfK F n calls (stepK F calls t S) → I S a e → (∀ x ∈ a, x.1 < s) → (∀ x ∈ e, x.1 < s) → 0 < s → t < n → (S.th t).en = false → slK S t = false → I (stepK F calls t S) (a ++ actsK F calls t S s) (e ++ evsK F calls t S s) ∧ pot (stepK F calls t S) + 1 ≤ pot S
  poke : ∀ S a e t, WfK F n calls S → I S a e → t < n → slK S t = true → I (pokeK t S) a e ∧ pot (pokeK t S) ≤ pot S + pk

section
variable {κ : Type} {F : Fam κ} {n : Nat} {calls : Nat → List κ} {c0 : Nat → Int}

structure RanW (K : KindW F n calls c0) (p : Nat) (S : CS) (m : Mach) : Prop where
  sim : SimK F n calls S m
  inv : K.I S m.acts m.events
  few : m.steps + K.pot S ≤ K.pot (newK c0) + K.pk * p
  wa : ∀ x ∈ m.acts, x.1 ≤ (m.steps : Int)
  we : ∀ x ∈ m.events, x.1 ≤ (m.steps : Int)

variable {K : KindW F n calls c0} {p : Nat} {S : CS} {m : Mach} {t : Nat}

theorem ranW_new {cells : List Int} {K : KindW F n calls fun c => cells.getD c 0} (hl : cells.length = F.nc) (hu : ∀ v ∈ cells, u64 v) : RanW K 0 (newK fun c => cells.getD c 0) (newM ((List.range n).map fun t => wholeK F (calls t)) cells) :=
  ⟨simK_new cells hl hu, K.init, by show 0 + _ ≤ _; omega, (fun x hx => by cases hx), (fun x hx => by cases hx)⟩
theorem RanW.steps_lt (h : RanW K p S m) (hp : K.pot (newK c0) + K.pk * p < 20000) : m.steps < 20000 := by have := h.few; omega
theorem ranW_still (h : RanW K p S m) (ht : t < n) (hs : stillK S t) : (stepM 20000 m t).2 = m := by
  rcases Bool.eq_false_or_eq_true (S.th t).en with he | he
  · unfold stepM
    rw [if_neg (by rw [h.sim.plen]; omega), if_pos (by rw [Int.toNat_natCast, (h.sim.th t ht).en, he])]
  · rcases hs with hs | hs
    · rw [hs] at he; cases he
    · unfold stepM
      rw [if_neg (by rw [h.sim.plen]; omega), if_neg (by rw [Int.toNat_natCast, (h.sim.th t ht).en, he]; decide), if_pos (by rw [h.sim.asleep, hs])]
theorem ranW_step (h : RanW K p S m) (ht : t < n) (he : (S.th t).en = false) (hs : slK S t = false) (hst : m.steps < 20000) : RanW K p (stepK F calls t S) (stepM 20000 m t).2 ∧ (stepM 20000 m t).2.steps = m.steps + 1 := by
  obtain ⟨h1, h2, h3, h4⟩ := simK_step h.sim ht he hs hst (fun c hc => K.can S m.acts m.events t c h.inv ht hc)
  obtain ⟨i1, i2⟩ := K.step S m.acts m.events ((m.steps : Int) + 1) t h.sim.wf h1.wf h.inv (fun x hx => by have := h.wa x hx; omega) (fun x hx => by have := h.we x hx; omega) (by omega) ht he hs
  refine ⟨⟨h1, by rw [h2, h3]; exact i1, by rw [h4]; have := h.few; omega, fun x hx => ?_, fun x hx => ?_⟩, h4⟩
  · rw [h2] at hx
    rw [h4]
    rcases List.mem_append.1 hx with hx | hx
    · have := h.wa x hx; omega
    · have := actsK_when hx; omega
  · rw [h3] at hx
    rw [h4]
    rcases List.mem_append.1 hx with hx | hx
    · have := h.we x hx; omega
    · have := evsK_when hx; omega
theorem ranW_move (h : RanW K p S m) (hp : K.pot (newK c0) + K.pk * p < 20000) (v : Int × Bool) : ∃ S', RanW K (p + if v.2 then 1 else 0) S' (moveM 20000 m v) := by
  obtain ⟨u, b⟩ := v
  by_cases hu : u < 0 ∨ (m.progs.length : Int) ≤ u
  · have e : moveM 20000 m (u, b) = m := by
      cases b
      · show (stepM 20000 m u).2 = m
        unfold stepM
        rw [if_pos hu]
      · show (pokeM m u).2 = m
        unfold pokeM
        rw [if_pos hu]
    rw [e]
    exact ⟨S, h.sim, h.inv, by have h1 := h.few; have : K.pk * p ≤ K.pk * (p + if b then 1 else 0) := Nat.mul_le_mul_left _ (by omega); show _ ≤ K.pot (newK c0) + K.pk * (p + if b then 1 else 0); omega, h.wa, h.we⟩
  · rw [h.sim.plen] at hu
    obtain ⟨t, rfl⟩ : ∃ t : Nat, u = t := ⟨u.toNat, by omega⟩
    have ht : t < n := by omega
    cases b with
    | false =>
      show ∃ S', RanW K p S' (stepM 20000 m t).2
      rcases Bool.eq_false_or_eq_true (S.th t).en with he | he
      · rw [ranW_still h ht (.inl he)]; exact ⟨S, h⟩
      · rcases Bool.eq_false_or_eq_true (slK S t) with hs | hs
        · rw [ranW_still h ht (.inr hs)]; exact ⟨S, h⟩
        · exact ⟨_, (ranW_step h ht he hs (h.steps_lt hp)).1⟩
    | true =>
      show ∃ S', RanW K (p + 1) S' (pokeM m t).2
      rcases Bool.eq_false_or_eq_true (slK S t) with hs | hs
      · obtain ⟨h1, h2, h3, h4⟩ := simK_poke h.sim ht hs
        obtain ⟨i1, i2⟩ := K.poke S m.acts m.events t h.sim.wf h.inv ht hs
        exact ⟨_, h1, by rw [h2, h3]; exact i1, by rw [h4, Nat.mul_add]; have := h.few; omega, by rw [h2, h4]; exact h.wa, by rw [h3, h4]; exact h.we⟩
      · have e : (pokeM m t).2 = m := by
          unfold pokeM
          rw [if_neg (by rw [h.sim.plen]; omega), if_neg (by rw [h.sim.asleep, hs]; decide)]
        rw [e]
        exact ⟨S, h.sim, h.inv, by rw [Nat.mul_add]; have := h.few; omega, h.wa, h.we⟩
theorem ranW_moves : ∀ (l : List (Int × Bool)) (p : Nat) (S : CS) (m : Mach), RanW K p S m → K.pot (newK c0) + K.pk * (p + pokesM l) < 20000 → ∃ S', RanW K (p + pokesM l) S' (behindM 20000 m l)
  | [], p, S, m, h, _ => ⟨S, h⟩
  | v :: l, p, S, m, h, hp => by
    have e : pokesM (v :: l) = (if v.2 then 1 else 0) + pokesM l := by
      unfold pokesM
      rw [List.filter_cons]
      split <;> simp [Nat.add_comm]
    rw [e, ← Nat.add_assoc] at hp ⊢
    have hm : K.pk * p ≤ K.pk * (p + (if v.2 then 1 else 0) + pokesM l) := Nat.mul_le_mul_left _ (by omega)
    obtain ⟨S1, h1⟩ := ranW_move h (by omega) v
    exact ranW_moves l _ S1 _ h1 hp
theorem ranW_sweep (hp : K.pot (newK c0) + K.pk * p < 20000) : ∀ (l : List Nat) (S : CS) (m : Mach), RanW K p S m → (∀ t ∈ l, t < n) → ∃ S', RanW K p S' (sweepM l m) ∧ m.steps ≤ (sweepM l m).steps ∧ ((sweepM l m).steps = m.steps → sweepM l m = m ∧ ∀ t ∈ l, stillK S t)
  | [], S, m, h, _ => ⟨S, h, Nat.le_refl _, fun _ => ⟨rfl, fun _ h => by cases h⟩⟩
  | t :: l, S, m, h, hl => by
    have ht := hl t (.head _)
    have e2 : sweepM (t :: l) m = sweepM l (stepM 20000 m t).2 := rfl
    by_cases hs : stillK S t
    · rw [e2, ranW_still h ht hs]
      obtain ⟨S', a, b, c⟩ := ranW_sweep hp l S m h (fun u hu => hl u (.tail _ hu))
      refine ⟨S', a, b, fun e => ⟨(c e).1, fun u hu => ?_⟩⟩
      rcases List.mem_cons.1 hu with hu | hu
      · subst hu; exact hs
      · exact (c e).2 u hu
    · have he : (S.th t).en = false := by
        cases e : (S.th t).en with
        | true => exact absurd (.inl e) hs
        | false => rfl
      have hs' : slK S t = false := by
        cases e : slK S t with
        | true => exact absurd (.inr e) hs
        | false => rfl
      obtain ⟨h1, h2⟩ := ranW_step h ht he hs' (h.steps_lt hp)
      rw [e2]
      obtain ⟨S', a, b, c⟩ := ranW_sweep hp l _ _ h1 (fun u hu => hl u (.tail _ hu))
      exact ⟨S', a, by omega, fun e => by omega⟩
/-- Till none can. -/
theorem ranW_fin (hp : K.pot (newK c0) + K.pk * p < 20000) (h : RanW K p S m) {m' : Mach} (hf : Fin m m') : ∃ S', RanW K p S' m' ∧ ∀ t, t < n → stillK S' t := by
  obtain ⟨k, h1, h2⟩ := hf
  obtain ⟨S1, r1, _, _⟩ := ranW_sweep hp (List.replicate k (List.range m.progs.length)).flatten S m h (fun t ht => by
    obtain ⟨l, hl, ht⟩ := List.mem_flatten.1 ht
    rw [(List.mem_replicate.1 hl).2, h.sim.plen] at ht
    exact List.mem_range.1 ht)
  rw [← h1] at r1
  obtain ⟨S2, r2, _, c⟩ := ranW_sweep hp (List.range m'.progs.length) S1 m' r1 (fun t ht => by rw [r1.sim.plen] at ht; exact List.mem_range.1 ht)
  have hs : (sweepM (List.range m'.progs.length) m').steps = m'.steps := by
    show (roundM m').steps = _
    rw [h2]
  exact ⟨S1, r1, fun t ht => (c hs).2 t (by rw [r1.sim.plen]; exact List.mem_range.2 ht)⟩
theorem RanW.ended (h : RanW K p S m) (ht : t < n) : m.ended.getD t false = (S.th t).en := (h.sim.th t ht).en
end
end Go.Proofs.YtdhlmgoodpepeaaGreatDoor

namespace Go.Proofs.YtdhlmgoodpepeaaGreatDoor
set_option maxRecDepth 100000
set_option linter.unusedVariables false
set_option linter.unusedSimpArgs false

def lowTarget (len : Nat) (x : Ins5) : Bool :=
  if x.1 = 10 then decide (x.2.1 < (len : Int)) else if x.1 = 11 ∨ x.1 = 12 ∨ x.1 = 13 then decide (x.2.2.2.1 < (len : Int)) else true
theorem all_getD {l : List Ins5} {p : Ins5 → Bool} (h : l.all p = true) {j : Nat} (hj : j < l.length) : p (l.getD j default) = true := by
  rw [List.getD_eq_getElem?_getD, List.getElem?_eq_getElem hj]
  exact List.all_eq_true.1 h _ (List.getElem_mem hj)
theorem relD_say {len : Nat} {x : Ins5} {cell r : Nat → Int} {w v : Int} (h : relD x cell r = .say w v) (hg : goodIn 1 len x = true) : x.1 = 16 := by
  obtain ⟨op, a, b, c, d⟩ := x
  by_cases h1 : op = 1
  · subst h1
    exfalso
    cases h
  by_cases h2 : op = 2
  · subst h2
    exfalso
    cases h
  by_cases h3 : op = 3
  · subst h3
    exfalso
    cases h
  by_cases h4 : op = 4
  · subst h4
    exfalso
    cases h
  by_cases h5 : op = 5
  · subst h5
    exfalso
    cases h
  by_cases h6 : op = 6
  · subst h6
    exfalso
    cases h
  by_cases h7 : op = 7
  · subst h7
    exfalso
    cases h
  by_cases h8 : op = 8
  · subst h8
    exfalso
    cases h
  by_cases h9 : op = 9
  · subst h9
    exfalso
    have h : (if _ then DoK.mem _ _ _ else DoK.mem _ _ _) = _ := h
    split at h <;> cases h
  by_cases h10 : op = 10
  · subst h10
    exfalso
    cases h
  by_cases h11 : op = 11
  · subst h11
    exfalso
    have h : (if _ then DoK.goto _ else DoK.next) = _ := h
    split at h <;> cases h
  by_cases h12 : op = 12
  · subst h12
    exfalso
    have h : (if _ then DoK.goto _ else DoK.next) = _ := h
    split at h <;> cases h
  by_cases h13 : op = 13
  · subst h13
    exfalso
    have h : (if _ then DoK.goto _ else DoK.next) = _ := h
    split at h <;> cases h
  by_cases h14 : op = 14
  · subst h14
    exfalso
    have h : (if _ then DoK.sleep _ else DoK.next) = _ := h
    split at h <;> cases h
  by_cases h15 : op = 15
  · subst h15
    exfalso
    cases h
  unfold goodIn at hg
  simp only [h1, h2, h3, h4, h5, h6, h7, h8, h9, h10, h11, h12, h13, h14, h15, if_false, Bool.and_eq_true, decide_eq_true_eq] at hg
  exact hg.1
theorem relD_mem {len : Nat} {x : Ins5} {cell r : Nat → Int} {a : Nat} {now : Int} {q : Option (Nat × Int)} (h : relD x cell r = .mem a now q) (ho : x.1 ≠ 7 ∧ x.1 ≠ 8) (hn : now ≠ cell a) (hg : goodIn 1 len x = true) : x.1 = 9 := by
  obtain ⟨op, a', b, c, d⟩ := x
  have h7 : ¬ op = 7 := ho.1
  have h8 : ¬ op = 8 := ho.2
  by_cases h1 : op = 1
  · subst h1
    exfalso
    cases h
  by_cases h2 : op = 2
  · subst h2
    exfalso
    cases h
  by_cases h3 : op = 3
  · subst h3
    exfalso
    cases h
  by_cases h4 : op = 4
  · subst h4
    exfalso
    cases h
  by_cases h5 : op = 5
  · subst h5
    exfalso
    cases h
  by_cases h6 : op = 6
  · subst h6
    exfalso
    have h : DoK.mem _ _ _ = _ := h
    injection h with h1 h2 h3
    subst h1
    exact hn h2.symm
  by_cases h9 : op = 9
  · exact h9
  by_cases h10 : op = 10
  · subst h10
    exfalso
    cases h
  by_cases h11 : op = 11
  · subst h11
    exfalso
    have h : (if _ then DoK.goto _ else DoK.next) = _ := h
    split at h <;> cases h
  by_cases h12 : op = 12
  · subst h12
    exfalso
    have h : (if _ then DoK.goto _ else DoK.next) = _ := h
    split at h <;> cases h
  by_cases h13 : op = 13
  · subst h13
    exfalso
    have h : (if _ then DoK.goto _ else DoK.next) = _ := h
    split at h <;> cases h
  by_cases h14 : op = 14
  · subst h14
    exfalso
    have h : (if _ then DoK.sleep _ else DoK.next) = _ := h
    split at h <;> cases h
  by_cases h15 : op = 15
  · subst h15
    exfalso
    cases h
  unfold relD at h
  simp only [h1, h2, h3, h4, h5, h6, h7, h8, h9, h10, h11, h12, h13, h14, h15, if_false] at h
  cases h
theorem relD_goto {len : Nat} {x : Ins5} {cell r : Nat → Int} {k : Nat} (h : relD x cell r = .goto k) (hl : lowTarget len x = true) (hg : goodIn 1 len x = true) : k < len := by
  obtain ⟨op, a, b, c, d⟩ := x
  by_cases h1 : op = 1
  · subst h1
    exfalso
    cases h
  by_cases h2 : op = 2
  · subst h2
    exfalso
    cases h
  by_cases h3 : op = 3
  · subst h3
    exfalso
    cases h
  by_cases h4 : op = 4
  · subst h4
    exfalso
    cases h
  by_cases h5 : op = 5
  · subst h5
    exfalso
    cases h
  by_cases h6 : op = 6
  · subst h6
    exfalso
    cases h
  by_cases h7 : op = 7
  · subst h7
    exfalso
    cases h
  by_cases h8 : op = 8
  · subst h8
    exfalso
    cases h
  by_cases h9 : op = 9
  · subst h9
    exfalso
    have h : (if _ then DoK.mem _ _ _ else DoK.mem _ _ _) = _ := h
    split at h <;> cases h
  by_cases h10 : op = 10
  · subst h10
    have h : DoK.goto a.toNat = .goto k := h
    injection h with h
    have hl : decide (a < (len : Int)) = true := hl
    have hg : placeB len a = true := hg
    have := placeB_iff.1 hg
    have := of_decide_eq_true hl
    omega
  by_cases h11 : op = 11
  · subst h11
    have h : (if _ then DoK.goto c.toNat else DoK.next) = _ := h
    have hl : decide (c < (len : Int)) = true := hl
    have hg : (regB a && placeB len c) = true := hg
    simp only [Bool.and_eq_true] at hg
    have := placeB_iff.1 hg.2
    have := of_decide_eq_true hl
    split at h
    · injection h with h
      omega
    · cases h
  by_cases h12 : op = 12
  · subst h12
    have h : (if _ then DoK.goto c.toNat else DoK.next) = _ := h
    have hl : decide (c < (len : Int)) = true := hl
    have hg : (regB a && (regB b && placeB len c)) = true := hg
    simp only [Bool.and_eq_true] at hg
    have := placeB_iff.1 hg.2.2
    have := of_decide_eq_true hl
    split at h
    · injection h with h
      omega
    · cases h
  by_cases h13 : op = 13
  · subst h13
    have h : (if _ then DoK.goto c.toNat else DoK.next) = _ := h
    have hl : decide (c < (len : Int)) = true := hl
    have hg : (regB a && (regB b && placeB len c)) = true := hg
    simp only [Bool.and_eq_true] at hg
    have := placeB_iff.1 hg.2.2
    have := of_decide_eq_true hl
    split at h
    · injection h with h
      omega
    · cases h
  by_cases h14 : op = 14
  · subst h14
    exfalso
    have h : (if _ then DoK.sleep _ else DoK.next) = _ := h
    split at h <;> cases h
  by_cases h15 : op = 15
  · subst h15
    exfalso
    cases h
  unfold relD at h
  simp only [h1, h2, h3, h4, h5, h6, h7, h8, h9, h10, h11, h12, h13, h14, h15, if_false] at h
  cases h
end Go.Proofs.YtdhlmgoodpepeaaGreatDoor

namespace Go.Proofs.YtdhlmgoodpepeaaGreatDoor
set_option maxRecDepth 100000
set_option linter.unusedVariables false
set_option linter.unusedSimpArgs false

/-- An act on the cell, or an answer. -/
inductive LE where
  | act (t : Nat) (s op old now : Int)
  | say (t : Nat) (s v : Int)
def LE.when : LE → Int
  | .act _ s _ _ _ => s
  | .say _ s _ => s
def LE.acts : LE → List Act6
  | .act t s op o v => [(s, (t : Int), op, 0, o, v)]
  | .say _ _ _ => []
def LE.evs : LE → List Ev4
  | .act _ _ _ _ _ => []
  | .say t s v => [(s, 3, (t : Int), v)]
def actsL (log : List LE) : List Act6 := log.flatMap LE.acts
def evsL (log : List LE) : List Ev4 := log.flatMap LE.evs
/-- What a thread did to the cell since its last answer. -/
def curStep (t : Nat) (cur : List (Int × Int)) : LE → List (Int × Int)
  | .act u _ _ o v => if u = t then cur ++ [(o, v)] else cur
  | .say u _ _ => if u = t then [] else cur
def curL (t : Nat) (log : List LE) : List (Int × Int) := log.foldl (curStep t) []
/-- What a thread was answered. -/
def LE.said (t : Nat) : LE → List Int
  | .act _ _ _ _ _ => []
  | .say u _ v => if u = t then [v] else []
def saidL (t : Nat) (log : List LE) : List Int := log.flatMap (LE.said t)
theorem curL_snoc (t : Nat) (log : List LE) (e : LE) : curL t (log ++ [e]) = curStep t (curL t log) e := by unfold curL; rw [List.foldl_append]; rfl
theorem saidL_snoc (t : Nat) (log : List LE) (e : LE) : saidL t (log ++ [e]) = saidL t log ++ e.said t := by unfold saidL; rw [List.flatMap_append]; simp
theorem actsL_snoc (log : List LE) (e : LE) : actsL (log ++ [e]) = actsL log ++ e.acts := by unfold actsL; rw [List.flatMap_append]; simp
theorem evsL_snoc (log : List LE) (e : LE) : evsL (log ++ [e]) = evsL log ++ e.evs := by unfold evsL; rw [List.flatMap_append]; simp
theorem when_mem {log : List LE} {e : LE} (h : e ∈ log) : (∃ x ∈ actsL log, x.1 = e.when) ∨ ∃ x ∈ evsL log, x.1 = e.when := by
  cases e with
  | act t s op o v => exact .inl ⟨_, List.mem_flatMap.2 ⟨_, h, List.mem_singleton.2 rfl⟩, rfl⟩
  | say t s v => exact .inr ⟨_, List.mem_flatMap.2 ⟨_, h, List.mem_singleton.2 rfl⟩, rfl⟩

/-- A row that is right: acts find what is there; who changes it does what the state does; who answers answers what is so. -/
inductive LogOK (n : Nat) (calls : Nat → List GC) (w0 : Int) : List LE → Int → Prop where
  | nil : LogOK n calls w0 [] w0
  | act {log : List LE} {v : Int} {t : Nat} {s op now : Int} {c : GC} (h : LogOK n calls w0 log v) (ht : t < n) (hk : (calls t)[(saidL t log).length]? = some c) (hs : ∀ e ∈ log, e.when < s) (h0 : 0 < s)
      (hn : now = v ∨ op = 9 ∧ chgs (curL t log) = [] ∧ ∃ (x y : PhS) (m : Int), x.ok ∧ y.ok ∧ v = x.word ∧ now = y.word ∧ phNext x (askW c) c.n = (y, m)) : LogOK n calls w0 (log ++ [.act t s op v now]) now
  | say {log : List LE} {v : Int} {t : Nat} {s a : Int} {c : GC} (h : LogOK n calls w0 log v) (ht : t < n) (hk : (calls t)[(saidL t log).length]? = some c) (hs : ∀ e ∈ log, e.when < s) (h0 : 0 < s)
      (ha : AnsOK c (curL t log) a) : LogOK n calls w0 (log ++ [.say t s a]) v

/-! What a listing holds. -/
theorem gather_low (c : GC) : (gather0 c).all (lowTarget (gather0 c).length) = true := by
  unfold gather0
  split <;> rfl
theorem gather_ops (c : GC) : (gather0 c).all (fun x => decide (x.1 ≠ 7 ∧ x.1 ≠ 8)) = true := by
  unfold gather0
  split <;> rfl
theorem gather_last (c : GC) : (gather0 c).getD ((gather0 c).length - 1) default = (16, 3, 2, 0, 0) := by
  unfold gather0
  split <;> rfl
theorem gather_says (c : GC) : (gather0 c).dropLast.all (fun x => decide (x.1 ≠ 16)) = true := by
  unfold gather0
  split <;> rfl
theorem gather_good (c : GC) : (gather0 c).all (goodIn 1 (gather0 c).length) = true := by
  unfold gather0
  split <;> rfl
end Go.Proofs.YtdhlmgoodpepeaaGreatDoor

namespace Go.Proofs.YtdhlmgoodpepeaaGreatDoor
set_option maxRecDepth 100000
set_option linter.unusedVariables false
set_option linter.unusedSimpArgs false

def GInv (n : Nat) (calls : Nat → List GC) (w0 : Int) (S : CS) (a : List Act6) (e : List Ev4) : Prop :=
  ∃ log, actsL log = a ∧ evsL log = e ∧ LogOK n calls w0 log (S.cell 0) ∧ (∃ z : PhS, z.ok ∧ S.cell 0 = z.word) ∧
    ∀ t, t < n → (S.th t).k = (saidL t log).length ∧ ∀ c, (calls t)[(S.th t).k]? = some c → AtG c (S.th t).j (S.th t).r (curL t log)

section
variable {n : Nat} {calls : Nat → List GC} {w0 : Int} {S S' : CS} {a : List Act6} {e : List Ev4} {t : Nat} {s : Int} {log : List LE}

theorem cur_other {u : Nat} {e : LE} (h : ∀ t s op o v, e = .act t s op o v → t ≠ u) (h2 : ∀ t s v, e = .say t s v → t ≠ u) : curL u (log ++ [e]) = curL u log ∧ saidL u (log ++ [e]) = saidL u log := by
  rw [curL_snoc, saidL_snoc]
  cases e with
  | act t s op o v =>
    refine ⟨?_, List.append_nil _⟩
    show (if t = u then _ else _) = _
    rw [if_neg (h _ _ _ _ _ rfl)]
  | say t s v =>
    refine ⟨?_, ?_⟩
    · show (if t = u then _ else _) = _
      rw [if_neg (h2 _ _ _ rfl)]
    · show _ ++ (if t = u then _ else _) = _
      rw [if_neg (h2 _ _ _ rfl), List.append_nil]
theorem cur_act (t : Nat) (s op o v : Int) : curL t (log ++ [.act t s op o v]) = curL t log ++ [(o, v)] ∧ saidL t (log ++ [.act t s op o v]) = saidL t log := by
  rw [curL_snoc, saidL_snoc]
  refine ⟨?_, List.append_nil _⟩
  show (if t = t then _ else _) = _
  rw [if_pos rfl]
theorem cur_say (t : Nat) (s v : Int) : curL t (log ++ [.say t s v]) = [] ∧ saidL t (log ++ [.say t s v]) = saidL t log ++ [v] := by
  rw [curL_snoc, saidL_snoc]
  refine ⟨?_, ?_⟩
  · show (if t = t then _ else _) = _
    rw [if_pos rfl]
  · show _ ++ (if t = t then _ else _) = _
    rw [if_pos rfl]
/-- One thread moved. -/
theorem ginv_put {x' : TK} {log' : List LE} (h : ∀ u, u < n → (S.th u).k = (saidL u log).length ∧ ∀ c, (calls u)[(S.th u).k]? = some c → AtG c (S.th u).j (S.th u).r (curL u log)) (hth : S'.th = upd S.th t x')
    (ho : ∀ u, u ≠ t → curL u log' = curL u log ∧ saidL u log' = saidL u log) (hk : x'.k = (saidL t log').length) (hA : ∀ c, (calls t)[x'.k]? = some c → AtG c x'.j x'.r (curL t log')) :
    ∀ u, u < n → (S'.th u).k = (saidL u log').length ∧ ∀ c, (calls u)[(S'.th u).k]? = some c → AtG c (S'.th u).j (S'.th u).r (curL u log') := by
  intro u hu
  by_cases e : u = t
  · subst e
    rw [hth, upd_same]
    exact ⟨hk, hA⟩
  · rw [hth, upd_ne _ _ e, (ho u e).1, (ho u e).2]
    exact h u hu
theorem ginv_step (hfit : ∀ t, t < n → ∀ c ∈ calls t, fitsC (c.w : Int) c.n) (hW : WfK gatherF n calls S) (h : GInv n calls w0 S a e) (ha : ∀ x ∈ a, x.1 < s) (he : ∀ x ∈ e, x.1 < s) (h0 : 0 < s) (ht : t < n) :
    GInv n calls w0 (stepK gatherF calls t S) (a ++ actsK gatherF calls t S s) (e ++ evsK gatherF calls t S s) := by
  obtain ⟨log, rfl, rfl, hL, ⟨z, hz, hzc⟩, hT⟩ := h
  have hwhen : ∀ x ∈ log, x.when < s := fun x hx => by
    rcases when_mem hx with ⟨y, hy, e⟩ | ⟨y, hy, e⟩
    · rw [← e]; exact ha y hy
    · rw [← e]; exact he y hy
  cases hc : (calls t)[(S.th t).k]? with
  | none =>
    rw [stepK_end hc, actsK_end hc, evsK_end hc, List.append_nil, List.append_nil]
    refine ⟨log, rfl, rfl, hL, ⟨z, hz, hzc⟩, ginv_put (t := t) (x' := { S.th t with en := true }) hT rfl (fun u _ => ⟨rfl, rfl⟩) (hT t ht).1 (fun c q => ?_)⟩
    have q : (calls t)[(S.th t).k]? = some c := q
    rw [hc] at q
    cases q
  | some c =>
    have hj : (S.th t).j < (gather0 c).length := (hW.th t ht).j c hc
    have hf := hfit t ht c (List.mem_of_getElem? hc)
    have hk := (hT t ht).1
    have hst := gather_step hf hj ((hT t ht).2 c hc) hz hzc
    have hgood := all_getD (gather_good c) hj
    have hlow := all_getD (gather_low c) hj
    have hops := of_decide_eq_true (all_getD (gather_ops c) hj)
    have hsayj : ∀ w v, relD ((gather0 c).getD (S.th t).j default) S.cell (S.th t).r = .say w v → (S.th t).j + 1 = (gather0 c).length := fun w v q => by
      have h16 := relD_say q hgood
      by_cases e1 : (S.th t).j + 1 = (gather0 c).length
      · exact e1
      · exfalso
        have hd : (S.th t).j < (gather0 c).dropLast.length := by rw [List.length_dropLast]; omega
        have := of_decide_eq_true (all_getD (gather_says c) hd)
        rw [List.getD_eq_getElem?_getD, List.getElem?_dropLast, if_pos (by omega), ← List.getD_eq_getElem?_getD] at this
        exact this h16
    have hlast : (S.th t).j + 1 = (gather0 c).length → relD ((gather0 c).getD (S.th t).j default) S.cell (S.th t).r = .say 3 (signed ((S.th t).r 2)) := fun e1 => by
      have := gather_last c
      rw [← e1, Nat.add_sub_cancel] at this
      rw [this]
      rfl
    rw [stepK_eq hc, actsK_eq hc, evsK_eq hc]
    show GInv n calls w0 (doneK (gather0 c).length t S (S.th t) (relD ((gather0 c).getD (S.th t).j default) S.cell (S.th t).r)) (actsL log ++ actD t ((gather0 c).getD (S.th t).j default).1 s S.cell (relD ((gather0 c).getD (S.th t).j default) S.cell (S.th t).r)) (evsL log ++ evD t s (relD ((gather0 c).getD (S.th t).j default) S.cell (S.th t).r))
    have hgoto : ∀ k, relD ((gather0 c).getD (S.th t).j default) S.cell (S.th t).r = .goto k → k < (gather0 c).length := fun k q => relD_goto q hlow hgood
    have hmem : ∀ a now q, relD ((gather0 c).getD (S.th t).j default) S.cell (S.th t).r = .mem a now q → now ≠ S.cell a → ((gather0 c).getD (S.th t).j default).1 = 9 := fun a now q e1 e2 => relD_mem e1 hops e2 hgood
    generalize hop : ((gather0 c).getD (S.th t).j default).1 = op at hmem
    generalize hD : relD ((gather0 c).getD (S.th t).j default) S.cell (S.th t).r = D at hst hsayj hlast hgoto hmem
    have hnext : (∀ w v, D ≠ .say w v) → (S.th t).j + 1 < (gather0 c).length := fun q => by
      have : (S.th t).j + 1 ≠ (gather0 c).length := fun e1 => q _ _ (hlast e1)
      omega
    have hsame : ∀ u, u ≠ t → curL u log = curL u log ∧ saidL u log = saidL u log := fun u _ => ⟨rfl, rfl⟩
    have atc : ∀ {x' : TK} {cur : List (Int × Int)}, x'.k = (S.th t).k → AtG c x'.j x'.r cur → ∀ d, (calls t)[x'.k]? = some d → AtG d x'.j x'.r cur := fun {x' cur} e1 e2 d q => by
      rw [e1, hc] at q
      injection q with q
      subst q
      exact e2
    cases D with
    | set i v =>
      have hn := hnext (fun w v q => by cases q)
      refine ⟨log, (List.append_nil _).symm, (List.append_nil _).symm, hL, ⟨z, hz, hzc⟩, ginv_put (t := t) hT rfl hsame ?_ ?_⟩
      · show (goK (gather0 c).length (S.th t) ((S.th t).j + 1)).k = _
        rw [goK_in hn]; exact hk
      · refine atc ?_ ?_
        · show (goK (gather0 c).length (S.th t) ((S.th t).j + 1)).k = _
          rw [goK_in hn]
        · show AtG c (goK (gather0 c).length (S.th t) ((S.th t).j + 1)).j (upd (S.th t).r i v) (curL t log)
          rw [goK_in hn]; exact hst
    | mem a' now q =>
      have hn := hnext (fun w v q => by cases q)
      cases q with
      | none => exact absurd hst id
      | some q =>
        obtain ⟨rfl, ⟨z2, hz2, hzn⟩, hch, hat⟩ := hst
        have hlog : LogOK n calls w0 (log ++ [.act t s op (S.cell 0) now]) now := by
          refine LogOK.act hL ht (by rw [← hk]; exact hc) hwhen h0 ?_
          rcases hch with hch | ⟨g1, x, y, m, g2, g3, g4, g5, g6⟩
          · exact .inl hch
          · by_cases e1 : now = S.cell 0
            · exact .inl e1
            · exact .inr ⟨hmem _ _ _ rfl e1, g1, x, y, m, g2, g3, g4, g5, g6⟩
        refine ⟨log ++ [.act t s op (S.cell 0) now], by rw [actsL_snoc]; rfl, by rw [evsL_snoc]; rfl, ?_, ⟨z2, hz2, ?_⟩, ginv_put (t := t) hT rfl ?_ ?_ ?_⟩
        · show LogOK n calls w0 _ (upd S.cell 0 now 0)
          rw [upd_same]; exact hlog
        · show upd S.cell 0 now 0 = _
          rw [upd_same]; exact hzn
        · exact fun u hu => cur_other (fun t' _ _ _ _ q => by injection q with q; rw [← q]; exact Ne.symm hu) (fun _ _ _ q => by cases q)
        · rw [(cur_act t s op (S.cell 0) now).2]
          show (goK (gather0 c).length (S.th t) ((S.th t).j + 1)).k = _
          rw [goK_in hn]; exact hk
        · refine atc ?_ ?_
          · show (goK (gather0 c).length (S.th t) ((S.th t).j + 1)).k = _
            rw [goK_in hn]
          · show AtG c (goK (gather0 c).length (S.th t) ((S.th t).j + 1)).j (upd (S.th t).r q.1 q.2) _
            rw [goK_in hn, (cur_act t s op (S.cell 0) now).1]; exact hat
    | goto k =>
      have hn := hgoto k rfl
      refine ⟨log, (List.append_nil _).symm, (List.append_nil _).symm, hL, ⟨z, hz, hzc⟩, ginv_put (t := t) hT rfl hsame ?_ ?_⟩
      · rw [goK_in hn]; exact hk
      · refine atc ?_ ?_
        · rw [goK_in hn]
        · rw [goK_in hn]; exact hst
    | next =>
      have hn := hnext (fun w v q => by cases q)
      refine ⟨log, (List.append_nil _).symm, (List.append_nil _).symm, hL, ⟨z, hz, hzc⟩, ginv_put (t := t) hT rfl hsame ?_ ?_⟩
      · rw [goK_in hn]; exact hk
      · refine atc ?_ ?_
        · rw [goK_in hn]
        · rw [goK_in hn]; exact hst
    | sleep a' =>
      have hn := hnext (fun w v q => by cases q)
      refine ⟨log, (List.append_nil _).symm, (List.append_nil _).symm, hL, ⟨z, hz, hzc⟩, ginv_put (t := t) hT rfl hsame ?_ ?_⟩
      · rw [goK_in hn]; exact hk
      · refine atc ?_ ?_
        · rw [goK_in hn]
        · rw [goK_in hn]; exact hst.2
    | wake a' k =>
      have hn := hnext (fun w v q => by cases q)
      refine ⟨log, (List.append_nil _).symm, (List.append_nil _).symm, hL, ⟨z, hz, hzc⟩, ginv_put (t := t) hT rfl hsame ?_ ?_⟩
      · rw [goK_in hn]; exact hk
      · refine atc ?_ ?_
        · rw [goK_in hn]
        · rw [goK_in hn]; exact hst.2
    | say w v =>
      have e1 := hsayj w v rfl
      obtain ⟨rfl, hans⟩ := hst
      have hno : ¬ (S.th t).j + 1 < (gather0 c).length := by omega
      refine ⟨log ++ [.say t s v], by rw [actsL_snoc]; rfl, by rw [evsL_snoc]; rfl, LogOK.say hL ht (by rw [← hk]; exact hc) hwhen h0 hans, ⟨z, hz, hzc⟩, ginv_put (t := t) hT rfl ?_ ?_ ?_⟩
      · exact fun u hu => cur_other (fun _ _ _ _ _ q => by cases q) (fun t' _ _ q => by injection q with q; rw [← q]; exact Ne.symm hu)
      · rw [goK_out hno, (cur_say t s v).2, List.length_append, ← hk]
        rfl
      · intro d q
        rw [goK_out hno, (cur_say t s v).1]
        exact atG_zero d rfl
theorem ginv_poke (h : GInv n calls w0 S a e) (t : Nat) : GInv n calls w0 (pokeK t S) a e := h
theorem ginv_new {c0 : Nat → Int} {x : PhS} (hx : x.ok) (hc : c0 0 = x.word) : GInv n calls (c0 0) (newK c0) [] [] :=
  ⟨[], rfl, rfl, .nil, ⟨x, hx, hc⟩, fun t ht => ⟨rfl, fun c _ => atG_zero c rfl⟩⟩
end
end Go.Proofs.YtdhlmgoodpepeaaGreatDoor
