/-
  n threads that all do one straight program on one cell: what is fetched, lost, won. All go on, over and over, till none can. Programs of barriers may be. A barrier's machine behind whatever was done; what follows for each law. The judge, as the program hears.
-/
import Derived.Test.YtdhlmgoodpepeaaGreatDoorQH3
import Derived.Test.YtdhlmgoodpepeaaGreatDoorQH
namespace Go.Proofs.YtdhlmgoodpepeaaGreatDoor
set_option maxRecDepth 100000
set_option linter.unusedVariables false
set_option linter.unusedSimpArgs false

/-- What an instruction of a straight program does. -/
def easy : Eff → Bool
  | .set _ _ => true
  | .mem c _ _ => c == 0
  | .next => true
  | .say _ _ => true
  | _ => false
/-- One line behind the other, and Halt at last; one cell. -/
structure Straight (p : List Ins5) : Prop where
  pos : 0 < p.length
  few : p.length ≤ 100
  easy : ∀ k regs cells, k + 1 < p.length → cells.length = 1 → easy (eff (p.getD k default) regs cells) = true
  halt : ∀ regs cells, eff (p.getD (p.length - 1) default) regs cells = .halt

def atN (m : Mach) (t : Nat) : Nat := (m.at_.getD t 0).toNat
structure RBase (p : List Ins5) (n : Nat) (m : Mach) : Prop where
  progs : m.progs = List.replicate n p
  la : m.at_.length = n
  le : m.ended.length = n
  lr : m.regs.length = n
  lc : m.cells.length = 1
  lot : m.lot = []
  at_ : ∀ t, t < n → m.at_.getD t 0 = atN m t ∧ atN m t < p.length ∧ (m.ended.getD t false = true → atN m t + 1 = p.length)
  regs : ∀ t, t < n → (m.regs.getD t []).length = 8
  steps : m.steps = sumN n fun t => atN m t + if m.ended.getD t false = true then 1 else 0

section
variable {p : List Ins5} {n : Nat} {m : Mach} {t : Nat}

theorem RBase.prog (h : RBase p n m) (ht : t < n) : m.progs.getD t [] = p := by
  rw [h.progs, List.getD_eq_getElem?_getD, List.getElem?_replicate, if_pos ht]
  rfl
theorem RBase.ins (h : RBase p n m) (ht : t < n) : insOf m t = p.getD (atN m t) default := by
  unfold insOf
  rw [h.prog ht]
  rfl
theorem RBase.few (h : RBase p n m) (hp : Straight p) (hn : n ≤ 16) : m.steps < 20000 := by
  rw [h.steps]
  have : sumN n (fun t => atN m t + if m.ended.getD t false = true then 1 else 0) ≤ sumN n fun _ => 100 := sumN_le fun u hu => by
    have := (h.at_ u hu).2
    have := hp.few
    split <;> omega
  rw [sumN_const] at this
  have : n * 100 ≤ 16 * 100 := Nat.mul_le_mul_right _ hn
  omega
theorem RBase.step_is (h : RBase p n m) (hp : Straight p) (hn : n ≤ 16) (ht : t < n) (he : m.ended.getD t false = false) : (stepM 20000 m t).2 = doEff m t (insOf m t).1 (effAt m t) := by
  unfold stepM
  rw [if_neg (by rw [h.progs]; simp; omega), if_neg (by rw [Int.toNat_natCast, he]; decide), if_neg (by unfold asleepM; rw [h.lot]; simp), if_neg (by have := h.few hp hn; omega)]
  rfl
theorem getD_set_self {α : Type} {l : List α} {i : Nat} {a d : α} (h : i < l.length) : (l.set i a).getD i d = a := by
  rw [List.getD_eq_getElem?_getD, List.getElem?_set_self h]
  rfl
theorem getD_set_otherK {α : Type} {l : List α} {i j : Nat} {a d : α} (h : i ≠ j) : (l.set i a).getD j d = l.getD j d := by
  rw [List.getD_eq_getElem?_getD, List.getD_eq_getElem?_getD, List.getElem?_set_ne h]

/-- A step of who isn't at its end: one line on, or the end. -/
theorem RBase.step (h : RBase p n m) (hp : Straight p) (hn : n ≤ 16) (ht : t < n) (he : m.ended.getD t false = false) :
    RBase p n (stepM 20000 m t).2 ∧ (stepM 20000 m t).2.steps = m.steps + 1 ∧ (∀ u, u ≠ t → atN (stepM 20000 m t).2 u = atN m u ∧ (stepM 20000 m t).2.ended.getD u false = m.ended.getD u false ∧ (stepM 20000 m t).2.regs.getD u [] = m.regs.getD u []) ∧
    ((atN m t + 1 < p.length ∧ atN (stepM 20000 m t).2 t = atN m t + 1 ∧ (stepM 20000 m t).2.ended.getD t false = false) ∨ (atN m t + 1 = p.length ∧ atN (stepM 20000 m t).2 t = atN m t ∧ (stepM 20000 m t).2.ended.getD t false = true)) := by
  rw [h.step_is hp hn ht he]
  obtain ⟨a1, a2, a3⟩ := h.at_ t ht
  have heff : effAt m t = eff (p.getD (atN m t) default) (m.regs.getD t []) m.cells := by unfold effAt; rw [h.ins ht]
  have hone : ∀ m' : Mach, m'.progs = m.progs → m'.at_ = m.at_.set t (m.at_.getD t 0 + 1) → m'.ended = m.ended → m'.regs.length = n → (∀ u, u < n → (m'.regs.getD u []).length = 8) → (∀ u, u ≠ t → m'.regs.getD u [] = m.regs.getD u []) → m'.cells.length = 1 → m'.lot = m.lot → m'.steps = m.steps + 1 → atN m t + 1 < p.length →
      RBase p n m' ∧ m'.steps = m.steps + 1 ∧ (∀ u, u ≠ t → atN m' u = atN m u ∧ m'.ended.getD u false = m.ended.getD u false ∧ m'.regs.getD u [] = m.regs.getD u []) ∧ ((atN m t + 1 < p.length ∧ atN m' t = atN m t + 1 ∧ m'.ended.getD t false = false) ∨ (atN m t + 1 = p.length ∧ atN m' t = atN m t ∧ m'.ended.getD t false = true)) := fun m' e1 e2 e3 e4 e5 e6 e7 e8 e9 hlt => by
    have hat : ∀ u, u ≠ t → atN m' u = atN m u := fun u hu => by unfold atN; rw [e2, getD_set_otherK (Ne.symm hu)]
    have hatt : atN m' t = atN m t + 1 := by unfold atN at a1 ⊢; rw [e2, getD_set_self (by rw [h.la]; exact ht)]; omega
    refine ⟨⟨e1.trans h.progs, by rw [e2, List.length_set]; exact h.la, by rw [e3]; exact h.le, e4, e7, e8.trans h.lot, fun u hu => ?_, e5, ?_⟩, e9, fun u hu => ⟨hat u hu, by rw [e3], e6 u hu⟩, .inl ⟨hlt, hatt, by rw [e3]; exact he⟩⟩
    · by_cases hut : u = t
      · subst hut
        refine ⟨?_, by rw [hatt]; exact hlt, fun e => ?_⟩
        · rw [hatt, e2, getD_set_self (by rw [h.la]; exact ht), a1]
          omega
        · rw [e3, he] at e
          cases e
      · obtain ⟨b1, b2, b3⟩ := h.at_ u hu
        refine ⟨?_, by rw [hat u hut]; exact b2, by rw [hat u hut, e3]; exact b3⟩
        rw [hat u hut, e2, getD_set_otherK (Ne.symm hut)]
        exact b1
    · rw [e9, h.steps]
      refine (sumN_at ht (fun u hu hne => ?_) ?_).symm
      · rw [hat u hne, e3]
      · rw [hatt, e3, he]
        simp
  by_cases hlt : atN m t + 1 < p.length
  · have hez := hp.easy (atN m t) (m.regs.getD t []) m.cells hlt h.lc
    rw [← heff] at hez
    cases hE : effAt m t with
    | set r v =>
      refine hone _ rfl rfl rfl (by show (m.regs.set t _).length = n; rw [List.length_set]; exact h.lr) (fun u hu => ?_) (fun u hu => getD_set_otherK (Ne.symm hu)) h.lc rfl rfl hlt
      show ((m.regs.set t ((m.regs.getD t []).set r v)).getD u []).length = 8
      by_cases e : u = t
      · subst e; rw [getD_set_self (by rw [h.lr]; exact ht), List.length_set]; exact h.regs u hu
      · rw [getD_set_otherK (Ne.symm e)]; exact h.regs u hu
    | mem c now r =>
      cases r with
      | none => exact hone _ rfl rfl rfl h.lr h.regs (fun _ _ => rfl) (by show (m.cells.set c now).length = 1; rw [List.length_set]; exact h.lc) rfl rfl hlt
      | some rv =>
        refine hone _ rfl rfl rfl (by show (m.regs.set t _).length = n; rw [List.length_set]; exact h.lr) (fun u hu => ?_) (fun u hu => getD_set_otherK (Ne.symm hu)) (by show (m.cells.set c now).length = 1; rw [List.length_set]; exact h.lc) rfl rfl hlt
        show ((m.regs.set t ((m.regs.getD t []).set rv.1 rv.2)).getD u []).length = 8
        by_cases e : u = t
        · subst e; rw [getD_set_self (by rw [h.lr]; exact ht), List.length_set]; exact h.regs u hu
        · rw [getD_set_otherK (Ne.symm e)]; exact h.regs u hu
    | next => exact hone _ rfl rfl rfl h.lr h.regs (fun _ _ => rfl) h.lc rfl rfl hlt
    | say w v => exact hone _ rfl rfl rfl h.lr h.regs (fun _ _ => rfl) h.lc rfl rfl hlt
    | _ => rw [hE] at hez; cases hez
  · have hlen : atN m t = p.length - 1 := by omega
    have hE : effAt m t = .halt := by rw [heff, hlen]; exact hp.halt _ _
    rw [hE]
    have hat : ∀ u, atN (doEff m t (insOf m t).1 .halt) u = atN m u := fun u => rfl
    have hen : ∀ u, u ≠ t → (doEff m t (insOf m t).1 .halt).ended.getD u false = m.ended.getD u false := fun u hu => getD_set_otherK (Ne.symm hu)
    have hent : (doEff m t (insOf m t).1 .halt).ended.getD t false = true := getD_set_self (by rw [h.le]; exact ht)
    refine ⟨⟨h.progs, h.la, by show (m.ended.set t true).length = n; rw [List.length_set]; exact h.le, h.lr, h.lc, h.lot, fun u hu => ?_, h.regs, ?_⟩, rfl, fun u hu => ⟨rfl, hen u hu, rfl⟩, .inr ⟨by omega, rfl, hent⟩⟩
    · obtain ⟨b1, b2, b3⟩ := h.at_ u hu
      refine ⟨b1, b2, fun e => ?_⟩
      by_cases hut : u = t
      · subst hut; rw [hat]; omega
      · rw [hen u hut] at e; exact b3 e
    · show m.steps + 1 = _
      rw [h.steps]
      refine (sumN_at ht (fun u hu hne => ?_) ?_).symm
      · rw [hen u hne, hat]
      · rw [hent, he, hat]
        simp

end
end Go.Proofs.YtdhlmgoodpepeaaGreatDoor

namespace Go.Proofs.YtdhlmgoodpepeaaGreatDoor
set_option maxRecDepth 100000
set_option linter.unusedVariables false
set_option linter.unusedSimpArgs false

/-! Of all that fetch and add one each finds another number. -/

end Go.Proofs.YtdhlmgoodpepeaaGreatDoor

namespace Go.Proofs.YtdhlmgoodpepeaaGreatDoor
set_option maxRecDepth 100000
set_option linter.unusedVariables false
set_option linter.unusedSimpArgs false

/-! What is loaded, and stored, may be lost. -/

end Go.Proofs.YtdhlmgoodpepeaaGreatDoor

namespace Go.Proofs.YtdhlmgoodpepeaaGreatDoor
set_option maxRecDepth 100000
set_option linter.unusedVariables false
set_option linter.unusedSimpArgs false

/-! One wins. -/

end Go.Proofs.YtdhlmgoodpepeaaGreatDoor

namespace Go.Proofs.YtdhlmgoodpepeaaGreatDoor
set_option maxRecDepth 100000
set_option linter.unusedVariables false
set_option linter.unusedSimpArgs false

/-! All go on, over and over, till none can. -/
/-- Once around. -/
def roundM (m : Mach) : Mach := sweepM (List.range m.progs.length) m
/-- What is left when nobody goes on: so many times around. -/
def Fin (m m' : Mach) : Prop := ∃ k, m' = sweepM (List.replicate k (List.range m.progs.length)).flatten m ∧ roundM m' = m'

theorem sweepM_append (l r : List Nat) (m : Mach) : sweepM (l ++ r) m = sweepM r (sweepM l m) := by unfold sweepM; rw [List.foldl_append]
theorem stepM_mono (m : Mach) (t : Int) : m.steps ≤ (stepM 20000 m t).2.steps := by rw [stepM_steps]; omega
theorem stepM_same {m : Mach} {t : Int} (h : (stepM 20000 m t).2.steps = m.steps) : (stepM 20000 m t).2 = m := by
  rcases stepM_cases 20000 m t with ⟨c, e, _⟩ | h2
  · rw [e]
  · exfalso
    have h3 := stepM_steps 20000 m t
    obtain ⟨k, h2⟩ := h2
    rw [h] at h3
    have : (stepM 20000 m t).1 = 0 ∨ (stepM 20000 m t).1 = 13 := by
      obtain ⟨_, _, _, _, e⟩ := h2
      first | (rw [e]; exact errEff_done _) | skip
    rw [if_pos this] at h3
    omega
theorem sweepM_mono : ∀ (l : List Nat) (m : Mach), m.steps ≤ (sweepM l m).steps
  | [], m => Nat.le_refl _
  | t :: l, m => Nat.le_trans (stepM_mono m t) (sweepM_mono l _)
theorem sweepM_same : ∀ {l : List Nat} {m : Mach}, (sweepM l m).steps = m.steps → sweepM l m = m
  | [], m, _ => rfl
  | t :: l, m, h => by
    have h1 := stepM_mono m t
    have h2 := sweepM_mono l (stepM 20000 m t).2
    have h3 : (sweepM l (stepM 20000 m t).2).steps = m.steps := h
    have e := stepM_same (m := m) (t := t) (by omega)
    show sweepM l (stepM 20000 m t).2 = m
    rw [e] at h3 ⊢
    exact sweepM_same h3
theorem sweepM_progs : ∀ (l : List Nat) (m : Mach), (sweepM l m).progs = m.progs
  | [], m => rfl
  | t :: l, m => by
    show (sweepM l (stepM 20000 m t).2).progs = _
    rw [sweepM_progs l, stepM_progs]
theorem Fin.progs {m m' : Mach} (h : Fin m m') : m'.progs = m.progs := by
  obtain ⟨k, rfl, _⟩ := h
  exact sweepM_progs _ _
theorem Fin.steps {m m' : Mach} (h : Fin m m') : m.steps ≤ m'.steps := by
  obtain ⟨k, rfl, _⟩ := h
  exact sweepM_mono _ _
/-- FINISHED IS FINISHED. -/
theorem Fin.again {m m' m2 : Mach} (h : Fin m m') (h2 : Fin m' m2) : m2 = m' := by
  obtain ⟨_, _, hr⟩ := h
  obtain ⟨k, rfl, _⟩ := h2
  have : ∀ k, sweepM (List.replicate k (List.range m'.progs.length)).flatten m' = m' := by
    intro k
    induction k with
    | zero => rfl
    | succ k ih =>
      rw [List.replicate_succ, List.flatten_cons, sweepM_append]
      have e : sweepM (List.range m'.progs.length) m' = m' := hr
      rw [e, ih]
  exact this k

section
variable {ops : Nat → List BOp} {n nc rounds : Nat} {K : Kind ops n nc rounds} {p : Nat} {S : BS} {m m' : Mach}
end
end Go.Proofs.YtdhlmgoodpepeaaGreatDoor

namespace Go.Proofs.YtdhlmgoodpepeaaGreatDoor
set_option maxRecDepth 100000
set_option linter.unusedVariables false
set_option linter.unusedSimpArgs false

/-! Programs that may be. -/
end Go.Proofs.YtdhlmgoodpepeaaGreatDoor

namespace Go.Proofs.YtdhlmgoodpepeaaGreatDoor
set_option maxRecDepth 100000
set_option linter.unusedVariables false
set_option linter.unusedSimpArgs false

/-! A barrier's machine behind whatever was done: so many were woken for nothing; what follows for each law. -/

structure Dims (k n rounds : Nat) : Prop where
  k1 : 1 ≤ k
  k6 : k ≤ 6
  n1 : 1 ≤ n
  n16 : n ≤ 16
  r6 : rounds ≤ 6
/-- Behind so many wakes for nothing. -/
def Dn (k n rounds p : Nat) (m : Mach) : Prop := ∃ K S, KOK k n rounds K ∧ Ran K p S m
/-- And all are at their ends. -/
def DnE (k n rounds p : Nat) (m : Mach) : Prop := ∃ K S, KOK k n rounds K ∧ Ran K p S m ∧ Done n S

section
variable {k n rounds p : Nat} {m m' : Mach}
theorem DnE.dn (h : DnE k n rounds p m) : Dn k n rounds p m := by
  obtain ⟨K, S, a, b, _⟩ := h
  exact ⟨K, S, a, b⟩
theorem Dn.ok (h : Dn k n rounds p m) : OkEv n m.events := by
  obtain ⟨K, S, hK, hR⟩ := h
  exact hR.ev.ok
theorem Dn.cnt (h : Dn k n rounds p m) {t : Nat} (ht : t < n) : cntEv m.events t ≤ 2 * rounds := by
  obtain ⟨K, S, hK, hR⟩ := h
  exact ran_cnt hR ht
theorem Dn.plen (h : Dn k n rounds p m) : m.progs.length = n := by
  obtain ⟨K, S, hK, hR⟩ := h
  exact hR.sim.plen
theorem Dn.steps (d : Dims k n rounds) (h : Dn k n rounds p m) (hp : p ≤ 900) : m.steps < 20000 := by
  obtain ⟨K, S, hK, hR⟩ := h
  exact hR.steps_lt (hK.purse d.k1 d.k6 d.n1 d.n16 d.r6 hp)
/-- DanceOrder. -/
theorem Dn.order (n1 : 1 ≤ n) (h : Dn k n rounds p m) : judgeP n [] m.events = none ∧ jAll n m.events ≤ jAny n m.events ∧ jAny n m.events ≤ jAll n m.events + 2 ∧ jAny n m.events ≤ rounds := by
  obtain ⟨a, b⟩ := judge_rounds (n := n) (by omega) h.ok
  exact ⟨judge_ok.2 h.ok, a, b, maxN_le fun t ht => by have := h.cnt ht; omega⟩
theorem DnE.cnt (h : DnE k n rounds p m) {t : Nat} (ht : t < n) : cntEv m.events t = 2 * rounds := by
  obtain ⟨K, S, hK, hR, hD⟩ := h
  exact ran_done_cnt hR hD ht
theorem DnE.len (h : DnE k n rounds p m) : m.events.length = 2 * n * rounds := by
  obtain ⟨K, S, hK, hR, hD⟩ := h
  exact ran_done_len hR hD
theorem DnE.ended (h : DnE k n rounds p m) {t : Nat} (ht : t < n) : m.ended.getD t false = true := by
  obtain ⟨K, S, hK, hR, hD⟩ := h
  exact ran_done_ended hR hD ht
theorem DnE.both (n1 : 1 ≤ n) (h : DnE k n rounds p m) : jAll n m.events = rounds ∧ jAny n m.events = rounds := jAll_same (by omega) fun t ht => h.cnt ht
theorem DnE.leaves (h : DnE k n rounds p m) : m.cells = (List.range (kCells k n)).map fun c => (kLeaf k n rounds c : Int) := by
  obtain ⟨K, S, hK, hR, hD⟩ := h
  exact ran_leaves hK hR hD
/-- DanceGoes. -/
theorem Dn.goes (h : Dn k n rounds p m) : (∃ t, t < n ∧ m.ended.getD t false = false ∧ asleepM m t = false) ∨ ∀ t, t < n → m.ended.getD t false = true := by
  obtain ⟨K, S, hK, hR⟩ := h
  exact ran_goes hR
/-- DanceSame. -/
theorem DnE.said (h : DnE k n rounds p m) {t : Nat} (ht : t < n) : saidBy m.events t = (List.range (2 * rounds)).map fun k => (((1 + k % 2 : Nat) : Int), ((1 + k / 2 : Nat) : Int)) := by
  rw [h.dn.ok.said t, h.cnt ht]
end

/-! Once all are at their ends, nothing goes on. -/
end Go.Proofs.YtdhlmgoodpepeaaGreatDoor

namespace Go.Proofs.YtdhlmgoodpepeaaGreatDoor
set_option maxRecDepth 100000
set_option linter.unusedVariables false
set_option linter.unusedSimpArgs false

/-! The judge, as the program hears: how often each said something. -/
def timesL (n : Nat) (a : List Ev4) : List Int := (List.range n).map fun t => (cntEv a t : Int)
theorem timesL_len (n : Nat) (a : List Ev4) : (timesL n a).length = n := by unfold timesL; simp
theorem timesL_at {n t : Nat} (a : List Ev4) (ht : t < n) : (timesL n a).getD t 0 = (cntEv a t : Int) := by
  unfold timesL
  rw [List.getD_eq_getElem?_getD, List.getElem?_map, List.getElem?_range ht]
  rfl
theorem timesL_nil (n : Nat) : timesL n [] = List.replicate n 0 := by
  unfold timesL
  refine List.ext_getElem (by simp) fun i h1 h2 => ?_
  simp [cntEv]
theorem cnt_more (a : List Ev4) (e : Ev4) (t : Nat) (he : e.2.2.1 = (t : Int)) (u : Nat) : cntEv (a ++ [e]) u = cntEv a u + if u = t then 1 else 0 := by
  obtain ⟨x, y, z, v⟩ := e
  dsimp only at he
  subst he
  rw [cntEv_append, cntEv_one]
theorem timesL_snoc {n t : Nat} (a : List Ev4) (e : Ev4) (ht : t < n) (he : e.2.2.1 = (t : Int)) : timesL n (a ++ [e]) = (timesL n a).set t ((cntEv a t : Int) + 1) := by
  refine List.ext_getElem (by rw [List.length_set, timesL_len, timesL_len]) fun j h1 h2 => ?_
  have h3 : j < n := by rw [timesL_len] at h1; exact h1
  have a1 : ∀ a, (timesL n a)[j]'(by rw [timesL_len]; exact h3) = (cntEv a j : Int) := fun a => by unfold timesL; simp
  rw [List.getElem_set, a1, cnt_more a e t he j]
  by_cases e1 : t = j
  · subst e1
    rw [if_pos rfl, if_pos rfl]
    rfl
  · rw [if_neg e1, a1, if_neg (fun h => e1 h.symm)]
    rfl
theorem cntEv_len (a : List Ev4) (t : Nat) : cntEv a t ≤ a.length := by unfold cntEv; exact List.length_filter_le _ _

theorem minN_more (f : Nat → Nat) {k : Nat} (hk : 1 ≤ k) : minN f (k + 1) = min (minN f k) (f k) := by
  obtain ⟨j, rfl⟩ : ∃ j, k = j + 1 := ⟨k - 1, by omega⟩
  rfl
theorem maxN_more (f : Nat → Nat) (k : Nat) : maxN f (k + 1) = max (maxN f k) (f k) := rfl
theorem minN_map {f g : Nat → Nat} (hg : ∀ x y, x ≤ y → g x ≤ g y) : ∀ {n}, 0 < n → minN (fun t => g (f t)) n = g (minN f n)
  | 1, _ => rfl
  | n + 2, _ => by
    rw [minN, minN, minN_map hg (by omega)]
    rcases Nat.le_total (minN f (n + 1)) (f (n + 1)) with h | h
    · rw [Nat.min_eq_left h, Nat.min_eq_left (hg _ _ h)]
    · rw [Nat.min_eq_right h, Nat.min_eq_right (hg _ _ h)]
theorem maxN_map {f g : Nat → Nat} (g0 : g 0 = 0) (hg : ∀ x y, x ≤ y → g x ≤ g y) : ∀ n, maxN (fun t => g (f t)) n = g (maxN f n)
  | 0 => g0.symm
  | n + 1 => by
    rw [maxN, maxN, maxN_map g0 hg n]
    rcases Nat.le_total (maxN f n) (f n) with h | h
    · rw [Nat.max_eq_right h, Nat.max_eq_right (hg _ _ h)]
    · rw [Nat.max_eq_left h, Nat.max_eq_left (hg _ _ h)]
theorem jAll_min {n : Nat} (n1 : 0 < n) (l : List Ev4) : jAll n l = minN (cntEv l) n / 2 := minN_map (f := cntEv l) (g := fun x => x / 2) (fun x y h => by show x / 2 ≤ y / 2; omega) n1
theorem jAny_max (n : Nat) (l : List Ev4) : jAny n l = (maxN (cntEv l) n + 1) / 2 := maxN_map (f := cntEv l) (g := fun x => (x + 1) / 2) rfl (fun x y h => by show (x + 1) / 2 ≤ (y + 1) / 2; omega) n
theorem minN_len {n : Nat} (n1 : 0 < n) (l : List Ev4) : minN (cntEv l) n ≤ l.length := Nat.le_trans (minN_le _ n1) (cntEv_len l 0)
theorem maxN_len (n : Nat) (l : List Ev4) : maxN (cntEv l) n ≤ l.length := maxN_le fun t _ => cntEv_len l t

/-! What is wrong with an event, as the program asks. -/
section
variable {n : Nat} {a : List Ev4} {e : Ev4}
theorem jErr_arg (h1 : e.2.1 ≠ 1) (h2 : e.2.1 ≠ 2) : jErr n a e = 1 := by unfold jErr; rw [if_pos ⟨h1, h2⟩]
theorem jErr_range (h1 : e.2.1 = 1 ∨ e.2.1 = 2) (h2 : e.2.2.1 < 0 ∨ (n : Int) ≤ e.2.2.1) : jErr n a e = 2 := by
  unfold jErr
  rw [if_neg (by omega), if_pos h2]
theorem jErr_order {t : Nat} (h1 : e.2.1 = 1 ∨ e.2.1 = 2) (ht : t < n) (he : e.2.2.1 = (t : Int)) (h3 : e.2.1 ≠ ((1 + cntEv a t % 2 : Nat) : Int) ∨ e.2.2.2 ≠ ((cntEv a t / 2 + 1 : Nat) : Int)) : jErr n a e = 10 := by
  unfold jErr
  rw [he, Int.toNat_natCast, if_neg (by omega), if_neg (by omega), if_pos (by rw [Nat.add_comm 1 (cntEv a t / 2)]; exact h3)]
theorem jErr_false {t : Nat} (ht : t < n) (he : e.2.2.1 = (t : Int)) (h3 : e.2.1 = ((1 + cntEv a t % 2 : Nat) : Int)) (h4 : e.2.2.2 = ((cntEv a t / 2 + 1 : Nat) : Int)) : jErr n a e = if e.2.1 = 2 ∧ (minN (cntEv a) n + 1) / 2 < cntEv a t / 2 + 1 then 13 else 0 := by
  unfold jErr
  rw [he, Int.toNat_natCast, if_neg (by omega), if_neg (by omega), if_neg (by rw [Nat.add_comm 1 (cntEv a t / 2)]; omega)]
  have hn : 0 < n := by omega
  by_cases h2 : e.2.1 = 2
  · have hk : cntEv a t % 2 = 1 := by omega
    have : (∃ u, u < n ∧ cntEv a u < cntEv a t) ↔ (minN (cntEv a) n + 1) / 2 < cntEv a t / 2 + 1 := by
      constructor
      · rintro ⟨u, hu, h⟩
        have := minN_le (cntEv a) hu
        omega
      · intro h
        obtain ⟨u, hu, e⟩ := minN_at (cntEv a) hn
        exact ⟨u, hu, by omega⟩
    simp only [this]
  · rw [if_neg (fun h => h2 h.1), if_neg (fun h => h2 h.1)]
/-- What is right of the beginning, and what is wrong behind it. -/
theorem judge_step (i : Nat) (l : List Ev4) (hi : i < l.length) (x : Ev4) (hx : l.getD i default = x) : judgeP n (l.take i) (l.drop i) = if jErr n (l.take i) x = 0 then judgeP n (l.take (i + 1)) (l.drop (i + 1)) else some (jErr n (l.take i) x, i) := by
  have e : l.drop i = x :: l.drop (i + 1) := by
    rw [← hx, List.getD_eq_getElem?_getD, List.getElem?_eq_getElem hi, List.drop_eq_getElem_cons hi]
    rfl
  have e2 : l.take (i + 1) = l.take i ++ [x] := by
    rw [← hx, List.getD_eq_getElem?_getD, List.getElem?_eq_getElem hi, List.take_add_one, List.getElem?_eq_getElem hi]
    rfl
  rw [e, judgeP, e2]
  simp [Nat.min_eq_left (Nat.le_of_lt hi)]
theorem judge_end (l : List Ev4) : judgeP n (l.take l.length) (l.drop l.length) = none := by rw [List.drop_length]; rfl
end
theorem jErr_zero_thread {n : Nat} {a : List Ev4} {e : Ev4} (h : jErr n a e = 0) : ∃ t : Nat, t < n ∧ e.2.2.1 = (t : Int) := by
  unfold jErr at h
  split at h
  · cases h
  · split at h
    · cases h
    · next h2 => exact ⟨e.2.2.1.toNat, by omega, by omega⟩
end Go.Proofs.YtdhlmgoodpepeaaGreatDoor
