/-
  n threads that all do one straight program on one cell: what is fetched, lost, won.
-/
import Derived.Test.YtkhaeabbbhfloaaDoorQH3
namespace Go.Proofs.YtkhaeabbbhfloaaDoor
set_option maxRecDepth 100000
set_option linter.unusedVariables false
set_option linter.unusedSimpArgs false

/-- What an instruction of a straight program does. -/
def easy : Eff → Bool
  | .set _ _ => true
  | .mem c _ _ => c == 0
  | .next => true
  | .say _ _ => true
  | _ => false
/-- One line behind the other, and Halt at last; one cell. -/
structure Straight (p : List Ins5) : Prop where
  pos : 0 < p.length
  few : p.length ≤ 100
  easy : ∀ k regs cells, k + 1 < p.length → cells.length = 1 → easy (eff (p.getD k default) regs cells) = true
  halt : ∀ regs cells, eff (p.getD (p.length - 1) default) regs cells = .halt

def atN (m : Mach) (t : Nat) : Nat := (m.at_.getD t 0).toNat
structure RBase (p : List Ins5) (n : Nat) (m : Mach) : Prop where
  progs : m.progs = List.replicate n p
  la : m.at_.length = n
  le : m.ended.length = n
  lr : m.regs.length = n
  lc : m.cells.length = 1
  lot : m.lot = []
  at_ : ∀ t, t < n → m.at_.getD t 0 = atN m t ∧ atN m t < p.length ∧ (m.ended.getD t false = true → atN m t + 1 = p.length)
  regs : ∀ t, t < n → (m.regs.getD t []).length = 8
  steps : m.steps = sumN n fun t => atN m t + if m.ended.getD t false = true then 1 else 0

section
variable {p : List Ins5} {n : Nat} {m : Mach} {t : Nat}

theorem RBase.prog (h : RBase p n m) (ht : t < n) : m.progs.getD t [] = p := by
  rw [h.progs, List.getD_eq_getElem?_getD, List.getElem?_replicate, if_pos ht]
  rfl
theorem RBase.ins (h : RBase p n m) (ht : t < n) : insOf m t = p.getD (atN m t) default := by
  unfold insOf
  rw [h.prog ht]
  rfl
theorem RBase.few (h : RBase p n m) (hp : Straight p) (hn : n ≤ 16) : m.steps < 20000 := by
  rw [h.steps]
  have : sumN n (fun t => atN m t + if m.ended.getD t false = true then 1 else 0) ≤ sumN n fun _ => 100 := sumN_le fun u hu => by
    have := (h.at_ u hu).2
    have := hp.few
    split <;> omega
  rw [sumN_const] at this
  have : n * 100 ≤ 16 * 100 := Nat.mul_le_mul_right _ hn
  omega
theorem RBase.step_is (h : RBase p n m) (hp : Straight p) (hn : n ≤ 16) (ht : t < n) (he : m.ended.getD t false = false) : (stepM 20000 m t).2 = doEff m t (insOf m t).1 (effAt m t) := by
  unfold stepM
  rw [if_neg (by rw [h.progs]; simp; omega), if_neg (by rw [Int.toNat_natCast, he]; decide), if_neg (by unfold asleepM; rw [h.lot]; simp), if_neg (by have := h.few hp hn; omega)]
  rfl
theorem getD_set_self {α : Type} {l : List α} {i : Nat} {a d : α} (h : i < l.length) : (l.set i a).getD i d = a := by
  rw [List.getD_eq_getElem?_getD, List.getElem?_set_self h]
  rfl
theorem getD_set_otherK {α : Type} {l : List α} {i j : Nat} {a d : α} (h : i ≠ j) : (l.set i a).getD j d = l.getD j d := by
  rw [List.getD_eq_getElem?_getD, List.getD_eq_getElem?_getD, List.getElem?_set_ne h]

/-- A step of who isn't at its end: one line on, or the end. -/
theorem RBase.step (h : RBase p n m) (hp : Straight p) (hn : n ≤ 16) (ht : t < n) (he : m.ended.getD t false = false) :
    RBase p n (stepM 20000 m t).2 ∧ (stepM 20000 m t).2.steps = m.steps + 1 ∧ (∀ u, u ≠ t → atN (stepM 20000 m t).2 u = atN m u ∧ (stepM 20000 m t).2.ended.getD u false = m.ended.getD u false ∧ (stepM 20000 m t).2.regs.getD u [] = m.regs.getD u []) ∧
    ((atN m t + 1 < p.length ∧ atN (stepM 20000 m t).2 t = atN m t + 1 ∧ (stepM 20000 m t).2.ended.getD t false = false) ∨ (atN m t + 1 = p.length ∧ atN (stepM 20000 m t).2 t = atN m t ∧ (stepM 20000 m t).2.ended.getD t false = true)) := by
  rw [h.step_is hp hn ht he]
  obtain ⟨a1, a2, a3⟩ := h.at_ t ht
  have heff : effAt m t = eff (p.getD (atN m t) default) (m.regs.getD t []) m.cells := by unfold effAt; rw [h.ins ht]
  have hone : ∀ m' : Mach, m'.progs = m.progs → m'.at_ = m.at_.set t (m.at_.getD t 0 + 1) → m'.ended = m.ended → m'.regs.length = n → (∀ u, u < n → (m'.regs.getD u []).length = 8) → (∀ u, u ≠ t → m'.regs.getD u [] = m.regs.getD u []) → m'.cells.length = 1 → m'.lot = m.lot → m'.steps = m.steps + 1 → atN m t + 1 < p.length →
      RBase p n m' ∧ m'.steps = m.steps + 1 ∧ (∀ u, u ≠ t → atN m' u = atN m u ∧ m'.ended.getD u false = m.ended.getD u false ∧ m'.regs.getD u [] = m.regs.getD u []) ∧ ((atN m t + 1 < p.length ∧ atN m' t = atN m t + 1 ∧ m'.ended.getD t false = false) ∨ (atN m t + 1 = p.length ∧ atN m' t = atN m t ∧ m'.ended.getD t false = true)) := fun m' e1 e2 e3 e4 e5 e6 e7 e8 e9 hlt => by
    have hat : ∀ u, u ≠ t → atN m' u = atN m u := fun u hu => by unfold atN; rw [e2, getD_set_otherK (Ne.symm hu)]
    have hatt : atN m' t = atN m t + 1 := by unfold atN at a1 ⊢; rw [e2, getD_set_self (by rw [h.la]; exact ht)]; omega
    refine ⟨⟨e1.trans h.progs, by rw [e2, List.length_set]; exact h.la, by rw [e3]; exact h.le, e4, e7, e8.trans h.lot, fun u hu => ?_, e5, ?_⟩, e9, fun u hu => ⟨hat u hu, by rw [e3], e6 u hu⟩, .inl ⟨hlt, hatt, by rw [e3]; exact he⟩⟩
    · by_cases hut : u = t
      · subst hut
        refine ⟨?_, by rw [hatt]; exact hlt, fun e => ?_⟩
        · rw [hatt, e2, getD_set_self (by rw [h.la]; exact ht), a1]
          omega
        · rw [e3, he] at e
          cases e
      · obtain ⟨b1, b2, b3⟩ := h.at_ u hu
        refine ⟨?_, by rw [hat u hut]; exact b2, by rw [hat u hut, e3]; exact b3⟩
        rw [hat u hut, e2, getD_set_otherK (Ne.symm hut)]
        exact b1
    · rw [e9, h.steps]
      refine (sumN_at ht (fun u hu hne => ?_) ?_).symm
      · rw [hat u hne, e3]
      · rw [hatt, e3, he]
        simp
  by_cases hlt : atN m t + 1 < p.length
  · have hez := hp.easy (atN m t) (m.regs.getD t []) m.cells hlt h.lc
    rw [← heff] at hez
    cases hE : effAt m t with
    | set r v =>
      refine hone _ rfl rfl rfl (by show (m.regs.set t _).length = n; rw [List.length_set]; exact h.lr) (fun u hu => ?_) (fun u hu => getD_set_otherK (Ne.symm hu)) h.lc rfl rfl hlt
      show ((m.regs.set t ((m.regs.getD t []).set r v)).getD u []).length = 8
      by_cases e : u = t
      · subst e; rw [getD_set_self (by rw [h.lr]; exact ht), List.length_set]; exact h.regs u hu
      · rw [getD_set_otherK (Ne.symm e)]; exact h.regs u hu
    | mem c now r =>
      cases r with
      | none => exact hone _ rfl rfl rfl h.lr h.regs (fun _ _ => rfl) (by show (m.cells.set c now).length = 1; rw [List.length_set]; exact h.lc) rfl rfl hlt
      | some rv =>
        refine hone _ rfl rfl rfl (by show (m.regs.set t _).length = n; rw [List.length_set]; exact h.lr) (fun u hu => ?_) (fun u hu => getD_set_otherK (Ne.symm hu)) (by show (m.cells.set c now).length = 1; rw [List.length_set]; exact h.lc) rfl rfl hlt
        show ((m.regs.set t ((m.regs.getD t []).set rv.1 rv.2)).getD u []).length = 8
        by_cases e : u = t
        · subst e; rw [getD_set_self (by rw [h.lr]; exact ht), List.length_set]; exact h.regs u hu
        · rw [getD_set_otherK (Ne.symm e)]; exact h.regs u hu
    | next => exact hone _ rfl rfl rfl h.lr h.regs (fun _ _ => rfl) h.lc rfl rfl hlt
    | say w v => exact hone _ rfl rfl rfl h.lr h.regs (fun _ _ => rfl) h.lc rfl rfl hlt
    | _ => rw [hE] at hez; cases hez
  · have hlen : atN m t = p.length - 1 := by omega
    have hE : effAt m t = .halt := by rw [heff, hlen]; exact hp.halt _ _
    rw [hE]
    have hat : ∀ u, atN (doEff m t (insOf m t).1 .halt) u = atN m u := fun u => rfl
    have hen : ∀ u, u ≠ t → (doEff m t (insOf m t).1 .halt).ended.getD u false = m.ended.getD u false := fun u hu => getD_set_otherK (Ne.symm hu)
    have hent : (doEff m t (insOf m t).1 .halt).ended.getD t false = true := getD_set_self (by rw [h.le]; exact ht)
    refine ⟨⟨h.progs, h.la, by show (m.ended.set t true).length = n; rw [List.length_set]; exact h.le, h.lr, h.lc, h.lot, fun u hu => ?_, h.regs, ?_⟩, rfl, fun u hu => ⟨rfl, hen u hu, rfl⟩, .inr ⟨by omega, rfl, hent⟩⟩
    · obtain ⟨b1, b2, b3⟩ := h.at_ u hu
      refine ⟨b1, b2, fun e => ?_⟩
      by_cases hut : u = t
      · subst hut; rw [hat]; omega
      · rw [hen u hut] at e; exact b3 e
    · show m.steps + 1 = _
      rw [h.steps]
      refine (sumN_at ht (fun u hu hne => ?_) ?_).symm
      · rw [hen u hne, hat]
      · rw [hent, he, hat]
        simp

end
end Go.Proofs.YtkhaeabbbhfloaaDoor

namespace Go.Proofs.YtkhaeabbbhfloaaDoor
set_option maxRecDepth 100000
set_option linter.unusedVariables false
set_option linter.unusedSimpArgs false

/-! Of all that fetch and add one each finds another number. -/

end Go.Proofs.YtkhaeabbbhfloaaDoor

namespace Go.Proofs.YtkhaeabbbhfloaaDoor
set_option maxRecDepth 100000
set_option linter.unusedVariables false
set_option linter.unusedSimpArgs false

/-! What is loaded, and stored, may be lost. -/

end Go.Proofs.YtkhaeabbbhfloaaDoor

namespace Go.Proofs.YtkhaeabbbhfloaaDoor
set_option maxRecDepth 100000
set_option linter.unusedVariables false
set_option linter.unusedSimpArgs false

/-! One wins. -/

end Go.Proofs.YtkhaeabbbhfloaaDoor
