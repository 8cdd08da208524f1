/-
  All go on, over and over, till none can. Programs of barriers may be.
-/
import Derived.Test.YtkhaeabbbhfloaaDoorQH
import Derived.Test.YtkhaeabbbhfloaaDoorQH4
namespace Go.Proofs.YtkhaeabbbhfloaaDoor
set_option maxRecDepth 100000
set_option linter.unusedVariables false
set_option linter.unusedSimpArgs false

/-! All go on, over and over, till none can. -/
/-- Once around. -/
def roundM (m : Mach) : Mach := sweepM (List.range m.progs.length) m
/-- What is left when nobody goes on: so many times around. -/
def Fin (m m' : Mach) : Prop := ∃ k, m' = sweepM (List.replicate k (List.range m.progs.length)).flatten m ∧ roundM m' = m'

theorem sweepM_append (l r : List Nat) (m : Mach) : sweepM (l ++ r) m = sweepM r (sweepM l m) := by unfold sweepM; rw [List.foldl_append]
theorem stepM_mono (m : Mach) (t : Int) : m.steps ≤ (stepM 20000 m t).2.steps := by rw [stepM_steps]; omega
theorem stepM_same {m : Mach} {t : Int} (h : (stepM 20000 m t).2.steps = m.steps) : (stepM 20000 m t).2 = m := by
  rcases stepM_cases 20000 m t with ⟨c, e, _⟩ | h2
  · rw [e]
  · exfalso
    have h3 := stepM_steps 20000 m t
    obtain ⟨k, h2⟩ := h2
    rw [h] at h3
    have : (stepM 20000 m t).1 = 0 ∨ (stepM 20000 m t).1 = 13 := by
      obtain ⟨_, _, _, _, e⟩ := h2
      first | (rw [e]; exact errEff_done _) | skip
    rw [if_pos this] at h3
    omega
theorem sweepM_mono : ∀ (l : List Nat) (m : Mach), m.steps ≤ (sweepM l m).steps
  | [], m => Nat.le_refl _
  | t :: l, m => Nat.le_trans (stepM_mono m t) (sweepM_mono l _)
theorem sweepM_same : ∀ {l : List Nat} {m : Mach}, (sweepM l m).steps = m.steps → sweepM l m = m
  | [], m, _ => rfl
  | t :: l, m, h => by
    have h1 := stepM_mono m t
    have h2 := sweepM_mono l (stepM 20000 m t).2
    have h3 : (sweepM l (stepM 20000 m t).2).steps = m.steps := h
    have e := stepM_same (m := m) (t := t) (by omega)
    show sweepM l (stepM 20000 m t).2 = m
    rw [e] at h3 ⊢
    exact sweepM_same h3
theorem sweepM_progs : ∀ (l : List Nat) (m : Mach), (sweepM l m).progs = m.progs
  | [], m => rfl
  | t :: l, m => by
    show (sweepM l (stepM 20000 m t).2).progs = _
    rw [sweepM_progs l, stepM_progs]
theorem Fin.progs {m m' : Mach} (h : Fin m m') : m'.progs = m.progs := by
  obtain ⟨k, rfl, _⟩ := h
  exact sweepM_progs _ _
theorem Fin.steps {m m' : Mach} (h : Fin m m') : m.steps ≤ m'.steps := by
  obtain ⟨k, rfl, _⟩ := h
  exact sweepM_mono _ _
/-- FINISHED IS FINISHED. -/
theorem Fin.again {m m' m2 : Mach} (h : Fin m m') (h2 : Fin m' m2) : m2 = m' := by
  obtain ⟨_, _, hr⟩ := h
  obtain ⟨k, rfl, _⟩ := h2
  have : ∀ k, sweepM (List.replicate k (List.range m'.progs.length)).flatten m' = m' := by
    intro k
    induction k with
    | zero => rfl
    | succ k ih =>
      rw [List.replicate_succ, List.flatten_cons, sweepM_append]
      have e : sweepM (List.range m'.progs.length) m' = m' := hr
      rw [e, ih]
  exact this k

section
variable {ops : Nat → List BOp} {n nc rounds : Nat} {K : Kind ops n nc rounds} {p : Nat} {S : BS} {m m' : Mach}
end
end Go.Proofs.YtkhaeabbbhfloaaDoor

namespace Go.Proofs.YtkhaeabbbhfloaaDoor
set_option maxRecDepth 100000
set_option linter.unusedVariables false
set_option linter.unusedSimpArgs false

/-! Programs that may be. -/
end Go.Proofs.YtkhaeabbbhfloaaDoor
