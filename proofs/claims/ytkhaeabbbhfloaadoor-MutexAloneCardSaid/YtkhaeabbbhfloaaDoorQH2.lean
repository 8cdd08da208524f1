/-
  What was done to cells, as all went on: in which order, how often, to which.
-/
import Derived.Test.YtkhaeabbbhfloaaDoorQG4
namespace Go.Proofs.YtkhaeabbbhfloaaDoor
set_option maxRecDepth 100000
set_option linter.unusedVariables false
set_option linter.unusedSimpArgs false

section
variable {ops : Nat → List BOp} {n nc rounds : Nat}

/-- What more is kept by whoever goes on (and by whoever is woken for nothing). -/
structure KeepsK (K : Kind ops n nc rounds) (X : BS → Mach → Prop) : Prop where
  new : X bar0 (barM ops n nc rounds)
  step : ∀ p S m t, Ran K p S m → X S m → t < n → (S.th t).slp = false → (S.th t).ph ≠ .fin → Stepped ops n nc rounds S m t (stepM 20000 m t).2 → X (stepS ops rounds t S) (stepM 20000 m t).2
variable {K : Kind ops n nc rounds} {X : BS → Mach → Prop} {p : Nat} {S : BS} {m : Mach}

/-! What was done to cells. -/

end
end Go.Proofs.YtkhaeabbbhfloaaDoor

namespace Go.Proofs.YtkhaeabbbhfloaaDoor
set_option maxRecDepth 100000
set_option linter.unusedVariables false
set_option linter.unusedSimpArgs false

section
variable {ops : Nat → List BOp} {n nc rounds : Nat} {K : Kind ops n nc rounds}

end
end Go.Proofs.YtkhaeabbbhfloaaDoor

namespace Go.Proofs.YtkhaeabbbhfloaaDoor
set_option maxRecDepth 100000
set_option linter.unusedVariables false
set_option linter.unusedSimpArgs false

section
variable {ops : Nat → List BOp} {n nc rounds : Nat}

end

end Go.Proofs.YtkhaeabbbhfloaaDoor

namespace Go.Proofs.YtkhaeabbbhfloaaDoor
set_option maxRecDepth 100000
set_option linter.unusedVariables false
set_option linter.unusedSimpArgs false

section
variable {k n rounds p : Nat} {K : Kind (kOps k n) n (kCells k n) rounds} {S : BS} {m : Mach}

/-- Steps at most never are as many as there may be. -/
theorem KOK.purse (hK : KOK k n rounds K) (k1 : 1 ≤ k) (k6 : k ≤ 6) (n1 : 1 ≤ n) (n16 : n ≤ 16) (hr : rounds ≤ 6) (hp : p ≤ 900) : K.pot bar0 + 4 * p < 20000 := by
  have h1 := hK.pot
  have h2 := (pot_le (rounds := rounds) k1 k6 n1 n16).2
  omega
/-- NO MORE THAN SO MANY. -/
theorem KOK.bound (hK : KOK k n rounds K) (k1 : 1 ≤ k) (k6 : k ≤ 6) (n1 : 1 ≤ n) (n16 : n ≤ 16) (h : Ran K 0 S m) : m.steps ≤ 3 * kSize k n * (rounds + 1) := by
  have h1 := hK.pot
  have h2 := (pot_le (rounds := rounds) k1 k6 n1 n16).1
  have h3 := h.few
  omega
end

end Go.Proofs.YtkhaeabbbhfloaaDoor
