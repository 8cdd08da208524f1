/-
  Central, Combine: who sleeps, who is woken; somebody can always go on; how many steps at most.
-/
import Derived.Test.YtkhaeabbbhfloaaDoorQG
namespace Go.Proofs.YtkhaeabbbhfloaaDoor
set_option maxRecDepth 100000
set_option linter.unusedVariables false
set_option linter.unusedSimpArgs false

section
variable {ops : Nat → List BOp} {n nc rounds : Nat} {T : MT ops n nc} {S S' : BS} {t : Nat} {m : Mach}

/-- A sleeper: where it sleeps. -/
theorem mt_nap (h : MInv T rounds S) {u c : Nat} (hu : u < n) (hs : (S.th u).slp = true) (hc : napCell (ops u) (S.th u).ph = some c) : ∃ i, i < T.h ∧ (S.th u).ph = .op i 6 ∧ c = 2 * T.path u i + 1 := by
  obtain ⟨i, hi, e⟩ := (h.own u hu).nap hs
  rw [e] at hc
  have h1 : napOp ((ops u).getD i default) 6 = some c := hc
  rw [T.up_op u i hu hi] at h1
  injection h1 with h1
  exact ⟨i, hi, e, h1.symm⟩
theorem six_last (h : MInv T rounds S) {u i j : Nat} (hi : i < T.h) (e : (S.th u).ph = .op i 6) (hj : j < i) : T.last S u j = true := by
  unfold MT.last lastAt
  rw [e]
  dsimp only
  rw [if_pos hi]
  simp [hj]

/-- Who is at a node counts for one of those who meet there. -/
theorem cnt_le (h : MInv T rounds S) {j : Nat} (ht : t < n) (hj : j < T.h) : T.cnt S (T.path t j) j ≤ T.sz t j := by
  have hm : ∀ a ∈ (List.range n).filter (T.here S (T.path t j) j), a < n ∧ T.path a j = T.path t j ∧ (T.last S a j = true ∨ T.wait S a j = true) := fun a ha => by
    obtain ⟨h1, h2⟩ := List.mem_filter.1 ha
    unfold MT.here at h2
    simp only [Bool.and_eq_true, Bool.or_eq_true, decide_eq_true_eq] at h2
    exact ⟨List.mem_range.1 h1, h2.1.1, h2.2⟩
  have := inj_le (f := T.memb j) ((List.range n).filter (T.here S (T.path t j) j)) (T.mem (T.path t j)) (List.nodup_range.filter _) (fun a ha b hb e => by
    obtain ⟨a1, a2, a3⟩ := hm a ha
    obtain ⟨b1, b2, b3⟩ := hm b hb
    unfold MT.memb at e
    by_cases hl0 : j = 0
    · rw [if_pos hl0, if_pos hl0] at e
      exact e
    · rw [if_neg hl0, if_neg hl0] at e
      exact last_one h b1 a1 (by omega) (last_low b3 (by omega)) (last_low a3 (by omega)) e) (fun a ha => by
    obtain ⟨a1, a2, _⟩ := hm a ha
    have := T.mem_in a j a1 hj
    rw [a2] at this
    exact this)
  rw [T.mem_len t j ht hj] at this
  exact this

end
end Go.Proofs.YtkhaeabbbhfloaaDoor

namespace Go.Proofs.YtkhaeabbbhfloaaDoor
set_option maxRecDepth 100000
set_option linter.unusedVariables false
set_option linter.unusedSimpArgs false

section
variable {ops : Nat → List BOp} {n nc rounds : Nat}

def mBase (h rounds rd : Nat) : Nat := (rounds + 1 - rd) * (5 + 18 * h) + 2
/-- Within a meeting: how many steps at most. -/
def mPot (rd r1 g : Int) (p slp : Bool) (k : Nat) : Nat :=
  if k = 0 then 14 else if k = 1 then 13 else if k = 7 then 1 else awPot rd r1 g slp (k - 2) + 1 + (if p = true ∧ ¬ rd ≤ g then 4 else 0)
/-- How many steps at most are left to a party (g: the gates; p: where somebody is about to wake). -/
def mRem (h rounds : Nat) (path : Nat → Nat) (g : Nat → Int) (p : Nat → Bool) (x : Th) : Nat := match x.ph with
  | .b0 => mBase h rounds 1 + 2
  | .b1 => mBase h rounds 1 + 1
  | .less => mBase h rounds x.rd
  | .halt => 1
  | .fin => 0
  | .came => mBase h rounds (x.rd + 1) + 3 + 18 * h + 1
  | .op i k => mBase h rounds (x.rd + 1) + 3 + (if i < h then 14 * (h - 1 - i) + 4 * h + mPot x.rd x.r1 (g (path i)) (p (path i)) x.slp k else 4 * (2 * h - 1 - i) + (4 - k))
  | .gone => mBase h rounds (x.rd + 1) + 3
  | .plus => mBase h rounds (x.rd + 1) + 2
  | .jump => mBase h rounds x.rd + 1

variable (T : MT ops n nc)
/-- Is somebody about to wake at a gate? -/
def MT.pend (S : BS) (v : Nat) : Bool := (List.range n).any fun u => (List.range T.h).any fun j => decide (T.path u j = v) && opAt T.h 3 (S.th u) j
def MT.left (rounds : Nat) (S : BS) (u : Nat) : Nat := mRem T.h rounds (T.path u) (gateOf S) (T.pend S) (S.th u)
/-- No two are about to wake at one gate. -/
def MT.alone (S : BS) : Prop := ∀ u w j, u < n → w < n → j < T.h → T.path u j = T.path w j → opAt T.h 3 (S.th u) j = true → opAt T.h 3 (S.th w) j = true → u = w

variable {T} {S S' : BS} {t : Nat}

theorem pend_iff {v : Nat} : T.pend S v = true ↔ ∃ u j, u < n ∧ j < T.h ∧ T.path u j = v ∧ opAt T.h 3 (S.th u) j = true := by
  unfold MT.pend
  simp only [List.any_eq_true, List.mem_range, Bool.and_eq_true, decide_eq_true_eq]
  constructor
  · rintro ⟨u, hu, j, hj, e1, e2⟩
    exact ⟨u, j, hu, hj, e1, e2⟩
  · rintro ⟨u, j, hu, hj, e1, e2⟩
    exact ⟨u, hu, j, hj, e1, e2⟩
/-- What a step takes, and leaves. -/
structure Down (T : MT ops n nc) (rounds : Nat) (t : Nat) (S S' : BS) : Prop where
  self : T.left rounds S' t + 1 ≤ T.left rounds S t
  others : ∀ u, u < n → u ≠ t → T.left rounds S' u ≤ T.left rounds S u
  alone : T.alone S'

end
end Go.Proofs.YtkhaeabbbhfloaaDoor
