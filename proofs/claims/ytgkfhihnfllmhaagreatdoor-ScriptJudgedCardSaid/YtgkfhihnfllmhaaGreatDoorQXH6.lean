/-
  A barrier's machine behind whatever was done; what follows for each law. What cells are in the end.
-/
import Derived.Test.YtgkfhihnfllmhaaGreatDoorQXH5
namespace Go.Proofs.YtgkfhihnfllmhaaGreatDoor
set_option maxRecDepth 100000
set_option linter.unusedVariables false
set_option linter.unusedSimpArgs false

/-! A barrier's machine behind whatever was done: so many were woken for nothing; what follows for each law. -/

/-- A barrier of kind k for n, of so many rounds. -/
def kM (k n rounds : Nat) : Mach := barM (kOps k n) n (kCells k n) rounds
structure Dims (k n rounds : Nat) : Prop where
  k1 : 1 ≤ k
  k6 : k ≤ 6
  n1 : 1 ≤ n
  n16 : n ≤ 16
  r6 : rounds ≤ 6
/-- Behind so many wakes for nothing. -/
def Dn (k n rounds p : Nat) (m : Mach) : Prop := ∃ K S, KOK k n rounds K ∧ Ran K p S m
/-- And all are at their ends. -/
def DnE (k n rounds p : Nat) (m : Mach) : Prop := ∃ K S, KOK k n rounds K ∧ Ran K p S m ∧ Done n S

section
variable {k n rounds p : Nat} {m m' : Mach}
theorem DnE.dn (h : DnE k n rounds p m) : Dn k n rounds p m := by
  obtain ⟨K, S, a, b, _⟩ := h
  exact ⟨K, S, a, b⟩
theorem dn_new (d : Dims k n rounds) : Dn k n rounds 0 (kM k n rounds) := by
  obtain ⟨K, hK, _⟩ := kind_all (rounds := rounds) d.k1 d.k6 d.n1 d.n16
  exact ⟨K, bar0, hK, ran_new⟩
theorem dn_moves (d : Dims k n rounds) {l : List (Int × Bool)} (hl : ∀ v ∈ l, ∃ t : Nat, t < n ∧ v.1 = t) (h : Dn k n rounds p m) (hp : p + pokesM l ≤ 900) : Dn k n rounds (p + pokesM l) (behindM 20000 m l) := by
  obtain ⟨K, S, hK, hR⟩ := h
  obtain ⟨S', h'⟩ := ran_moves (by have := d.r6; omega) l p S m hR hl (hK.purse d.k1 d.k6 d.n1 d.n16 d.r6 hp)
  exact ⟨K, S', hK, h'⟩
theorem dn_step (d : Dims k n rounds) (h : Dn k n rounds p m) (hp : p ≤ 900) {t : Nat} (ht : t < n) : Dn k n rounds p (stepM 20000 m t).2 := by
  obtain ⟨K, S, hK, hR⟩ := h
  obtain ⟨S', h'⟩ := ran_step hR (by have := d.r6; omega) ht (hR.steps_lt (hK.purse d.k1 d.k6 d.n1 d.n16 d.r6 hp))
  exact ⟨K, S', hK, h'⟩
theorem dn_fin (d : Dims k n rounds) (h : Dn k n rounds p m) (hp : p ≤ 900) (hf : Fin m m') : DnE k n rounds p m' := by
  obtain ⟨K, S, hK, hR⟩ := h
  obtain ⟨S', a, b⟩ := ran_fin (by have := d.r6; omega) (hK.purse d.k1 d.k6 d.n1 d.n16 d.r6 hp) hR hf
  exact ⟨K, S', hK, a, b⟩
theorem Dn.ok (h : Dn k n rounds p m) : OkEv n m.events := by
  obtain ⟨K, S, hK, hR⟩ := h
  exact hR.ev.ok
theorem Dn.cnt (h : Dn k n rounds p m) {t : Nat} (ht : t < n) : cntEv m.events t ≤ 2 * rounds := by
  obtain ⟨K, S, hK, hR⟩ := h
  exact ran_cnt hR ht
theorem Dn.plen (h : Dn k n rounds p m) : m.progs.length = n := by
  obtain ⟨K, S, hK, hR⟩ := h
  exact hR.sim.plen
theorem Dn.steps (d : Dims k n rounds) (h : Dn k n rounds p m) (hp : p ≤ 900) : m.steps < 20000 := by
  obtain ⟨K, S, hK, hR⟩ := h
  exact hR.steps_lt (hK.purse d.k1 d.k6 d.n1 d.n16 d.r6 hp)
/-- DanceOrder. -/
theorem Dn.order (n1 : 1 ≤ n) (h : Dn k n rounds p m) : judgeP n [] m.events = none ∧ jAll n m.events ≤ jAny n m.events ∧ jAny n m.events ≤ jAll n m.events + 2 ∧ jAny n m.events ≤ rounds := by
  obtain ⟨a, b⟩ := judge_rounds (n := n) (by omega) h.ok
  exact ⟨judge_ok.2 h.ok, a, b, maxN_le fun t ht => by have := h.cnt ht; omega⟩
theorem DnE.cnt (h : DnE k n rounds p m) {t : Nat} (ht : t < n) : cntEv m.events t = 2 * rounds := by
  obtain ⟨K, S, hK, hR, hD⟩ := h
  exact ran_done_cnt hR hD ht
theorem DnE.len (h : DnE k n rounds p m) : m.events.length = 2 * n * rounds := by
  obtain ⟨K, S, hK, hR, hD⟩ := h
  exact ran_done_len hR hD
theorem DnE.ended (h : DnE k n rounds p m) {t : Nat} (ht : t < n) : m.ended.getD t false = true := by
  obtain ⟨K, S, hK, hR, hD⟩ := h
  exact ran_done_ended hR hD ht
theorem DnE.both (n1 : 1 ≤ n) (h : DnE k n rounds p m) : jAll n m.events = rounds ∧ jAny n m.events = rounds := jAll_same (by omega) fun t ht => h.cnt ht
theorem DnE.leaves (h : DnE k n rounds p m) : m.cells = (List.range (kCells k n)).map fun c => (kLeaf k n rounds c : Int) := by
  obtain ⟨K, S, hK, hR, hD⟩ := h
  exact ran_leaves hK hR hD
/-- DanceGoes. -/
theorem Dn.goes (h : Dn k n rounds p m) : (∃ t, t < n ∧ m.ended.getD t false = false ∧ asleepM m t = false) ∨ ∀ t, t < n → m.ended.getD t false = true := by
  obtain ⟨K, S, hK, hR⟩ := h
  exact ran_goes hR
/-- DanceSame. -/
theorem DnE.said (h : DnE k n rounds p m) {t : Nat} (ht : t < n) : saidBy m.events t = (List.range (2 * rounds)).map fun k => (((1 + k % 2 : Nat) : Int), ((1 + k / 2 : Nat) : Int)) := by
  rw [h.dn.ok.said t, h.cnt ht]
end

/-! Once all are at their ends, nothing goes on. -/
theorem fin_same {m a b : Mach} (ha : Fin m a) (hb : Fin m b) : a = b := by
  obtain ⟨i, e1, r1⟩ := ha
  obtain ⟨j, e2, r2⟩ := hb
  have hp1 : a.progs = m.progs := by rw [e1]; exact sweepM_progs _ _
  have hp2 : b.progs = m.progs := by rw [e2]; exact sweepM_progs _ _
  have st : ∀ (q : Mach), q.progs = m.progs → roundM q = q → ∀ d, sweepM (List.replicate d (List.range m.progs.length)).flatten q = q := by
    intro q hq hr d
    induction d with
    | zero => rfl
    | succ d ih =>
      rw [List.replicate_succ, List.flatten_cons, sweepM_append]
      have : sweepM (List.range m.progs.length) q = q := by rw [← hq]; exact hr
      rw [this, ih]
  have add : ∀ x y, (List.replicate (x + y) (List.range m.progs.length)).flatten = (List.replicate x (List.range m.progs.length)).flatten ++ (List.replicate y (List.range m.progs.length)).flatten := fun x y => by rw [← List.replicate_append_replicate, List.flatten_append]
  rcases Nat.le_total i j with h | h
  · obtain ⟨d, rfl⟩ := Nat.le.dest h
    rw [add, sweepM_append, ← e1, st a hp1 r1] at e2
    exact e2.symm
  · obtain ⟨d, rfl⟩ := Nat.le.dest h
    rw [add, sweepM_append, ← e2, st b hp2 r2] at e1
    exact e1

/-- The fact that the laws ask first: a barrier for two, of one round. -/
def dancedM : Mach := sweepM (List.replicate 40 (List.range 2)).flatten (kM 1 2 1)
set_option maxRecDepth 100000 in
theorem danced_steps : dancedM.steps = 34 ∧ (sweepM (List.range dancedM.progs.length) dancedM).steps = 34 := by decide +kernel
theorem danced_fin {m : Mach} (h : Fin (kM 1 2 1) m) : m.steps = dancedM.steps := by
  have h2 : Fin (kM 1 2 1) dancedM := ⟨40, rfl, sweepM_same (by rw [danced_steps.2, danced_steps.1])⟩
  rw [fin_same h h2]
end Go.Proofs.YtgkfhihnfllmhaaGreatDoor

namespace Go.Proofs.YtgkfhihnfllmhaaGreatDoor
set_option maxRecDepth 100000
set_option linter.unusedVariables false
set_option linter.unusedSimpArgs false

/-! What cells are in the end, for all that there can be. -/
section
variable {n rounds c : Nat} (n1 : 1 ≤ n) (n16 : n ≤ 16)
include n1 n16
end
end Go.Proofs.YtgkfhihnfllmhaaGreatDoor
