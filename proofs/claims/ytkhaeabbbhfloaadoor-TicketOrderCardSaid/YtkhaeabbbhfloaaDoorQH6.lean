/-
  A barrier's machine behind whatever was done; what follows for each law.
-/
import Derived.Test.YtkhaeabbbhfloaaDoorQH5
namespace Go.Proofs.YtkhaeabbbhfloaaDoor
set_option maxRecDepth 100000
set_option linter.unusedVariables false
set_option linter.unusedSimpArgs false

/-! A barrier's machine behind whatever was done: so many were woken for nothing; what follows for each law. -/

structure Dims (k n rounds : Nat) : Prop where
  k1 : 1 ≤ k
  k6 : k ≤ 6
  n1 : 1 ≤ n
  n16 : n ≤ 16
  r6 : rounds ≤ 6
/-- Behind so many wakes for nothing. -/
def Dn (k n rounds p : Nat) (m : Mach) : Prop := ∃ K S, KOK k n rounds K ∧ Ran K p S m
/-- And all are at their ends. -/
def DnE (k n rounds p : Nat) (m : Mach) : Prop := ∃ K S, KOK k n rounds K ∧ Ran K p S m ∧ Done n S

section
variable {k n rounds p : Nat} {m m' : Mach}
theorem DnE.dn (h : DnE k n rounds p m) : Dn k n rounds p m := by
  obtain ⟨K, S, a, b, _⟩ := h
  exact ⟨K, S, a, b⟩
theorem Dn.ok (h : Dn k n rounds p m) : OkEv n m.events := by
  obtain ⟨K, S, hK, hR⟩ := h
  exact hR.ev.ok
theorem Dn.cnt (h : Dn k n rounds p m) {t : Nat} (ht : t < n) : cntEv m.events t ≤ 2 * rounds := by
  obtain ⟨K, S, hK, hR⟩ := h
  exact ran_cnt hR ht
theorem Dn.plen (h : Dn k n rounds p m) : m.progs.length = n := by
  obtain ⟨K, S, hK, hR⟩ := h
  exact hR.sim.plen
theorem Dn.steps (d : Dims k n rounds) (h : Dn k n rounds p m) (hp : p ≤ 900) : m.steps < 20000 := by
  obtain ⟨K, S, hK, hR⟩ := h
  exact hR.steps_lt (hK.purse d.k1 d.k6 d.n1 d.n16 d.r6 hp)
/-- DanceOrder. -/
theorem Dn.order (n1 : 1 ≤ n) (h : Dn k n rounds p m) : judgeP n [] m.events = none ∧ jAll n m.events ≤ jAny n m.events ∧ jAny n m.events ≤ jAll n m.events + 2 ∧ jAny n m.events ≤ rounds := by
  obtain ⟨a, b⟩ := judge_rounds (n := n) (by omega) h.ok
  exact ⟨judge_ok.2 h.ok, a, b, maxN_le fun t ht => by have := h.cnt ht; omega⟩
theorem DnE.cnt (h : DnE k n rounds p m) {t : Nat} (ht : t < n) : cntEv m.events t = 2 * rounds := by
  obtain ⟨K, S, hK, hR, hD⟩ := h
  exact ran_done_cnt hR hD ht
theorem DnE.len (h : DnE k n rounds p m) : m.events.length = 2 * n * rounds := by
  obtain ⟨K, S, hK, hR, hD⟩ := h
  exact ran_done_len hR hD
theorem DnE.ended (h : DnE k n rounds p m) {t : Nat} (ht : t < n) : m.ended.getD t false = true := by
  obtain ⟨K, S, hK, hR, hD⟩ := h
  exact ran_done_ended hR hD ht
theorem DnE.both (n1 : 1 ≤ n) (h : DnE k n rounds p m) : jAll n m.events = rounds ∧ jAny n m.events = rounds := jAll_same (by omega) fun t ht => h.cnt ht
theorem DnE.leaves (h : DnE k n rounds p m) : m.cells = (List.range (kCells k n)).map fun c => (kLeaf k n rounds c : Int) := by
  obtain ⟨K, S, hK, hR, hD⟩ := h
  exact ran_leaves hK hR hD
/-- DanceBound. -/
theorem Dn.bound (d : Dims k n rounds) (h : Dn k n rounds 0 m) : m.steps ≤ 3 * kSize k n * (rounds + 1) := by
  obtain ⟨K, S, hK, hR⟩ := h
  exact hK.bound d.k1 d.k6 d.n1 d.n16 hR
/-- DanceGoes. -/
theorem Dn.goes (h : Dn k n rounds p m) : (∃ t, t < n ∧ m.ended.getD t false = false ∧ asleepM m t = false) ∨ ∀ t, t < n → m.ended.getD t false = true := by
  obtain ⟨K, S, hK, hR⟩ := h
  exact ran_goes hR
/-- DanceSame. -/
theorem DnE.said (h : DnE k n rounds p m) {t : Nat} (ht : t < n) : saidBy m.events t = (List.range (2 * rounds)).map fun k => (((1 + k % 2 : Nat) : Int), ((1 + k / 2 : Nat) : Int)) := by
  rw [h.dn.ok.said t, h.cnt ht]
end

/-! Once all are at their ends, nothing goes on. -/
end Go.Proofs.YtkhaeabbbhfloaaDoor
