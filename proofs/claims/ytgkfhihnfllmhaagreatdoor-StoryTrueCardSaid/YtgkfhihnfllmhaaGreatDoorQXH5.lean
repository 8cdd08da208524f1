/-
  All go on, over and over, till none can. Programs of barriers may be.
-/
import Derived.Test.YtgkfhihnfllmhaaGreatDoorQXH
import Derived.Test.YtgkfhihnfllmhaaGreatDoorQXH4
namespace Go.Proofs.YtgkfhihnfllmhaaGreatDoor
set_option maxRecDepth 100000
set_option linter.unusedVariables false
set_option linter.unusedSimpArgs false

/-! All go on, over and over, till none can. -/
/-- Once around. -/
def roundM (m : Mach) : Mach := sweepM (List.range m.progs.length) m
/-- What is left when nobody goes on: so many times around. -/
def Fin (m m' : Mach) : Prop := ∃ k, m' = sweepM (List.replicate k (List.range m.progs.length)).flatten m ∧ roundM m' = m'

theorem sweepM_append (l r : List Nat) (m : Mach) : sweepM (l ++ r) m = sweepM r (sweepM l m) := by unfold sweepM; rw [List.foldl_append]
theorem stepM_mono (m : Mach) (t : Int) : m.steps ≤ (stepM 20000 m t).2.steps := by rw [stepM_steps]; omega
theorem stepM_same {m : Mach} {t : Int} (h : (stepM 20000 m t).2.steps = m.steps) : (stepM 20000 m t).2 = m := by
  rcases stepM_cases 20000 m t with ⟨c, e, _⟩ | h2
  · rw [e]
  · exfalso
    have h3 := stepM_steps 20000 m t
    obtain ⟨k, h2⟩ := h2
    rw [h] at h3
    have : (stepM 20000 m t).1 = 0 ∨ (stepM 20000 m t).1 = 13 := by
      obtain ⟨_, _, _, _, e⟩ := h2
      first | (rw [e]; exact errEff_done _) | skip
    rw [if_pos this] at h3
    omega
theorem sweepM_mono : ∀ (l : List Nat) (m : Mach), m.steps ≤ (sweepM l m).steps
  | [], m => Nat.le_refl _
  | t :: l, m => Nat.le_trans (stepM_mono m t) (sweepM_mono l _)
theorem sweepM_same : ∀ {l : List Nat} {m : Mach}, (sweepM l m).steps = m.steps → sweepM l m = m
  | [], m, _ => rfl
  | t :: l, m, h => by
    have h1 := stepM_mono m t
    have h2 := sweepM_mono l (stepM 20000 m t).2
    have h3 : (sweepM l (stepM 20000 m t).2).steps = m.steps := h
    have e := stepM_same (m := m) (t := t) (by omega)
    show sweepM l (stepM 20000 m t).2 = m
    rw [e] at h3 ⊢
    exact sweepM_same h3
theorem sweepM_progs : ∀ (l : List Nat) (m : Mach), (sweepM l m).progs = m.progs
  | [], m => rfl
  | t :: l, m => by
    show (sweepM l (stepM 20000 m t).2).progs = _
    rw [sweepM_progs l, stepM_progs]
theorem Fin.progs {m m' : Mach} (h : Fin m m') : m'.progs = m.progs := by
  obtain ⟨k, rfl, _⟩ := h
  exact sweepM_progs _ _
theorem Fin.steps {m m' : Mach} (h : Fin m m') : m.steps ≤ m'.steps := by
  obtain ⟨k, rfl, _⟩ := h
  exact sweepM_mono _ _
/-- FINISHED IS FINISHED. -/
theorem Fin.again {m m' m2 : Mach} (h : Fin m m') (h2 : Fin m' m2) : m2 = m' := by
  obtain ⟨_, _, hr⟩ := h
  obtain ⟨k, rfl, _⟩ := h2
  have : ∀ k, sweepM (List.replicate k (List.range m'.progs.length)).flatten m' = m' := by
    intro k
    induction k with
    | zero => rfl
    | succ k ih =>
      rw [List.replicate_succ, List.flatten_cons, sweepM_append]
      have e : sweepM (List.range m'.progs.length) m' = m' := hr
      rw [e, ih]
  exact this k

section
variable {ops : Nat → List BOp} {n nc rounds : Nat} {K : Kind ops n nc rounds} {p : Nat} {S : BS} {m m' : Mach}
/-- AT LAST ALL GO. -/
theorem ran_fin (hro : rounds ≤ 20) (hp : K.pot bar0 + 4 * p < 20000) (h : Ran K p S m) (hf : Fin m m') : ∃ S', Ran K p S' m' ∧ Done n S' := by
  obtain ⟨k, e, hr⟩ := hf
  have hn : m.progs.length = n := h.sim.plen
  rw [hn] at e
  obtain ⟨S', h', _, _⟩ := ran_sweep hro hp (List.replicate k (List.range n)).flatten S m h (fun t ht => by
    obtain ⟨l, hl, ht⟩ := List.mem_flatten.1 ht
    rw [(List.mem_replicate.1 hl).2] at ht
    exact List.mem_range.1 ht)
  rw [← e] at h'
  refine ⟨S', h', ran_over hro hp h' (l := List.range n) (fun t ht => List.mem_range.1 ht) (fun t ht => List.mem_range.2 ht) ?_⟩
  have hn' : m'.progs.length = n := h'.sim.plen
  have : sweepM (List.range n) m' = m' := by rw [← hn']; exact hr
  rw [this]
end
end Go.Proofs.YtgkfhihnfllmhaaGreatDoor

namespace Go.Proofs.YtgkfhihnfllmhaaGreatDoor
set_option maxRecDepth 100000
set_option linter.unusedVariables false
set_option linter.unusedSimpArgs false

/-! Programs that may be. -/
def goodB (n cells : Int) (x : Ins5) : Bool := decide (0 ≤ x.1) && decide (x.1 < 17) && fitsL n cells (kindsOf x.1.toNat) (nums x)
theorem goodB_iff {n cells : Int} {x : Ins5} : goodB n cells x = true ↔ goodX n cells x := by
  unfold goodB goodX
  simp [and_assoc]
/-- A barrier's program behind its first two instructions. -/
def barTail (ops : List BOp) : List Ins5 := [(12, 0, 7, 4, 0), (0, 0, 0, 0, 0), (16, 1, 0, 0, 0)] ++ bodyI ops ++ [(16, 2, 0, 0, 0), (3, 0, 0, 1, 0), (10, 2, 0, 0, 0)]
theorem barP_tail (rounds : Nat) (ops : List BOp) : barP rounds ops = [(1, 0, 1, 0, 0), (1, 7, (rounds : Int) + 1, 0, 0)] ++ barTail ops := by unfold barP barTail; simp
def okTail (cells : Int) (l : List Ins5) : Bool := decide (l.length ≤ 598) && l.all fun x => goodB ((l.length : Int) + 2) cells x
def chkRight (k n : Nat) : Bool := decide (kCells k n ≤ 300) && ((List.range n).all fun id => okTail (kCells k n) (barTail (kOps k n id))) &&
  (n == 1 || (decide (0 < kCells k n) && (List.range n).any fun id => !okTail ((kCells k n : Int) - 1) (barTail (kOps k n id))))

theorem right_iff {rounds : Nat} (hr : rounds ≤ 1000) {cells : Int} (h0 : 0 ≤ cells) (h3 : cells ≤ 300) (ops : List BOp) : RightL (barP rounds ops) cells ↔ okTail cells (barTail ops) = true := by
  have hlen : (barP rounds ops).length = (barTail ops).length + 2 := by rw [barP_tail]; simp
  have hcast : (((barP rounds ops).length : Nat) : Int) = ((barTail ops).length : Int) + 2 := by rw [hlen]; rfl
  have hat : ∀ i, i + 2 < (barP rounds ops).length → (barP rounds ops).getD (i + 2) default = (barTail ops).getD i default := fun i hi => by rw [barP_tail]; rfl
  have h6 : 6 ≤ (barTail ops).length := by unfold barTail; simp
  unfold RightL okTail
  rw [Bool.and_eq_true, decide_eq_true_eq, List.all_eq_true]
  constructor
  · rintro ⟨_, _, _, h4, h5, _⟩
    refine ⟨by omega, fun x hx => ?_⟩
    obtain ⟨i, hi, e⟩ := List.mem_iff_getElem.1 hx
    have := h5 (i + 2) (by omega)
    rw [hat i (by omega), hcast] at this
    rw [goodB_iff]
    rw [List.getD_eq_getElem?_getD, List.getElem?_eq_getElem hi] at this
    rw [← e]
    exact this
  · rintro ⟨h4, h5⟩
    refine ⟨h0, h3, by omega, by omega, fun i hi => ?_, ?_⟩
    · rcases (by omega : i = 0 ∨ i = 1 ∨ 2 ≤ i) with e | e | e
      · subst e
        rw [barP_tail]
        show goodX _ _ ((1, 0, 1, 0, 0) : Ins5)
        exact ⟨by decide, by decide, rfl⟩
      · subst e
        rw [barP_tail]
        show goodX _ _ ((1, 7, (rounds : Int) + 1, 0, 0) : Ins5)
        refine ⟨by show (0 : Int) ≤ 1; decide, by show (1 : Int) < 17; decide, ?_⟩
        show fitsL _ _ [1, 3, 0, 0] [7, (rounds : Int) + 1, 0, 0] = true
        simp only [fitsL, boundsL]
        simp
        omega
      · obtain ⟨j, rfl⟩ : ∃ j, i = j + 2 := ⟨i - 2, by omega⟩
        rw [hat j hi, hcast]
        have hj : j < (barTail ops).length := by omega
        have := h5 ((barTail ops)[j]) (List.getElem_mem hj)
        rw [goodB_iff] at this
        rw [List.getD_eq_getElem?_getD, List.getElem?_eq_getElem hj]
        exact this
    · right
      obtain ⟨j, hj⟩ : ∃ j, (barP rounds ops).length - 1 = j := ⟨_, rfl⟩
      have hb : barP rounds ops = ([(1, 0, 1, 0, 0), (1, 7, (rounds : Int) + 1, 0, 0), (12, 0, 7, 4, 0), (0, 0, 0, 0, 0), (16, 1, 0, 0, 0)] ++ bodyI ops ++ [(16, 2, 0, 0, 0), (3, 0, 0, 1, 0)]) ++ [((10, 2, 0, 0, 0) : Ins5)] := by unfold barP; simp
      generalize hq : [(1, 0, 1, 0, 0), (1, 7, (rounds : Int) + 1, 0, 0), (12, 0, 7, 4, 0), (0, 0, 0, 0, 0), ((16, 1, 0, 0, 0) : Ins5)] ++ bodyI ops ++ [(16, 2, 0, 0, 0), (3, 0, 0, 1, 0)] = q at hb
      rw [hb]
      simp
def chkRights (k : Nat) : Bool := (List.range 16).all fun n => chkRight k (n + 1)
set_option maxRecDepth 100000 in
set_option maxHeartbeats 2000000 in
theorem right_chk1 : chkRights 1 = true := by decide +kernel
set_option maxRecDepth 100000 in
set_option maxHeartbeats 2000000 in
theorem right_chk2 : chkRights 2 = true := by decide +kernel
set_option maxRecDepth 100000 in
set_option maxHeartbeats 2000000 in
theorem right_chk3 : chkRights 3 = true := by decide +kernel
set_option maxRecDepth 100000 in
set_option maxHeartbeats 2000000 in
theorem right_chk4 : chkRights 4 = true := by decide +kernel
set_option maxRecDepth 100000 in
set_option maxHeartbeats 2000000 in
theorem right_chk5 : chkRights 5 = true := by decide +kernel
set_option maxRecDepth 100000 in
set_option maxHeartbeats 2000000 in
theorem right_chk6 : chkRights 6 = true := by decide +kernel
theorem right_chk : ∀ k n, 1 ≤ k → k ≤ 6 → 1 ≤ n → n ≤ 16 → chkRight k n = true := by
  intro k n k1 k6 n1 n16
  have H : chkRights k = true := by
    rcases (by omega : k = 1 ∨ k = 2 ∨ k = 3 ∨ k = 4 ∨ k = 5 ∨ k = 6) with rfl | rfl | rfl | rfl | rfl | rfl
    · exact right_chk1
    · exact right_chk2
    · exact right_chk3
    · exact right_chk4
    · exact right_chk5
    · exact right_chk6
  unfold chkRights at H
  rw [List.all_eq_true] at H
  have := H (n - 1) (List.mem_range.2 (by omega))
  rwa [show n - 1 + 1 = n by omega] at this
/-- Of any kind each party's is right, on as many cells as there are, and, if there are two parties, on no fewer. -/
theorem kind_right {k n rounds : Nat} (k1 : 1 ≤ k) (k6 : k ≤ 6) (n1 : 1 ≤ n) (n16 : n ≤ 16) (hr : rounds ≤ 1000) :
    kCells k n ≤ 300 ∧ (∀ id, id < n → RightL (barP rounds (kOps k n id)) (kCells k n)) ∧ (n ≠ 1 → 0 < kCells k n ∧ ∃ id, id < n ∧ ¬ RightL (barP rounds (kOps k n id)) ((kCells k n : Int) - 1)) := by
  have H := right_chk k n k1 k6 n1 n16
  unfold chkRight at H
  rw [Bool.and_eq_true, Bool.and_eq_true, decide_eq_true_eq, List.all_eq_true, Bool.or_eq_true, Bool.and_eq_true, decide_eq_true_eq, List.any_eq_true] at H
  obtain ⟨⟨h3, h4⟩, h5⟩ := H
  refine ⟨h3, fun id hid => (right_iff hr (by omega) (by omega) _).2 (h4 id (List.mem_range.2 hid)), fun hn => ?_⟩
  rcases h5 with h5 | ⟨h5, id, hid, h6⟩
  · exact absurd (by simpa using h5) hn
  · refine ⟨h5, id, List.mem_range.1 hid, fun h => ?_⟩
    rw [right_iff hr (by omega) (by omega)] at h
    rw [h] at h6
    cases h6
end Go.Proofs.YtgkfhihnfllmhaaGreatDoor
