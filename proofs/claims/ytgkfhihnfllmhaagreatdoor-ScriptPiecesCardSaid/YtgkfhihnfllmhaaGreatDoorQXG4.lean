/-
  The six kinds, by number: their programs, what each is, what is left in the end, how many steps at most; runs, sweeps, what was said.
-/
import Derived.Test.YtgkfhihnfllmhaaGreatDoorQXG2
import Derived.Test.YtgkfhihnfllmhaaGreatDoorQXG3
namespace Go.Proofs.YtgkfhihnfllmhaaGreatDoor
set_option maxRecDepth 100000
set_option linter.unusedVariables false

/-- Central (chapter 6). -/
def centralOps (n : Nat) (_ : Nat) : List BOp := [.meet 0 n 2, .opn 0 n]
/-- Combine (chapter 7): how many nodes a level has, which is its first, how many levels; who meets at a node. -/
def cmCnt (n j : Nat) : Nat := (n + 2 ^ (j + 1) - 1) / 2 ^ (j + 1)
def cmFirst (n j : Nat) : Nat := ((List.range j).map (cmCnt n)).sum
def cmPath (n t j : Nat) : Nat := cmFirst n j + t / 2 ^ (j + 1)
def cmH (n : Nat) : Nat := if n ≤ 1 then 1 else lvls n
def cmNodes (n : Nat) : List (List Nat) := (List.range (cmH n)).flatMap fun j => (List.range (cmCnt n j)).map fun q =>
  (if 2 * q < (if j = 0 then n else cmCnt n (j - 1)) then [(if j = 0 then 0 else cmFirst n (j - 1)) + 2 * q] else []) ++ (if 2 * q + 1 < (if j = 0 then n else cmCnt n (j - 1)) then [(if j = 0 then 0 else cmFirst n (j - 1)) + 2 * q + 1] else [])
def cmMem (n v : Nat) : List Nat := (cmNodes n).getD v []
def cmSize (n v : Nat) : Nat := (cmMem n v).length
def cmCells (n : Nat) : Nat := 2 * (cmNodes n).length
def combineOps (n id : Nat) : List BOp :=
  ((List.range (cmH n)).map fun j => .meet (2 * cmPath n id j) (cmSize n (cmPath n id j)) (2 * cmH n - j)) ++
  ((List.range (cmH n)).reverse.map fun j => .opn (2 * cmPath n id j) (cmSize n (cmPath n id j)))

/-- What MT asks, checked. -/
def chkMT (ops : Nat → List BOp) (n nc h : Nat) (path : List (List Nat)) (mem : List (List Nat)) : Bool :=
  decide (1 ≤ h) && (List.range n).all fun t =>
    decide ((ops t).length = 2 * h) && (List.range h).all fun j =>
      let p := fun t j => (path.getD t []).getD j 0
      let v := p t j
      let m := mem.getD v []
      decide ((ops t).getD j default = .meet (2 * v) m.length (2 * h - j)) && decide ((ops t).getD (2 * h - 1 - j) default = .opn (2 * v) m.length) &&
      decide (2 * v + 1 < nc ∧ 1 ≤ m.length ∧ m.length ≤ 16) &&
      ((List.range n).all fun u => (List.range h).all fun k => !(v == p u k) || (j == k && (!decide (j + 1 < h) || p t (j + 1) == p u (k + 1)))) &&
      ((List.range n).all fun u => p t (h - 1) == p u (h - 1)) &&
      m.contains (if j = 0 then t else p t (j - 1)) && decide m.Nodup &&
      m.all fun c => (List.range n).any fun u => p u j == v && (if j = 0 then u else p u (j - 1)) == c

section
variable {ops : Nat → List BOp} {n nc h : Nat} {path mem : List (List Nat)}
theorem chkMT_parts (H : chkMT ops n nc h path mem = true) : 1 ≤ h ∧ ∀ t, t < n → (ops t).length = 2 * h ∧ ∀ j, j < h →
    (ops t).getD j default = .meet (2 * (path.getD t []).getD j 0) (mem.getD ((path.getD t []).getD j 0) []).length (2 * h - j) ∧
    (ops t).getD (2 * h - 1 - j) default = .opn (2 * (path.getD t []).getD j 0) (mem.getD ((path.getD t []).getD j 0) []).length ∧
    (2 * (path.getD t []).getD j 0 + 1 < nc ∧ 1 ≤ (mem.getD ((path.getD t []).getD j 0) []).length ∧ (mem.getD ((path.getD t []).getD j 0) []).length ≤ 16) ∧
    (∀ u, u < n → ∀ k, k < h → (path.getD t []).getD j 0 = (path.getD u []).getD k 0 → j = k ∧ (j + 1 < h → (path.getD t []).getD (j + 1) 0 = (path.getD u []).getD (k + 1) 0)) ∧
    (∀ u, u < n → (path.getD t []).getD (h - 1) 0 = (path.getD u []).getD (h - 1) 0) ∧
    (if j = 0 then t else (path.getD t []).getD (j - 1) 0) ∈ mem.getD ((path.getD t []).getD j 0) [] ∧
    (mem.getD ((path.getD t []).getD j 0) []).Nodup ∧
    ∀ c, c ∈ mem.getD ((path.getD t []).getD j 0) [] → ∃ u, u < n ∧ (path.getD u []).getD j 0 = (path.getD t []).getD j 0 ∧ (if j = 0 then u else (path.getD u []).getD (j - 1) 0) = c := by
  unfold chkMT at H
  rw [Bool.and_eq_true, decide_eq_true_eq, List.all_eq_true] at H
  refine ⟨H.1, fun t ht => ?_⟩
  have H2 := H.2 t (List.mem_range.2 ht)
  rw [Bool.and_eq_true, decide_eq_true_eq, List.all_eq_true] at H2
  refine ⟨H2.1, fun j hj => ?_⟩
  have H3 := H2.2 j (List.mem_range.2 hj)
  dsimp only at H3
  simp only [Bool.and_eq_true, List.all_eq_true, List.mem_range, decide_eq_true_eq, List.contains_iff_mem, List.any_eq_true, beq_iff_eq] at H3
  obtain ⟨⟨⟨⟨⟨⟨⟨a1, a2⟩, a3⟩, a4⟩, a5⟩, a6⟩, a7⟩, a8⟩ := H3
  refine ⟨a1, a2, a3, fun u hu k hk e => ?_, a5, a6, a7, fun c hc => ?_⟩
  · have := a4 u hu k hk
    simp only [Bool.or_eq_true, Bool.not_eq_true', Bool.and_eq_true, beq_iff_eq, beq_eq_false_iff_ne, decide_eq_false_iff_not] at this
    rcases this with h1 | ⟨h1, h2⟩
    · exact absurd e h1
    · refine ⟨h1, fun h3 => ?_⟩
      rcases h2 with h2 | h2
      · exact absurd h3 h2
      · exact h2
  · obtain ⟨u, h1, h2, h3⟩ := a8 c hc
    exact ⟨u, h1, h2, h3⟩

def mt_of (H : chkMT ops n nc h path mem = true) : MT ops n nc where
  h := h
  path := fun t j => (path.getD t []).getD j 0
  size := fun v => (mem.getD v []).length
  mem := fun v => mem.getD v []
  h1 := (chkMT_parts H).1
  len := fun t ht => ((chkMT_parts H).2 t ht).1
  up_op := fun t j ht hj => (((chkMT_parts H).2 t ht).2 j hj).1
  dn_op := fun t j ht hj => (((chkMT_parts H).2 t ht).2 j hj).2.1
  node := fun t j ht hj => (((chkMT_parts H).2 t ht).2 j hj).2.2.1
  level := fun t u j k ht hu hj hk e => ((((chkMT_parts H).2 t ht).2 j hj).2.2.2.1 u hu k hk e).1
  up := fun t u j ht hu hj e => ((((chkMT_parts H).2 t ht).2 j (by omega)).2.2.2.1 u hu j (by omega) e).2 hj
  root := fun t u ht hu => (((chkMT_parts H).2 t ht).2 0 (chkMT_parts H).1).2.2.2.2.1 u hu
  mem_in := fun t j ht hj => (((chkMT_parts H).2 t ht).2 j hj).2.2.2.2.2.1
  mem_nd := fun t j ht hj => (((chkMT_parts H).2 t ht).2 j hj).2.2.2.2.2.2.1
  mem_len := fun t j ht hj => rfl
  mem_is := fun t j c ht hj hc => (((chkMT_parts H).2 t ht).2 j hj).2.2.2.2.2.2.2 c hc
end

def cmPaths (n : Nat) : List (List Nat) := (List.range n).map fun t => (List.range (cmH n)).map (cmPath n t)
set_option maxRecDepth 100000 in
theorem combine_chk : ∀ n, 1 ≤ n → n ≤ 16 → chkMT (combineOps n) n (cmCells n) (cmH n) (cmPaths n) (cmNodes n) = true := by
  intro n h1 h2
  match n, h1, h2 with
  | 1, _, _ => exact of_decide_eq_true (by decide +kernel)
  | 2, _, _ => exact of_decide_eq_true (by decide +kernel)
  | 3, _, _ => exact of_decide_eq_true (by decide +kernel)
  | 4, _, _ => exact of_decide_eq_true (by decide +kernel)
  | 5, _, _ => exact of_decide_eq_true (by decide +kernel)
  | 6, _, _ => exact of_decide_eq_true (by decide +kernel)
  | 7, _, _ => exact of_decide_eq_true (by decide +kernel)
  | 8, _, _ => exact of_decide_eq_true (by decide +kernel)
  | 9, _, _ => exact of_decide_eq_true (by decide +kernel)
  | 10, _, _ => exact of_decide_eq_true (by decide +kernel)
  | 11, _, _ => exact of_decide_eq_true (by decide +kernel)
  | 12, _, _ => exact of_decide_eq_true (by decide +kernel)
  | 13, _, _ => exact of_decide_eq_true (by decide +kernel)
  | 14, _, _ => exact of_decide_eq_true (by decide +kernel)
  | 15, _, _ => exact of_decide_eq_true (by decide +kernel)
  | 16, _, _ => exact of_decide_eq_true (by decide +kernel)
  | n + 17, _, h => exact absurd h (by omega)
set_option maxRecDepth 100000 in
theorem central_chk : ∀ n, 1 ≤ n → n ≤ 16 → chkMT (centralOps n) n 2 1 (List.replicate n [0]) [List.range n] = true := by
  intro n h1 h2
  match n, h1, h2 with
  | 1, _, _ => exact of_decide_eq_true (by decide +kernel)
  | 2, _, _ => exact of_decide_eq_true (by decide +kernel)
  | 3, _, _ => exact of_decide_eq_true (by decide +kernel)
  | 4, _, _ => exact of_decide_eq_true (by decide +kernel)
  | 5, _, _ => exact of_decide_eq_true (by decide +kernel)
  | 6, _, _ => exact of_decide_eq_true (by decide +kernel)
  | 7, _, _ => exact of_decide_eq_true (by decide +kernel)
  | 8, _, _ => exact of_decide_eq_true (by decide +kernel)
  | 9, _, _ => exact of_decide_eq_true (by decide +kernel)
  | 10, _, _ => exact of_decide_eq_true (by decide +kernel)
  | 11, _, _ => exact of_decide_eq_true (by decide +kernel)
  | 12, _, _ => exact of_decide_eq_true (by decide +kernel)
  | 13, _, _ => exact of_decide_eq_true (by decide +kernel)
  | 14, _, _ => exact of_decide_eq_true (by decide +kernel)
  | 15, _, _ => exact of_decide_eq_true (by decide +kernel)
  | 16, _, _ => exact of_decide_eq_true (by decide +kernel)
  | n + 17, _, h => exact absurd h (by omega)
end Go.Proofs.YtgkfhihnfllmhaaGreatDoor

namespace Go.Proofs.YtgkfhihnfllmhaaGreatDoor
set_option maxRecDepth 100000
set_option linter.unusedVariables false

/-- The kinds, by number: Central, Combine, Static, Spread, Tourney, Mcs. -/
def kOps (k n : Nat) : Nat → List BOp := match k with
  | 1 => centralOps n
  | 2 => combineOps n
  | 3 => staticOps n
  | 4 => spreadOps n
  | 5 => tourneyOps n
  | _ => mcsOps n
def kCells (k n : Nat) : Nat := match k with
  | 1 => 2
  | 2 => cmCells n
  | 3 => n + 1
  | 4 => n * lvls n
  | 5 => n * lvls n + n
  | _ => 2 * n
def kTab (k n : Nat) : TabK := match k with
  | 3 => staticTab n
  | 4 => spreadTab n
  | 5 => tourneyTab n
  | _ => mcsTab n
/-- What a cell is in the end. -/
def kLeaf (k n rounds c : Nat) : Nat :=
  if k ≤ 2 then (if c % 2 = 0 then 0 else rounds) else if ((kTab k n).telOf n c).isSome then rounds else 0
/-- How long all programs are. -/
def kSize (k n : Nat) : Nat := sumN n fun t => 8 + offs (kOps k n t) (kOps k n t).length
/-- How many steps a round takes at most. -/
def kRound (k n : Nat) : Nat := sumN n fun t => if k ≤ 2 then 5 + 18 * ((kOps k n t).length / 2) else 5 + wAll (kOps k n) n (kOps k n t)

structure KOK (k n rounds : Nat) (K : Kind (kOps k n) n (kCells k n) rounds) : Prop where
  pot : K.pot bar0 ≤ rounds * kRound k n + 4 * n
  leaves : ∀ S, K.I S → (∀ t, t < n → (S.th t).ph = .fin) → ∀ c, c < kCells k n → S.cell c = kLeaf k n rounds c

section
variable {ops : Nat → List BOp} {n nc rounds : Nat}

theorem ta_leaves {T : TA ops n nc} {S : BS} (h : TInv T rounds S) (hn : ∀ c u j, T.tel c = some (u, j) → u < n) (hf : ∀ t, t < n → (S.th t).ph = .fin) (c : Nat) : S.cell c = ((if (T.tel c).isSome then rounds else 0 : Nat) : Int) := by
  cases e : T.tel c with
  | none => rw [h.zero c e]; rfl
  | some p =>
    obtain ⟨u, j⟩ := p
    have hu := hn c u j e
    rw [h.cell c u j e]
    have hr := (h.own u hu).rd.2.2.2.2 (.inr (hf u hu))
    unfold toldN told
    rw [hf u hu]
    simp [hr]
theorem sumN_lin (r d : Nat) (f : Nat → Nat) : ∀ m, sumN m (fun t => r * f t + d) = r * sumN m f + d * m
  | 0 => rfl
  | m + 1 => by rw [sumN_succ, sumN_succ, sumN_lin r d f m, Nat.mul_add, Nat.mul_add]; omega
theorem ta_pot (T : TA ops n nc) : (ta_kind T rounds).pot bar0 = rounds * (sumN n fun t => 5 + wAll ops n (ops t)) + 4 * n := by
  rw [← sumN_lin]
  show sumN n (fun t => baseR ops n rounds (ops t) 1 + 2) = _
  congr 1
theorem mt_pot (T : MT ops n nc) : (mt_kind T rounds).pot bar0 = rounds * (sumN n fun _ => 5 + 18 * T.h) + 4 * n := by
  rw [← sumN_lin]
  show sumN n (fun t => mBase T.h rounds 1 + 2) = _
  congr 1
theorem mt_leaves {T : MT ops n nc} {S : BS} (h : MInv T rounds S) (hf : ∀ t, t < n → (S.th t).ph = .fin) {t j : Nat} (ht : t < n) (hj : j < T.h) : S.cell (2 * T.path t j) = 0 ∧ S.cell (2 * T.path t j + 1) = rounds := by
  have hr := fun u (hu : u < n) => (h.own u hu).rd.2.2.2.2 (.inr (hf u hu))
  constructor
  · have hz : T.cnt S (T.path t j) j = 0 := by
      unfold MT.cnt
      rw [List.length_eq_zero_iff, List.filter_eq_nil_iff]
      intro u hu
      have hu := List.mem_range.1 hu
      unfold MT.here MT.last MT.wait lastAt waitAt
      rw [hf u hu]
      simp
    rcases h.count t j ht hj with ⟨⟨u, hu, _, hop⟩, _⟩ | ⟨_, e⟩
    · unfold opAt at hop
      rw [hf u hu] at hop
      cases hop
    · rw [e, hz]; rfl
  · have h1 := (h.own t ht).floor j hj
    have h2 := h.safe t j t ht hj ht
    have h3 : cameN (S.th t) = (S.th t).rd - 1 := by unfold cameN; rw [hf t ht]
    rw [hr t ht] at h1 h3
    unfold gateOf at h1 h2
    rw [h3] at h2
    omega

theorem tel_lt {n : Nat} {T : TabK} {c u j : Nat} (e : T.telOf n c = some (u, j)) : u < n := by
  unfold TabK.telOf at e
  split at e
  · split at e
    · injection e with e
      subst e
      assumption
    · cases e
  · cases e
end

def chkAll (n h nodes : Nat) (path : List (List Nat)) : Bool := (List.range nodes).all fun v => (List.range n).any fun t => (List.range h).any fun j => (path.getD t []).getD j 0 == v
theorem chkAll_of {n h nodes : Nat} {path : List (List Nat)} (H : chkAll n h nodes path = true) {v : Nat} (hv : v < nodes) : ∃ t j, t < n ∧ j < h ∧ (path.getD t []).getD j 0 = v := by
  unfold chkAll at H
  simp only [List.all_eq_true, List.any_eq_true, List.mem_range, beq_iff_eq] at H
  obtain ⟨t, ht, j, hj, e⟩ := H v hv
  exact ⟨t, j, ht, hj, e⟩
set_option maxRecDepth 100000 in
theorem combine_all : ∀ n, 1 ≤ n → n ≤ 16 → chkAll n (cmH n) (cmNodes n).length (cmPaths n) = true := by
  intro n h1 h2
  match n, h1, h2 with
  | 1, _, _ => exact of_decide_eq_true (by decide +kernel)
  | 2, _, _ => exact of_decide_eq_true (by decide +kernel)
  | 3, _, _ => exact of_decide_eq_true (by decide +kernel)
  | 4, _, _ => exact of_decide_eq_true (by decide +kernel)
  | 5, _, _ => exact of_decide_eq_true (by decide +kernel)
  | 6, _, _ => exact of_decide_eq_true (by decide +kernel)
  | 7, _, _ => exact of_decide_eq_true (by decide +kernel)
  | 8, _, _ => exact of_decide_eq_true (by decide +kernel)
  | 9, _, _ => exact of_decide_eq_true (by decide +kernel)
  | 10, _, _ => exact of_decide_eq_true (by decide +kernel)
  | 11, _, _ => exact of_decide_eq_true (by decide +kernel)
  | 12, _, _ => exact of_decide_eq_true (by decide +kernel)
  | 13, _, _ => exact of_decide_eq_true (by decide +kernel)
  | 14, _, _ => exact of_decide_eq_true (by decide +kernel)
  | 15, _, _ => exact of_decide_eq_true (by decide +kernel)
  | 16, _, _ => exact of_decide_eq_true (by decide +kernel)
  | n + 17, _, h => exact absurd h (by omega)
section
variable {n rounds : Nat}
theorem kok1 (n1 : 1 ≤ n) (n16 : n ≤ 16) : KOK 1 n rounds (mt_kind (mt_of (central_chk n n1 n16)) rounds) := by
  refine ⟨?_, fun S hS hf c hc => ?_⟩
  · rw [mt_pot]
    refine Nat.add_le_add_right (Nat.mul_le_mul_left _ (sumN_le fun u hu => ?_)) _
    show 5 + 18 * 1 ≤ 5 + 18 * (2 / 2)
    omega
  · have hl := mt_leaves hS.1 hf (t := 0) (j := 0) (by omega) (Nat.zero_lt_one)
    have hp : (mt_of (central_chk n n1 n16)).path 0 0 = 0 := by
      show ((List.replicate n [0]).getD 0 []).getD 0 0 = 0
      cases n with
      | zero => rfl
      | succ n => rfl
    rw [hp] at hl
    have hc2 : c < 2 := hc
    rcases (by omega : c = 0 ∨ c = 1) with e | e
    · subst e; exact hl.1
    · subst e; exact hl.2
theorem kok2 (n1 : 1 ≤ n) (n16 : n ≤ 16) : KOK 2 n rounds (mt_kind (mt_of (combine_chk n n1 n16)) rounds) := by
  refine ⟨?_, fun S hS hf c hc => ?_⟩
  · rw [mt_pot]
    refine Nat.add_le_add_right (Nat.mul_le_mul_left _ (sumN_le fun u hu => ?_)) _
    have := (mt_of (combine_chk n n1 n16)).len u hu
    show 5 + 18 * (mt_of (combine_chk n n1 n16)).h ≤ 5 + 18 * ((combineOps n u).length / 2)
    rw [this]
    omega
  · have hc2 : c < 2 * (cmNodes n).length := hc
    obtain ⟨t, j, ht, hj, e⟩ := chkAll_of (combine_all n n1 n16) (v := c / 2) (by omega)
    have hl := mt_leaves hS.1 hf (t := t) (j := j) ht hj
    have hp : (mt_of (combine_chk n n1 n16)).path t j = c / 2 := e
    rw [hp] at hl
    unfold kLeaf
    rw [if_pos (by omega)]
    by_cases h0 : c % 2 = 0
    · rw [if_pos h0]
      have := hl.1
      rwa [show 2 * (c / 2) = c by omega] at this
    · rw [if_neg h0]
      have := hl.2
      rwa [show 2 * (c / 2) + 1 = c by omega] at this
theorem kok3 (n1 : 1 ≤ n) (n16 : n ≤ 16) : KOK 3 n rounds (ta_kind (ta_of (static_chk n n1 n16)) rounds) := ⟨by rw [ta_pot]; exact Nat.le_refl _, fun S hS hf c hc => ta_leaves hS.1 (fun c u j e => tel_lt e) hf c⟩
theorem kok4 (n1 : 1 ≤ n) (n16 : n ≤ 16) : KOK 4 n rounds (ta_kind (ta_of (spread_chk n n1 n16)) rounds) := ⟨by rw [ta_pot]; exact Nat.le_refl _, fun S hS hf c hc => ta_leaves hS.1 (fun c u j e => tel_lt e) hf c⟩
theorem kok5 (n1 : 1 ≤ n) (n16 : n ≤ 16) : KOK 5 n rounds (ta_kind (ta_of (tourney_chk n n1 n16)) rounds) := ⟨by rw [ta_pot]; exact Nat.le_refl _, fun S hS hf c hc => ta_leaves hS.1 (fun c u j e => tel_lt e) hf c⟩
theorem kok6 (n1 : 1 ≤ n) (n16 : n ≤ 16) : KOK 6 n rounds (ta_kind (ta_of (mcs_chk n n1 n16)) rounds) := ⟨by rw [ta_pot]; exact Nat.le_refl _, fun S hS hf c hc => ta_leaves hS.1 (fun c u j e => tel_lt e) hf c⟩
end
/-- What a round takes at most, against how long the programs are. -/
def chkLen (k n : Nat) : Bool := decide (kRound k n ≤ 3 * kSize k n) && decide (kRound k n ≤ 2000)
set_option maxRecDepth 100000 in
theorem len_chk : ∀ k n, 1 ≤ k → k ≤ 6 → 1 ≤ n → n ≤ 16 → chkLen k n = true := by
  have h : ((List.range 6).all fun k => (List.range 16).all fun n => chkLen (k + 1) (n + 1)) = true := of_decide_eq_true (by decide +kernel)
  intro k n h1 h2 h3 h4
  rw [List.all_eq_true] at h
  have := h (k - 1) (List.mem_range.2 (by omega))
  rw [List.all_eq_true] at this
  have := this (n - 1) (List.mem_range.2 (by omega))
  rwa [show k - 1 + 1 = k by omega, show n - 1 + 1 = n by omega] at this
theorem size_ge (k n : Nat) : 8 * n ≤ kSize k n := by
  rw [Nat.mul_comm, ← sumN_const]
  exact sumN_le fun u _ => by omega
/-- Steps at most, if nobody is woken for nothing. -/
theorem pot_le {k n rounds : Nat} (k1 : 1 ≤ k) (k6 : k ≤ 6) (n1 : 1 ≤ n) (n16 : n ≤ 16) : rounds * kRound k n + 4 * n ≤ 3 * kSize k n * (rounds + 1) ∧ rounds * kRound k n + 4 * n ≤ rounds * 2000 + 64 := by
  have h := len_chk k n k1 k6 n1 n16
  unfold chkLen at h
  rw [Bool.and_eq_true, decide_eq_true_eq, decide_eq_true_eq] at h
  have h8 := size_ge k n
  have a := Nat.mul_le_mul_left rounds h.1
  have b := Nat.mul_le_mul_left rounds h.2
  rw [Nat.mul_succ, Nat.mul_comm (3 * kSize k n) rounds]
  omega
end Go.Proofs.YtgkfhihnfllmhaaGreatDoor

namespace Go.Proofs.YtgkfhihnfllmhaaGreatDoor
set_option maxRecDepth 100000
set_option linter.unusedVariables false
set_option linter.unusedSimpArgs false

section
variable {ops : Nat → List BOp} {n nc rounds : Nat} {K : Kind ops n nc rounds} {p : Nat} {S : BS} {m : Mach}

/-- How many moves wake somebody for nothing. -/
def pokesM (l : List (Int × Bool)) : Nat := (l.filter (·.2)).length
theorem pokesM_le (l : List (Int × Bool)) : pokesM l ≤ l.length := List.length_filter_le _ _

theorem Ran.steps_lt (h : Ran K p S m) (hp : K.pot bar0 + 4 * p < 20000) : m.steps < 20000 := by have := h.few; omega

/-- Behind any moves of threads that there are. -/
theorem ran_moves (hro : rounds ≤ 20) : ∀ (l : List (Int × Bool)) (p : Nat) (S : BS) (m : Mach), Ran K p S m → (∀ v ∈ l, ∃ t : Nat, t < n ∧ v.1 = t) → K.pot bar0 + 4 * (p + pokesM l) < 20000 → ∃ S', Ran K (p + pokesM l) S' (behindM 20000 m l)
  | [], p, S, m, h, _, _ => ⟨S, h⟩
  | (t, b) :: l, p, S, m, h, hl, hp => by
    obtain ⟨u, hu, e⟩ := hl (t, b) (.head _)
    dsimp only at e
    subst e
    have hl' := fun v hv => hl v (.tail _ hv)
    cases b with
    | true =>
      have hc : pokesM (((u : Int), true) :: l) = pokesM l + 1 := by unfold pokesM; rw [List.filter_cons_of_pos rfl]; rfl
      rw [hc] at hp ⊢
      rw [show p + (pokesM l + 1) = (p + 1) + pokesM l by omega] at hp ⊢
      exact ran_moves hro l (p + 1) _ _ (ran_poke h hu) hl' hp
    | false =>
      have hc : pokesM (((u : Int), false) :: l) = pokesM l := by unfold pokesM; rw [List.filter_cons_of_neg (by simp)]
      rw [hc] at hp ⊢
      obtain ⟨S', h'⟩ := ran_step h hro hu (h.steps_lt (by omega))
      exact ran_moves hro l p S' _ h' hl' hp

/-- A thread can't go on just if it sleeps, or is at its end. -/
theorem ran_still (h : Ran K p S m) (hro : rounds ≤ 20) (hp : K.pot bar0 + 4 * p < 20000) {t : Nat} (ht : t < n) : ((stepM 20000 m t).2.steps = m.steps ↔ ((S.th t).slp = true ∨ (S.th t).ph = .fin)) ∧ m.steps ≤ (stepM 20000 m t).2.steps ∧ (stepM 20000 m t).2.steps ≤ m.steps + 1 := by
  by_cases hn : (S.th t).slp = true ∨ (S.th t).ph = .fin
  · rw [ran_none h ht hn]
    exact ⟨⟨fun _ => hn, fun _ => rfl⟩, Nat.le_refl _, Nat.le_succ _⟩
  · have hs : (S.th t).slp = false := by
      cases e : (S.th t).slp with
      | false => rfl
      | true => exact absurd (.inl e) hn
    obtain ⟨_, s2, _, _⟩ := sim_step h.sim (K.wf t ht) ht hs (fun e => hn (.inr e)) (h.steps_lt hp) hro (K.wakes S t m h.inv h.sim ht)
    exact ⟨⟨fun e => by omega, fun e => absurd e hn⟩, by omega, by omega⟩

/-- Each of these goes on, one behind the other. -/
def sweepM (l : List Nat) (m : Mach) : Mach := l.foldl (fun (m : Mach) (t : Nat) => (stepM 20000 m (t : Int)).2) m
theorem ran_sweep (hro : rounds ≤ 20) (hp : K.pot bar0 + 4 * p < 20000) : ∀ (l : List Nat) (S : BS) (m : Mach), Ran K p S m → (∀ t ∈ l, t < n) → ∃ S', Ran K p S' (sweepM l m) ∧ m.steps ≤ (sweepM l m).steps ∧ ((sweepM l m).steps = m.steps → sweepM l m = m ∧ ∀ t ∈ l, (S.th t).slp = true ∨ (S.th t).ph = .fin)
  | [], S, m, h, _ => ⟨S, h, Nat.le_refl _, fun _ => ⟨rfl, fun _ h => by cases h⟩⟩
  | t :: l, S, m, h, hl => by
    have ht := hl t (.head _)
    obtain ⟨S1, h1⟩ := ran_step h hro ht (h.steps_lt hp)
    obtain ⟨e1, e2, _⟩ := ran_still h hro hp ht
    by_cases hn : (S.th t).slp = true ∨ (S.th t).ph = .fin
    · have e := ran_none h ht hn
      obtain ⟨S2, h2, a, b⟩ := ran_sweep hro hp l S m h (fun u hu => hl u (.tail _ hu))
      have e2 : sweepM (t :: l) m = sweepM l m := by show sweepM l (stepM 20000 m t).2 = _; rw [e]
      rw [e2]
      refine ⟨S2, h2, a, fun hst => ⟨(b hst).1, fun u hu => ?_⟩⟩
      rcases List.mem_cons.1 hu with hu | hu
      · subst hu; exact hn
      · exact (b hst).2 u hu
    · obtain ⟨S2, h2, a, b⟩ := ran_sweep hro hp l S1 _ h1 (fun u hu => hl u (.tail _ hu))
      refine ⟨S2, h2, Nat.le_trans e2 a, fun hst => ?_⟩
      exfalso
      apply hn
      rw [← e1]
      have hst' : (sweepM l (stepM 20000 m t).2).steps = m.steps := hst
      omega

/-- All are at their ends. -/
def Done (n : Nat) (S : BS) : Prop := ∀ t, t < n → (S.th t).ph = .fin
theorem ran_quiet (h : Ran K p S m) (hq : ∀ t, t < n → (S.th t).slp = true ∨ (S.th t).ph = .fin) : Done n S := K.live S h.inv (fun t ht => (hq t ht).symm)
/-- If nobody went on, all around, all are at their ends. -/
theorem ran_over (hro : rounds ≤ 20) (hp : K.pot bar0 + 4 * p < 20000) (h : Ran K p S m) {l : List Nat} (hl : ∀ t ∈ l, t < n) (hall : ∀ t, t < n → t ∈ l) (hs : (sweepM l m).steps = m.steps) : Done n S := by
  obtain ⟨S', _, _, h3⟩ := ran_sweep hro hp l S m h hl
  exact ran_quiet h fun t ht => (h3 hs).2 t (hall t ht)
end
end Go.Proofs.YtgkfhihnfllmhaaGreatDoor

namespace Go.Proofs.YtgkfhihnfllmhaaGreatDoor
set_option maxRecDepth 100000
set_option linter.unusedVariables false
set_option linter.unusedSimpArgs false

section
variable {n : Nat} {l : List Ev4}

/-- The event that a thread that said k already is to say next. -/
def evAt (w : Int) (t k : Nat) : Ev4 := (w, ((1 + k % 2 : Nat) : Int), (t : Int), ((1 + k / 2 : Nat) : Int))
theorem cntEv_snoc (l : List Ev4) (w : Int) (t k u : Nat) : cntEv (l ++ [evAt w t k]) u = cntEv l u + if u = t then 1 else 0 := by rw [cntEv_append]; unfold evAt; rw [cntEv_one]
theorem OkEv.mem (h : OkEv n l) : ∀ e ∈ l, ∃ w t k, t < n ∧ e = evAt w t k := by
  induction h with
  | nil => intro e he; cases he
  | @snoc l t k w _ ht _ _ ih =>
    intro e he
    rcases List.mem_append.1 he with he | he
    · exact ih e he
    · rw [List.mem_singleton] at he
      exact ⟨w, t, k, ht, he⟩
theorem OkEv.zero (h : OkEv n l) {w : Nat} (hw : w < n) (hz : cntEv l w = 0) : ∀ e ∈ l, e.2.1 ≠ 2 ∧ e.2.2.1 ≠ w := by
  induction h with
  | nil => intro e he; cases he
  | @snoc l t k wh h ht hk hall ih =>
    have hs := cntEv_snoc l wh t k w
    unfold evAt at hs
    rw [hs] at hz
    intro e he
    rcases List.mem_append.1 he with he | he
    · exact ih (by omega) e he
    · rw [List.mem_singleton] at he
      subst he
      have hne : w ≠ t := fun e => by rw [if_pos e] at hz; omega
      refine ⟨fun e2 => ?_, fun e2 => hne ?_⟩
      · have e2' : ((1 + k % 2 : Nat) : Int) = 2 := e2
        have := hall (by omega) w hw
        omega
      · have e2' : ((t : Nat) : Int) = w := e2
        omega
theorem sumN_one (n t : Nat) (f : Nat → Nat) (ht : t < n) : sumN n (fun u => f u + if u = t then 1 else 0) = sumN n f + 1 := by
  have h : ∀ m, sumN m (fun u => f u + if u = t then 1 else 0) = sumN m f + if t < m then 1 else 0 := by
    intro m
    induction m with
    | zero => rfl
    | succ m ih =>
      rw [sumN_succ, sumN_succ, ih]
      by_cases h1 : t < m
      · rw [if_pos h1, if_neg (by omega : ¬ m = t), if_pos (by omega : t < m + 1)]; omega
      · by_cases h2 : m = t
        · rw [if_neg h1, if_pos h2, if_pos (by omega : t < m + 1)]; omega
        · rw [if_neg h1, if_neg h2, if_neg (by omega : ¬ t < m + 1)]; omega
  rw [h n, if_pos ht]
theorem OkEv.len (h : OkEv n l) : l.length = sumN n (cntEv l) := by
  induction h with
  | nil => show 0 = sumN n (fun _ => 0); rw [sumN_const]; omega
  | @snoc l t k w h ht hk hall ih =>
    have hs : (fun u => cntEv (l ++ [evAt w t k]) u) = fun u => cntEv l u + if u = t then 1 else 0 := by funext u; exact cntEv_snoc l w t k u
    show (l ++ [evAt w t k]).length = sumN n (fun u => cntEv (l ++ [evAt w t k]) u)
    rw [hs, sumN_one n t _ ht, List.length_append, ih]
    rfl
/-- What a thread said: What and Value. -/
def saidBy (l : List Ev4) (t : Nat) : List (Int × Int) := (l.filter fun e => e.2.2.1 == (t : Int)).map fun e => (e.2.1, e.2.2.2)
theorem OkEv.said (h : OkEv n l) (u : Nat) : saidBy l u = (List.range (cntEv l u)).map fun k => (((1 + k % 2 : Nat) : Int), ((1 + k / 2 : Nat) : Int)) := by
  induction h with
  | nil => rfl
  | @snoc l t k w h ht hk hall ih =>
    have hs := cntEv_snoc l w t k u
    unfold evAt at hs
    rw [hs]
    unfold saidBy at ih ⊢
    rw [List.filter_append, List.map_append, ih]
    by_cases e : u = t
    · subst e
      rw [if_pos rfl, List.range_succ, List.map_append, hk]
      simp
    · rw [if_neg e, List.filter_cons_of_neg (by simp; omega)]
      simp
/-- Who is gone of a round: all came to it. -/
theorem OkEv.all (h : OkEv n l) {t u : Nat} (ht : t < n) (hu : u < n) : 2 * (cntEv l t / 2) ≤ cntEv l u + 1 := by
  induction h with
  | nil => show 2 * (0 / 2) ≤ 0 + 1; omega
  | @snoc l t' k w h ht' hk hall ih =>
    have h1 := cntEv_snoc l w t' k t
    have h2 := cntEv_snoc l w t' k u
    unfold evAt at h1 h2
    rw [h1, h2]
    by_cases e : t = t'
    · subst e
      rw [if_pos rfl]
      by_cases hk2 : k % 2 = 1
      · have := hall hk2 u hu
        omega
      · omega
    · rw [if_neg e]
      omega
theorem OkEv.init {l r : List Ev4} (h : OkEv n (l ++ r)) : OkEv n l := by
  generalize e : l ++ r = q at h
  induction h generalizing r with
  | nil =>
    rw [(List.append_eq_nil_iff.1 e).1]
    exact .nil
  | @snoc q t k w h ht hk hall ih =>
    rcases List.eq_nil_or_concat r with e2 | ⟨r', x, e2⟩
    · subst e2
      rw [List.append_nil] at e
      subst e
      exact .snoc h ht hk hall
    · subst e2
      rw [List.concat_eq_append, ← List.append_assoc] at e
      have := List.append_inj' e rfl
      exact ih this.1
/-- Event by event. -/
theorem OkEv.at (h : OkEv n l) {a b : List Ev4} {e : Ev4} (hl : l = a ++ e :: b) : ∃ w t, t < n ∧ e = evAt w t (cntEv a t) ∧ (cntEv a t % 2 = 1 → ∀ u, u < n → cntEv a t ≤ cntEv a u) := by
  subst hl
  have h2 : OkEv n (a ++ [e]) := by
    have : a ++ e :: b = (a ++ [e]) ++ b := by simp
    rw [this] at h
    exact h.init
  generalize hq : a ++ [e] = q at h2
  cases h2 with
  | nil => simp at hq
  | @snoc l t k w h ht hk hall =>
    have := List.append_inj' hq rfl
    obtain ⟨h1, h2⟩ := this
    subst h1
    injection h2 with h2 _
    exact ⟨w, t, ht, by rw [hk]; exact h2, by rw [hk]; exact hall⟩
end

section
variable {ops : Nat → List BOp} {n nc rounds : Nat} {K : Kind ops n nc rounds} {p : Nat} {S : BS} {m : Mach}
theorem ran_cnt (h : Ran K p S m) {t : Nat} (ht : t < n) : cntEv m.events t ≤ 2 * rounds := by
  rw [h.ev.cnt t ht]
  have hr := K.rd S t h.inv ht
  unfold cameN goneN
  have h1 := hr.2.1
  cases hp : (S.th t).ph <;> rw [hp] at h1 <;> dsimp only <;> (first | (have := h1 rfl; omega) | omega)
theorem ran_done_cnt (h : Ran K p S m) (hd : Done n S) {t : Nat} (ht : t < n) : cntEv m.events t = 2 * rounds := by
  rw [h.ev.cnt t ht]
  have hr := (K.rd S t h.inv ht).2.2 (hd t ht)
  unfold cameN goneN
  rw [hd t ht]
  dsimp only
  omega
theorem ran_done_len (h : Ran K p S m) (hd : Done n S) : m.events.length = 2 * n * rounds := by
  rw [h.ev.ok.len]
  have : sumN n (cntEv m.events) = sumN n fun _ => 2 * rounds := Nat.le_antisymm (sumN_le fun u hu => Nat.le_of_eq (ran_done_cnt h hd hu)) (sumN_le fun u hu => Nat.le_of_eq (ran_done_cnt h hd hu).symm)
  rw [this, sumN_const, ← Nat.mul_assoc, Nat.mul_comm n 2]
theorem ran_done_ended (h : Ran K p S m) (hd : Done n S) {t : Nat} (ht : t < n) : m.ended.getD t false = true := by
  rw [(h.sim.th t ht).fin]
  exact decide_eq_true (hd t ht)
theorem ran_done_iff (h : Ran K p S m) : (∀ t, t < n → m.ended.getD t false = true) ↔ Done n S := by
  refine ⟨fun H t ht => ?_, fun hd t ht => ran_done_ended h hd ht⟩
  have := H t ht
  rw [(h.sim.th t ht).fin] at this
  exact of_decide_eq_true this
theorem ran_asleep (h : Ran K p S m) {t : Nat} (ht : t < n) : asleepM m t = (S.th t).slp := by
  unfold asleepM
  cases e : (S.th t).slp with
  | true =>
    obtain ⟨c, hc⟩ := (h.sim.th t ht).nap e
    rw [List.any_eq_true]
    exact ⟨_, h.sim.lot.all t c ht e hc, by simp⟩
  | false =>
    rw [List.any_eq_false]
    intro s hs
    obtain ⟨u, c, e1, hu, h1, _⟩ := h.sim.lot.sound s hs
    subst e1
    simp only [beq_iff_eq]
    intro e2
    have e2' : (u : Int) = t := e2
    have : u = t := by omega
    subst this
    rw [h1] at e
    cases e
/-- SOMEBODY CAN ALWAYS GO ON. -/
theorem ran_goes (h : Ran K p S m) : (∃ t, t < n ∧ m.ended.getD t false = false ∧ asleepM m t = false) ∨ ∀ t, t < n → m.ended.getD t false = true := by
  by_cases hd : ∃ t, t < n ∧ m.ended.getD t false = false ∧ asleepM m t = false
  · exact .inl hd
  · right
    refine (ran_done_iff h).2 (ran_quiet h fun t ht => ?_)
    by_cases h1 : (S.th t).slp = true
    · exact .inl h1
    · right
      cases h2 : m.ended.getD t false with
      | false => exact absurd ⟨t, ht, h2, by rw [ran_asleep h ht]; simpa using h1⟩ hd
      | true =>
        rw [(h.sim.th t ht).fin] at h2
        exact of_decide_eq_true h2
/-- In the end. -/
theorem ran_leaves {k n rounds p : Nat} {K : Kind (kOps k n) n (kCells k n) rounds} (hK : KOK k n rounds K) {S : BS} {m : Mach} (h : Ran K p S m) (hd : Done n S) : m.cells = (List.range (kCells k n)).map fun c => (kLeaf k n rounds c : Int) := by
  refine List.ext_getElem (by rw [h.sim.lc]; simp) fun c h1 h2 => ?_
  have hc : c < kCells k n := by rw [← h.sim.lc]; exact h1
  have e := h.sim.cell c hc
  rw [List.getD_eq_getElem?_getD, List.getElem?_eq_getElem h1] at e
  simp only [Option.getD_some] at e
  rw [e, hK.leaves S h.inv hd c hc]
  simp
end
end Go.Proofs.YtgkfhihnfllmhaaGreatDoor
