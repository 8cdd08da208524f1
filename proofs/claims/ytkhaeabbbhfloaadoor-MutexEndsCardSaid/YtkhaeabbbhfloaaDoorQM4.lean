/-
  Locks: what is found by letting small machines go; one who is alone; what the laws on locks come to Locks: what is so behind moves, and at the end
-/
import Derived.Test.YtkhaeabbbhfloaaDoorQM2
import Derived.Test.YtkhaeabbbhfloaaDoorQM3
namespace Go.Proofs.YtkhaeabbbhfloaaDoor
set_option maxRecDepth 100000
set_option linter.unusedVariables false
set_option linter.unusedSimpArgs false

def roundsM : Nat → Mach → Mach
  | 0, m => m
  | k + 1, m => roundsM k (roundM m)
theorem roundM_progs (m : Mach) : (roundM m).progs = m.progs := sweepM_progs _ _
theorem sweeps_rounds : ∀ (k : Nat) (m : Mach), sweepM (List.replicate k (List.range m.progs.length)).flatten m = roundsM k m
  | 0, m => rfl
  | k + 1, m => by
    rw [List.replicate_succ, List.flatten_cons, sweepM_append]
    have h := sweeps_rounds k (roundM m)
    rw [roundM_progs] at h
    exact h
/-- So many rounds, each of which somebody goes on in; and then none. -/
def stopsB : Nat → Mach → Bool
  | 0, m => decide ((roundM m).steps = m.steps)
  | K + 1, m => decide ((roundM m).steps ≠ m.steps) && stopsB K (roundM m)
theorem stops_rounds : ∀ (K k : Nat) (m : Mach), stopsB K m = true → roundM (roundsM k m) = roundsM k m → roundsM k m = roundsM K m
  | 0, 0, m, _, _ => rfl
  | 0, k + 1, m, h, _ => by
    have e : roundM m = m := sweepM_same (of_decide_eq_true h)
    have : ∀ k, roundsM k m = m := fun k => by
      induction k with
      | zero => rfl
      | succ k ih => show roundsM k (roundM m) = m; rw [e, ih]
    exact this (k + 1)
  | K + 1, 0, m, h, h2 => by
    have h := (Bool.and_eq_true _ _ ▸ h : _ ∧ _).1
    exact absurd (congrArg Mach.steps h2) (of_decide_eq_true h)
  | K + 1, k + 1, m, h, h2 => stops_rounds K k (roundM m) (Bool.and_eq_true _ _ ▸ h : _ ∧ _).2 h2
theorem fin_eval {m m' : Mach} (K : Nat) (h : stopsB K m = true) (hf : Fin m m') : m' = roundsM K m := by
  obtain ⟨k, h1, h2⟩ := hf
  rw [sweeps_rounds] at h1
  subst h1
  exact stops_rounds K k m h h2

/-! A mutex, locked twice. -/
def mutL2 : List (List Bool) := [[false, false], [true]]
def mutM2 : Mach := behindM 20000 (newM (mutL2.map (wholeK mutexF)) [0]) [(0, false), (0, false), (0, false), (0, false)]
theorem mutM2_cells : mutM2.cells = [1] := by decide +kernel
theorem mutM2_end {m' : Mach} (hf : Fin mutM2 m') : m'.cells = [1] ∧ m'.progs.length = 2 ∧ m'.ended = [true, true] := by
  rw [fin_eval 9 (by decide +kernel) hf]
  decide +kernel
/-! Tickets. -/
def ticL2 : List (List Bool) := [[false, true], [false, true]]
def ticM2 : Mach := behindM 20000 (newM (ticL2.map (wholeK tickF)) [0, 0]) [(1, false)]
theorem ticM2_end {m' : Mach} (hf : Fin ticM2 m') : m'.cells = [2, 2] ∧ m'.progs.length = 2 ∧ m'.ended = [true, true] ∧ ansOf m'.events 0 = [1, 1] ∧ ansOf m'.events 1 = [0, 0] ∧ m'.events.length = 4 := by
  rw [fin_eval 13 (by decide +kernel) hf]
  decide +kernel
end Go.Proofs.YtkhaeabbbhfloaaDoor

namespace Go.Proofs.YtkhaeabbbhfloaaDoor
set_option maxRecDepth 100000
set_option linter.unusedVariables false
set_option linter.unusedSimpArgs false

theorem lockL_len (t : Nat) : (lockL t).length = 2 * t := by unfold lockL; simp
theorem lockL_succ (t : Nat) : lockL (t + 1) = lockL t ++ [false, true] := by
  unfold lockL
  rw [show 2 * (t + 1) = 2 * t + 1 + 1 by omega, List.range_succ, List.range_succ, List.map_append, List.map_append, List.append_assoc]
  have h0 : ((2 * t) % 2 == 1) = false := by simp
  have h1 : ((2 * t + 1) % 2 == 1) = true := by
    have : (2 * t + 1) % 2 = 1 := by omega
    rw [this]; rfl
  rw [List.map_cons, List.map_nil, List.map_cons, List.map_nil, h0, h1]
  rfl
def loLs (n t : Nat) : List (List Bool) := List.replicate n (lockL t)
theorem loLs_len (n t : Nat) : (loLs n t).length = n := List.length_replicate ..
def loC (n t : Nat) (u : Nat) : List Bool := (loLs n t).getD u []
theorem loC_at {n t u : Nat} (hu : u < (loLs n t).length) : loC n t u = lockL t := by
  rw [loLs_len] at hu
  unfold loC loLs
  rw [List.getD_eq_getElem?_getD, List.getElem?_replicate, if_pos hu]
  rfl
theorem progs_lo {κ : Type} (F : Fam Bool) (n t : Nat) : (loLs n t).map (wholeK F) = (List.range (loLs n t).length).map fun u => wholeK F (loC n t u) := by
  refine List.ext_getElem (by simp) fun i h1 h2 => ?_
  have hi : i < (loLs n t).length := by simpa using h1
  simp [loC, List.getD_eq_getElem?_getD, List.getElem?_eq_getElem hi]

/-! Mutex. -/
def muK (n t : Nat) : KindF mutexF (loLs n t).length (loC n t) (fun c => ([0] : List Int).getD c 0) := mutK _ t _ fun _ hu => loC_at hu
section
variable {n t : Nat} {l : List (Int × Bool)} {m' : Mach}
theorem muK_pot (hn : n ≤ 8) (ht : t ≤ 5) : (muK n t).pot (newK fun c => ([0] : List Int).getD c 0) ≤ 10100 := mutK_pot (fun _ hu => loC_at hu) (by rw [loLs_len]; exact hn) ht
theorem muK_pk : (muK n t).pk = 7 := rfl
def muM0 (n t : Nat) : Mach := newM ((loLs n t).map (wholeK mutexF)) [0]
theorem mu_moves (hn : n ≤ 8) (ht : t ≤ 5) (hp : pokesM l ≤ 600) : ∃ S, RanF (muK n t) (pokesM l) S (behindM 20000 (muM0 n t) l) := by
  unfold muM0
  rw [progs_lo (κ := Bool)]
  have h0 := ranF_new (K := muK n t) rfl (fun v hv => by
    rw [List.mem_singleton.1 hv]
    exact ⟨by decide, by decide⟩)
  obtain ⟨S, hS⟩ := ranF_moves l 0 _ _ h0 (by rw [muK_pk]; have := muK_pot hn ht; omega)
  rw [Nat.zero_add] at hS
  exact ⟨S, hS⟩
theorem mu_inv {p : Nat} {S : CS} {m : Mach} (h : RanF (muK n t) p S m) : MutI (loLs n t).length (loC n t) S m.acts ∧ NapM (loLs n t).length (loC n t) S ∧ SaidU (loLs n t).length S m.events := h.inv
/-- Who has it behind an act, as the law hears it; none: it would not be right. -/
def muA (h : Int) (x : Act6) : Option Int :=
  if x.2.2.1 ≠ 9 ∨ x.2.2.2.2.1 = x.2.2.2.2.2 then some h
  else if x.2.2.2.2.1 = 0 then (if 0 ≤ h then none else some x.2.1)
  else if x.2.2.2.2.2 = 0 then (if h ≠ x.2.1 then none else some (-1))
  else if x.2.2.2.2.1 ≠ 1 ∨ x.2.2.2.2.2 ≠ 2 ∨ h = x.2.1 then none else some h
def muH (a : List Act6) : Option Int := a.foldl (fun o x => o.bind fun h => muA h x) (some (-1))
theorem muH_snoc (a : List Act6) (x : Act6) : muH (a ++ [x]) = (muH a).bind fun h => muA h x := by unfold muH; rw [List.foldl_append]; rfl
theorem muH_of {a : List Act6} {z : Int} (h : HoldA a z) : muH a = some z := by
  induction h with
  | nil => rfl
  | same H e ih =>
    rw [muH_snoc, ih]
    show muA _ _ = _
    unfold muA
    rw [if_pos (.inr e)]
  | take H e ih =>
    rw [muH_snoc, ih]
    show muA _ _ = _
    unfold muA
    rw [if_neg (by rintro (q | q); exact q rfl; exact e q.symm), if_pos rfl, if_neg (by decide)]
  | free H e ih =>
    rw [muH_snoc, ih]
    show muA _ _ = _
    unfold muA
    rw [if_neg (by rintro (q | q); exact q rfl; exact e q), if_neg e, if_pos rfl, if_neg (fun q => q rfl)]
  | wait H e ih =>
    rw [muH_snoc, ih]
    show muA _ _ = _
    unfold muA
    rw [if_neg (by rintro (q | q); exact q rfl; (have q : (1 : Int) = 2 := q); exact absurd q (by decide)), if_neg (show ¬ (1 : Int) = 0 by decide), if_neg (show ¬ (2 : Int) = 0 by decide), if_neg (by rintro (q | q | q); exact q rfl; exact q rfl; exact e q)]
theorem muH_none : ∀ a : List Act6, a.foldl (fun (o : Option Int) x => o.bind fun h => muA h x) none = none
  | [] => rfl
  | x :: a => muH_none a
theorem muH_take {a : List Act6} {h : Int} (ha : muH a = some h) (i : Nat) : ∃ h', muH (a.take i) = some h' := by
  cases hi : muH (a.take i) with
  | some h' => exact ⟨h', rfl⟩
  | none =>
    have e : muH a = (a.drop i).foldl (fun o x => o.bind fun h => muA h x) (muH (a.take i)) := by
      unfold muH
      rw [← List.foldl_append, List.take_append_drop]
    rw [hi, muH_none, ha] at e
    cases e
theorem muH_next {a : List Act6} {z : Int} {i : Nat} (h : muH a = some z) (hi : i < a.length) : ∃ q q', muH (a.take i) = some q ∧ muH (a.take (i + 1)) = some q' ∧ muA q (a.getD i default) = some q' := by
  obtain ⟨q, hq⟩ := muH_take h i
  obtain ⟨q', hq'⟩ := muH_take h (i + 1)
  refine ⟨q, q', hq, hq', ?_⟩
  have e : a.take (i + 1) = a.take i ++ [a.getD i default] := by
    rw [List.take_add_one, List.getElem?_eq_getElem hi, Option.toList_some, List.getD_eq_getElem?_getD, List.getElem?_eq_getElem hi, Option.getD_some]
  rw [e, muH_snoc, hq] at hq'
  exact hq'
theorem mu_hold {p : Nat} {S : CS} {m : Mach} (h : RanF (muK n t) p S m) : ∃ z, muH m.acts = some z := by
  rcases (mu_inv h).1.one with ⟨_, h2, _⟩ | ⟨_, u, _, h2, _⟩
  · exact ⟨_, muH_of h2⟩
  · exact ⟨_, muH_of h2⟩
theorem mu_fin (hn : n ≤ 8) (ht : t ≤ 5) (hp : pokesM l ≤ 600) (hf : Fin (behindM 20000 (muM0 n t) l) m') : ∃ S, RanF (muK n t) (pokesM l) S m' ∧ ∀ u, u < (loLs n t).length → stillK S u := by
  obtain ⟨S, hS⟩ := mu_moves hn ht hp
  exact ranF_fin (by rw [muK_pk]; have := muK_pot hn ht; omega) hS hf
theorem mu_ends (hn : n ≤ 8) (ht : t ≤ 5) (hp : pokesM l ≤ 600) (hf : Fin (behindM 20000 (muM0 n t) l) m') : (∀ u, u < m'.progs.length → m'.ended.getD u false = true) ∧ m'.cells = [0] ∧ m'.events.length = 2 * n * t := by
  obtain ⟨S, hS, hq⟩ := mu_fin hn ht hp hf
  obtain ⟨h1, h2, h3⟩ := mu_inv hS
  obtain ⟨k1, k2⟩ := mut_still (times := t) (fun _ hu => loC_at hu) hS.sim.wf h1 h2 hq
  refine ⟨fun u hu => ?_, ?_, ?_⟩
  · have hu' : u < (loLs n t).length := by rw [← hS.sim.plen]; exact hu
    rw [hS.ended hu']
    exact (k2 u hu').1
  · have hl : m'.cells.length = 1 := hS.sim.lc
    have hc : S.cell 0 = m'.cells.getD 0 0 := by rw [hS.sim.cell]
    match hm : m'.cells, hl with
    | [v], _ =>
      rw [hm, k1] at hc
      have hc : (0 : Int) = v := hc
      rw [← hc]
  · rw [h3.len]
    have e : (sumN (loLs n t).length fun u => (S.th u).k) = sumN (loLs n t).length fun _ => 2 * t := Nat.le_antisymm
      (sumN_le fun u hu => by rw [(k2 u hu).2]; exact Nat.le_refl _)
      (sumN_le fun u hu => by rw [(k2 u hu).2]; exact Nat.le_refl _)
    rw [e, sumN_const, loLs_len, Nat.mul_comm 2 n, Nat.mul_assoc]
end
/-! Who is alone. -/
def soloM : Nat → Mach → Mach
  | 0, m => m
  | k + 1, m => soloM k (stepM 20000 m 0).2
theorem soloM_snoc : ∀ (k : Nat) (m : Mach), soloM (k + 1) m = (stepM 20000 (soloM k m) 0).2
  | 0, m => rfl
  | k + 1, m => soloM_snoc k (stepM 20000 m 0).2
def lowB : List Int → Bool
  | [v] => decide (0 ≤ v ∧ v ≤ 1)
  | _ => false
def aloneB : Nat → Mach → Bool
  | 0, _ => true
  | k + 1, m => decide ((stepM 20000 m 0).1 = 0) && (lowB (stepM 20000 m 0).2.cells && aloneB k (stepM 20000 m 0).2)
theorem alone_at : ∀ (K : Nat) (m : Mach) (i : Nat), aloneB K m = true → i < K → (stepM 20000 (soloM i m) 0).1 = 0 ∧ lowB (soloM (i + 1) m).cells = true
  | 0, _, _, _, h => absurd h (Nat.not_lt_zero _)
  | K + 1, m, 0, h, _ => by
    unfold aloneB at h
    rw [Bool.and_eq_true, Bool.and_eq_true] at h
    exact ⟨of_decide_eq_true h.1, h.2.1⟩
  | K + 1, m, i + 1, h, hi => by
    unfold aloneB at h
    rw [Bool.and_eq_true, Bool.and_eq_true] at h
    exact alone_at K (stepM 20000 m 0).2 i h.2.2 (by omega)
theorem low_is {l : List Int} (h : lowB l = true) : ∃ v : Int, l = [v] ∧ 0 ≤ v ∧ v ≤ 1 := by
  unfold lowB at h
  split at h
  · next v => exact ⟨v, rfl, of_decide_eq_true h⟩
  · cases h
theorem mu_alone {t : Nat} (ht : t ≤ 5) : aloneB (13 * t) (muM0 1 t) = true ∧ (soloM (13 * t) (muM0 1 t)).events.length = 2 * t ∧ (stepM 20000 (soloM (13 * t) (muM0 1 t)) 0).1 = 0 ∧ (stepM 20000 (stepM 20000 (soloM (13 * t) (muM0 1 t)) 0).2 0).1 = 6 := by
  match t, ht with
  | 0, _ => decide +kernel
  | 1, _ => decide +kernel
  | 2, _ => decide +kernel
  | 3, _ => decide +kernel
  | 4, _ => decide +kernel
  | 5, _ => decide +kernel

/-! Tickets. -/
def tiK (n t : Nat) (hn : n ≤ 8) (ht : t ≤ 5) : KindF tickF (loLs n t).length (loC n t) (fun c => ([0, 0] : List Int).getD c 0) := ticK _ t _ (fun _ hu => loC_at hu) (by
  rw [loLs_len]
  have : n * (t + 1) ≤ 8 * 6 := Nat.mul_le_mul hn (by omega)
  omega) (by rw [loLs_len]; omega)
def tiM0 (n t : Nat) : Mach := newM ((loLs n t).map (wholeK tickF)) [0, 0]
section
variable {n t : Nat} {l : List (Int × Bool)} {m' : Mach}
theorem tiK_pot (hn : n ≤ 8) (ht : t ≤ 5) : (tiK n t hn ht).pot (newK fun c => ([0, 0] : List Int).getD c 0) ≤ 5700 := ticK_pot (fun _ hu => loC_at hu) _ _ (by rw [loLs_len]; exact hn) ht
theorem ti_moves (hn : n ≤ 8) (ht : t ≤ 5) (hp : pokesM l ≤ 600) : ∃ S, RanF (tiK n t hn ht) (pokesM l) S (behindM 20000 (tiM0 n t) l) := by
  unfold tiM0
  rw [progs_lo (κ := Bool)]
  have h0 := ranF_new (K := tiK n t hn ht) rfl (fun v hv => by
    have : v = 0 := by simpa using hv
    rw [this]
    exact ⟨by decide, by decide⟩)
  have hpk : (tiK n t hn ht).pk = 4 := rfl
  obtain ⟨S, hS⟩ := ranF_moves l 0 _ _ h0 (by rw [hpk]; have := tiK_pot hn ht; omega)
  rw [Nat.zero_add] at hS
  exact ⟨S, hS⟩
theorem ti_inv {p : Nat} {S : CS} {m : Mach} {hn : n ≤ 8} {ht : t ≤ 5} (h : RanF (tiK n t hn ht) p S m) : TicI (loLs n t).length t (loC n t) S m.acts m.events := h.inv
theorem ti_pre (hn : n ≤ 8) (ht : t ≤ 5) (hp : pokesM l ≤ 600) : ∀ m, m = behindM 20000 (tiM0 n t) l ∨ Fin (behindM 20000 (tiM0 n t) l) m → (freedA m.acts).length ≤ (drewA m.acts).length ∧ freedA m.acts = (drewA m.acts).take (freedA m.acts).length := by
  obtain ⟨S, hS⟩ := ti_moves hn ht hp
  have hpk : (tiK n t hn ht).pk = 4 := rfl
  rintro m (rfl | hf)
  · exact ⟨(ti_inv hS).le, (ti_inv hS).pre⟩
  · obtain ⟨S', hS', _⟩ := ranF_fin (by rw [hpk]; have := tiK_pot hn ht; omega) hS hf
    exact ⟨(ti_inv hS').le, (ti_inv hS').pre⟩
/-- Each thread's tickets. -/
theorem ti_ends (hn : n ≤ 8) (ht : t ≤ 5) (hp : pokesM l ≤ 600) (hf : Fin (behindM 20000 (tiM0 n t) l) m') : (∀ u, u < m'.progs.length → m'.ended.getD u false = true) ∧ m'.cells = [((n * t : Nat) : Int), ((n * t : Nat) : Int)] ∧ (freedA m'.acts).length = n * t ∧ (drewA m'.acts).length = n * t ∧ m'.progs.length = n ∧
    (∀ x ∈ drewA m'.acts, ∃ u : Nat, u < n ∧ x = (u : Int)) ∧ (∀ x ∈ m'.events, ∃ s w : Int, ∃ u : Nat, u < n ∧ x = (s, 3, (u : Int), w)) ∧
    ∀ u, u < n → (posOf (drewA m'.acts) u).length = t ∧ ansOf m'.events u = (posOf (drewA m'.acts) u).flatMap fun (w : Nat) => [(w : Int), (w : Int)] := by
  obtain ⟨S0, hS0⟩ := ti_moves hn ht hp
  have hpk : (tiK n t hn ht).pk = 4 := rfl
  obtain ⟨S, hS, hq⟩ := ranF_fin (by rw [hpk]; have := tiK_pot hn ht; omega) hS0 hf
  have hI := ti_inv hS
  obtain ⟨k1, k2, k3⟩ := tic_still (fun _ hu => loC_at hu) hS.sim.wf hI hq
  obtain ⟨j1, _⟩ := tic_told (fun _ hu => loC_at hu) hS.sim.wf hI hq
  have hlow := hI.low
  have hevs := hI.evs
  have hc0 := hI.c0
  have hc1 := hI.c1
  rw [k2] at hc0
  rw [k3] at hc1
  have hpl := hS.sim.plen
  have hen : ∀ u, u < (loLs n t).length → m'.ended.getD u false = true := fun u hu => by
    rw [hS.ended hu]
    exact (k1 u hu).1
  have hl : m'.cells.length = 2 := hS.sim.lc
  have e0 : S.cell 0 = m'.cells.getD 0 0 := by rw [hS.sim.cell]
  have e1 : S.cell 1 = m'.cells.getD 1 0 := by rw [hS.sim.cell]
  rw [hc0] at e0
  rw [hc1] at e1
  rw [loLs_len] at k2 k3 hlow hevs hpl hen e0 e1 j1
  refine ⟨fun u hu => hen u (by omega), ?_, k3, k2, hpl, hlow, hevs, j1⟩
  match hm : m'.cells, hl with
  | [v, v'], _ =>
    rw [hm] at e0 e1
    have e0 : ((n * t : Nat) : Int) = v := e0
    have e1 : ((n * t : Nat) : Int) = v' := e1
    rw [← e0, ← e1]
end
end Go.Proofs.YtkhaeabbbhfloaaDoor
