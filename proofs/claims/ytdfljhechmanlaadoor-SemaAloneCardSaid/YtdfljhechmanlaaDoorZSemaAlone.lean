/-
  What is given is taken: one who is alone and gives and takes by turns is told one more, and then what there was. No conditions.
-/
import Derived.Test.YtdfljhechmanlaaDoorQL8
import Derived.Test.YtdfljhechmanlaaDoorQL4
import Derived.Test.YtdfljhechmanlaaDoorQK2
import Derived.Test.YtdfljhechmanlaaDoorRows
import Derived.Test.YtdfljhechmanlaaDoorCards
import Derived.Test.YtdfljhechmanlaaDoorTie
import Derived.WalkKit
import Derived.ProofKit
import Derived.OpenShut
import Derived.ChangeOld
import Derived.Below
import Derived.ChangeSame
import Derived.ChangeVars
import Derived.JoinedOf
import Derived.RowKitTokens
import Derived.LaidLaws
import Derived.LaidHandle
import Derived.Stop.Joined
import Derived.SevenTiedAt
import Derived.Lib.LaidTab
import Derived.Lib.LaidIn
import Derived.ChangeMaps5
import Derived.Test.YtdfljhechmanlaaDoorQE
namespace Go.Proofs.YtdfljhechmanlaaDoor
set_option maxRecDepth 100000
set_option linter.unusedVariables false
set_option linter.unusedSimpArgs false

/-- Give, take, give, take, .. -/
def altG (t : Nat) : List Bool := (List.range (2 * t)).map fun k => k % 2 == 0
theorem altG_succ (t : Nat) : altG (t + 1) = altG t ++ [true, false] := by
  unfold altG
  rw [show 2 * (t + 1) = 2 * t + 1 + 1 by omega, List.range_succ, List.range_succ, List.map_append, List.map_append, List.append_assoc]
  have h0 : ((2 * t) % 2 == 0) = true := by simp
  have h1 : ((2 * t + 1) % 2 == 0) = false := by
    have : (2 * t + 1) % 2 = 1 := by omega
    rw [this]; rfl
  rw [List.map_cons, List.map_nil, List.map_cons, List.map_nil, h0, h1]
  rfl
theorem altG_len (t : Nat) : (altG t).length = 2 * t := by simp [altG]
theorem altG_at (t k : Nat) : (altG t)[k]? = if k < 2 * t then some (k % 2 == 0) else none := by
  unfold altG
  rw [List.getElem?_map]
  split
  · rw [List.getElem?_range (by assumption)]; rfl
  · rw [List.getElem?_eq_none (by simp; omega)]; rfl

/-- Where one is alone: what it has, what there is. -/
def AlT (f : Int) (o : Option Bool) (x : TK) (v : Int) : Prop :=
  match o with
  | none => v = f
  | some true => (x.j = 0 → v = f) ∧ (x.j = 1 → v = f + 1 ∧ x.r 1 = f) ∧ (x.j = 2 → v = f + 1 ∧ x.r 2 = f + 1) ∧ (x.j = 3 → v = f + 1 ∧ x.r 2 = f + 1)
  | some false => (x.j = 0 → v = f + 1) ∧ (x.j = 1 → v = f + 1 ∧ x.r 1 = f + 1) ∧ (x.j = 2 → v = f + 1 ∧ x.r 1 = f + 1) ∧ (x.j = 3 → v = f + 1 ∧ x.r 1 = f + 1 ∧ x.r 2 = f) ∧ (x.j = 4 → v = f ∧ x.r 2 = f ∧ x.r 3 = 1) ∧ (x.j = 5 → v = f ∧ x.r 2 = f) ∧ x.j ≠ 6 ∧ x.j ≠ 7 ∧ (x.j = 8 → v = f ∧ x.r 2 = f)
def AloneX (f : Int) (t : Nat) (S : CS) (e : List Ev4) : Prop :=
  AlT f (altG t)[(S.th 0).k]? (S.th 0) (S.cell 0) ∧ ansOf e 0 = (List.range (S.th 0).k).map fun i => f + 1 - ((i % 2 : Nat) : Int)

section
variable {calls : Nat → List Bool} {S S' : CS} {a : List Act6} {e : List Ev4} {x' : TK} {f : Int} {t : Nat}
theorem al_same (h : AloneX f t S e) (hth : S'.th = upd S.th 0 x') (hk : x'.k = (S.th 0).k) (hx : AlT f (altG t)[(S.th 0).k]? x' (S'.cell 0)) : AloneX f t S' e := by
  refine ⟨?_, ?_⟩
  · rw [hth, upd_same, hk]; exact hx
  · rw [hth, upd_same, hk]; exact h.2
theorem al_say (h : AloneX f t S e) (hth : S'.th = upd S.th 0 x') (hk : x'.k = (S.th 0).k + 1) (hx : AlT f (altG t)[(S.th 0).k + 1]? x' (S'.cell 0)) (s : Int) {v : Int} (hv : v = f + 1 - (((S.th 0).k % 2 : Nat) : Int)) : AloneX f t S' (e ++ [(s, 3, ((0 : Nat) : Int), v)]) := by
  refine ⟨?_, ?_⟩
  · rw [hth, upd_same, hk]; exact hx
  · rw [hth, upd_same, hk, ansOf_self, h.2, List.range_succ, List.map_append, hv]; rfl
theorem sg_small {v : Int} (h0 : 0 ≤ v) (h1 : v ≤ 1000) : signed v = v := by unfold signed; split <;> omega

theorem al_step (h : AloneX f t S e) (hf0 : 0 ≤ f) (hf : f ≤ 100) (hwf : WfK semaF 1 (fun _ => altG t) S) (s : Int) : AloneX f t (stepK semaF (fun _ => altG t) 0 S) (e ++ evsK semaF (fun _ => altG t) 0 S s) := by
  have hA := h.1
  cases hc : (altG t)[(S.th 0).k]? with
  | none =>
    rw [stepK_end (calls := fun _ => altG t) hc, evsK_end (calls := fun _ => altG t) hc, List.append_nil]
    refine al_same (x' := { S.th 0 with en := true }) h rfl rfl ?_
    rw [hc] at hA ⊢
    exact hA
  | some b =>
    rw [hc] at hA
    rw [stepK_eq (calls := fun _ => altG t) hc, evsK_eq (calls := fun _ => altG t) hc]
    have hjl := (hwf.th 0 (by decide)).j _ hc
    have hkk : (S.th 0).k < 2 * t ∧ ((S.th 0).k % 2 == 0) = b := by
      rw [altG_at] at hc
      split at hc
      · injection hc with hc; exact ⟨by assumption, hc⟩
      · cases hc
    cases b
    · have hjl : (S.th 0).j < 9 := hjl
      have hk1 : (S.th 0).k % 2 = 1 := by
        have h2 := hkk.2
        have : (S.th 0).k % 2 ≠ 0 := fun e => by rw [e] at h2; cases h2
        omega
      have hcs : upd S.cell 0 (S.cell 0) 0 = S.cell 0 := upd_same _ _ _
      show AloneX f t (doneK 9 0 S (S.th 0) (semaF.dos false (S.th 0).j S.cell (S.th 0).r)) (e ++ evD 0 s (semaF.dos false (S.th 0).j S.cell (S.th 0).r))
      have hgo : ∀ j, (S.th 0).j = j → j < 9 → AloneX f t (doneK 9 0 S (S.th 0) (semaF.dos false j S.cell (S.th 0).r)) (e ++ evD 0 s (semaF.dos false j S.cell (S.th 0).r)) := fun j hj hjj => by
        match j, hj, hjj with
        | 0, hj, _ =>
          simp [AlT, hj] at hA
          show AloneX f t _ (e ++ [])
          rw [List.append_nil]
          have hg : goK 9 (S.th 0) ((S.th 0).j + 1) = { S.th 0 with j := 1 } := by rw [goK_in (by rw [hj]; decide)]; rw [hj]
          refine al_same (x' := { S.th 0 with j := 1, r := upd (S.th 0).r 1 (S.cell 0) }) h (by show upd S.th 0 { goK 9 (S.th 0) ((S.th 0).j + 1) with r := _ } = _; rw [hg]) rfl ?_
          rw [hc]
          show AlT f _ _ (upd S.cell 0 (S.cell 0) 0)
          rw [hcs]
          simp [AlT, upd]; omega
        | 1, hj, _ =>
          simp [AlT, hj] at hA
          have hd : semaF.dos false 1 S.cell (S.th 0).r = .next := if_neg (by omega)
          rw [hd]
          show AloneX f t _ (e ++ [])
          rw [List.append_nil]
          have hg : goK 9 (S.th 0) ((S.th 0).j + 1) = { S.th 0 with j := 2 } := by rw [goK_in (by rw [hj]; decide)]; rw [hj]
          refine al_same (x' := { S.th 0 with j := 2 }) h (by show upd S.th 0 (goK 9 (S.th 0) ((S.th 0).j + 1)) = _; rw [hg]) rfl ?_
          rw [hc]
          show AlT f _ _ (S.cell 0)
          simp [AlT]; omega
        | 2, hj, _ =>
          simp [AlT, hj] at hA
          show AloneX f t _ (e ++ [])
          rw [List.append_nil]
          have hg : goK 9 (S.th 0) ((S.th 0).j + 1) = { S.th 0 with j := 3 } := by rw [goK_in (by rw [hj]; decide)]; rw [hj]
          have hm : ((S.th 0).r 1 + -1) % m64 = f := by unfold m64; omega
          refine al_same (x' := { S.th 0 with j := 3, r := upd (S.th 0).r 2 (((S.th 0).r 1 + -1) % m64) }) h (by show upd S.th 0 { goK 9 (S.th 0) ((S.th 0).j + 1) with r := _ } = _; rw [hg]) rfl ?_
          rw [hc, hm]
          show AlT f _ _ (S.cell 0)
          simp [AlT, upd]; omega
        | 3, hj, _ =>
          simp [AlT, hj] at hA
          have hg : goK 9 (S.th 0) ((S.th 0).j + 1) = { S.th 0 with j := 4 } := by rw [goK_in (by rw [hj]; decide)]; rw [hj]
          have hd : semaF.dos false 3 S.cell (S.th 0).r = .mem 0 ((S.th 0).r 2) (some (3, 1)) := if_pos (by omega)
          rw [hd]
          show AloneX f t _ (e ++ [])
          rw [List.append_nil]
          refine al_same (x' := { S.th 0 with j := 4, r := upd (S.th 0).r 3 1 }) h (by show upd S.th 0 { goK 9 (S.th 0) ((S.th 0).j + 1) with r := _ } = _; rw [hg]) rfl ?_
          rw [hc]
          show AlT f _ _ (upd S.cell 0 ((S.th 0).r 2) 0)
          rw [upd_same]
          simp [AlT, upd]; omega
        | 4, hj, _ =>
          simp [AlT, hj] at hA
          have hd : semaF.dos false 4 S.cell (S.th 0).r = .next := if_neg (by omega)
          rw [hd]
          show AloneX f t _ (e ++ [])
          rw [List.append_nil]
          have hg : goK 9 (S.th 0) ((S.th 0).j + 1) = { S.th 0 with j := 5 } := by rw [goK_in (by rw [hj]; decide)]; rw [hj]
          refine al_same (x' := { S.th 0 with j := 5 }) h (by show upd S.th 0 (goK 9 (S.th 0) ((S.th 0).j + 1)) = _; rw [hg]) rfl ?_
          rw [hc]
          show AlT f _ _ (S.cell 0)
          simp [AlT]; omega
        | 5, hj, _ =>
          simp [AlT, hj] at hA
          show AloneX f t _ (e ++ [])
          rw [List.append_nil]
          have hg : goK 9 (S.th 0) 8 = { S.th 0 with j := 8 } := goK_in (by decide)
          refine al_same (x' := { S.th 0 with j := 8 }) h (by show upd S.th 0 (goK 9 (S.th 0) 8) = _; rw [hg]) rfl ?_
          rw [hc]
          show AlT f _ _ (S.cell 0)
          simp [AlT]; omega
        | 6, hj, _ => exact absurd hj hA.2.2.2.2.2.2.1
        | 7, hj, _ => exact absurd hj hA.2.2.2.2.2.2.2.1
        | 8, hj, _ =>
          simp [AlT, hj] at hA
          have hg : goK 9 (S.th 0) ((S.th 0).j + 1) = { S.th 0 with k := (S.th 0).k + 1, j := 0 } := by rw [goK_out (by rw [hj]; decide)]
          refine al_say (x' := { S.th 0 with k := (S.th 0).k + 1, j := 0 }) h (by show upd S.th 0 (goK 9 (S.th 0) ((S.th 0).j + 1)) = _; rw [hg]) rfl ?_ s (by rw [sg_small (by omega) (by omega), hk1, hA.2]; omega)
          show AlT f _ _ (S.cell 0)
          rw [altG_at]
          split
          · have : ((S.th 0).k + 1) % 2 = 0 := by omega
            rw [this]
            simp [AlT]; omega
          · exact hA.1
      exact hgo _ rfl hjl
    · have hjl : (S.th 0).j < 4 := hjl
      have hk1 : (S.th 0).k % 2 = 0 := by simpa using hkk.2
      show AloneX f t (doneK 4 0 S (S.th 0) (semaF.dos true (S.th 0).j S.cell (S.th 0).r)) (e ++ evD 0 s (semaF.dos true (S.th 0).j S.cell (S.th 0).r))
      have hgo : ∀ j, (S.th 0).j = j → j < 4 → AloneX f t (doneK 4 0 S (S.th 0) (semaF.dos true j S.cell (S.th 0).r)) (e ++ evD 0 s (semaF.dos true j S.cell (S.th 0).r)) := fun j hj hjj => by
        match j, hj, hjj with
        | 0, hj, _ =>
          simp [AlT, hj] at hA
          show AloneX f t _ (e ++ [])
          rw [List.append_nil]
          have hg : goK 4 (S.th 0) ((S.th 0).j + 1) = { S.th 0 with j := 1 } := by rw [goK_in (by rw [hj]; decide)]; rw [hj]
          refine al_same (x' := { S.th 0 with j := 1, r := upd (S.th 0).r 1 (S.cell 0) }) h (by show upd S.th 0 { goK 4 (S.th 0) ((S.th 0).j + 1) with r := _ } = _; rw [hg]) rfl ?_
          rw [hc]
          show AlT f _ _ (upd S.cell 0 ((S.cell 0 + 1) % m64) 0)
          rw [upd_same, show (S.cell 0 + 1) % m64 = f + 1 by unfold m64; omega]
          simp [AlT, upd]; omega
        | 1, hj, _ =>
          simp [AlT, hj] at hA
          show AloneX f t _ (e ++ [])
          rw [List.append_nil]
          have hg : goK 4 (S.th 0) ((S.th 0).j + 1) = { S.th 0 with j := 2 } := by rw [goK_in (by rw [hj]; decide)]; rw [hj]
          have hm : ((S.th 0).r 1 + 1) % m64 = f + 1 := by unfold m64; omega
          refine al_same (x' := { S.th 0 with j := 2, r := upd (S.th 0).r 2 (((S.th 0).r 1 + 1) % m64) }) h (by show upd S.th 0 { goK 4 (S.th 0) ((S.th 0).j + 1) with r := _ } = _; rw [hg]) rfl ?_
          rw [hc, hm]
          show AlT f _ _ (S.cell 0)
          simp [AlT, upd]; omega
        | 2, hj, _ =>
          simp [AlT, hj] at hA
          show AloneX f t _ (e ++ [])
          rw [List.append_nil]
          have hg : goK 4 (S.th 0) ((S.th 0).j + 1) = { S.th 0 with j := 3 } := by rw [goK_in (by rw [hj]; decide)]; rw [hj]
          refine al_same (x' := { S.th 0 with j := 3 }) h (by show upd S.th 0 (goK 4 (S.th 0) ((S.th 0).j + 1)) = _; rw [hg]) rfl ?_
          rw [hc]
          show AlT f _ _ (S.cell 0)
          simp [AlT]; omega
        | 3, hj, _ =>
          simp [AlT, hj] at hA
          have hg : goK 4 (S.th 0) ((S.th 0).j + 1) = { S.th 0 with k := (S.th 0).k + 1, j := 0 } := by rw [goK_out (by rw [hj]; decide)]
          refine al_say (x' := { S.th 0 with k := (S.th 0).k + 1, j := 0 }) h (by show upd S.th 0 (goK 4 (S.th 0) ((S.th 0).j + 1)) = _; rw [hg]) rfl ?_ s (by rw [sg_small (by omega) (by omega), hk1, hA.2]; simp)
          show AlT f _ _ (S.cell 0)
          rw [altG_at, if_pos (by omega)]
          have : ((S.th 0).k + 1) % 2 = 1 := by omega
          rw [this]
          simp [AlT]; omega
      exact hgo _ rfl hjl
theorem al_new (f t : Nat) : AloneX f t (newK fun c => ([(f : Int)] : List Int).getD c 0) [] := by
  refine ⟨?_, rfl⟩
  show AlT f (altG t)[0]? ⟨0, 0, false, fun _ => 0⟩ (f : Int)
  rw [altG_at]
  split
  · simp [AlT]
  · rfl
theorem al_over (hI : ∀ s ∈ S.lot, s.1 = 0 → (altG t)[(S.th 0).k]? = some false ∧ (S.th 0).j = 7) (hwf : WfK semaF 1 (fun _ => altG t) S) (h : AloneX f t S e) (hq : stillK S 0) : (S.th 0).en = true ∧ (S.th 0).k = 2 * t ∧ S.cell 0 = f := by
  have hen : (S.th 0).en = true := by
    rcases hq with q | q
    · exact q
    · exfalso
      obtain ⟨c, hc⟩ := slK_mem q
      obtain ⟨h2', h3⟩ := hI _ hc rfl
      have hA := h.1
      rw [h2'] at hA
      exact hA.2.2.2.2.2.2.2.1 h3
  have hn := (hwf.th 0 (by decide)).fin hen
  have hk := (hwf.th 0 (by decide)).k
  have hn' : (altG t)[(S.th 0).k]? = none := by
    first | exact hn | (rw [hn]; exact List.getElem?_eq_none (Nat.le_refl _))
  have hA := h.1
  rw [hn'] at hA
  refine ⟨hen, ?_, hA⟩
  have h1 := List.getElem?_eq_none_iff.1 hn'
  have h2 : (S.th 0).k ≤ (altG t).length := hk
  rw [altG_len] at h1 h2
  omega
end
end Go.Proofs.YtdfljhechmanlaaDoor

namespace Go.Proofs.YtdfljhechmanlaaDoor
set_option maxRecDepth 100000
open Go.RowKit Go.Shelf Go.Sort
set_option linter.unusedVariables false
set_option linter.unusedSimpArgs false

def aloLs (t : Nat) : List (List Bool) := [altG t]
theorem alo_ok {f t : Nat} (hf : f ≤ 8) (ht : t ≤ 6) : SeOk f (aloLs t) := ⟨by omega, (show (1 : Nat) ≤ 9 by decide), fun L hL => by
  rw [List.mem_singleton.1 hL, altG_len]; omega⟩
theorem alo_calls (t u : Nat) (hu : u < 1) : callsL (aloLs t) u = altG t := by
  have : u = 0 := by omega
  subst this
  rfl
theorem alo_fact {f t : Nat} (hf8 : f ≤ 8) (ht : t ≤ 6) {m' : Mach} (hf0 : Fin (behindM 20000 (newM (wholesK semaF (aloLs t)) [(f : Int)]) []) m') :
    endsM m' = (true, false) ∧ m'.cells = [(f : Int)] ∧ m'.events.length = 2 * t ∧ (∀ x ∈ m'.events, ∃ s v : Int, ∃ u : Nat, u < 1 ∧ x = (s, 3, (u : Int), v)) ∧ ansOf m'.events 0 = (List.range (2 * t)).map fun i => (f : Int) + 1 - ((i % 2 : Nat) : Int) := by
  have hb0 : behindM 20000 (newM (wholesK semaF (aloLs t)) [(f : Int)]) [] = newM (wholesK semaF (aloLs t)) [(f : Int)] := rfl
  have hf := hf0
  rw [hb0] at hf
  have hpot := seK_pot (alo_ok hf8 ht)
  have hcs : callsL (aloLs t) = fun u => callsL (aloLs t) u := rfl
  let K : KindF semaF 1 (callsL (aloLs t)) (fun c => ([(f : Int)] : List Int).getD c 0) := (seK (alo_ok hf8 ht)).more (fun S a e => AloneX f t S e) (al_new f t)
    (fun S a e s v hw hI hX hv _ _ => by
      have hv0 : v = 0 := by have : v < 1 := hv; omega
      subst hv0
      have hw' : WfK semaF 1 (fun _ => altG t) S := ⟨fun u hu => by have := hw.th u hu; rwa [alo_calls t u hu] at this, hw.cell, hw.low, hw.once⟩
      have e1 : stepK semaF (callsL (aloLs t)) 0 S = stepK semaF (fun _ => altG t) 0 S := rfl
      have e2 : evsK semaF (callsL (aloLs t)) 0 S s = evsK semaF (fun _ => altG t) 0 S s := rfl
      rw [e1, e2]
      exact al_step hX (by omega) (by omega) hw' s)
    (fun S a e v h => h)
  have hpk : K.pk = 4 := rfl
  have hpot' : K.pot (newK fun c => ([(f : Int)] : List Int).getD c 0) ≤ 10600 := hpot
  rw [wholesK_at] at hf
  have h0 := ranF_new (K := K) rfl (fun v hv => by
    rw [List.mem_singleton.1 hv]
    exact ⟨by omega, by unfold m64; omega⟩)
  obtain ⟨S, hS, hq⟩ := ranF_fin (by rw [hpk]; omega) h0 hf
  have hI : SemI 1 (callsL (aloLs t)) f (seB f (aloLs t)) S m'.acts m'.events := hS.inv.1
  have hI' : ∀ s ∈ S.lot, s.1 = 0 → (altG t)[(S.th 0).k]? = some false ∧ (S.th 0).j = 7 := fun s hs e => by
    obtain ⟨_, h2, h3⟩ := hI.lot s hs
    rw [e] at h2 h3
    exact ⟨h2, h3⟩
  have hw' : WfK semaF 1 (fun _ => altG t) S := ⟨fun u hu => by have := hS.sim.wf.th u hu; rwa [alo_calls t u hu] at this, hS.sim.wf.cell, hS.sim.wf.low, hS.sim.wf.once⟩
  obtain ⟨k1, k2, k3⟩ := al_over hI' hw' hS.inv.2 (hq 0 (by decide))
  have hans : ansOf m'.events 0 = (List.range (2 * t)).map fun i => (f : Int) + 1 - ((i % 2 : Nat) : Int) := by rw [hS.inv.2.2, k2]
  refine ⟨ends_done fun u hu => ?_, ?_, ?_, hI.evs, hans⟩
  · have hu' : u < 1 := by rw [← hS.sim.plen]; exact hu
    rw [hS.ended hu']
    have : u = 0 := by omega
    subst this
    exact k1
  · have hl : m'.cells.length = 1 := hS.sim.lc
    have hc : S.cell 0 = m'.cells.getD 0 0 := by rw [hS.sim.cell]
    match hm : m'.cells, hl with
    | [v], _ => rw [hm] at hc; rw [← k3, hc]; rfl
  · rw [ans_len 1 m'.events hI.evs, sumN_succ, hans]
    simp [sumN]

set_option maxHeartbeats 4000000 in
theorem semaAlone_any {w : World} (hw : CW w) (first times : Int) :
    Calls Tryd.prog 10 #[.int .i64 first, .int .i64 times] w fun e w' => e = .returned (.bool true) ∧ Below w.heap.size w w' := by
  have HLt := Lib.hid (counted_any hw)
  have HP := Lib.hid (fun w => pick_det first 9 9 w rfl (by decide) (by decide))
  have HP2 := Lib.hid (fun w => pick_det times 6 6 w rfl (by decide) (by decide))
  have p1 := pickI_lo first 9
  have p2 := pickI_hi first 9 (by decide)
  have p3 := pickI_lo times 6
  have p4 := pickI_hi times 6 (by decide)
  obtain ⟨f, hf⟩ : ∃ f : Nat, pickI first 9 = (f : Int) := ⟨(pickI first 9).toNat, by omega⟩
  obtain ⟨d, hd⟩ : ∃ d : Nat, pickI times 6 = (d : Int) := ⟨(pickI times 6).toNat, by omega⟩
  rw [hf] at HP p1 p2
  rw [hd] at HP2 p3 p4
  have HFD := Lib.hid (show f ≤ 8 ∧ d ≤ 6 by omega)
  have HW := Lib.hid hw
  clear hw hf hd p1 p2 p3 p4
  go_enter Tryd.func10, Tryd.ntmps10
  go_wp2_with fail
  refine HLt.out.mono ?_
  rintro e w1 ⟨rfl, hb1⟩
  have HB1 := Lib.hid hb1
  clear hb1 HLt
  go_wp2_with fail
  refine (HP.out _).mono ?_
  rintro e w2 ⟨rfl, rfl⟩
  clear HP
  go_wp2_with fail
  refine (HP2.out _).mono ?_
  rintro e w2 ⟨rfl, rfl⟩
  clear HP2
  go_wp2
  --MARKA
  go_loopw [5, 18] (fun v j wr => ∃ i : Nat, i ≤ d ∧ j = .int .i64 i ∧ ∃ A c, v = .slice A (2 * i) c ∧ RowC w1 A (2 * i) c ((altG i).map encS) wr) (fun _ j _ => d - (intOf j).toNat)
  case atStart => exact ⟨0, Nat.zero_le _, rfl, none, 0, rfl, RowC.nil _⟩
  case round =>
    obtain ⟨i, hi, rfl, Ac, cc, rfl, hRow⟩ := hrel
    by_cases hlt2 : i < d
    · have hin : (i : Int) < (d : Int) := by omega
      obtain ⟨A4, c4, w4, hr4, hR4⟩ := hRow.add #[.int .i64 4, .int .i64 0, .int .i64 3, .int .i64 0] 2 (r := [(4, 0), (3, 0)]) rfl rfl (by have := HFD.out; omega) (by decide)
      have e4 : (altG i).map encS ++ [(4, 0), (3, 0)] = (altG (i + 1)).map encS := by rw [altG_succ, List.map_append]; rfl
      rw [e4, show 2 * i + 2 = 2 * (i + 1) by omega] at hR4
      rw [show 2 * i + 2 = 2 * (i + 1) by omega] at hr4
      have HR4 := Lib.hid hR4
      have HRun := Lib.hid hr4
      have hi20 : i < 20 := by have := HFD.out; omega
      clear hRow hr4 hR4 e4
      go_wp2_with (at_builtin; refine Lib.wpList_append_run _ rfl _ _ _ _ rfl _ _ rfl rfl _ _ HRun.out ?_; clear HRun)
      go_roundw
      case rel => exact ⟨i + 1, by omega, by go_num, A4, c4, rfl, HR4.out⟩
      case measure => simp [intOf]; omega
    · have hin : ¬ (i : Int) < (d : Int) := by omega
      obtain rfl : i = d := by omega
      rename_i wr
      have hok := alo_ok HFD.out.1 HFD.out.2
      have hCR : CRows (wr.alloc (.cells #[.slice Ac (2 * i) cc] 41)) (wr.alloc (.cells #[.slice Ac (2 * i) cc] 41)).heap.size (some ⟨wr.heap.size, 0, none⟩) 1 ((aloLs i).map (List.map encS)) := ⟨rfl, fun _ => ⟨_, 0, rfl, by simp, fun j hj => by
        match j, hj with
        | 0, _ =>
          have hl : ((altG i).map encS).length = 2 * i := by rw [List.length_map, altG_len]
          have hcr := (CRow.own hRow.own hl).below ((Below.refl wr.heap.size wr).alloc (Nat.le_refl _) (.cells #[.slice Ac (2 * i) cc] 41))
          refine ⟨Ac, cc, ?_, ?_⟩
          · refine ((cell_of_row _ _ 0 _ _ _ (heap_alloc_new wr (.cells #[.slice Ac (2 * i) cc] 41))).trans ?_)
            show some (Value.slice Ac (2 * i) cc) = some (Value.slice Ac ((altG i).map encS).length cc)
            rw [hl]
          · show CRow _ _ Ac ((altG i).map encS).length ((altG i).map encS)
            rw [hl]
            exact hcr.wide (by simp)⟩⟩
      have hb2 := hRow.bel.alloc hRow.bel.size (.cells #[.slice Ac (2 * i) cc] 41)
      have HMd := Lib.hid (semade3 (HW.out.old HB1.out) hb2 hok _ none 1 1 0 0 hCR [] ⟨rfl, fun h => absurd h (by omega)⟩ (by omega))
      rw [World.size_alloc] at HMd
      have HB2 := Lib.hid hb2
      clear hRow hb2 hCR
      go_wp2_with fail
      --MARKB
      rw [u64_small (by have := HFD.out; omega)]
      refine HMd.out.mono ?_
      rintro e w3 ⟨c, m, rfl, hA, hm0⟩
      --MARKU
      have HF := Lib.hid (at_finish hA.at_ hA.big)
      have HM0 := Lib.hid hm0
      clear hA HMd hm0
      go_wp2_with fail
      refine HF.out.mono ?_
      rintro e w4 ⟨m', hf, rfl, hA2, hb2⟩
      --MARKW
      rw [HM0.out] at hf
      --MARKX
      obtain ⟨f1, f2, f3, f4, f5⟩ := alo_fact HFD.out.1 HFD.out.2 hf
      --MARKY
      generalize ((m'.steps : Int) - (m.steps : Int)) = dd
      have HA2 := Lib.hid hA2
      have HFew := Lib.hid hb2.few
      have HEl := Lib.hid f3
      have HCf := Lib.hid (And.intro f1 f2)
      have HTo := Lib.hid f5
      have HAn := Lib.hid (answers_any (n := 1) hA2 (by rw [f3]; have := HFD.out; omega) f4 (by decide))
      clear hf hA2 hb2 HF HM0 f1 f2 f3 f4 f5
      go_wp2_with fail
      --MARKC
      refine HAn.out.mono ?_
      rintro e w5 ⟨g, rfl, hAn5⟩
      have HA5 := Lib.hid (HA2.out.keepB hAn5.bel)
      obtain ⟨bi, offi, hAi, _, hxi⟩ := hAn5.rows.row (by decide)
      have hgi : bi = g ∧ offi = 0 := by injection hAi with h; injection h with h1 h2; exact ⟨h1.symm, h2.symm⟩
      obtain ⟨rfl, rfl⟩ := hgi
      obtain ⟨Ai, ci, hcelli, _, hrowi⟩ := hxi 0 (by decide)
      have hei : ((List.range 1).map (ansOf m'.events)).getD 0 [] = ansOf m'.events 0 := rfl
      rw [hei, HTo.out] at hcelli hrowi
      have hll : ((List.range (2 * i)).map fun i => (f : Int) + 1 - ((i % 2 : Nat) : Int)).length = 2 * i := by simp
      rw [hll] at hcelli hrowi
      obtain ⟨na, hna⟩ : ∃ na, 2 * i = na := ⟨_, rfl⟩
      rw [hna] at hcelli hrowi
      have HNa := Lib.hid hna
      have HRi := Lib.hid hrowi
      clear hAn5 hxi hrowi hei hll hna hAi HAn HA2
      go_wp2
      --MARKD
      go_loopw [41] (fun j w8 => ∃ q : Nat, q ≤ na ∧ j = .int .i64 q ∧ w8 = w5) (fun j _ => na - (intOf j).toNat)
      case atStart => exact ⟨0, Nat.zero_le _, rfl, rfl⟩
      case round =>
        obtain ⟨q, hq, rfl, rfl⟩ := hrel
        by_cases hlt3 : q < na
        · have hkn : (q : Int) < (na : Int) := by omega
          obtain ⟨b2, off2, hA2, _, hx2⟩ := HRi.out.row (by omega)
          subst hA2
          have hv := hx2 q hlt3
          have hget : ((List.range na).map fun i => (f : Int) + 1 - ((i % 2 : Nat) : Int)).getD q 0 = (f : Int) + 1 - ((q % 2 : Nat) : Int) := by
            rw [List.getD_eq_getElem?_getD, List.getElem?_map, List.getElem?_range hlt3]
            rfl
          rw [hget] at hv
          obtain ⟨z2, hz2⟩ : ∃ z2 : Nat, q % 2 = z2 := ⟨_, rfl⟩
          have hz1 : z2 ≤ 1 := by omega
          rw [hz2] at hv
          have hf8 := HFD.out.1
          have hi6 := HFD.out.2
          have hna := HNa.out
          have hq20 : q < 20 := by omega
          have HRm := Lib.hid (show Int.tmod (q : Int) 2 = (z2 : Int) by rw [← hz2]; exact (Int.ofNat_tmod q 2).symm)
          obtain ⟨g1, hg1⟩ : ∃ g1 : Int, (f : Int) + 1 = g1 := ⟨_, rfl⟩
          obtain ⟨v, hvv⟩ : ∃ v : Int, g1 - (z2 : Int) = v := ⟨_, rfl⟩
          have HW1 := Lib.hid (show wrap64 ((f : Int) + 1) = g1 by unfold wrap64; omega)
          have HW2 := Lib.hid (show wrap64 (g1 - (z2 : Int)) = v by unfold wrap64; omega)
          rw [hg1, hvv] at hv
          have hvn : (v != v) = false := by simp
          have HHv := Lib.hid hv
          clear hx2 hget hz2 hz1 hg1 hvv hf8 hi6 hna hv
          have hv := HHv.out
          have hrm := HRm.out
          have hw1 := HW1.out
          have hw2 := HW2.out
          --MARKQ
          go_wp2
          --MARKE
          go_roundw
          case rel => exact ⟨q + 1, by omega, by go_num, by first | trivial | rfl⟩
          case measure => simp [intOf]; omega
        · have hkn : ¬ (q : Int) < (na : Int) := by omega
          have HE := Lib.hid (at_ends HA5.out HFew.out)
          rw [HCf.out.1] at HE
          clear HRi hcelli
          go_wp2_with fail
          refine HE.out.mono ?_
          rintro e w9 ⟨rfl, hg9⟩
          have HA9 := Lib.hid (HA5.out.grow hg9)
          have HEv := Lib.hid (at_events HA9.out (by rw [HEl.out]; have := HFD.out; omega))
          rw [HEl.out, HNa.out] at HEv
          have HU := Lib.hid (u64_small (f := f) (by have := HFD.out; omega))
          have hi6 : i ≤ 6 := HFD.out.2
          have hna := HNa.out
          have hw2 : wrap64 (2 * (i : Int)) = (na : Int) := by unfold wrap64; omega
          have hnn : ((na : Int) == (na : Int)) = true := by simp
          clear hg9 HE hi6 hna
          go_wp2_with fail
          --MARKF
          refine HEv.out.mono ?_
          rintro e w10 ⟨A10, c10, rfl, -, hg10⟩
          have HA10 := Lib.hid (HA9.out.grow hg10)
          have HCe := Lib.hid (at_cells HA10.out (by rw [HCf.out.2]; exact Nat.le_of_ble_eq_true rfl))
          rw [HCf.out.2] at HCe
          clear hg10 HEv HA9
          go_wp2_with fail
          --MARKG
          refine HCe.out.mono ?_
          rintro e w11 ⟨A11, c11, rfl, ho11, hg11⟩
          have HA11 := Lib.hid (HA10.out.grow hg11)
          have HI11 := Lib.hid (show Ints .u64 w11 w11.heap.size A11 1 [(f : Int)] from Ints.of_own ho11)
          clear hg11 ho11 HCe HA10
          go_wp2_with fail
          --MARKH
          rw [HU.out]
          refine (equal_one A11 c11 f HI11.out).mono ?_
          rintro e w12 ⟨rfl, hg12⟩
          have HB12 := Lib.hid (HB1.out.trans ((HB2.out.trans ((HA11.out.grow hg12).bel.mono HB2.out.size)).mono HB1.out.size))
          clear hg12 HA11 HI11
          go_wp2
          go_ret
          exact ⟨rfl, HB12.out⟩
end Go.Proofs.YtdfljhechmanlaaDoor

namespace Go.Proofs.YtdfljhechmanlaaDoor.semaAlone
open Go.ChangeShapes Go.WideShapes Go.ChangeAt Go.RowKit
set_option linter.unusedVariables false

theorem own : ownKnob Tryd.prog.godebug = none := by kernel_rfl
theorem laidOut : laidOutB Tryd.prog = true := by kernel_rfl
theorem tsize : Tryd.prog.types.size = 214 := by kernel_rfl

/-- What the listed variables give the walk. -/
theorem cw_of {W : World} (h : laidMetH Tryd.prog Rows.semaAloneRow.laid W) : CW W := by
  have h' : laidMet Tryd.prog (Rows.semaAloneRow.laid.filter fun x => x.2.handleName?.isNone) W ∧ handlesMet Tryd.prog (Rows.semaAloneRow.laid.filter fun x => x.2.handleName?.isSome) W := h
  exact cw_of_laid h'.1 (List.mem_filter.2 ⟨.tail _ (.head _), rfl⟩)

/-- So many blocks has the settled world. -/
noncomputable def low : Nat := (World.holding Tryd.prog default ⟨#[], #[], []⟩).heap.size
def put (o : Obj) (cs : Array Value) : Obj := match o with
  | .cells _ t frozen => .cells cs t frozen
  | o => o
def tab (k : IntKind) (zs : List Int) : Array Value := (zs.map fun z => Value.int k z).toArray
/-- A world that meets the condition. -/
noncomputable def laidWorld (os : Os) : World :=
  let w0 := World.holding Tryd.prog os ⟨#[], #[], []⟩
  { w0 with heap := ((w0.heap.modify 1 (put · #[.iface 172 (.agg #[.pointer (some ⟨2, 36, none⟩)])])).modify 0 (put · formCells)) }
theorem laidWorld_met (os : Os) (args : Array Value) : laidMetH Tryd.prog Rows.semaAloneRow.laid ((laidWorld os).forCall (fun _ _ => 0) ⟨#[], args, []⟩).memory :=
  laidMetH_of_parts (LaidIn.of_run [0] 8 (by kernel_rfl) (by kernel_rfl) (by kernel_rfl) (by kernel_rfl)).met (by kernel_rfl)

/-- The walk. -/
theorem walk (a0 : Int) (a1 : Int) (w : World) (hw : CW w)  :
    Calls Tryd.prog 10 #[.int .i64 a0, .int .i64 a1] w fun e w' => e = .returned (.bool true) ∧ Below w.heap.size w w' := by
  exact semaAlone_any hw a0 a1

set_option maxRecDepth 100000 in
theorem lifted (os : Os) (started : os.Started) (H : Type) (enc : TypeId × Value → H) :
    ReturnsInHanded {} Tryd.checked os 10 .any (fun w args => (Rows.semaAloneSpec.pre enc Tryd.prog Tryd.f10 [] false w args ∧ laidMetH Tryd.prog Rows.semaAloneRow.laid w) ∧ sizedMet enc Tryd.prog Tryd.f10 (OpenSpec.ofChange Rows.semaAloneSpec) false w args)
      (Rows.semaAloneSpec.post enc Tryd.prog Tryd.f10 false true false false) := by
  refine returnsInHanded_of_change_and (C := Tryd.checked) (X := fun w _ => laidMetH Tryd.prog Rows.semaAloneRow.laid w) (fun _ _ _ hh h => h.of_heap hh) own started (by kernel_rfl) Tryd.func10
    (ChangeSpec.witness_at (enc := enc) (C := Tryd.checked) (os := os) (X := fun w _ => laidMetH Tryd.prog Rows.semaAloneRow.laid w) false (laidWorld os) #[.int .i64 0, .int .i64 0] 8 rfl (by kernel_rfl) (by kernel_rfl) (by kernel_rfl) (by kernel_rfl) (by kernel_rfl) (laidWorld_met os _)) ?_
  intro W base args ds gs before hval0 hW _ _ hL _
  have hval : ∀ (j : Nat) t v, Tryd.f10.params[j]? = some t → args[j]? = some v → Value.okWide Tryd.prog W .any base t v := hval0
  have hW' := hW
  obtain ⟨p, q, hA0, hV0, rfl, hfz, hnd⟩ := hW
  have hA : DataW.TrodAll enc Tryd.prog W 0 (fun _ => true) true Tryd.f10.params.toList args.toList ds p := hA0
  have hV : DataW.TrodVars enc Tryd.prog W (fun _ => true) [] gs q := hV0
  rw [Tryd.params10] at hA hval
  obtain ⟨v0, vs0, d0, ds0, p0, q0, hargs, rfl, rfl, h0, r0⟩ := trodAll_cons hA
  obtain ⟨v1, vs1, d1, ds1, p1, q1, rfl, rfl, rfl, h1, r1⟩ := trodAll_cons r0
  obtain ⟨rfl, rfl, rfl⟩ := trodAll_nil r1
  obtain rfl : args = #[v0, v1] := by cases args; simp_all
  obtain ⟨rfl, rfl⟩ : gs = [] ∧ q = [] := by
    cases gs with
    | nil => exact ⟨rfl, hV⟩
    | cons g r => exact absurd hV (by intro h; cases h)
  obtain ⟨a0, rfl, rfl, rfl, w0⟩ := open_int Tryd.underlying3 (hval 0 3 v0 rfl rfl) h0
  obtain ⟨a1, rfl, rfl, rfl, w1⟩ := open_int Tryd.underlying3 (hval 1 3 v1 rfl rfl) h1
  have hw := cw_of hL
  clear hA0 hval0
  refine (walk a0 a1 W hw ).mono fun e W' ⟨he, bel⟩ => ?_
  subst he
  exact ⟨_, rfl, _, _, _, [], _, [], hW', trodAll_mk1 (shut_bool Tryd.underlying4 _), (trodAll_cons_mk (shut_int Tryd.underlying3 w0) (trodAll_cons_mk (shut_int Tryd.underlying3 w1) trodAll_mk0)), rfl, bel.frame _, fun h => by cases h⟩

theorem over : Rows.SemaAloneSaid :=
  OpenClaim.holds_of_wide 10 Tryd.f10 rfl rfl rfl rfl rfl rfl rfl ⟨rfl, rfl, rfl, rfl, rfl⟩ rfl rfl rfl rfl rfl (by kernel_rfl) Tryd.func10 (by kernel_rfl)
    (of_decide_eq_true (by kernel_rfl)) (by unfold Func.isWrapper; first | (rw [if_pos (by decide +kernel)]; kernel_rfl) | (rw [if_neg (by decide +kernel)]; exact ⟨rfl, rfl⟩))
    (fun os started H enc _ => lifted os started H enc)

/-- The given statement: the tied card. -/
theorem proved : Rows.SemaAloneCardSaid :=
  Claim7.holds_tied_plain_at .later [] [.handle, .data] true (true, "d47da573c139323a2d3ffb97e069444c56f44381508be9b6753f4f5b74787098") true
    over (fun _ h => by cases h) (by kernel_rfl) (fun _ h => by cases h) semaAlone_row_tie rfl ⟨rfl, rfl⟩ (by kernel_rfl) rfl
    (fun f fn hf hfn => by
      obtain rfl : f = 10 := Option.some.inj ((show Tryd.prog.funcNamed "quadrille/quadrillekeep.SemaAlone" = some 10 by kernel_rfl).symm.trans hf) |>.symm
      obtain rfl : fn = Tryd.f10 := (Option.some.inj (Tryd.func10.symm.trans hfn)).symm
      refine ⟨by kernel_rfl, fun j t ht => ?_⟩
      rw [Tryd.params10] at ht
      have hm : t ∈ [3, 3] := by
        have := Array.mem_of_getElem? ht
        simpa using this
      have hall : ([3, 3].all fun u => !Tryd.prog.wantsStandIn u) = true := by kernel_rfl
      exact (show Tryd.prog.wantsStandIn t = false by simpa using List.all_eq_true.1 hall t hm))
    (by kernel_rfl)
#print axioms proved
end Go.Proofs.YtdfljhechmanlaaDoor.semaAlone
