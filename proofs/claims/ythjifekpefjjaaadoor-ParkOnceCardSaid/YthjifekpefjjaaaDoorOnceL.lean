/-
  Plain facts on where a thread sleeps: at one cell, or at none.
-/
import Derived.Test.YthjifekpefjjaaaDoorSleepL
namespace Go.Proofs.YthjifekpefjjaaaDoor
set_option maxRecDepth 100000
open Go.RowKit Go.Shelf

theorem Good.inj {l : List (Int × Int)} (h : Good l) {s r : Int × Int} (hs : s ∈ l) (hr : r ∈ l) (he : s.1 = r.1) : s = r := by
  obtain ⟨i, hi, rfl⟩ := List.mem_iff_getElem.1 hs
  obtain ⟨j, hj, rfl⟩ := List.mem_iff_getElem.1 hr
  have key := List.pairwise_iff_getElem.1 h.nodup
  rcases Nat.lt_trichotomy i j with hij | rfl | hij
  · exfalso
    refine key i j (by rw [List.length_map]; exact hi) (by rw [List.length_map]; exact hj) hij ?_
    rw [List.getElem_map, List.getElem_map]
    exact he
  · rfl
  · exfalso
    refine key j i (by rw [List.length_map]; exact hj) (by rw [List.length_map]; exact hi) hij ?_
    rw [List.getElem_map, List.getElem_map]
    exact he.symm

theorem mem_threadsAt {l : List (Int × Int)} {c t : Int} : t ∈ threadsAt l c ↔ ∃ s ∈ l, s.2 = c ∧ s.1 = t := by
  unfold threadsAt
  rw [List.mem_map]
  constructor
  · rintro ⟨s, hs, rfl⟩
    have := List.mem_filter.1 hs
    exact ⟨s, this.1, by simpa using this.2, rfl⟩
  · rintro ⟨s, hs, hc, rfl⟩
    exact ⟨s, List.mem_filter.2 ⟨hs, by simpa using hc⟩, rfl⟩

theorem cellOf_split (l : List (Int × Int)) (t : Int) : (cellOf l t = -1 ∧ ∀ s ∈ l, isThread t s = false) ∨ (sleeps l t ∧ ∃ s ∈ l, s.1 = t ∧ cellOf l t = s.2) := by
  rcases firstAt_cases (isThread t) l with ⟨_, hall⟩ | ⟨k, hk, _, hp, hf, _⟩
  · refine .inl ⟨?_, hall⟩
    unfold cellOf
    rw [List.find?_eq_none.2 (fun s hs => by rw [hall s hs]; simp)]
    rfl
  · have hm : l.getD k default ∈ l := by
      rw [List.getD_eq_getElem?_getD, List.getElem?_eq_getElem hk]
      exact List.getElem_mem _
    refine .inr ⟨⟨_, hm, hp⟩, _, hm, ?_, ?_⟩
    · unfold isThread at hp
      simpa using hp
    · unfold cellOf
      rw [hf]
      rfl

/-- How often t sleeps at the first k cells. -/
def places (l : List (Int × Int)) (t : Int) : Nat → Nat
  | 0 => 0
  | k + 1 => places l t k + (threadsAt l k).count t

theorem count_none {l : List (Int × Int)} {t : Int} (h : ∀ s ∈ l, isThread t s = false) (c : Int) : (threadsAt l c).count t = 0 := by
  apply List.count_eq_zero_of_not_mem
  intro hm
  obtain ⟨s, hs, _, e⟩ := mem_threadsAt.1 hm
  have := h s hs
  unfold isThread at this
  rw [e] at this
  simp at this

theorem places_none {l : List (Int × Int)} {t : Int} (h : ∀ s ∈ l, isThread t s = false) (k : Nat) : places l t k = 0 := by
  induction k with
  | zero => rfl
  | succ k ih => rw [places, ih, count_none h]

theorem count_one {l : List (Int × Int)} (hg : Good l) {s : Int × Int} (hs : s ∈ l) (c : Int) : (threadsAt l c).count s.1 = if s.2 = c then 1 else 0 := by
  rw [(threadsAt_nodup hg c).count]
  by_cases hc : s.2 = c
  · rw [if_pos hc, if_pos (mem_threadsAt.2 ⟨s, hs, hc, rfl⟩)]
  · rw [if_neg hc, if_neg]
    intro hm
    obtain ⟨r, hr, hrc, hrt⟩ := mem_threadsAt.1 hm
    have := hg.inj hr hs hrt
    subst this
    exact hc hrc

theorem places_one {l : List (Int × Int)} (hg : Good l) {s : Int × Int} (hs : s ∈ l) : places l s.1 4 = 1 := by
  have ho := hg.ok s hs
  simp only [places, count_one hg hs]
  have h4 : s.2 = 0 ∨ s.2 = 1 ∨ s.2 = 2 ∨ s.2 = 3 := by omega
  rcases h4 with e | e | e | e <;> rw [e] <;> decide

theorem cellOf_erased {l : List (Int × Int)} (hg : Good l) (t : Int) : cellOf (l.eraseP (isThread t)) t = -1 := by
  rcases cellOf_split (l.eraseP (isThread t)) t with ⟨h, _⟩ | ⟨_, s, hs, hst, _⟩
  · exact h
  · exfalso
    have hsub := List.eraseP_sublist (l := l) (p := isThread t)
    have hsl : s ∈ l := hsub.subset hs
    have hp : isThread t s = true := by unfold isThread; rw [hst]; exact beq_self_eq_true _
    obtain ⟨a, l1, l2, _, ha, e1, e2⟩ := List.exists_of_eraseP hsl hp
    rw [e2] at hs
    have hn := hg.nodup
    rw [e1, List.map_append, List.map_cons, List.nodup_append, List.nodup_cons] at hn
    have hat : a.1 = t := by unfold isThread at ha; simpa using ha
    rcases List.mem_append.1 hs with h1 | h1
    · exact hn.2.2 s.1 (List.mem_map.2 ⟨s, h1, rfl⟩) a.1 (by simp) (by rw [hst, hat])
    · exact hn.2.1.1 (List.mem_map.2 ⟨s, h1, by rw [hst, hat]⟩)

theorem cellOf_new {l : List (Int × Int)} {t c : Int} (h : ∀ s ∈ l, isThread t s = false) : cellOf (l ++ [(t, c)]) t = c := by
  unfold cellOf
  rw [List.find?_append, List.find?_eq_none.2 (fun s hs => by rw [h s hs]; simp)]
  have : isThread t (t, c) = true := by unfold isThread; exact beq_self_eq_true _
  simp [List.find?, this]
end Go.Proofs.YthjifekpefjjaaaDoor
