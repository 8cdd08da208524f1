/-
  Plain facts on those that sleep: nobody sleeps twice; who is woken is gone; the others are in the same order.
-/
import Derived.Test.YtpomjobgodfjmaaBedB
namespace Go.Proofs.Ytpomjobgodfjmaa
open Go.RowKit Go.Shelf

/-- Nobody sleeps twice; all are of sixteen, at one of four cells. -/
structure Good (l : List (Int × Int)) : Prop where
  nodup : (l.map (·.1)).Nodup
  ok : ∀ s ∈ l, 0 ≤ s.1 ∧ s.1 < 16 ∧ 0 ≤ s.2 ∧ s.2 < 4

theorem Good.sub {l r : List (Int × Int)} (h : Good l) (hs : r.Sublist l) : Good r :=
  ⟨h.nodup.sublist (hs.map _), fun s hm => h.ok s (hs.subset hm)⟩

theorem Good.step {l : List (Int × Int)} (h : Good l) (x : Int × Int × Bool) : Good (stepNod l x) := by
  unfold stepNod
  split
  · exact h.sub List.eraseP_sublist
  · split
    · exact h
    · rename_i hn
      refine ⟨?_, fun s hs => ?_⟩
      · rw [List.map_append, List.nodup_append]
        refine ⟨h.nodup, by simp, ?_⟩
        intro a ha b hb hab
        obtain ⟨s, hs, rfl⟩ := List.mem_map.1 ha
        simp only [List.map_cons, List.map_nil, List.mem_singleton] at hb
        refine hn (List.any_eq_true.2 ⟨s, hs, ?_⟩)
        unfold isThread
        rw [hab, hb]
        exact beq_self_eq_true _
      · rcases List.mem_append.1 hs with hs | hs
        · exact h.ok s hs
        · rw [List.mem_singleton.1 hs]
          exact ⟨pickI_lo _ _, pickI_hi _ 16 (by decide), pickI_lo _ _, pickI_hi _ 4 (by decide)⟩

theorem bedL_good (nods : List (Int × Int × Bool)) : Good (bedL nods) := by
  unfold bedL
  have h : ∀ (l : List (Int × Int)), Good l → Good (nods.foldl stepNod l) := by
    induction nods with
    | nil => intro l h; exact h
    | cons x xs ih => intro l h; exact ih _ (h.step x)
  exact h [] ⟨by simp, fun s hs => by cases hs⟩

theorem bedL_len (nods : List (Int × Int × Bool)) : (bedL nods).length ≤ nods.length := by
  have := bedL_length nods nods.length (Nat.le_refl _)
  rwa [List.take_length] at this

theorem threadsAt_nodup {l : List (Int × Int)} (h : Good l) (c : Int) : (threadsAt l c).Nodup := by
  unfold threadsAt
  exact h.nodup.sublist ((List.filter_sublist).map _)

theorem rest_sub (l : List (Int × Int)) (out : List Int) : (rest l out).Sublist l := List.filter_sublist

theorem threadsAt_rest (l : List (Int × Int)) (out : List Int) (c : Int) : threadsAt (rest l out) c = (threadsAt l c).filter fun t => !out.contains t := by
  unfold threadsAt rest keepers
  rw [List.filter_map, List.filter_filter, List.filter_filter]
  congr 1
  apply List.filter_congr
  intro s _
  simp only [Function.comp]
  exact Bool.and_comm _ _

/-- Of a list without repetition: without its first k, it is what stands behind them. -/
theorem filter_take (T : List Int) (h : T.Nodup) (k : Nat) : T.filter (fun t => !(T.take k).contains t) = T.drop k := by
  have e : T.filter (fun t => !(T.take k).contains t) = (T.take k ++ T.drop k).filter (fun t => !(T.take k).contains t) := by rw [List.take_append_drop]
  rw [e, List.filter_append]
  have h1 : (T.take k).filter (fun t => !(T.take k).contains t) = [] := by
    apply List.filter_eq_nil_iff.2
    intro t ht
    simp [ht]
  have h2 : (T.drop k).filter (fun t => !(T.take k).contains t) = T.drop k := by
    apply List.filter_eq_self.2
    intro t ht
    have hn : T.take k ++ T.drop k = T := List.take_append_drop k T
    rw [← hn, List.nodup_append] at h
    have hne : t ∉ T.take k := fun hm => h.2.2 t hm t ht rfl
    simp [hne]
  rw [h1, h2, List.nil_append]

/-- Who is at another cell is not among those woken. -/
theorem filter_other {l : List (Int × Int)} (h : Good l) (c d : Int) (hcd : c ≠ d) (out : List Int) (ho : ∀ t ∈ out, t ∈ threadsAt l c) : (threadsAt l d).filter (fun t => !out.contains t) = threadsAt l d := by
  apply List.filter_eq_self.2
  intro t ht
  have hne : t ∉ out := by
    intro hm
    have h1 := ho t hm
    unfold threadsAt at h1 ht
    obtain ⟨s, hs, rfl⟩ := List.mem_map.1 h1
    obtain ⟨r, hr, hrs⟩ := List.mem_map.1 ht
    have hs' := List.mem_filter.1 hs
    have hr' := List.mem_filter.1 hr
    have : s = r := by
      have hn := h.nodup
      obtain ⟨i, hi, rfl⟩ := List.mem_iff_getElem.1 hs'.1
      obtain ⟨j, hj, rfl⟩ := List.mem_iff_getElem.1 hr'.1
      have key := List.pairwise_iff_getElem.1 hn
      rcases Nat.lt_trichotomy i j with hij | rfl | hij
      · exfalso
        refine key i j (by rw [List.length_map]; exact hi) (by rw [List.length_map]; exact hj) hij ?_
        rw [List.getElem_map, List.getElem_map]
        exact hrs.symm
      · rfl
      · exfalso
        refine key j i (by rw [List.length_map]; exact hj) (by rw [List.length_map]; exact hi) hij ?_
        rw [List.getElem_map, List.getElem_map]
        exact hrs
    subst this
    have e1 : s.2 = c := by simpa using hs'.2
    have e2 : s.2 = d := by simpa using hr'.2
    exact hcd (e1.symm.trans e2)
  simp [hne]

/-- Who is woken is nowhere. -/
theorem cellOf_gone (l : List (Int × Int)) (out : List Int) (t : Int) (ht : t ∈ out) : cellOf (rest l out) t = -1 := by
  unfold cellOf
  have h : (rest l out).find? (isThread t) = none := by
    apply List.find?_eq_none.2
    intro s hs he
    have h1 : (!out.contains s.1) = true := (List.mem_filter.1 hs).2
    have h2 : s.1 = t := by unfold isThread at he; simpa using he
    rw [h2] at h1
    simp [ht] at h1
  rw [h]
  rfl
end Go.Proofs.Ytpomjobgodfjmaa
