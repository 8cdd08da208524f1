/-
  When the lot and the reference's lot say the same: plain facts.
-/
import Derived.Test.YtnooegfhkeddnaaDoorRLotE
import Derived.Test.YtnooegfhkeddnaaDoorLotE
namespace Go.Proofs.YtnooegfhkeddnaaDoor
set_option maxRecDepth 100000
open Go.RowKit Go.Shelf

def pr (s : Int × Int × Nat) : Int × Int := (s.1, s.2.1)

/-- Who sleeps (thread, cell, tick), as the reference's maps have it. -/
structure Same (L : List (Int × Int × Nat)) (f g : Int → Option Int) (clock : Nat) : Prop where
  up : L.Pairwise fun a b => a.2.2 < b.2.2
  low : ∀ s ∈ L, 0 < s.2.2 ∧ s.2.2 ≤ clock
  ok : ∀ s ∈ L, 0 ≤ s.1 ∧ s.1 < 16
  nodup : L.Pairwise fun a b => a.1 ≠ b.1
  has : ∀ s ∈ L, f s.1 = some (s.2.2 : Int) ∧ g s.1 = some s.2.1
  only : ∀ t k, f t = some k → ∃ s ∈ L, s.1 = t

theorem Same.start : Same [] (fun _ => none) (fun _ => none) 0 :=
  ⟨.nil, by simp, by simp, .nil, by simp, by simp⟩

theorem Same.none {L : List (Int × Int × Nat)} {f g : Int → Option Int} {clock : Nat} (h : Same L f g clock) {t : Int} (hn : ∀ s ∈ L, s.1 ≠ t) : f t = Option.none := by
  cases e : f t with
  | none => rfl
  | some k =>
    obtain ⟨s, hs, h1⟩ := h.only t k e
    exact absurd h1 (hn s hs)

theorem isThread_pr (t : Int) (s : Int × Int × Nat) : isThread t (pr s) = (s.1 == t) := rfl

/-- Where a thread sleeps is the same. -/
theorem Same.cell {L : List (Int × Int × Nat)} {f g : Int → Option Int} {clock : Nat} (h : Same L f g clock) (t : Int) : cellOf (L.map pr) t = rcell f g t := by
  unfold cellOf rcell
  rw [List.find?_map]
  cases e : L.find? (isThread t ∘ pr) with
  | none =>
    have hn : f t = Option.none := h.none fun s hs he => by
      have := List.find?_eq_none.1 e s hs
      simp [isThread_pr, he] at this
    rw [hn]
    rfl
  | some s =>
    have hm := List.mem_of_find?_eq_some e
    have hp := List.find?_some e
    have hst : s.1 = t := by simpa [isThread_pr] using hp
    obtain ⟨h1, h2⟩ := h.has s hm
    rw [hst] at h1 h2
    have hl := (h.low s hm).1
    rw [h1, h2]
    simp only [Option.getD_some, Option.map_some]
    rw [if_neg (by omega)]
    rfl

/-- Who fell asleep at the k-th tick, at a cell. -/
def hitOf (L : List (Int × Int × Nat)) (c : Int) (k : Nat) : Option Int := (L.find? fun s => s.2.2 == k && s.2.1 == c).map (·.1)

theorem up_inj {L : List (Int × Int × Nat)} (h : L.Pairwise fun a b => a.2.2 < b.2.2) {s r : Int × Int × Nat} (hs : s ∈ L) (hr : r ∈ L) (e : s.2.2 = r.2.2) : s = r := by
  induction L with
  | nil => cases hs
  | cons a l ih =>
    obtain ⟨h1, h2⟩ := List.pairwise_cons.1 h
    rcases List.mem_cons.1 hs with rfl | hs'
    · rcases List.mem_cons.1 hr with rfl | hr'
      · rfl
      · have := h1 r hr'; omega
    · rcases List.mem_cons.1 hr with rfl | hr'
      · have := h1 s hs'; omega
      · exact ih h2 hs' hr'

theorem Same.hit_wf {L : List (Int × Int × Nat)} {f g : Int → Option Int} {clock : Nat} (h : Same L f g clock) (c : Int) (k : Nat) (t : Int) (e : hitOf L c k = some t) : (Lit.int .i64 t).wf = true := by
  unfold hitOf at e
  rw [Option.map_eq_some_iff] at e
  obtain ⟨s, hs, rfl⟩ := e
  have := h.ok s (List.mem_of_find?_eq_some hs)
  exact wf_small _ (by omega) (by omega)

theorem Same.hit {L : List (Int × Int × Nat)} {f g : Int → Option Int} {clock : Nat} (h : Same L f g clock) (c : Int) (k : Nat) (t : Int) : hitOf L c k = some t ↔ f t = some (k : Int) ∧ (g t).getD 0 = c := by
  unfold hitOf
  rw [Option.map_eq_some_iff]
  constructor
  · rintro ⟨s, hs, rfl⟩
    have hp := List.find?_some hs
    simp only [Bool.and_eq_true, beq_iff_eq] at hp
    obtain ⟨h1, h2⟩ := h.has s (List.mem_of_find?_eq_some hs)
    rw [h1, h2, hp.1, hp.2]
    exact ⟨rfl, rfl⟩
  · rintro ⟨h1, h2⟩
    obtain ⟨s, hs, rfl⟩ := h.only t _ h1
    obtain ⟨h3, h4⟩ := h.has s hs
    rw [h1] at h3
    rw [h4] at h2
    have hk : s.2.2 = k := by injection h3 with h3; omega
    have hc : s.2.1 = c := h2
    cases e : L.find? fun s => s.2.2 == k && s.2.1 == c with
    | none =>
      have := List.find?_eq_none.1 e s hs
      simp [hk, hc] at this
    | some r =>
      have hp := List.find?_some e
      simp only [Bool.and_eq_true, beq_iff_eq] at hp
      have := up_inj h.up (List.mem_of_find?_eq_some e) hs (by rw [hp.1, hk])
      exact ⟨r, rfl, by rw [this]⟩

/-- Those that fell asleep by the k-th tick. -/
theorem by_tick {L : List (Int × Int × Nat)} (h : L.Pairwise fun a b => a.2.2 < b.2.2) (hl : ∀ s ∈ L, 0 < s.2.2) (c : Int) (k : Nat) :
    upTo (hitOf L c) k = (L.filter fun s => decide (s.2.2 ≤ k) && s.2.1 == c).map (·.1) := by
  induction k with
  | zero =>
    rw [List.filter_eq_nil_iff.2 (fun s hs => by have := hl s hs; simp; omega)]
    rfl
  | succ k ih =>
    rw [upTo, ih]
    clear ih hl
    unfold hitOf
    induction L with
    | nil => rfl
    | cons a l ih2 =>
      obtain ⟨h1, h2⟩ := List.pairwise_cons.1 h
      have ih3 := ih2 h2
      rcases Nat.lt_trichotomy a.2.2 (k + 1) with hlt | heq | hgt
      · have e1 : decide (a.2.2 ≤ k) = true := by simp; omega
        have e2 : decide (a.2.2 ≤ k + 1) = true := by simp; omega
        have e3 : (a.2.2 == k + 1) = false := by simp; omega
        simp only [List.filter_cons, List.find?_cons, e1, e2, e3, Bool.true_and, Bool.false_and]
        cases a.2.1 == c
        · simpa using ih3
        · simpa using ih3
      · have e1 : decide (a.2.2 ≤ k) = false := by simp; omega
        have e2 : decide (a.2.2 ≤ k + 1) = true := by simp; omega
        have e3 : (a.2.2 == k + 1) = true := by simp; omega
        have n1 : l.filter (fun s => decide (s.2.2 ≤ k) && s.2.1 == c) = [] := List.filter_eq_nil_iff.2 fun s hs => by have := h1 s hs; simp; omega
        have n2 : l.filter (fun s => decide (s.2.2 ≤ k + 1) && s.2.1 == c) = [] := List.filter_eq_nil_iff.2 fun s hs => by have := h1 s hs; simp; omega
        have n3 : l.find? (fun s => s.2.2 == k + 1 && s.2.1 == c) = Option.none := List.find?_eq_none.2 fun s hs => by have := h1 s hs; simp; omega
        simp only [List.filter_cons, List.find?_cons, e1, e2, e3, Bool.true_and, Bool.false_and, n1, n2, n3]
        cases a.2.1 == c <;> simp
      · have e1 : decide (a.2.2 ≤ k) = false := by simp; omega
        have e2 : decide (a.2.2 ≤ k + 1) = false := by simp; omega
        have e3 : (a.2.2 == k + 1) = false := by simp; omega
        simp only [List.filter_cons, List.find?_cons, e1, e2, e3, Bool.false_and]
        simpa using ih3

/-- Who sleeps at a cell is the same, in the same order. -/
theorem Same.at_ {L : List (Int × Int × Nat)} {f g : Int → Option Int} {clock : Nat} (h : Same L f g clock) (c : Int) : threadsAt (L.map pr) c = upTo (hitOf L c) clock := by
  rw [by_tick h.up (fun s hs => (h.low s hs).1)]
  unfold threadsAt
  rw [List.filter_map, List.map_map]
  have : L.filter ((fun s : Int × Int => s.2 == c) ∘ pr) = L.filter fun s => decide (s.2.2 ≤ clock) && s.2.1 == c :=
    List.filter_congr fun s hs => by have := (h.low s hs).2; simp [pr, this]
  rw [this]
  rfl

/-- One falls asleep. -/
theorem Same.sleep {L : List (Int × Int × Nat)} {f g : Int → Option Int} {clock : Nat} (h : Same L f g clock) (t c : Int) (ht0 : 0 ≤ t) (ht1 : t < 16) (hn : ∀ s ∈ L, s.1 ≠ t) : Same (L ++ [(t, c, clock + 1)]) (putAt f t ((clock : Int) + 1)) (putAt g t c) (clock + 1) := by
  refine ⟨?_, ?_, ?_, ?_, ?_, ?_⟩
  · refine List.pairwise_append.2 ⟨h.up, List.pairwise_singleton _ _, fun a ha b hb => ?_⟩
    rw [List.mem_singleton] at hb
    subst hb
    have := (h.low a ha).2
    show a.2.2 < clock + 1
    omega
  · intro s hs
    rcases List.mem_append.1 hs with h1 | h1
    · have := h.low s h1; omega
    · rw [List.mem_singleton] at h1; subst h1; show 0 < clock + 1 ∧ clock + 1 ≤ clock + 1; omega
  · intro s hs
    rcases List.mem_append.1 hs with h1 | h1
    · exact h.ok s h1
    · rw [List.mem_singleton] at h1; subst h1; exact ⟨ht0, ht1⟩
  · refine List.pairwise_append.2 ⟨h.nodup, List.pairwise_singleton _ _, fun a ha b hb => ?_⟩
    rw [List.mem_singleton] at hb
    subst hb
    exact hn a ha
  · intro s hs
    rcases List.mem_append.1 hs with h1 | h1
    · obtain ⟨e1, e2⟩ := h.has s h1
      unfold putAt
      rw [if_neg (hn s h1), if_neg (hn s h1)]
      exact ⟨e1, e2⟩
    · rw [List.mem_singleton] at h1
      subst h1
      unfold putAt
      rw [if_pos rfl, if_pos rfl]
      exact ⟨by simp, rfl⟩
  · intro x k hx
    unfold putAt at hx
    by_cases e : x = t
    · exact ⟨(t, c, clock + 1), by simp, e.symm⟩
    · rw [if_neg e] at hx
      obtain ⟨s, hs, h1⟩ := h.only x k hx
      exact ⟨s, List.mem_append_left _ hs, h1⟩

/-- Some are woken. -/
theorem Same.drop {L : List (Int × Int × Nat)} {f g : Int → Option Int} {clock : Nat} (h : Same L f g clock) (out : List Int) : Same (L.filter fun s => !out.contains s.1) (dropAll f out) g clock := by
  have hsub : (L.filter fun s => !out.contains s.1).Sublist L := List.filter_sublist
  refine ⟨h.up.sublist hsub, fun s hs => h.low s (hsub.subset hs), fun s hs => h.ok s (hsub.subset hs), h.nodup.sublist hsub, fun s hs => ?_, fun x k hx => ?_⟩
  · obtain ⟨h1, h2⟩ := List.mem_filter.1 hs
    obtain ⟨e1, e2⟩ := h.has s h1
    unfold dropAll
    rw [if_neg (by simpa using h2)]
    exact ⟨e1, e2⟩
  · unfold dropAll at hx
    by_cases e : out.contains x = true
    · rw [if_pos e] at hx
      cases hx
    · rw [if_neg e] at hx
      obtain ⟨s, hs, h1⟩ := h.only x k hx
      refine ⟨s, List.mem_filter.2 ⟨hs, ?_⟩, h1⟩
      rw [h1]
      simpa using e

theorem drop_rest (L : List (Int × Int × Nat)) (out : List Int) : (L.filter fun s => !out.contains s.1).map pr = rest (L.map pr) out := by
  unfold rest keepers
  rw [List.filter_map]
  rfl

/-- One is woken for nothing. -/
theorem Same.erase {L : List (Int × Int × Nat)} {f g : Int → Option Int} {clock : Nat} (h : Same L f g clock) (t : Int) : (L.map pr).eraseP (isThread t) = (L.filter fun s => !([t] : List Int).contains s.1).map pr := by
  have hnd := h.nodup
  clear h
  induction L with
  | nil => rfl
  | cons a l ih =>
    obtain ⟨h1, h2⟩ := List.pairwise_cons.1 hnd
    rw [List.map_cons, List.eraseP_cons, isThread_pr]
    by_cases e : a.1 = t
    · have e1 : (a.1 == t) = true := by simpa using e
      have hall : l.filter (fun s => !([t] : List Int).contains s.1) = l := List.filter_eq_self.2 fun s hs => by
        have := h1 s hs
        simp
        rw [← e]
        exact fun h => this h.symm
      rw [e1, List.filter_cons]
      simp only [cond_true]
      rw [if_neg (by simp [e]), hall]
    · have e1 : (a.1 == t) = false := by simpa using e
      rw [e1, List.filter_cons]
      simp only [cond_false]
      rw [if_pos (by simpa using e), List.map_cons, ih h2]

theorem dropAt_one (f : Int → Option Int) (t : Int) : dropAt f t = dropAll f [t] := by
  funext x
  unfold dropAt dropAll
  by_cases e : x = t <;> simp [e]
end Go.Proofs.YtnooegfhkeddnaaDoor
