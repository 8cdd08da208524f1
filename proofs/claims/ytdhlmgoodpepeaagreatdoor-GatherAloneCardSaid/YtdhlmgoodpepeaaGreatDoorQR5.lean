/-
  Who sleeps on a phaser, and who is to wake it Who sleeps on a phaser waits for what has not come yet, or is about to be woken When none can go on: who sleeps on a phaser waits for its phase; when it is over all are at their ends When it is over all go; who is alone is answered at once Who is alone, at the end; without one nobody passes A phaser is a barrier: n threads that pass, so many times each A phaser is a barrier: at the end all have gone through all Points of any acts and events, in order A phaser as a barrier: what the judge hears, entry by entry; one call behind the other
-/
import Derived.Test.YtdhlmgoodpepeaaGreatDoorQR4
namespace Go.Proofs.YtdhlmgoodpepeaaGreatDoor
set_option maxRecDepth 100000
set_option linter.unusedVariables false
set_option linter.unusedSimpArgs false

/-- What a step does to those who sleep: W, who is to wake them; nap, where they do. -/
def NapD (W : Nat → (Nat → Int) → Prop) (nap : Nat → Prop) (j : Nat) (r : Nat → Int) (cell : Int) : DoK → Prop
  | .set i v => W j r → W (j + 1) (upd r i v)
  | .mem _ now (some q) => ¬ W j r ∧ (now = cell ∨ W (j + 1) (upd r q.1 q.2) ∨ ((phOf now).o = (phOf cell).o ∧ (phOf now).f = (phOf cell).f))
  | .mem _ _ none => True
  | .goto k => W j r → W k r
  | .next => W j r → W (j + 1) r
  | .sleep a => ¬ W j r ∧ nap (j + 1) ∧ a = 0 ∧ (phOf cell).o = false ∧ (phOf cell).f = r 5
  | .wake a k => a = 0 ∧ k = 16
  | .say _ _ => ¬ W j r
def wkC (j : Nat) (r : Nat → Int) : Prop := (j = 19 ∧ r 3 = 1 ∧ r 2 = 1) ∨ ((j = 20 ∨ j = 21) ∧ r 2 = 1) ∨ j = 23
def wkS (j : Nat) (r : Nat → Int) : Prop := (j = 5 ∧ r 3 = 1) ∨ j = 6
/-- Who has changed what the others wait for, and is to wake them. -/
def wkr (c : GC) (j : Nat) (r : Nat → Int) : Prop := match c.w with
  | 6 => False
  | 7 => wkC j r
  | 8 => wkC j r
  | 9 => wkC j r
  | 10 => False
  | _ => wkS j r
def napAt (c : GC) (j : Nat) : Prop := (c.w = 9 ∧ j = 36) ∨ (c.w = 10 ∧ j = 8)
section
variable {W : Nat → (Nat → Int) → Prop} {nap : Nat → Prop} {c : GC} {l m q : Int} {i j u : Nat} {r : Nat → Int} {cur : List (Int × Int)} {cell : Nat → Int} {z0 : PhS}
theorem nap_if (P : Prop) [Decidable P] {a b : DoK} (h1 : NapD W nap j r (cell 0) a) (h2 : NapD W nap j r (cell 0) b) : NapD W nap j r (cell 0) (if P then a else b) := by
  split
  · exact h1
  · exact h2
theorem nap_quiet {o : Int} {x : Ins5} (hW : ¬ W j r) (ho : x.1 = o) (hq : o = 1 ∨ o = 2 ∨ o = 3 ∨ o = 4 ∨ o = 5 ∨ o = 10 ∨ o = 11 ∨ o = 12 ∨ o = 13 ∨ o = 16) : NapD W nap j r (cell 0) (relD x cell r) := by
  obtain ⟨op, a, b, c, d⟩ := x
  have ho : op = o := ho
  subst ho
  have no : ∀ {p : Prop}, W j r → p := fun h => absurd h hW
  rcases hq with rfl | rfl | rfl | rfl | rfl | rfl | rfl | rfl | rfl | rfl
  · exact no
  · exact no
  · exact no
  · exact no
  · exact no
  · exact no
  · exact nap_if (r a.toNat = b % m64) (a := .goto c.toNat) (b := .next) no no
  · exact nap_if (r a.toNat < r b.toNat) (a := .goto c.toNat) (b := .next) no no
  · exact nap_if (r a.toNat = r b.toNat) (a := .goto c.toNat) (b := .next) no no
  · exact hW
theorem wkC_off {r : Nat → Int} (h : j ≠ 19 ∧ j ≠ 20 ∧ j ≠ 21 ∧ j ≠ 23) : ¬ wkC j r := by
  unfold wkC
  omega
/-- Arrive, Leave, the first part of Pass. -/
theorem come_nap (hW : ∀ i r, i < 29 → (W i r ↔ wkC i r)) (hl : l = 0 ∨ l = 1) (hi : i < 29) (h : CAt c l i r cur) : NapD W nap i r (cell 0) (relD ((come0 m q).getD i default) cell r) := by
  have off : ∀ {j : Nat}, j < 29 → j ≠ 19 ∧ j ≠ 20 ∧ j ≠ 21 ∧ j ≠ 23 → ¬ W j r := fun hj h q => wkC_off h ((hW _ _ hj).1 q)
  match i, hi with
  | 0, _ => exact ⟨off (by decide) (by decide), .inl rfl⟩
  | 1, _ => exact nap_quiet (o := 5) (off (by decide) (by decide)) rfl (by decide)
  | 2, _ => exact nap_quiet (o := 11) (off (by decide) (by decide)) rfl (by decide)
  | 3, _ => exact nap_quiet (o := 5) (off (by decide) (by decide)) rfl (by decide)
  | 4, _ => exact nap_quiet (o := 11) (off (by decide) (by decide)) rfl (by decide)
  | 5, _ => exact nap_quiet (o := 3) (off (by decide) (by decide)) rfl (by decide)
  | 6, _ => exact nap_quiet (o := 11) (off (by decide) (by decide)) rfl (by decide)
  | 7, _ => exact nap_quiet (o := 10) (off (by decide) (by decide)) rfl (by decide)
  | 8, _ => exact nap_quiet (o := 5) (off (by decide) (by decide)) rfl (by decide)
  | 9, _ => exact nap_quiet (o := 11) (off (by decide) (by decide)) rfl (by decide)
  | 10, _ => exact nap_quiet (o := 4) (off (by decide) (by decide)) rfl (by decide)
  | 11, _ => exact nap_quiet (o := 5) (off (by decide) (by decide)) rfl (by decide)
  | 12, _ => exact nap_quiet (o := 11) (off (by decide) (by decide)) rfl (by decide)
  | 13, _ => exact nap_quiet (o := 3) (off (by decide) (by decide)) rfl (by decide)
  | 14, _ => exact nap_quiet (o := 10) (off (by decide) (by decide)) rfl (by decide)
  | 15, _ => exact nap_quiet (o := 3) (off (by decide) (by decide)) rfl (by decide)
  | 16, _ => exact nap_quiet (o := 10) (off (by decide) (by decide)) rfl (by decide)
  | 17, _ => exact nap_quiet (o := 3) (off (by decide) (by decide)) rfl (by decide)
  | 18, _ =>
    obtain ⟨x, hs, ho, h2, hq, h4, hf⟩ := h
    show NapD W nap 18 r (cell 0) (if cell 0 = r 1 then .mem 0 (r 4) (some (3, 1)) else .mem 0 (cell 0) (some (3, 0)))
    split
    · next e =>
      refine ⟨off (by decide) (by decide), .inr ?_⟩
      by_cases h1 : x.q = 1
      · refine .inl ((hW _ _ (by decide)).2 (.inl ⟨rfl, upd_same _ _ _, ?_⟩))
        show upd r 3 1 2 = 1
        rw [upd_ne _ _ (by decide), h2, h1]
      · refine .inr ?_
        have hx := hs.u.ok
        have hb := word_bounds hx
        rw [h4, e, hs.u.r1, of_word hx, of_word (phArrive_ok hx hl), phArrive_more (by omega)]
        exact ⟨rfl, rfl⟩
    · exact ⟨off (by decide) (by decide), .inl rfl⟩
  | 19, _ =>
    show NapD W nap 19 r (cell 0) (if r 3 = 0 % m64 then .goto 0 else .next)
    split
    · next e =>
      intro hw
      have e : r 3 = 0 := e
      rcases (hW _ _ (by decide)).1 hw with ⟨_, h3, _⟩ | ⟨h3, _⟩ | h3
      · omega
      · omega
      · omega
    · intro hw
      refine (hW _ _ (by decide)).2 ?_
      rcases (hW _ _ (by decide)).1 hw with ⟨_, _, h3⟩ | ⟨h3, _⟩ | h3
      · exact .inr (.inl ⟨.inl rfl, h3⟩)
      · omega
      · omega
  | 20, _ =>
    show W 20 r → W 21 (upd r 5 _)
    intro hw
    refine (hW _ _ (by decide)).2 ?_
    rcases (hW _ _ (by decide)).1 hw with ⟨h3, _⟩ | ⟨_, h3⟩ | h3
    · omega
    · exact .inr (.inl ⟨.inr rfl, by rw [upd_ne _ _ (by decide)]; exact h3⟩)
    · omega
  | 21, _ =>
    show NapD W nap 21 r (cell 0) (if r 2 = 1 % m64 then .goto 23 else .next)
    split
    · intro hw
      exact (hW _ _ (by decide)).2 (.inr (.inr rfl))
    · next e =>
      intro hw
      rcases (hW _ _ (by decide)).1 hw with ⟨h3, _⟩ | ⟨_, h3⟩ | h3
      · omega
      · exact absurd h3 e
      · omega
  | 22, _ => exact nap_quiet (o := 10) (off (by decide) (by decide)) rfl (by decide)
  | 23, _ => exact ⟨rfl, rfl⟩
  | 24, _ => exact nap_quiet (o := 10) (off (by decide) (by decide)) rfl (by decide)
  | 25, _ => exact nap_quiet (o := 1) (off (by decide) (by decide)) rfl (by decide)
  | 26, _ => exact nap_quiet (o := 10) (off (by decide) (by decide)) rfl (by decide)
  | 27, _ => exact nap_quiet (o := 1) (off (by decide) (by decide)) rfl (by decide)
  | 28, _ => exact nap_quiet (o := 10) (off (by decide) (by decide)) rfl (by decide)
theorem until_nap (hW : ∀ i r, i < 9 → ¬ W (u + i) r) (hn : nap (u + 7)) (hi : i < 9) (h : UAt c i r cur) (hz : z0.ok) (hcell : cell 0 = z0.word) : NapD W nap (u + i) r (cell 0) (relD ((until0 (u : Int)).getD i default) cell r) := by
  match i, hi with
  | 0, _ => exact ⟨hW 0 r (by decide), .inl rfl⟩
  | 1, _ => exact nap_quiet (o := 5) (hW 1 r (by decide)) rfl (by decide)
  | 2, _ => exact nap_quiet (o := 11) (hW 2 r (by decide)) rfl (by decide)
  | 3, _ => exact nap_quiet (o := 5) (hW 3 r (by decide)) rfl (by decide)
  | 4, _ => exact nap_quiet (o := 13) (hW 4 r (by decide)) rfl (by decide)
  | 5, _ => exact nap_quiet (o := 10) (hW 5 r (by decide)) rfl (by decide)
  | 6, _ =>
    obtain ⟨n, hc, h5, z, hs, ho, hf⟩ := h
    show NapD W nap (u + 6) r (cell 0) (if cell 0 = r 1 then .sleep 0 else .next)
    split
    · next e =>
      refine ⟨hW 6 r (by decide), hn, rfl, ?_⟩
      rw [e, hs.r1, of_word hs.ok, h5]
      exact ⟨ho, hf⟩
    · exact fun q => absurd q (hW 6 r (by decide))
  | 7, _ => exact nap_quiet (o := 10) (hW 7 r (by decide)) rfl (by decide)
  | 8, _ => exact nap_quiet (o := 1) (hW 8 r (by decide)) rfl (by decide)
theorem reg_nap {n : Int} (hn1 : 1 ≤ n) (hi : i < 15) (h : RAt ⟨6, n⟩ i r cur) : NapD (fun _ _ => False) nap i r (cell 0) (relD ((reg0 n).getD i default) cell r) := by
  match i, hi with
  | 0, _ => exact ⟨id, .inl rfl⟩
  | 1, _ => exact nap_quiet (o := 5) (id) rfl (by decide)
  | 2, _ => exact nap_quiet (o := 11) (id) rfl (by decide)
  | 3, _ => exact nap_quiet (o := 5) (id) rfl (by decide)
  | 4, _ => exact nap_quiet (o := 1) (id) rfl (by decide)
  | 5, _ => exact nap_quiet (o := 12) (id) rfl (by decide)
  | 6, _ => exact nap_quiet (o := 3) (id) rfl (by decide)
  | 7, _ =>
    obtain ⟨x, hs, ho, hp, h4⟩ := h
    have hp : ¬ 65535 < x.p + n := hp
    have h4 : r 4 = (PhS.mk x.o x.f (x.p + n) (x.q + n)).word := h4
    show NapD (fun _ _ => False) nap 7 r (cell 0) (if cell 0 = r 1 then .mem 0 (r 4) (some (3, 1)) else .mem 0 (cell 0) (some (3, 0)))
    split
    · next e =>
      refine ⟨id, .inr (.inr ?_)⟩
      have hx := hs.u.ok
      obtain ⟨b1, b2, b3, b4, b5, b6⟩ := word_bounds hx
      have hy : (PhS.mk x.o x.f (x.p + n) (x.q + n)).ok := ⟨⟨b1, b2⟩, ⟨by show 0 ≤ x.p + n; omega, by show x.p + n ≤ 65535; omega⟩, ⟨by show 0 ≤ x.q + n; omega, by show x.q + n ≤ x.p + n; omega⟩⟩
      rw [h4, e, hs.u.r1, of_word hx, of_word hy]
      exact ⟨rfl, rfl⟩
    · exact ⟨id, .inl rfl⟩
  | 8, _ => exact nap_quiet (o := 11) (id) rfl (by decide)
  | 9, _ => exact nap_quiet (o := 5) (id) rfl (by decide)
  | 10, _ => exact nap_quiet (o := 10) (id) rfl (by decide)
  | 11, _ => exact nap_quiet (o := 1) (id) rfl (by decide)
  | 12, _ => exact nap_quiet (o := 10) (id) rfl (by decide)
  | 13, _ => exact nap_quiet (o := 1) (id) rfl (by decide)
  | 14, _ => exact nap_quiet (o := 16) (id) rfl (by decide)
theorem close_nap (hi : i < 11) : NapD wkS nap i r (cell 0) (relD (close0.getD i default) cell r) := by
  have off : ∀ {j : Nat}, j ≠ 5 ∧ j ≠ 6 → ¬ wkS j r := fun h q => by
    unfold wkS at q
    omega
  match i, hi with
  | 0, _ => exact ⟨off (by decide), .inl rfl⟩
  | 1, _ => exact nap_quiet (o := 5) (off (by decide)) rfl (by decide)
  | 2, _ => exact nap_quiet (o := 11) (off (by decide)) rfl (by decide)
  | 3, _ => exact nap_quiet (o := 3) (off (by decide)) rfl (by decide)
  | 4, _ =>
    show NapD wkS nap 4 r (cell 0) (if cell 0 = r 1 then .mem 0 (r 4) (some (3, 1)) else .mem 0 (cell 0) (some (3, 0)))
    split
    · exact ⟨off (by decide), .inr (.inl (.inl ⟨rfl, upd_same _ _ _⟩))⟩
    · exact ⟨off (by decide), .inl rfl⟩
  | 5, _ =>
    show NapD wkS nap 5 r (cell 0) (if r 3 = 0 % m64 then .goto 0 else .next)
    split
    · next e =>
      intro hw
      have e : r 3 = 0 := e
      rcases hw with ⟨_, h3⟩ | h3
      · omega
      · omega
    · exact fun _ => .inr rfl
  | 6, _ => exact ⟨rfl, rfl⟩
  | 7, _ => exact nap_quiet (o := 1) (off (by decide)) rfl (by decide)
  | 8, _ => exact nap_quiet (o := 10) (off (by decide)) rfl (by decide)
  | 9, _ => exact nap_quiet (o := 1) (off (by decide)) rfl (by decide)
  | 10, _ => exact nap_quiet (o := 16) (off (by decide)) rfl (by decide)
/-- Any call. -/
theorem gather_nap (hf : fitsC (c.w : Int) c.n) (hj : j < (gather0 c).length) (h : AtG c j r cur) (hz : z0.ok) (hcell : cell 0 = z0.word) : NapD (wkr c) (napAt c) j r (cell 0) (relD ((gather0 c).getD j default) cell r) := by
  obtain ⟨w, m⟩ := c
  have hf : fitsC (w : Int) m := hf
  have hw : w = 6 ∧ (1 ≤ m ∧ m ≤ 65535) ∨ w = 10 ∧ (0 ≤ m ∧ m ≤ 2147483647) ∨ w = 7 ∧ m = 0 ∨ w = 8 ∧ m = 0 ∨ w = 9 ∧ m = 0 ∨ w = 11 ∧ m = 0 := by
    unfold fitsC at hf
    omega
  have arr : ∀ {w : Nat} {m l : Int}, (w = 7 ∧ m = -1 ∧ l = 0 ∨ w = 8 ∧ m = -65537 ∧ l = 1) → j < 31 → AtG ⟨w, 0⟩ j r cur → NapD (wkr ⟨w, 0⟩) (napAt ⟨w, 0⟩) j r (cell 0) (relD ((come0 m 30 ++ [(2, 2, 5, 0, 0), (16, 3, 2, 0, 0)]).getD j default) cell r) := fun {w m l} hw hj h => by
    have hWE : ∀ i r, wkr ⟨w, 0⟩ i r ↔ wkC i r := fun i r => by
      rcases hw with ⟨rfl, _⟩ | ⟨rfl, _⟩ <;> exact Iff.rfl
    have hat : ∀ (j : Nat) r cur, AtG ⟨w, 0⟩ j r cur = if j < 29 then CAt ⟨w, 0⟩ l j r cur else if j = 29 then (∃ x y n, DidG ⟨w, 0⟩ cur r x y n ∧ n = x.f ∧ r 5 = n) else SayAt ⟨w, 0⟩ r cur := by
      intro j r cur
      rcases hw with ⟨rfl, _, rfl⟩ | ⟨rfl, _, rfl⟩ <;> rfl
    rw [hat] at h
    by_cases h1 : j < 29
    · rw [if_pos h1] at h
      rw [gd_left (by rw [come_len]; exact h1)]
      exact come_nap (fun i r _ => hWE i r) (by omega) h1 h
    · rw [gd_right (come_len _ _) (by omega)]
      have hoff : ¬ wkr ⟨w, 0⟩ j r := fun q => wkC_off (by omega) ((hWE _ _).1 q)
      by_cases h2 : j = 29
      · subst h2
        exact nap_quiet (o := 2) hoff rfl (by decide)
      · obtain rfl : j = 30 := by omega
        exact nap_quiet (o := 16) hoff rfl (by decide)
  rcases hw with ⟨rfl, hn⟩ | ⟨rfl, hn⟩ | ⟨rfl, rfl⟩ | ⟨rfl, rfl⟩ | ⟨rfl, rfl⟩ | ⟨rfl, rfl⟩
  · exact reg_nap hn.1 hj h
  · have hat : ∀ (j : Nat) r cur, AtG ⟨10, m⟩ j r cur = if j = 0 then chgs cur = [] else if j < 10 then UAt ⟨10, m⟩ (j - 1) r cur else SayAt ⟨10, m⟩ r cur := fun j r cur => rfl
    have hj : j < 11 := hj
    show NapD (wkr ⟨10, m⟩) (napAt ⟨10, m⟩) j r (cell 0) (relD (((1, 5, m, 0, 0) :: until0 1).getD j default) cell r)
    by_cases h0 : j = 0
    · subst h0
      exact nap_quiet (o := 1) id rfl (by decide)
    · obtain ⟨i, rfl⟩ : ∃ i, j = 1 + i := ⟨j - 1, by omega⟩
      rw [show ((1, 5, m, 0, 0) :: until0 1 : List Ins5).getD (1 + i) default = (until0 1).getD i default by rw [Nat.add_comm]; rfl]
      by_cases h2 : 1 + i < 10
      · rw [hat, if_neg h0, if_pos h2, Nat.add_sub_cancel_left] at h
        exact until_nap (u := 1) (fun i r _ => id) (.inr ⟨rfl, rfl⟩) (by omega) h hz hcell
      · obtain rfl : i = 9 := by omega
        exact nap_quiet (o := 16) id rfl (by decide)
  · exact arr (.inl ⟨rfl, rfl, rfl⟩) hj h
  · exact arr (.inr ⟨rfl, rfl, rfl⟩) hj h
  · have hat : ∀ (j : Nat) r cur, AtG ⟨9, 0⟩ j r cur = if j < 29 then CAt ⟨9, 0⟩ 0 j r cur else if j < 38 then UAt ⟨9, 0⟩ (j - 29) r cur else SayAt ⟨9, 0⟩ r cur := fun j r cur => rfl
    have hj : j < 39 := hj
    show NapD (wkr ⟨9, 0⟩) (napAt ⟨9, 0⟩) j r (cell 0) (relD ((come0 (-1) 38 ++ until0 29).getD j default) cell r)
    rw [hat] at h
    by_cases h1 : j < 29
    · rw [if_pos h1] at h
      rw [gd_left (by rw [come_len]; exact h1)]
      exact come_nap (fun i r _ => Iff.rfl) (.inl rfl) h1 h
    · rw [gd_right (come_len _ _) (by omega)]
      rw [if_neg h1] at h
      by_cases h2 : j < 38
      · rw [if_pos h2] at h
        obtain ⟨i, rfl⟩ : ∃ i, j = 29 + i := ⟨j - 29, by omega⟩
        rw [Nat.add_sub_cancel_left] at h ⊢
        exact until_nap (u := 29) (fun i r _ => wkC_off (by omega)) (.inl ⟨rfl, rfl⟩) (by omega) h hz hcell
      · obtain rfl : j = 38 := by omega
        exact nap_quiet (o := 16) (wkC_off (by decide)) rfl (by decide)
  · exact close_nap hj
end
end Go.Proofs.YtdhlmgoodpepeaaGreatDoor

namespace Go.Proofs.YtdhlmgoodpepeaaGreatDoor
set_option maxRecDepth 100000
set_option linter.unusedVariables false
set_option linter.unusedSimpArgs false

def WkAt (calls : Nat → List GC) (S : CS) (u : Nat) : Prop := ∃ d, (calls u)[(S.th u).k]? = some d ∧ wkr d (S.th u).j (S.th u).r
def CalmC (S : CS) (t : Nat) : Prop := (phOf (S.cell 0)).o = false ∧ (phOf (S.cell 0)).f = (S.th t).r 5
structure NInv (n : Nat) (calls : Nat → List GC) (S : CS) : Prop where
  lot : ∀ s ∈ S.lot, s.2 = 0
  nap : ∀ t, t < n → slK S t = true → (∃ c, (calls t)[(S.th t).k]? = some c ∧ napAt c (S.th t).j) ∧ (CalmC S t ∨ ∃ u, u < n ∧ WkAt calls S u)

section
variable {n : Nat} {calls : Nat → List GC} {S S' : CS} {t : Nat} {c : GC} {w0 : Int} {a : List Act6} {e : List Ev4}
theorem ninv_keep (h : NInv n calls S) (hs : slK S t = false) (ht : t < n) (hlot : S'.lot = S.lot) (hth : ∀ u, u ≠ t → S'.th u = S.th u) (hW : WkAt calls S t → WkAt calls S' t)
    (hc : ((phOf (S'.cell 0)).o = (phOf (S.cell 0)).o ∧ (phOf (S'.cell 0)).f = (phOf (S.cell 0)).f) ∨ WkAt calls S' t) : NInv n calls S' := by
  refine ⟨by rw [hlot]; exact h.lot, fun u hu hsu => ?_⟩
  have hsu : slK S u = true := by rw [← slK_same hlot u]; exact hsu
  have hut : u ≠ t := fun q => by rw [q, hs] at hsu; cases hsu
  obtain ⟨h1, h2⟩ := h.nap u hu hsu
  refine ⟨by rw [hth u hut]; exact h1, ?_⟩
  rcases hc with hc | hc
  · rcases h2 with h2 | ⟨v, hv, h2⟩
    · refine .inl ?_
      unfold CalmC at h2 ⊢
      rw [hc.1, hc.2, hth u hut]
      exact h2
    · refine .inr ⟨v, hv, ?_⟩
      by_cases q : v = t
      · subst q
        exact hW h2
      · unfold WkAt at h2 ⊢
        rw [hth v q]
        exact h2
  · exact .inr ⟨t, ht, hc⟩
theorem wakeK_all : ∀ (l : List (Nat × Nat)) (k : Nat), (∀ s ∈ l, s.2 = 0) → l.length ≤ k → wakeK l 0 k = []
  | [], _, _, _ => by simp [wakeK]
  | s :: l, 0, _, h => by simp at h
  | s :: l, k + 1, h0, h => by
    unfold wakeK
    rw [if_pos (h0 s (.head _))]
    exact wakeK_all l k (fun x hx => h0 x (.tail _ hx)) (by simp at h; exact h)
theorem ninv_step (hn : n ≤ 16) (hfit : ∀ t, t < n → ∀ c ∈ calls t, fitsC (c.w : Int) c.n) (hW : WfK gatherF n calls S) (hG : GInv n calls w0 S a e) (h : NInv n calls S) (ht : t < n) (hs : slK S t = false) : NInv n calls (stepK gatherF calls t S) := by
  have other : ∀ (x' : TK) u, u ≠ t → upd S.th t x' u = S.th u := fun x' u hu => upd_ne _ _ hu
  cases hc : (calls t)[(S.th t).k]? with
  | none =>
    rw [stepK_end hc]
    refine ninv_keep h hs ht rfl (fun u hu => other _ u hu) (fun ⟨d, q, _⟩ => by rw [hc] at q; cases q) (.inl ⟨rfl, rfl⟩)
  | some c =>
    have hj : (S.th t).j < (gather0 c).length := (hW.th t ht).j c hc
    have hf := hfit t ht c (List.mem_of_getElem? hc)
    obtain ⟨log, rfl, rfl, hL, ⟨z, hz, hzc⟩, hT⟩ := hG
    have hnp := gather_nap (r := (S.th t).r) (cell := S.cell) hf hj ((hT t ht).2 c hc) hz hzc
    have hst := gather_step hf hj ((hT t ht).2 c hc) hz hzc
    have hins := insG hj S.cell (S.th t).r
    have hWk : WkAt calls S t → wkr c (S.th t).j (S.th t).r := fun ⟨d, q1, q2⟩ => by
      rw [hc] at q1
      injection q1 with q1
      subst q1
      exact q2
    rw [stepK_eq hc]
    show NInv n calls (doneK (gather0 c).length t S (S.th t) (relD ((gather0 c).getD (S.th t).j default) S.cell (S.th t).r))
    generalize relD ((gather0 c).getD (S.th t).j default) S.cell (S.th t).r = D at hnp hst hins
    have wk : ∀ {x' : TK}, x'.k = (S.th t).k → wkr c x'.j x'.r → ∀ {S' : CS}, S'.th t = x' → WkAt calls S' t := fun {x'} e1 e2 {S'} e3 => ⟨c, by rw [e3, e1]; exact hc, by rw [e3]; exact e2⟩
    cases D with
    | set i v =>
      have hn := hins.next (fun w v q => by cases q)
      have hnp : wkr c (S.th t).j (S.th t).r → wkr c ((S.th t).j + 1) (upd (S.th t).r i v) := hnp
      refine ninv_keep h hs ht rfl (fun u hu => other _ u hu) (fun q => ?_) (.inl ⟨rfl, rfl⟩)
      refine wk (x' := { S.th t with j := (S.th t).j + 1, r := upd (S.th t).r i v }) rfl (hnp (hWk q)) ?_
      show upd S.th t _ t = _
      rw [upd_same, goK_in hn]
    | mem a' now q =>
      have hn := hins.next (fun w v q => by cases q)
      cases q with
      | none => exact absurd hst id
      | some q =>
        obtain ⟨rfl, _⟩ := hst
        obtain ⟨h1, h2⟩ := hnp
        have hcell : (doneK (gather0 c).length t S (S.th t) (.mem 0 now (some q))).cell 0 = now := by
          show upd S.cell 0 now 0 = now
          exact upd_same _ _ _
        refine ninv_keep h hs ht rfl (fun u hu => other _ u hu) (fun q => absurd (hWk q) h1) ?_
        rw [hcell]
        rcases h2 with h2 | h2 | h2
        · rw [h2]; exact .inl ⟨rfl, rfl⟩
        · refine .inr (wk (x' := { S.th t with j := (S.th t).j + 1, r := upd (S.th t).r q.1 q.2 }) rfl h2 ?_)
          show upd S.th t _ t = _
          rw [upd_same, goK_in hn]
        · exact .inl h2
    | goto k =>
      have hn := hins.goto k rfl
      have hnp : wkr c (S.th t).j (S.th t).r → wkr c k (S.th t).r := hnp
      refine ninv_keep h hs ht rfl (fun u hu => other _ u hu) (fun q => ?_) (.inl ⟨rfl, rfl⟩)
      refine wk (x' := { S.th t with j := k }) rfl (hnp (hWk q)) ?_
      show upd S.th t _ t = _
      rw [upd_same, goK_in hn]
    | next =>
      have hn := hins.next (fun w v q => by cases q)
      have hnp : wkr c (S.th t).j (S.th t).r → wkr c ((S.th t).j + 1) (S.th t).r := hnp
      refine ninv_keep h hs ht rfl (fun u hu => other _ u hu) (fun q => ?_) (.inl ⟨rfl, rfl⟩)
      refine wk (x' := { S.th t with j := (S.th t).j + 1 }) rfl (hnp (hWk q)) ?_
      show upd S.th t _ t = _
      rw [upd_same, goK_in hn]
    | sleep a' =>
      have hn := hins.next (fun w v q => by cases q)
      obtain ⟨h1, h2, rfl, h4, h5⟩ := hnp
      have hme : (doneK (gather0 c).length t S (S.th t) (.sleep 0)).th t = { S.th t with j := (S.th t).j + 1 } := by
        show upd S.th t _ t = _
        rw [upd_same, goK_in hn]
      refine ⟨fun s hs' => ?_, fun u hu hsu => ?_⟩
      · have hs' : s ∈ S.lot ++ [(t, 0)] := hs'
        rcases List.mem_append.1 hs' with q | q
        · exact h.lot s q
        · rw [List.mem_singleton.1 q]
      · by_cases q : u = t
        · subst q
          refine ⟨⟨c, by rw [hme]; exact hc, by rw [hme]; exact h2⟩, .inl ?_⟩
          unfold CalmC
          rw [hme]
          exact ⟨h4, h5⟩
        · rw [slK_app (t := t) (a := 0) (S := S) rfl q] at hsu
          obtain ⟨g1, g2⟩ := h.nap u hu hsu
          have hu' : (doneK (gather0 c).length t S (S.th t) (.sleep 0)).th u = S.th u := other _ u q
          refine ⟨by rw [hu']; exact g1, ?_⟩
          rcases g2 with g2 | ⟨v, hv, g2⟩
          · refine .inl ?_
            unfold CalmC at g2 ⊢
            rw [hu']
            exact g2
          · refine .inr ⟨v, hv, ?_⟩
            by_cases q2 : v = t
            · subst q2
              exact absurd (hWk g2) h1
            · unfold WkAt at g2 ⊢
              rw [show (doneK (gather0 c).length t S (S.th t) (.sleep 0)).th v = S.th v from other _ v q2]
              exact g2
    | wake a' k =>
      obtain ⟨rfl, rfl⟩ := hnp
      have hlen : S.lot.length ≤ 16 := by
        have := lot_few hW.low hW.once
        omega
      have hnone : (doneK (gather0 c).length t S (S.th t) (.wake 0 16)).lot = [] := wakeK_all S.lot 16 h.lot hlen
      refine ⟨fun s hs => (by rw [hnone] at hs; cases hs), fun u hu hsu => ?_⟩
      obtain ⟨b, hb⟩ := slK_mem hsu
      rw [hnone] at hb
      cases hb
    | say w v =>
      have hnp : ¬ wkr c (S.th t).j (S.th t).r := hnp
      exact ninv_keep h hs ht rfl (fun u hu => other _ u hu) (fun q => absurd (hWk q) hnp) (.inl ⟨rfl, rfl⟩)
theorem ninv_poke (h : NInv n calls S) (t : Nat) : NInv n calls (pokeK t S) := by
  have hsub : ∀ s ∈ (pokeK t S).lot, s ∈ S.lot := fun s hs => List.mem_of_mem_eraseP hs
  refine ⟨fun s hs => h.lot s (hsub s hs), fun u hu hsu => ?_⟩
  obtain ⟨b, hb⟩ := slK_mem hsu
  exact h.nap u hu (slK_of (hsub _ hb))
theorem ninv_new (c0 : Nat → Int) : NInv n calls (newK c0) := ⟨fun s hs => (by cases hs), fun t _ hs => (by cases hs)⟩
end
end Go.Proofs.YtdhlmgoodpepeaaGreatDoor

namespace Go.Proofs.YtdhlmgoodpepeaaGreatDoor
set_option maxRecDepth 100000
set_option linter.unusedVariables false
set_option linter.unusedSimpArgs false

section
variable {n k : Nat} {calls : Nat → List GC} {S S' : CS} {t : Nat} {c : GC} {w0 v : Int} {a : List Act6} {e : List Ev4} {pre rest full log : List LE}
/-- Threads that ask a phaser, that holds x: what was done and said, and who sleeps. -/
def gatherN {c0 : Nat → Int} (hn : n ≤ 16) (hfit : ∀ t, t < n → ∀ c ∈ calls t, fitsC (c.w : Int) c.n) {x : PhS} (hx : x.ok) (hc0 : c0 0 = x.word) : KindW gatherF n calls c0 where
  I := fun S a e => GInv n calls (c0 0) S a e ∧ NInv n calls S
  pot := potG n calls
  pk := 8
  init := ⟨ginv_new hx hc0, ninv_new c0⟩
  step := fun S a e s t hW hW' hI ha he h0 ht hen hs => ⟨⟨((gatherK hfit hx hc0).step S a e s t hW hW' hI.1 ha he h0 ht hen hs).1, ninv_step hn hfit hW hI.1 hI.2 ht hs⟩, ((gatherK hfit hx hc0).step S a e s t hW hW' hI.1 ha he h0 ht hen hs).2⟩
  poke := fun S a e t hW hI ht hs => ⟨⟨ginv_poke hI.1 t, ninv_poke hI.2 t⟩, potG_poke ht⟩
theorem nap_wkr {d : GC} {j : Nat} {r : Nat → Int} (h : napAt d j) : ¬ wkr d j r := by
  obtain ⟨w, m⟩ := d
  rcases h with ⟨h1, h2⟩ | ⟨h1, h2⟩
  · have h1 : w = 9 := h1
    subst h1 h2
    exact wkC_off (by decide)
  · have h1 : w = 10 := h1
    subst h1 h2
    exact id
/-- Each is at its end, or sleeps and waits for what has not come. -/
theorem still_calm (hW : WfK gatherF n calls S) (h : NInv n calls S) (hs : ∀ t, t < n → stillK S t) (ht : t < n) : (S.th t).k = (calls t).length ∨ slK S t = true ∧ (∃ c, (calls t)[(S.th t).k]? = some c ∧ napAt c (S.th t).j) ∧ CalmC S t := by
  rcases hs t ht with he | he
  · refine .inl ?_
    have h1 := List.getElem?_eq_none_iff.1 ((hW.th t ht).fin he)
    have h2 := (hW.th t ht).k
    omega
  · obtain ⟨h1, h2⟩ := h.nap t ht he
    rcases h2 with h2 | ⟨u, hu, d, q1, q2⟩
    · exact .inr ⟨he, h1, h2⟩
    · exfalso
      rcases hs u hu with hu2 | hu2
      · rw [(hW.th u hu).fin hu2] at q1
        cases q1
      · obtain ⟨⟨d', q3, q4⟩, _⟩ := h.nap u hu hu2
        rw [q1] at q3
        injection q3 with q3
        subst q3
        exact nap_wkr q4 q2
/-- When it is over it stays so. -/
theorem over_stays {x : PhS} (hx : x.ok) (ho : x.o = true) (hp : LogOK n calls w0 pre x.word) : ∀ (rest : List LE) (v : Int), LogOK n calls w0 (pre ++ rest) v → v = x.word ∧ ∀ t s op o w, LE.act t s op o w ∈ rest → o = x.word ∧ w = x.word := by
  intro rest
  induction rest using snoc_ind with
  | nil =>
    intro v h
    rw [List.append_nil] at h
    exact ⟨LogOK.val h hp, fun t s op o w q => by cases q⟩
  | snoc rest e ih =>
    intro v h
    rw [← List.append_assoc] at h
    cases e with
    | say t s a =>
      obtain ⟨h1, _⟩ := h.inv_say
      obtain ⟨i1, i2⟩ := ih v h1
      refine ⟨i1, fun t' s' op o w q => ?_⟩
      rcases List.mem_append.1 q with q | q
      · exact i2 t' s' op o w q
      · cases List.mem_singleton.1 q
    | act t s op o w =>
      obtain ⟨rfl, h1, _, _, c, _, hn⟩ := h.inv_act
      obtain ⟨rfl, i2⟩ := ih o h1
      have hw : v = x.word := by
        rcases hn with hn | ⟨_, _, x', y, m, hx', hy, e1, e2, e3⟩
        · exact hn
        · obtain rfl : x = x' := word_same hx hx' e1
          rw [phNext_over ho] at e3
          injection e3 with e3 _
          rw [e2, e3]
      refine ⟨hw, fun t' s' op' o' w' q => ?_⟩
      rcases List.mem_append.1 q with q | q
      · exact i2 t' s' op' o' w' q
      · have := List.mem_singleton.1 q
        injection this with q1 q2 q3 q4 q5
        exact ⟨q4, by rw [q5]; exact hw⟩
/-- What a call did, whatever it did, lies in the row. -/
theorem seg_act_mem {b : Act6} (h : b ∈ seg t k log) : ∃ p r s op o w, log = p ++ LE.act t s op o w :: r ∧ b = (s, (t : Int), op, 0, o, w) := by
  obtain ⟨p, r, s, op, o, w, h1, _, h3⟩ := seg_split h
  exact ⟨p, r, s, op, o, w, h1, h3⟩
/-- Who has been answered to Close: it is over. -/
theorem close_over (h : LogOK n calls w0 log v) {a : Int} (hc : (calls t)[k]? = some ⟨11, 0⟩) (hk : k < saysT t log) : ∃ x : PhS, x.ok ∧ x.o = true ∧ v = x.word := by
  obtain ⟨ht, c, b, h1, h2, hA⟩ := ans_at h t k hk
  rw [hc] at h1
  injection h1 with h1
  subst h1
  have fin : ∀ {y : PhS} {u : Int × Int}, y.ok → y.o = true → u ∈ (seg t k log).map ovA → u.2 = y.word → ∃ x : PhS, x.ok ∧ x.o = true ∧ v = x.word := fun {y u} hy ho hu e => by
    obtain ⟨q, hq, rfl⟩ := List.mem_map.1 hu
    obtain ⟨p, r, s, op, o, w, e1, e2⟩ := seg_act_mem hq
    subst e1
    rw [e2] at e
    have e : w = y.word := e
    obtain ⟨v', hv'⟩ := h.at
    have := hv'.inv_act.1
    subst this
    subst e
    have h' := h
    rw [show p ++ LE.act t s op o y.word :: r = (p ++ [LE.act t s op o y.word]) ++ r by simp] at h'
    exact ⟨y, hy, ho, (over_stays hy ho hv' r v h').1⟩
  rcases hA with ⟨_, z, hz, g2, g3, _⟩ | ⟨x, y, m, hx, g1, g2, _⟩
  · have hzo : z.o = true := by
      cases hq : z.o with
      | true => rfl
      | false =>
        have : phNext z 11 0 = (z, b) := g3
        rw [phNext_close hq] at this
        injection this with this _
        have := congrArg PhS.o this
        rw [hq] at this
        cases this
    exact fin hz hzo (List.mem_of_getLast? g2) rfl
  · have hin : (x.word, y.word) ∈ (seg t k log).map ovA := by
      have : (x.word, y.word) ∈ chgs ((seg t k log).map ovA) := by rw [g1]; exact List.mem_singleton.2 rfl
      exact (List.mem_filter.1 this).1
    have g2 : phNext x 11 0 = (y, m) := g2
    have hy : y.ok ∧ y.o = true := by
      cases hq : x.o with
      | true =>
        rw [phNext_over hq] at g2
        injection g2 with g2 _
        rw [← g2]
        exact ⟨hx, hq⟩
      | false =>
        rw [phNext_close hq] at g2
        injection g2 with g2 _
        rw [← g2]
        exact ⟨hx, rfl⟩
    exact fin hy.1 hy.2 hin rfl
end
end Go.Proofs.YtdhlmgoodpepeaaGreatDoor

namespace Go.Proofs.YtdhlmgoodpepeaaGreatDoor
set_option maxRecDepth 100000
set_option linter.unusedVariables false
set_option linter.unusedSimpArgs false

section
variable {n k k0 : Nat} {calls : Nat → List GC} {S S' : CS} {t : Nat} {c : GC} {w0 v : Int} {a : List Act6} {e : List Ev4} {log : List LE}
theorem over_all (hW : WfK gatherF n calls S) (h : NInv n calls S) (hs : ∀ t, t < n → stillK S t) {x : PhS} (hx : x.ok) (ho : x.o = true) (hv : S.cell 0 = x.word) (ht : t < n) : (S.th t).k = (calls t).length := by
  rcases still_calm hW h hs ht with q | ⟨_, _, q, _⟩
  · exact q
  · rw [hv, of_word hx, ho] at q
    cases q
/-- Where it was answered. -/
theorem say_split (t : Nat) : ∀ {log : List LE} {k : Nat}, k < saysT t log → ∃ pre s a rest, log = pre ++ LE.say t s a :: rest ∧ saysT t pre = k
  | [], _, h => absurd h (Nat.not_lt_zero _)
  | .act u s op o v :: r, k, h => by
    obtain ⟨pre, s', a', rest, h1, h2⟩ := say_split t (log := r) (k := k) h
    exact ⟨.act u s op o v :: pre, s', a', rest, by rw [h1]; rfl, h2⟩
  | .say u s v :: r, k, h => by
    by_cases e : u = t
    · subst e
      cases k with
      | zero => exact ⟨[], s, v, r, rfl, rfl⟩
      | succ k =>
        rw [saysT_say] at h
        obtain ⟨pre, s', a', rest, h1, h2⟩ := say_split u (log := r) (k := k) (by omega)
        exact ⟨.say u s v :: pre, s', a', rest, by rw [h1]; rfl, by rw [saysT_say, h2]⟩
    · rw [saysT_other e] at h
      obtain ⟨pre, s', a', rest, h1, h2⟩ := say_split t (log := r) (k := k) h
      exact ⟨.say u s v :: pre, s', a', rest, by rw [h1]; rfl, by rw [saysT_other e, h2]⟩
/-- Who has been told that it is closed is told so ever after. -/
theorem after_close (h : LogOK n calls w0 log v) (hc : (calls t)[k0]? = some ⟨11, 0⟩) (hk0 : k0 < k) (hk : k < saysT t log) : (saidL t log)[k]? = some (-1) := by
  obtain ⟨pre, s, a0, rest, e1, e2⟩ := say_split t (log := log) (k := k0) (by omega)
  subst e1
  rw [show pre ++ LE.say t s a0 :: rest = (pre ++ [LE.say t s a0]) ++ rest by simp] at h hk ⊢
  obtain ⟨v', h'⟩ := h.front
  have hsays : saysT t (pre ++ [LE.say t s a0]) = k0 + 1 := by rw [saysT_app, saysT_say, e2]; rfl
  obtain ⟨x, hx, ho, hv⟩ := close_over (a := a0) h' hc (by rw [hsays]; omega)
  subst hv
  obtain ⟨_, hst⟩ := over_stays hx ho h' rest v h
  obtain ⟨_, c, a, _, h2, hA⟩ := ans_at h t k hk
  rw [h2]
  have hseg : seg t k ((pre ++ [LE.say t s a0]) ++ rest) = seg t (k - (k0 + 1)) rest := by
    rw [seg_app, hsays, if_neg (by omega), seg_snoc_say, seg_late t _ _ (by omega)]
    rfl
  rw [hseg] at hA
  have hin : ∀ u ∈ (seg t (k - (k0 + 1)) rest).map ovA, u.1 = x.word ∧ u.2 = x.word := fun u hu => by
    obtain ⟨b, hb, rfl⟩ := List.mem_map.1 hu
    obtain ⟨p, r, s', op, o, w, f1, f2⟩ := seg_act_mem hb
    subst f1
    rw [f2]
    exact hst t s' op o w (List.mem_append_right _ (.head _))
  rcases hA with ⟨_, z, hz, g2, g3, _⟩ | ⟨x', y', m, hx', g1, _⟩
  · obtain rfl : z = x := word_same hz hx (hin _ (List.mem_of_getLast? g2)).1
    rw [phNext_over ho] at g3
    injection g3 with _ g3
    rw [← g3]
  · exfalso
    have : (x'.word, y'.word) ∈ chgs ((seg t (k - (k0 + 1)) rest).map ovA) := by rw [g1]; exact List.mem_singleton.2 rfl
    obtain ⟨f1, f2⟩ := List.mem_filter.1 this
    obtain ⟨f3, f4⟩ := hin _ f1
    exact (of_decide_eq_true f2) (f3.trans f4.symm)
theorem close_own_ans (h : LogOK n calls w0 log v) (hc : (calls t)[k]? = some ⟨11, 0⟩) (hk : k < saysT t log) : (saidL t log)[k]? = some 0 ∨ (saidL t log)[k]? = some (-1) := by
  obtain ⟨_, c, a, h1, h2, hA⟩ := ans_at h t k hk
  rw [hc] at h1
  injection h1 with h1
  subst h1
  rw [h2]
  have ans : ∀ {z y : PhS} {b : Int}, phNext z 11 0 = (y, b) → b = 0 ∨ b = -1 := fun {z y b} q => by
    cases hq : z.o with
    | true => rw [phNext_over hq] at q; injection q with _ q; exact .inr q.symm
    | false => rw [phNext_close hq] at q; injection q with _ q; exact .inl q.symm
  have : a = 0 ∨ a = -1 := by
    rcases hA with ⟨_, z, _, _, g3, _⟩ | ⟨x, y, m, _, _, g2, g3, _⟩
    · exact ans g3
    · rw [g3 (by decide)]
      exact ans g2
  rcases this with q | q <;> rw [q]
  · exact .inl rfl
  · exact .inr rfl

/-! Who is alone. -/
/-- What comes of a call, where there is nobody else: -4, it would have to wait. -/
def oneG (x : PhS) (c : GC) : PhS × Int :=
  if c.w = 9 ∧ 0 ≤ (phNext x (askW c) c.n).2 then ((phNext x (askW c) c.n).1, (phNext (phNext x (askW c) c.n).1 10 (phNext x (askW c) c.n).2).2) else phNext x (askW c) c.n
inductive SoloG (l : List GC) (x0 : PhS) : Nat → PhS → List Int → Prop where
  | nil : SoloG l x0 0 x0 []
  | step {k : Nat} {x y : PhS} {sa : List Int} {c : GC} {b : Int} (h : SoloG l x0 k x sa) (hx : x.ok) (hc : l[k]? = some c) (h1 : oneG x c = (y, b)) (hb : b ≠ -4) : SoloG l x0 (k + 1) y (sa ++ [b])
theorem phNext_wait {x y : PhS} {b m : Int} (hx : x.ok) (h : phNext x b m = (y, -4)) : y = x := by
  have hf := hx.1.1
  have arr : ∀ {l : Int}, phArrive x l = (y, -4) → y = x := fun {l} h => by
    unfold phArrive at h
    split at h
    · injection h with h _; exact h.symm
    · injection h with _ h; omega
  unfold phNext at h
  split at h
  · injection h with h _; exact h.symm
  · split at h
    · split at h
      · injection h with h _; exact h.symm
      · injection h with _ h; omega
    · split at h
      · exact arr h
      · split at h
        · exact arr h
        · split at h
          · injection h with _ h; omega
          · injection h with h _; exact h.symm
theorem alone_inv {x0 : PhS} (hx0 : x0.ok) (h : LogOK 1 calls x0.word log v) : ∃ x : PhS, x.ok ∧ SoloG (calls 0) x0 (saysT 0 log) x (saidL 0 log) ∧
    ((chgs (curL 0 log) = [] ∧ v = x.word ∧ ∀ p ∈ curL 0 log, p.1 = x.word) ∨
     (∃ (c : GC) (y : PhS) (m : Int), (calls 0)[saysT 0 log]? = some c ∧ y.ok ∧ chgs (curL 0 log) = [(x.word, y.word)] ∧ phNext x (askW c) c.n = (y, m) ∧ v = y.word ∧ ∀ p, (curL 0 log).getLast? = some p → p.2 = y.word)) := by
  induction h with
  | nil => exact ⟨x0, hx0, .nil, .inl ⟨rfl, rfl, fun p hp => by cases hp⟩⟩
  | @act log v t s op now c h ht hc hs h0 hn ih =>
    obtain rfl : t = 0 := by omega
    obtain ⟨x, hx, hS, hI⟩ := ih
    have e1 : saysT 0 (log ++ [.act 0 s op v now]) = saysT 0 log := by rw [saysT_app]; rfl
    have e2 : saidL 0 (log ++ [.act 0 s op v now]) = saidL 0 log := by rw [saidL_snoc]; exact List.append_nil _
    have e3 : curL 0 (log ++ [.act 0 s op v now]) = curL 0 log ++ [(v, now)] := by rw [curL_snoc]; rfl
    rw [e1, e2, e3]
    refine ⟨x, hx, hS, ?_⟩
    rcases hI with ⟨i1, i2, i3⟩ | ⟨d, y, m, i1, i2, i3, i4, i5, i6⟩
    · by_cases hne : now = v
      · subst hne
        refine .inl ⟨by rw [chgs_same]; exact i1, i2, fun p hp => ?_⟩
        rcases List.mem_append.1 hp with hp | hp
        · exact i3 p hp
        · rw [List.mem_singleton.1 hp]; exact i2
      · rcases hn with hn | ⟨_, _, x', y', m, hx', hy, f1, f2, f3⟩
        · exact absurd hn hne
        · obtain rfl : x = x' := word_same hx hx' (by rw [← i2, f1])
          refine .inr ⟨c, y', m, hc, hy, by rw [chgs_new _ (Ne.symm hne), i1, i2, f2]; rfl, f3, f2, fun p hp => ?_⟩
          rw [last_snoc] at hp
          injection hp with hp
          rw [← hp]
          exact f2
    · have hne : now = v := by
        rcases hn with hn | ⟨_, hn, _⟩
        · exact hn
        · rw [i3] at hn; cases hn
      subst hne
      refine .inr ⟨d, y, m, i1, i2, by rw [chgs_same]; exact i3, i4, i5, fun p hp => ?_⟩
      rw [last_snoc] at hp
      injection hp with hp
      rw [← hp]
      exact i5
  | @say log v t s a c h ht hc hs h0 ha ih =>
    obtain rfl : t = 0 := by omega
    obtain ⟨x, hx, hS, hI⟩ := ih
    have e1 : saysT 0 (log ++ [.say 0 s a]) = saysT 0 log + 1 := by rw [saysT_app, saysT_say]; rfl
    have e2 : saidL 0 (log ++ [.say 0 s a]) = saidL 0 log ++ [a] := by rw [saidL_snoc]; rfl
    have e3 : curL 0 (log ++ [.say 0 s a]) = [] := by rw [curL_snoc]; rfl
    rw [e1, e2, e3]
    rcases hI with ⟨i1, i2, i3⟩ | ⟨d, y, m, i1, i2, i3, i4, i5, i6⟩
    · rcases ha with ⟨_, z, hz, g2, g3, g4, g5⟩ | ⟨x', y', m, hx', g1, _⟩
      · obtain rfl : z = x := word_same hz hx (i3 _ (List.mem_of_getLast? g2))
        refine ⟨z, hz, SoloG.step hS hz hc ?_ g5, .inl ⟨rfl, i2, fun p hp => by cases hp⟩⟩
        unfold oneG
        rw [g3, if_neg (fun q => by have := g4 q.1; have := q.2; omega)]
      · rw [i1] at g1; cases g1
    · rw [show (calls 0)[saysT 0 log]? = some c from hc] at i1
      injection i1 with i1
      subst i1
      rcases ha with ⟨g1, _⟩ | ⟨x', y', m', hx', g1, g2, g3, g4⟩
      · rw [i3] at g1; cases g1
      · rw [i3] at g1
        injection g1 with g1 _
        injection g1 with g1 g1'
        obtain rfl : x = x' := word_same hx hx' g1
        rw [i4] at g2
        injection g2 with g2 g2'
        subst g2 g2'
        have hne : y ≠ x := fun q => by
          have : (x.word, y.word) ∈ chgs (curL 0 log) := by rw [i3]; exact List.mem_singleton.2 rfl
          exact (of_decide_eq_true (List.mem_filter.1 this).2) (by rw [q])
        by_cases h9 : c.w = 9
        · obtain ⟨gm, z, hz, g5, g6, g7⟩ := g4 h9
          obtain rfl : z = y := word_same hz i2 (i6 _ g5)
          refine ⟨z, hz, SoloG.step hS hx hc ?_ g7, .inl ⟨rfl, i5, fun p hp => by cases hp⟩⟩
          unfold oneG
          rw [i4, if_pos ⟨h9, gm⟩]
          show (z, (phNext z 10 m).2) = (z, a)
          rw [g6]
        · have ha := g3 h9
          refine ⟨y, i2, SoloG.step hS hx hc ?_ ?_, .inl ⟨rfl, i5, fun p hp => by cases hp⟩⟩
          · unfold oneG
            rw [i4, if_neg (fun q => h9 q.1), ha]
          · intro q
            rw [← ha, q] at i4
            exact hne (phNext_wait hx i4)
end
end Go.Proofs.YtdhlmgoodpepeaaGreatDoor

namespace Go.Proofs.YtdhlmgoodpepeaaGreatDoor
set_option maxRecDepth 100000
set_option linter.unusedVariables false
set_option linter.unusedSimpArgs false

section
variable {n k : Nat} {calls : Nat → List GC} {S : CS} {t : Nat} {w0 v : Int} {a : List Act6} {e : List Ev4} {log : List LE}
theorem alone_still {x0 : PhS} (hx0 : x0.ok) (hW : WfK gatherF 1 calls S) (hG : GInv 1 calls x0.word S a e) (hN : NInv 1 calls S) (hs : ∀ t, t < 1 → stillK S t) :
    ∃ (log : List LE) (x : PhS), actsL log = a ∧ evsL log = e ∧ saysT 0 log = (S.th 0).k ∧ SoloG (calls 0) x0 (S.th 0).k x (saidL 0 log) ∧ ((S.th 0).k = (calls 0).length ∨ slK S 0 = true ∧ ∃ c, (calls 0)[(S.th 0).k]? = some c ∧ (oneG x c).2 = -4) := by
  have still := still_calm hW hN hs (show 0 < 1 by decide)
  obtain ⟨log, e1, e2, hL, _, hT⟩ := hG
  obtain ⟨hk, hA⟩ := hT 0 (by decide)
  obtain ⟨x, hx, hS, hI⟩ := alone_inv hx0 hL
  have hk : (S.th 0).k = saysT 0 log := hk
  refine ⟨log, x, e1, e2, hk.symm, by rw [hk]; exact hS, ?_⟩
  rcases still with q | ⟨q, ⟨c, hc, hn⟩, ho, hf⟩
  · exact .inl q
  · refine .inr ⟨q, c, hc, ?_⟩
    have hA := hA c hc
    obtain ⟨w, m⟩ := c
    rcases hn with ⟨hw, hj⟩ | ⟨hw, hj⟩
    · have hw : w = 9 := hw
      subst hw
      rw [hj] at hA
      obtain ⟨d, ⟨h0, h1, h2⟩, h5, _⟩ : UAt ⟨9, m⟩ 7 (S.th 0).r (curL 0 log) := hA
      rcases h2 with ⟨h2, _⟩ | ⟨_, x', y', hx', g1, g2⟩
      · cases h2
      · rcases hI with ⟨i1, _⟩ | ⟨c', y, b, i1, i2, i3, i4, i5, _⟩
        · rw [i1] at g1; cases g1
        · rw [← hk, hc] at i1
          injection i1 with i1
          subst i1
          rw [i3] at g1
          injection g1 with g1 _
          injection g1 with g1 _
          obtain rfl : x = x' := word_same hx hx' g1
          have i4 : phNext x 7 m = (y, b) := i4
          have g2 : phNext x 7 m = (y', d) := g2
          rw [i4] at g2
          injection g2 with g2 g3
          subst g2 g3
          rw [i5, of_word i2] at ho hf
          unfold oneG
          rw [show phNext x (askW ⟨9, m⟩) m = (y, b) from i4, if_pos ⟨rfl, h0⟩]
          show (phNext y 10 b).2 = -4
          rw [phNext_watch ho, if_pos (by rw [hf, h5])]
    · have hw : w = 10 := hw
      subst hw
      rw [hj] at hA
      obtain ⟨d, ⟨h0, h1, h2⟩, h5, _⟩ : UAt ⟨10, m⟩ 7 (S.th 0).r (curL 0 log) := hA
      rcases h2 with ⟨_, g1, g2⟩ | ⟨h2, _⟩
      · rcases hI with ⟨i1, i2, _⟩ | ⟨c', y, b, _, _, i3, _⟩
        · have g2 : d = m := g2
          rw [i2, of_word hx] at ho hf
          unfold oneG
          rw [if_neg (fun q => by have := q.1; cases this)]
          show (phNext x 10 m).2 = -4
          rw [phNext_watch ho, if_pos (by rw [hf, h5, g2])]
        · rw [i3] at g1; cases g1
      · cases h2

/-! Without one. -/
def tried (log : List LE) (t : Nat) : Nat := if chgs (curL t log) = [] then 0 else 1
/-- A state at which who has come waits. -/
def waitsZ (z : PhS) : Prop := z.ok ∧ z.o = false ∧ z.f = 0 ∧ 1 ≤ z.q
theorem miss_inv {N : Nat} (hN : n < N) (hN2 : N ≤ 65535) (hcalls : ∀ t, t < n → calls t = [⟨9, 0⟩]) (h : LogOK n calls (PhS.mk false 0 N N).word log v) :
    evsL log = [] ∧ (∀ t, saidL t log = []) ∧ v = (PhS.mk false 0 N ((N : Int) - (sumN n (tried log) : Nat))).word ∧ ∀ t, ∀ p ∈ curL t log, (∃ z, waitsZ z ∧ p.1 = z.word) ∧ ∃ z, waitsZ z ∧ p.2 = z.word := by
  have le : ∀ log, sumN n (tried log) ≤ n := fun log => by
    have := sumN_le (n := n) (f := tried log) (g := fun _ => 1) (fun u _ => by unfold tried; split <;> omega)
    rw [sumN_const] at this
    omega
  have okz : ∀ m : Nat, m ≤ n → waitsZ (PhS.mk false 0 N ((N : Int) - m)) := fun m hm => ⟨⟨⟨by show (0 : Int) ≤ 0; omega, by show (0 : Int) ≤ _; omega⟩, ⟨by show (0 : Int) ≤ N; omega, by show (N : Int) ≤ 65535; omega⟩, ⟨by show 0 ≤ (N : Int) - m; omega, by show (N : Int) - m ≤ N; omega⟩⟩, rfl, rfl, by show 1 ≤ (N : Int) - m; omega⟩
  induction h with
  | nil =>
    have h0 : sumN n (tried []) = 0 := by
      have := sumN_le (n := n) (f := tried []) (g := fun _ => 0) (fun u _ => by unfold tried; exact Nat.le_of_eq (if_pos rfl))
      rw [sumN_const] at this
      omega
    refine ⟨rfl, fun t => rfl, ?_, fun t p hp => by cases hp⟩
    rw [h0]
    show (PhS.mk false 0 N N).word = (PhS.mk false 0 N ((N : Int) - (0 : Nat))).word
    rw [show (N : Int) - (0 : Nat) = N by omega]
  | @act log v t s op now c h ht hc hs h0 hn ih =>
    obtain ⟨i1, i2, i3, i4⟩ := ih
    have hv := okz _ (le log)
    have hc9 : c = ⟨9, 0⟩ := by
      rw [i2 t, hcalls t ht] at hc
      injection hc with hc
      exact hc.symm
    subst hc9
    have cur : ∀ u, curL u (log ++ [.act t s op v now]) = if t = u then curL u log ++ [(v, now)] else curL u log := fun u => by rw [curL_snoc]; rfl
    refine ⟨by rw [evsL_snoc, i1]; rfl, fun u => by rw [saidL_snoc, i2 u]; rfl, ?_⟩
    have key : ∀ {z : PhS}, waitsZ z → now = z.word → ∀ u, ∀ p ∈ curL u (log ++ [.act t s op v now]), (∃ z, waitsZ z ∧ p.1 = z.word) ∧ ∃ z, waitsZ z ∧ p.2 = z.word := fun {z} hz hnz u p hp => by
      rw [cur u] at hp
      split at hp
      · rcases List.mem_append.1 hp with hp | hp
        · exact i4 u p hp
        · rw [List.mem_singleton.1 hp]
          exact ⟨⟨_, hv, i3⟩, ⟨z, hz, hnz⟩⟩
      · exact i4 u p hp
    by_cases hne : now = v
    · subst hne
      have hsame : sumN n (tried (log ++ [.act t s op now now])) = sumN n (tried log) := by
        have : ∀ u, tried (log ++ [.act t s op now now]) u = tried log u := fun u => by
          unfold tried
          rw [cur u]
          by_cases q : t = u
          · rw [if_pos q, chgs_same]
          · rw [if_neg q]
        exact congrArg (sumN n) (funext this)
      rw [hsame]
      exact ⟨i3, key hv i3⟩
    · rcases hn with hn | ⟨_, hn, x, y, m, hx, hy, f1, f2, f3⟩
      · exact absurd hn hne
      · obtain rfl : x = PhS.mk false 0 N ((N : Int) - (sumN n (tried log) : Nat)) := word_same hx hv.1 (by rw [← f1, i3])
        have f3 : phNext (PhS.mk false 0 N ((N : Int) - (sumN n (tried log) : Nat))) 7 0 = (y, m) := f3
        have hmine : tried log t = 0 := by unfold tried; rw [if_pos hn]
        have hsum : sumN n (tried (log ++ [.act t s op v now])) = sumN n (tried log) + 1 := by
          refine sumN_at ht (fun u _ hu => ?_) ?_
          · unfold tried
            rw [cur u, if_neg (Ne.symm hu)]
          · rw [hmine]
            unfold tried
            rw [cur t, if_pos rfl, chgs_new _ (Ne.symm hne), if_neg (by simp)]
        have hle := le (log ++ [.act t s op v now])
        rw [hsum] at hle
        rw [phNext_arrive rfl, phArrive_more (by show 2 ≤ (N : Int) - (sumN n (tried log) : Nat); omega)] at f3
        injection f3 with f3 _
        have hy2 : y = PhS.mk false 0 N ((N : Int) - (sumN n (tried log) + 1 : Nat)) := by
          rw [← f3]
          show PhS.mk false 0 ((N : Int) - 0) ((N : Int) - (sumN n (tried log) : Nat) - 1) = _
          rw [show (N : Int) - 0 = N by omega, show (N : Int) - (sumN n (tried log) : Nat) - 1 = (N : Int) - ((sumN n (tried log) + 1 : Nat) : Int) by omega]
        rw [hsum]
        exact ⟨by rw [f2, hy2], key (z := y) (by rw [hy2]; exact okz _ hle) f2⟩
  | @say log v t s a c h ht hc hs h0 ha ih =>
    exfalso
    obtain ⟨i1, i2, i3, i4⟩ := ih
    have hc9 : c = ⟨9, 0⟩ := by
      rw [i2 t, hcalls t ht] at hc
      injection hc with hc
      exact hc.symm
    subst hc9
    rcases ha with ⟨_, z, hz, g2, g3, g4, _⟩ | ⟨x, y, m, hx, g1, g2, _, g4⟩
    · obtain ⟨⟨z', hz', e1⟩, _⟩ := i4 t _ (List.mem_of_getLast? g2)
      obtain rfl : z = z' := word_same hz hz'.1 e1
      have g3 : phNext z 7 0 = (z, a) := g3
      rw [phNext_arrive hz'.2.1] at g3
      have : a = z.f := by
        unfold phArrive at g3
        rw [if_neg (by have := hz'.2.2.2; omega)] at g3
        injection g3 with _ g3
        exact g3.symm
      have := g4 rfl
      have := hz'.2.2.1
      omega
    · obtain ⟨_, z, hz, g5, g6, g7⟩ := g4 rfl
      obtain ⟨⟨z', hz', e1⟩, _⟩ := i4 t _ (List.mem_of_getLast? g5)
      obtain rfl : z = z' := word_same hz hz'.1 e1
      have hin : (x.word, y.word) ∈ chgs (curL t log) := by rw [g1]; exact List.mem_singleton.2 rfl
      obtain ⟨⟨x', hx', e2⟩, _⟩ := i4 t _ (List.mem_filter.1 hin).1
      obtain rfl : x = x' := word_same hx hx'.1 e2
      have g2 : phNext x 7 0 = (y, m) := g2
      rw [phNext_arrive hx'.2.1] at g2
      have hm : m = x.f := by
        unfold phArrive at g2
        rw [if_neg (by have := hx'.2.2.2; omega)] at g2
        injection g2 with _ g2
        exact g2.symm
      rw [phNext_watch hz'.2.1, if_pos (by rw [hm, hx'.2.2.1, hz'.2.2.1])] at g6
      injection g6 with _ g6
      exact g7 g6.symm
/-- All sleep, and nobody was answered. -/
theorem miss_still {N : Nat} (hN : n < N) (hN2 : N ≤ 65535) (hcalls : ∀ t, t < n → calls t = [⟨9, 0⟩]) (hW : WfK gatherF n calls S) (hG : GInv n calls (PhS.mk false 0 N N).word S a e) (hI : NInv n calls S) (hs : ∀ t, t < n → stillK S t) :
    e = [] ∧ ∀ t, t < n → slK S t = true ∧ (S.th t).en = false := by
  have still := fun t ht => still_calm hW hI hs (t := t) ht
  obtain ⟨log, e1, e2, hL, _, hT⟩ := hG
  obtain ⟨i1, i2, _⟩ := miss_inv hN hN2 hcalls hL
  refine ⟨by rw [← e2, i1], fun t ht => ?_⟩
  have hk := (hT t ht).1
  rw [i2 t] at hk
  have hk : (S.th t).k = 0 := hk
  rcases still t ht with q | ⟨q, ⟨c, hc, _⟩, _⟩
  · rw [hk, hcalls t ht] at q
    cases q
  · refine ⟨q, ?_⟩
    cases he : (S.th t).en with
    | false => rfl
    | true => rw [(hW.th t ht).fin he] at hc; cases hc
end
end Go.Proofs.YtdhlmgoodpepeaaGreatDoor

namespace Go.Proofs.YtdhlmgoodpepeaaGreatDoor
set_option maxRecDepth 100000
set_option linter.unusedVariables false
set_option linter.unusedSimpArgs false

/-- The phase, so many later. -/
def phF (f0 : Int) (r : Nat) : Int := (f0 + (r : Int)) % 2147483648
theorem phF_rng (f0 : Int) (r : Nat) : 0 ≤ phF f0 r ∧ phF f0 r ≤ 2147483647 := by unfold phF; omega
theorem phF_up (f0 : Int) (r : Nat) : phUp (phF f0 r) = phF f0 (r + 1) := by
  rw [phUp_mod (phF_rng f0 r)]
  unfold phF
  omega
theorem phF_ne (f0 : Int) (r : Nat) : phF f0 r ≠ phF f0 (r + 1) := by
  unfold phF
  omega
/-- A state in the midst: whose phase is so many later, where somebody has yet to come. -/
def midZ (f0 : Int) (n r : Nat) (z : PhS) : Prop := z.ok ∧ z.o = false ∧ z.f = phF f0 r ∧ z.p = n ∧ 1 ≤ z.q ∧ z.q ≤ n
/-- How often a thread has come. -/
def cameG (log : List LE) (t : Nat) : Nat := saysT t log + tried log t
/-- Who came, who went: as the judge hears it. -/
def jStep (a : List Ev4) : LE → List Ev4
  | .act t _ _ o w => if o = w then a else a ++ [evAt 0 t (cntEv a t)]
  | .say t _ _ => a ++ [evAt 0 t (cntEv a t)]
def jL (log : List LE) : List Ev4 := log.foldl jStep []
theorem jL_snoc (log : List LE) (e : LE) : jL (log ++ [e]) = jStep (jL log) e := by unfold jL; rw [List.foldl_append]; rfl

section
variable {n times : Nat} {calls : Nat → List GC} {S : CS} {t : Nat} {f0 v : Int} {a : List Act6} {e : List Ev4} {log : List LE}
structure PassI (n times : Nat) (f0 : Int) (log : List LE) (v : Int) (r j : Nat) : Prop where
  jl : j < n
  rl : r ≤ times
  vl : v = (PhS.mk false (phF f0 r) n ((n : Int) - j)).word
  sum : sumN n (cameG log) = n * r + j
  came : ∀ t, t < n → r ≤ cameG log t ∧ cameG log t ≤ r + 1 ∧ saysT t log ≤ r
  seen : ∀ t, t < n → ∀ p ∈ curL t log, ∃ r', saysT t log ≤ r' ∧ r' ≤ r ∧ ∃ z, midZ f0 n r' z ∧ p.1 = z.word
  chg : ∀ t, t < n → ∀ x y : PhS, x.ok → chgs (curL t log) = [(x.word, y.word)] → x.f = phF f0 (saysT t log) ∧ x.o = false ∧ x.q ≠ 0
  said : ∀ t, t < n → saidL t log = (List.range (saysT t log)).map fun k => phF f0 (k + 1)
  ok : OkEv n (jL log)
  cnt : ∀ t, t < n → cntEv (jL log) t = 2 * saysT t log + tried log t
theorem tried_le (log : List LE) (t : Nat) : tried log t ≤ 1 := by unfold tried; split <;> omega
theorem pass_inv (n1 : 1 ≤ n) (n2 : n ≤ 65535) (hcalls : ∀ t, t < n → calls t = List.replicate times ⟨9, 0⟩) (hf0 : 0 ≤ f0 ∧ f0 ≤ 2147483647) (h : LogOK n calls (PhS.mk false f0 n n).word log v) : ∃ r j, PassI n times f0 log v r j := by
  have okz : ∀ (r m : Nat), m < n → midZ f0 n r (PhS.mk false (phF f0 r) n ((n : Int) - m)) := fun r m hm => ⟨⟨phF_rng f0 r, ⟨by show (0 : Int) ≤ n; omega, by show (n : Int) ≤ 65535; omega⟩, ⟨by show 0 ≤ (n : Int) - m; omega, by show (n : Int) - m ≤ n; omega⟩⟩, rfl, rfl, rfl, by show 1 ≤ (n : Int) - m; omega, by show (n : Int) - m ≤ n; omega⟩
  induction h with
  | nil =>
    have h0 : sumN n (cameG []) = 0 := by
      have := sumN_le (n := n) (f := cameG []) (g := fun _ => 0) (fun u _ => Nat.le_refl _)
      rw [sumN_const] at this
      omega
    refine ⟨0, 0, n1, Nat.zero_le _, ?_, by rw [h0]; omega, fun t _ => ⟨Nat.zero_le _, Nat.zero_le _, Nat.zero_le _⟩, (fun t _ p hp => by cases hp), (fun t _ x y _ q => by cases q), fun t _ => rfl, OkEv.nil, fun t _ => rfl⟩
    rw [show phF f0 0 = f0 by unfold phF; omega, show (n : Int) - (0 : Nat) = n by omega]
  | @act log v t s op now c h ht hc hs h0 hn ih =>
    obtain ⟨r, j, I⟩ := ih
    have hc9 : c = ⟨9, 0⟩ ∧ saysT t log < times := by
      have hc' := hc
      rw [hcalls t ht] at hc'
      have := (List.getElem?_eq_some_iff.1 hc')
      obtain ⟨q1, q2⟩ := this
      rw [List.getElem_replicate] at q2
      rw [List.length_replicate] at q1
      exact ⟨q2.symm, q1⟩
    obtain ⟨rfl, hlt⟩ := hc9
    have cur : ∀ u, curL u (log ++ [.act t s op v now]) = if t = u then curL u log ++ [(v, now)] else curL u log := fun u => by rw [curL_snoc]; rfl
    have says : ∀ u, saysT u (log ++ [.act t s op v now]) = saysT u log := fun u => by rw [saysT_app]; rfl
    have said : ∀ u, saidL u (log ++ [.act t s op v now]) = saidL u log := fun u => by rw [saidL_snoc]; exact List.append_nil _
    have seen' : ∀ r2, r ≤ r2 → ∀ u, u < n → ∀ p ∈ curL u (log ++ [.act t s op v now]), ∃ r', saysT u (log ++ [.act t s op v now]) ≤ r' ∧ r' ≤ r2 ∧ ∃ z, midZ f0 n r' z ∧ p.1 = z.word := fun r2 hr u hu p hp => by
      rw [says u]
      rw [cur u] at hp
      have old : p ∈ curL u log → ∃ r', saysT u log ≤ r' ∧ r' ≤ r2 ∧ ∃ z, midZ f0 n r' z ∧ p.1 = z.word := fun hp => by
        obtain ⟨r', q1, q2, q3⟩ := I.seen u hu p hp
        exact ⟨r', q1, Nat.le_trans q2 hr, q3⟩
      split at hp
      · rcases List.mem_append.1 hp with hp | hp
        · exact old hp
        · rw [List.mem_singleton.1 hp]
          exact ⟨r, (I.came u hu).2.2, hr, _, okz r j I.jl, I.vl⟩
      · exact old hp
    by_cases hne : now = v
    · subst hne
      have htr : ∀ u, tried (log ++ [.act t s op now now]) u = tried log u := fun u => by
        unfold tried
        rw [cur u]
        split
        · rw [chgs_same]
        · rfl
      have hcm : cameG (log ++ [.act t s op now now]) = cameG log := by
        funext u
        unfold cameG
        rw [says u, htr u]
      have hj : jL (log ++ [.act t s op now now]) = jL log := by
        rw [jL_snoc]
        exact if_pos rfl
      refine ⟨r, j, I.jl, I.rl, I.vl, by rw [hcm]; exact I.sum, fun u hu => by rw [hcm, says u]; exact I.came u hu, seen' r (Nat.le_refl _), fun u hu x y hx q => ?_, fun u hu => by rw [said u, says u]; exact I.said u hu, by rw [hj]; exact I.ok, fun u hu => by rw [hj, says u, htr u]; exact I.cnt u hu⟩
      rw [says u]
      rw [cur u] at q
      split at q
      · rw [chgs_same] at q
        exact I.chg u hu x y hx q
      · exact I.chg u hu x y hx q
    · rcases hn with hn | ⟨_, hn, x, y, m, hx, hy, f1, f2, f3⟩
      · exact absurd hn hne
      have hz := okz r j I.jl
      obtain rfl : x = PhS.mk false (phF f0 r) n ((n : Int) - j) := word_same hx hz.1 (by rw [← f1, I.vl])
      have f3 : phNext (PhS.mk false (phF f0 r) n ((n : Int) - j)) 7 0 = (y, m) := f3
      have hmine : tried log t = 0 := by unfold tried; rw [if_pos hn]
      have hd : saysT t log = r := by
        have := I.came t ht
        unfold cameG at this
        omega
      have htr : ∀ u, tried (log ++ [.act t s op v now]) u = if u = t then 1 else tried log u := fun u => by
        by_cases q : u = t
        · subst q
          rw [if_pos rfl]
          unfold tried
          rw [cur u, if_pos rfl, chgs_new _ (Ne.symm hne), if_neg (by simp)]
        · rw [if_neg q]
          unfold tried
          rw [cur u, if_neg (Ne.symm q)]
      have hsum : sumN n (cameG (log ++ [.act t s op v now])) = n * r + (j + 1) := by
        rw [← Nat.add_assoc, ← I.sum]
        refine sumN_at ht (fun u _ hu => ?_) ?_
        · unfold cameG
          rw [says u, htr u, if_neg hu]
        · unfold cameG
          rw [says t, htr t, if_pos rfl, hmine]
      have hcame : ∀ u, u < n → r ≤ cameG (log ++ [.act t s op v now]) u ∧ cameG (log ++ [.act t s op v now]) u ≤ r + 1 ∧ saysT u (log ++ [.act t s op v now]) ≤ r := fun u hu => by
        have := I.came u hu
        unfold cameG at this ⊢
        rw [says u, htr u]
        by_cases q : u = t
        · subst q
          rw [if_pos rfl]
          omega
        · rw [if_neg q]
          exact this
      have hchg : ∀ u, u < n → ∀ x y : PhS, x.ok → chgs (curL u (log ++ [.act t s op v now])) = [(x.word, y.word)] → x.f = phF f0 (saysT u (log ++ [.act t s op v now])) ∧ x.o = false ∧ x.q ≠ 0 := fun u hu x y hx q => by
        rw [says u]
        rw [cur u] at q
        split at q
        · next e =>
          subst e
          rw [chgs_new _ (Ne.symm hne), hn] at q
          injection q with q _
          injection q with q _
          obtain rfl : x = PhS.mk false (phF f0 r) n ((n : Int) - j) := word_same hx hz.1 (by rw [← q, f1])
          exact ⟨by rw [hd], rfl, by have := hz.2.2.2.2.1; omega⟩
        · exact I.chg u hu x y hx q
      have hj : jL (log ++ [.act t s op v now]) = jL log ++ [evAt 0 t (2 * saysT t log)] := by
        rw [jL_snoc]
        show (if v = now then _ else _) = _
        rw [if_neg (Ne.symm hne), I.cnt t ht, hmine]
        rfl
      have hok : OkEv n (jL (log ++ [.act t s op v now])) := by
        rw [hj]
        exact OkEv.snoc I.ok ht (by rw [I.cnt t ht, hmine]; rfl) (fun q => by omega)
      have hcnt : ∀ u, u < n → cntEv (jL (log ++ [.act t s op v now])) u = 2 * saysT u (log ++ [.act t s op v now]) + tried (log ++ [.act t s op v now]) u := fun u hu => by
        rw [hj, cntEv_snoc, I.cnt u hu, says u, htr u]
        by_cases q : u = t
        · subst q
          rw [if_pos rfl, if_pos rfl, hmine]
        · rw [if_neg q, if_neg q]
          rfl
      have hsaid : ∀ u, u < n → saidL u (log ++ [.act t s op v now]) = (List.range (saysT u (log ++ [.act t s op v now]))).map fun k => phF f0 (k + 1) := fun u hu => by
        rw [said u, says u]
        exact I.said u hu
      rw [phNext_arrive rfl] at f3
      by_cases hlast : j + 1 = n
      · -- the last one: the phase goes round
        rw [phArrive_last (by show (n : Int) - j = 1; omega), if_neg (by show ¬ (n : Int) - 0 = 0; omega)] at f3
        injection f3 with f3 _
        have f3 : PhS.mk false (phUp (phF f0 r)) ((n : Int) - 0) ((n : Int) - 0) = y := f3
        have hs1 : sumN n (cameG (log ++ [.act t s op v now])) = n * (r + 1) := by rw [hsum, hlast, Nat.mul_succ]
        have hall : ∀ u, u < n → cameG (log ++ [.act t s op v now]) u = r + 1 := fun u hu => by
          refine Nat.le_antisymm (hcame u hu).2.1 (Nat.le_of_not_lt fun q => ?_)
          have := sumN_drop (n := n) (t := u) (d := 1) (f := cameG (log ++ [.act t s op v now])) (g := fun _ => r + 1) hu (fun w hw _ => (hcame w hw).2.1) (by omega)
          rw [sumN_const, hs1] at this
          omega
        refine ⟨r + 1, 0, n1, by omega, ?_, by rw [hs1]; rfl, fun u hu => by rw [hall u hu]; exact ⟨Nat.le_refl _, Nat.le_succ _, Nat.le_succ_of_le (hcame u hu).2.2⟩, seen' (r + 1) (Nat.le_succ _), hchg, hsaid, hok, hcnt⟩
        rw [f2, ← f3, phF_up, show (n : Int) - 0 = n by omega, show (n : Int) - (0 : Nat) = n by omega]
      · rw [phArrive_more (by show 2 ≤ (n : Int) - j; have := I.jl; omega)] at f3
        injection f3 with f3 _
        have f3 : PhS.mk false (phF f0 r) ((n : Int) - 0) ((n : Int) - j - 1) = y := f3
        refine ⟨r, j + 1, by have := I.jl; omega, I.rl, ?_, hsum, hcame, seen' r (Nat.le_refl _), hchg, hsaid, hok, hcnt⟩
        rw [f2, ← f3, show (n : Int) - 0 = n by omega, show (n : Int) - j - 1 = (n : Int) - ((j + 1 : Nat) : Int) by omega]
  | @say log v t s a c h ht hc hs h0 ha ih =>
    obtain ⟨r, j, I⟩ := ih
    have hc9 : c = ⟨9, 0⟩ := by
      have hc' := hc
      rw [hcalls t ht] at hc'
      obtain ⟨q1, q2⟩ := List.getElem?_eq_some_iff.1 hc'
      rw [List.getElem_replicate] at q2
      exact q2.symm
    subst hc9
    -- what it was told
    have key : tried log t = 1 ∧ a = phF f0 (saysT t log + 1) ∧ saysT t log + 1 ≤ r := by
      rcases ha with ⟨_, z, hz, g2, g3, g4, _⟩ | ⟨x, y, m, hx, g1, g2, _, g4⟩
      · exfalso
        obtain ⟨r', _, _, z', hz', e1⟩ := I.seen t ht _ (List.mem_of_getLast? g2)
        obtain rfl : z = z' := word_same hz hz'.1 e1
        have g3 : phNext z 7 0 = (z, a) := g3
        rw [phNext_arrive hz'.2.1] at g3
        have : a = z.f := by
          unfold phArrive at g3
          rw [if_neg (by have := hz'.2.2.2.2.1; omega)] at g3
          injection g3 with _ g3
          exact g3.symm
        have := g4 rfl
        have := hz'.1.1.1
        omega
      · obtain ⟨_, z, hz, g5, g6, g7⟩ := g4 rfl
        obtain ⟨r', hr1, hr2, z', hz', e1⟩ := I.seen t ht _ (List.mem_of_getLast? g5)
        obtain rfl : z = z' := word_same hz hz'.1 e1
        obtain ⟨c1, c2, c3⟩ := I.chg t ht x y hx g1
        have g2 : phNext x 7 0 = (y, m) := g2
        rw [phNext_arrive c2] at g2
        have hm : m = x.f := by
          unfold phArrive at g2
          rw [if_neg c3] at g2
          injection g2 with _ g2
          exact g2.symm
        have htr : tried log t = 1 := by
          unfold tried
          rw [if_neg (by rw [g1]; simp)]
        have hb := (I.came t ht).2.1
        have hlo := (I.came t ht).1
        unfold cameG at hb hlo
        rw [phNext_watch hz'.2.1] at g6
        by_cases q : r' = saysT t log
        · rw [if_pos (by rw [hm, c1, hz'.2.2.1, q])] at g6
          injection g6 with _ g6
          exact absurd g6.symm g7
        · have hr : r' = saysT t log + 1 := by omega
          rw [if_neg (by rw [hm, c1, hz'.2.2.1, hr]; exact Ne.symm (phF_ne f0 _))] at g6
          injection g6 with _ g6
          exact ⟨htr, by rw [← g6, hz'.2.2.1, hr], by omega⟩
    obtain ⟨htr, ha2, hr⟩ := key
    have cur : ∀ u, curL u (log ++ [.say t s a]) = if t = u then [] else curL u log := fun u => by rw [curL_snoc]; rfl
    have says : ∀ u, saysT u (log ++ [.say t s a]) = saysT u log + if u = t then 1 else 0 := fun u => by
      rw [saysT_app]
      by_cases q : u = t
      · subst q
        rw [saysT_say, if_pos rfl]
        rfl
      · rw [saysT_other (Ne.symm q), if_neg q]
        rfl
    have htr2 : ∀ u, tried (log ++ [.say t s a]) u = if u = t then 0 else tried log u := fun u => by
      unfold tried
      rw [cur u]
      by_cases q : u = t
      · rw [if_pos q.symm, if_pos q]
        rfl
      · rw [if_neg (Ne.symm q), if_neg q]
    have hcm : cameG (log ++ [.say t s a]) = cameG log := by
      funext u
      unfold cameG
      rw [says u, htr2 u]
      by_cases q : u = t
      · subst q
        rw [if_pos rfl, if_pos rfl, htr]
      · rw [if_neg q, if_neg q]
        rfl
    have hj : jL (log ++ [.say t s a]) = jL log ++ [evAt 0 t (2 * saysT t log + 1)] := by
      rw [jL_snoc]
      show jL log ++ [evAt 0 t (cntEv (jL log) t)] = _
      rw [I.cnt t ht, htr]
    refine ⟨r, j, I.jl, I.rl, I.vl, by rw [hcm]; exact I.sum, fun u hu => ?_, fun u hu p hp => ?_, fun u hu x y hx q => ?_, fun u hu => ?_, ?_, fun u hu => ?_⟩
    · rw [hcm, says u]
      have := I.came u hu
      refine ⟨this.1, this.2.1, ?_⟩
      by_cases q : u = t
      · subst q; rw [if_pos rfl]; exact hr
      · rw [if_neg q]; exact this.2.2
    · rw [cur u] at hp
      split at hp
      · cases hp
      · next q =>
        rw [says u, if_neg (Ne.symm q)]
        exact I.seen u hu p hp
    · rw [cur u] at q
      split at q
      · cases q
      · next q2 =>
        rw [says u, if_neg (Ne.symm q2)]
        exact I.chg u hu x y hx q
    · rw [saidL_snoc, says u]
      by_cases q : u = t
      · subst q
        rw [if_pos rfl, List.range_succ, List.map_append, ← I.said u hu, ha2]
        show _ ++ (if u = u then [_] else []) = _
        rw [if_pos rfl]
        rfl
      · rw [if_neg q]
        show _ ++ (if t = u then [_] else []) = _
        rw [if_neg (Ne.symm q), List.append_nil]
        exact I.said u hu
    · rw [hj]
      refine OkEv.snoc I.ok ht (by rw [I.cnt t ht, htr]) (fun _ u hu => ?_)
      rw [I.cnt u hu]
      have h1 := (I.came u hu).1
      have h2 := tried_le log u
      unfold cameG at h1
      omega
    · rw [hj, cntEv_snoc, I.cnt u hu, says u, htr2 u]
      by_cases q : u = t
      · subst q
        rw [if_pos rfl, if_pos rfl, htr]
        omega
      · rw [if_neg q, if_neg q]
        rfl
end
end Go.Proofs.YtdhlmgoodpepeaaGreatDoor

namespace Go.Proofs.YtdhlmgoodpepeaaGreatDoor
set_option maxRecDepth 100000
set_option linter.unusedVariables false
set_option linter.unusedSimpArgs false

section
variable {n times : Nat} {calls : Nat → List GC} {S : CS} {t : Nat} {f0 v : Int} {a : List Act6} {e : List Ev4} {log : List LE}
theorem pass_still (n1 : 1 ≤ n) (n2 : n ≤ 65535) (hcalls : ∀ t, t < n → calls t = List.replicate times ⟨9, 0⟩) (hf0 : 0 ≤ f0 ∧ f0 ≤ 2147483647)
    (hW : WfK gatherF n calls S) (hG : GInv n calls (PhS.mk false f0 n n).word S a e) (hN : NInv n calls S) (hs : ∀ t, t < n → stillK S t) :
    ∃ log v, actsL log = a ∧ evsL log = e ∧ LogOK n calls (PhS.mk false f0 n n).word log v ∧ OkEv n (jL log) ∧
      ∀ t, t < n → (S.th t).k = times ∧ saysT t log = times ∧ cntEv (jL log) t = 2 * times ∧ saidL t log = (List.range times).map fun k => phF f0 (k + 1) := by
  have still := fun t ht => still_calm hW hN hs (t := t) ht
  obtain ⟨log, e1, e2, hL, _, hT⟩ := hG
  obtain ⟨r, j, I⟩ := pass_inv n1 n2 hcalls hf0 hL
  have hk : ∀ t, t < n → (S.th t).k = saysT t log := fun t ht => (hT t ht).1
  have hz : (PhS.mk false (phF f0 r) n ((n : Int) - j)).ok := ⟨phF_rng f0 r, ⟨by show (0 : Int) ≤ n; omega, by show (n : Int) ≤ 65535; omega⟩, ⟨by show 0 ≤ (n : Int) - j; have := I.jl; omega, by show (n : Int) - j ≤ n; omega⟩⟩
  have asleep : ∀ t, t < n → (∃ c, (calls t)[(S.th t).k]? = some c ∧ napAt c (S.th t).j) → CalmC S t → tried log t = 1 ∧ phF f0 r = phF f0 (saysT t log) ∧ saysT t log < times := fun t ht ⟨c, hc, hn⟩ ⟨ho, hf⟩ => by
    have hA := (hT t ht).2 c hc
    have hc' := hc
    rw [hcalls t ht] at hc'
    obtain ⟨q1, q2⟩ := List.getElem?_eq_some_iff.1 hc'
    rw [List.getElem_replicate] at q2
    rw [List.length_replicate, hk t ht] at q1
    subst q2
    rcases hn with ⟨_, hj⟩ | ⟨hw, _⟩
    · rw [hj] at hA
      obtain ⟨d, ⟨h0, h1, h2⟩, h5, _⟩ : UAt ⟨9, 0⟩ 7 (S.th t).r (curL t log) := hA
      rcases h2 with ⟨h2, _⟩ | ⟨_, x, y, hx, g1, g2⟩
      · cases h2
      · obtain ⟨c1, c2, c3⟩ := I.chg t ht x y hx g1
        have g2 : phNext x 7 0 = (y, d) := g2
        rw [phNext_arrive c2] at g2
        have hm : d = x.f := by
          unfold phArrive at g2
          rw [if_neg c3] at g2
          injection g2 with _ g2
          exact g2.symm
        rw [I.vl, of_word hz] at hf
        have hf : phF f0 r = (S.th t).r 5 := hf
        refine ⟨?_, by rw [hf, h5, hm, c1], q1⟩
        unfold tried
        rw [if_neg (by rw [g1]; simp)]
    · cases hw
  have all : ∀ t, t < n → (S.th t).k = times := fun t ht => by
    rcases still t ht with q | ⟨_, q2, q3⟩
    · rw [q, hcalls t ht, List.length_replicate]
    · exfalso
      obtain ⟨b1, b2, b3⟩ := asleep t ht q2 q3
      have ct := I.came t ht
      unfold cameG at ct
      have hd : saysT t log = r := by
        by_cases q : saysT t log + 1 = r
        · rw [← q] at b2
          exact absurd b2.symm (phF_ne f0 _)
        · omega
      -- somebody has yet to come
      have hu : ∃ u, u < n ∧ cameG log u = r := Classical.byContradiction fun q => by
        have hall : ∀ u, u < n → r + 1 ≤ cameG log u := fun u hu => by
          have := (I.came u hu).1
          have : cameG log u ≠ r := fun q2 => q ⟨u, hu, q2⟩
          omega
        have := sumN_le (n := n) (f := fun _ => r + 1) (g := cameG log) hall
        rw [sumN_const, I.sum, Nat.mul_succ] at this
        have := I.jl
        omega
      obtain ⟨u, hu, hcu⟩ := hu
      unfold cameG at hcu
      rcases still u hu with q | ⟨_, q4, q5⟩
      · rw [hk u hu, hcalls u hu, List.length_replicate] at q
        have := (I.came u hu).2.2
        omega
      · obtain ⟨d1, d2, d3⟩ := asleep u hu q4 q5
        have : r = saysT u log + 1 := by omega
        rw [this] at d2
        exact phF_ne f0 _ d2.symm
  refine ⟨log, _, e1, e2, hL, I.ok, fun t ht => ?_⟩
  have hsay : saysT t log = times := by rw [← hk t ht, all t ht]
  have htr : tried log t = 0 := by
    -- behind its last call a thread does nothing
    unfold tried
    refine if_pos (Classical.byContradiction fun q => ?_)
    obtain ⟨p, hp⟩ := List.exists_mem_of_ne_nil _ q
    have hp := (List.mem_filter.1 hp).1
    rw [curL_seg] at hp
    obtain ⟨b, hb, _⟩ := List.mem_map.1 hp
    obtain ⟨pre, rest, s, op, o, w, f1, f2, _⟩ := seg_split hb
    have hL2 := hL
    rw [f1] at hL2
    obtain ⟨_, _, c, hc, _⟩ := act_inv hL2
    have := (List.getElem?_eq_some_iff.1 hc).1
    rw [hcalls t ht, List.length_replicate, f2, hsay] at this
    omega
  refine ⟨all t ht, hsay, by rw [I.cnt t ht, hsay, htr]; rfl, by rw [I.said t ht, hsay]⟩
end
end Go.Proofs.YtdhlmgoodpepeaaGreatDoor

namespace Go.Proofs.YtdhlmgoodpepeaaGreatDoor
set_option maxRecDepth 100000
set_option linter.unusedVariables false
set_option linter.unusedSimpArgs false

section
variable {n t k : Nat} {len : Nat → Nat} {pass : Nat → Nat → Bool} {acts : List Act6} {events : List Ev4} {M : List PtG}
end
end Go.Proofs.YtdhlmgoodpepeaaGreatDoor

namespace Go.Proofs.YtdhlmgoodpepeaaGreatDoor
set_option maxRecDepth 100000
set_option linter.unusedVariables false
set_option linter.unusedSimpArgs false

section
variable {n times : Nat} {calls : Nat → List GC} {t : Nat} {f0 v s op o w a : Int} {pre rest log : List LE}
theorem merge_act (n1 : 1 ≤ n) (n2 : n ≤ 65535) (hcalls : ∀ t, t < n → calls t = List.replicate times ⟨9, 0⟩) (hf0 : 0 ≤ f0 ∧ f0 ≤ 2147483647) (h : LogOK n calls (PhS.mk false f0 n n).word (pre ++ .act t s op o w :: rest) v) :
    t < n ∧ jL (pre ++ [.act t s op o w]) = jL pre ++ (if op = 9 ∧ o ≠ w then [(0, 1, (t : Int), ((saysT t pre + 1 : Nat) : Int))] else []) := by
  obtain ⟨ht, hp, c, hc, hn⟩ := act_inv h
  obtain ⟨r, j, I⟩ := pass_inv n1 n2 hcalls hf0 hp
  refine ⟨ht, ?_⟩
  rw [jL_snoc]
  show (if o = w then jL pre else jL pre ++ [evAt 0 t (cntEv (jL pre) t)]) = _
  rcases hn with hn | ⟨h9, hn, _⟩
  · rw [if_pos hn.symm, if_neg (fun q => q.2 hn.symm), List.append_nil]
  · by_cases q : o = w
    · rw [if_pos q, if_neg (fun q2 => q2.2 q), List.append_nil]
    · have hmine : tried pre t = 0 := by unfold tried; rw [if_pos hn]
      rw [if_neg q, if_pos ⟨h9, q⟩, I.cnt t ht, hmine]
      unfold evAt
      rw [show (2 * saysT t pre + 0) % 2 = 0 by omega, show (2 * saysT t pre + 0) / 2 = saysT t pre by omega, show 1 + saysT t pre = saysT t pre + 1 by omega]
      rfl
theorem merge_say (n1 : 1 ≤ n) (n2 : n ≤ 65535) (hcalls : ∀ t, t < n → calls t = List.replicate times ⟨9, 0⟩) (hf0 : 0 ≤ f0 ∧ f0 ≤ 2147483647) (h : LogOK n calls (PhS.mk false f0 n n).word (pre ++ .say t s a :: rest) v) :
    t < n ∧ a = (f0 + ((saysT t pre + 1 : Nat) : Int)) % 2147483648 ∧ saysT t pre < times ∧ jL (pre ++ [.say t s a]) = jL pre ++ [(0, 2, (t : Int), ((saysT t pre + 1 : Nat) : Int))] := by
  obtain ⟨v', h'⟩ := h.at
  obtain ⟨hp, ht, _, c, hc, _⟩ := h'.inv_say
  obtain ⟨r, j, I⟩ := pass_inv n1 n2 hcalls hf0 hp
  obtain ⟨r', j', I'⟩ := pass_inv n1 n2 hcalls hf0 h'
  have hs : saysT t (pre ++ [.say t s a]) = saysT t pre + 1 := by rw [saysT_app, saysT_say]; rfl
  have hj : jL (pre ++ [.say t s a]) = jL pre ++ [evAt 0 t (cntEv (jL pre) t)] := by rw [jL_snoc]; rfl
  have htr : tried (pre ++ [.say t s a]) t = 0 := by
    unfold tried
    rw [curL_snoc]
    show (if chgs (if t = t then [] else _) = [] then 0 else 1) = 0
    rw [if_pos rfl]
    rfl
  have h1 := I'.cnt t ht
  rw [hj, cntEv_snoc, if_pos rfl, hs, htr] at h1
  have hk : saysT t pre < times := by
    have := (List.getElem?_eq_some_iff.1 hc).1
    rw [hcalls t ht, List.length_replicate] at this
    exact this
  refine ⟨ht, ?_, hk, ?_⟩
  · have h2 := I'.said t ht
    rw [saidL_snoc, hs, List.range_succ, List.map_append, I.said t ht] at h2
    have h2 := List.append_cancel_left h2
    have h2 : (if t = t then [a] else []) = [phF f0 (saysT t pre + 1)] := h2
    rw [if_pos rfl] at h2
    injection h2 with h2 _
  · rw [hj]
    unfold evAt
    rw [show cntEv (jL pre) t = 2 * saysT t pre + 1 by omega, show (2 * saysT t pre + 1) % 2 = 1 by omega, show (2 * saysT t pre + 1) / 2 = saysT t pre by omega, show 1 + saysT t pre = saysT t pre + 1 by omega]
    rfl
end

/-! One call behind the other. -/
theorem pieces_snoc {κ : Type} (F : Fam κ) (c : κ) : ∀ (l : List κ) (p : Nat), ∃ q, piecesK F p (l ++ [c]) = piecesK F p l ++ F.code c q
  | [], p => ⟨p, List.append_nil _⟩
  | d :: l, p => by
    obtain ⟨q, h⟩ := pieces_snoc F c l (p + F.len d)
    refine ⟨q, ?_⟩
    show F.code d p ++ piecesK F (p + F.len d) (l ++ [c]) = (F.code d p ++ piecesK F (p + F.len d) l) ++ F.code c q
    rw [h, List.append_assoc]
theorem whole_joins {κ : Type} (F : Fam κ) (l : List κ) (c : κ) :
    ∃ A B : List Ins5, wholeK F l = A ++ [(0, 0, 0, 0, 0)] ∧ wholeK F (l ++ [c]) = A ++ (B ++ [(0, 0, 0, 0, 0)]) ∧ B.length = F.len c := by
  obtain ⟨q, h⟩ := pieces_snoc F c l 0
  exact ⟨piecesK F 0 l, F.code c q, rfl, by unfold wholeK; rw [h, List.append_assoc], F.hlen c q⟩
end Go.Proofs.YtdhlmgoodpepeaaGreatDoor
