/-
  Lots: stores of many cells; slices.Delete of one sleeper; waking one for nothing (Poke). slices.Delete of one sleeper; waking one for nothing (Poke). slices.DeleteFunc of sleepers. Waking those that sleep at a cell (Wake).
-/
import Derived.Test.YtoljmleomkkchaaDoorLotC
import Derived.Deep.RegionLaw
namespace Go.Proofs.YtoljmleomkkchaaDoor
set_option maxRecDepth 100000
open Go.RowKit Go.Shelf

/-- An array with the values vs from place o on. -/
def laid : Array Value → Nat → List Value → Array Value
  | cur, _, [] => cur
  | cur, o, v :: r => laid (cur.setIfInBounds o v) (o + 1) r

theorem laid_size (cur : Array Value) (o : Nat) (vs : List Value) : (laid cur o vs).size = cur.size := by
  induction vs generalizing cur o with
  | nil => rfl
  | cons v r ih => rw [laid, ih, Array.size_setIfInBounds]

theorem laid_at (cur : Array Value) (o : Nat) (vs : List Value) (i : Nat) (hfit : o + vs.length ≤ cur.size) : (laid cur o vs)[i]? = if o ≤ i ∧ i < o + vs.length then vs[i - o]? else cur[i]? := by
  induction vs generalizing cur o with
  | nil =>
    rw [laid, if_neg (by simp)]
  | cons v r ih =>
    simp only [List.length_cons] at hfit
    rw [laid, ih _ _ (by rw [Array.size_setIfInBounds]; omega), Array.getElem?_setIfInBounds]
    simp only [List.length_cons]
    by_cases h1 : o + 1 ≤ i ∧ i < o + 1 + r.length
    · rw [if_pos h1, if_pos (by omega), show i - o = (i - (o + 1)) + 1 from by omega, List.getElem?_cons_succ]
    · rw [if_neg h1]
      by_cases h2 : o = i
      · subst h2
        rw [if_pos rfl, if_pos (by omega), if_pos (by omega), Nat.sub_self]
        rfl
      · rw [if_neg h2, if_neg (by omega)]

theorem heap_setCells (g : Nat) (t : TypeId) (vs : List Value) : ∀ (o : Nat) (w : World) (cur : Array Value), w.heap[g]? = some (.cells cur t (0, 0)) →
    (w.setCells g o vs).heap[g]? = some (.cells (laid cur o vs) t (0, 0)) ∧ w.grownBy (w.setCells g o vs) (some g) := by
  induction vs with
  | nil => intro o w cur h; exact ⟨h, World.grownBy.refl w _⟩
  | cons v r ih =>
    intro o w cur h
    obtain ⟨h1, h2⟩ := ih (o + 1) (w.setCell ⟨g, o, none⟩ v) (cur.setIfInBounds o v) (heap_setCell_same w g o cur t v h)
    have h0 : w.grownBy (w.setCell ⟨g, o, none⟩ v) (some g) := ⟨rfl, rfl, rfl, by simp, fun k _ hk => heap_setCell_other w ⟨g, o, none⟩ k v (fun e => hk (by simp [e]))⟩
    exact ⟨h1, h0.andThen h2 (fun j hj => .inr hj)⟩

theorem toList_take_ext {a : Array Value} {xs : List Value} {n : Nat} (hn : xs.length = n) (h : ∀ i, i < n → a[i]? = xs[i]?) : a.toList.take n = xs := by
  apply List.ext_getElem?
  intro i
  rw [List.getElem?_take]
  by_cases hi : i < n
  · rw [if_pos hi, Array.getElem?_toList]
    exact h i hi
  · rw [if_neg hi, List.getElem?_eq_none (by omega)]

end Go.Proofs.YtoljmleomkkchaaDoor

namespace Go.Proofs.YtoljmleomkkchaaDoor
set_option maxRecDepth 100000
open Go.RowKit Go.Shelf

theorem eraseP_at (p : Int × Int → Bool) (l : List (Int × Int)) (k : Nat) (hk : k < l.length) (hp : p (l.getD k default) = true) (h : ∀ j, j < k → p (l.getD j default) = false) : l.eraseP p = l.eraseIdx k := by
  induction l generalizing k with
  | nil => exact absurd hk (Nat.not_lt_zero _)
  | cons s l ih =>
    rcases k with _ | k
    · have : p s = true := hp
      rw [List.eraseP_cons, this]
      rfl
    · have h0 : p s = false := h 0 (by omega)
      rw [List.eraseP_cons, h0, ih k (by simpa using hk) hp (fun j hj => h (j + 1) (by omega))]
      rfl

end Go.Proofs.YtoljmleomkkchaaDoor

namespace Go.Proofs.YtoljmleomkkchaaDoor
set_option maxRecDepth 100000
open Go.RowKit Go.Shelf

/-- Those that are kept. -/
def keepers (p : Int × Int → Bool) (l : List (Int × Int)) : List (Int × Int) := l.filter fun s => !p s

theorem keepers_step (p : Int × Int → Bool) (l : List (Int × Int)) (j : Nat) (hj : j < l.length) : keepers p (l.take (j + 1)) = keepers p (l.take j) ++ (if p (l.getD j default) then [] else [l.getD j default]) := by
  unfold keepers
  rw [List.take_succ_eq_append_getElem hj, List.filter_append, List.getD_eq_getElem?_getD, List.getElem?_eq_getElem hj]
  congr 1
  simp only [List.filter_cons, List.filter_nil, Option.getD_some]
  cases p l[j] <;> rfl

theorem keepers_all (p : Int × Int → Bool) (l : List (Int × Int)) (h : ∀ s ∈ l, p s = false) : keepers p l = l := by
  unfold keepers
  exact List.filter_eq_self.2 fun s hs => by rw [h s hs]; rfl

end Go.Proofs.YtoljmleomkkchaaDoor

namespace Go.Proofs.YtoljmleomkkchaaDoor
set_option maxRecDepth 100000
open Go.RowKit Go.Shelf

/-- All blocks that there were, but those of S, are as they were. -/
structure Keeps (S : Nat → Prop) (w w' : World) : Prop where
  os : w'.os = w.os
  tape : w'.tape = w.tape
  output : w'.output = w.output
  size : w.heap.size ≤ w'.heap.size
  block : ∀ k, k < w.heap.size → ¬ S k → w'.heap[k]? = w.heap[k]?

theorem Keeps.of_grown {S : Nat → Prop} {w w' : World} {row : Option Nat} (h : w.grownBy w' row) (hS : ∀ k, row = some k → S k) : Keeps S w w' :=
  ⟨h.os, h.tape, h.output, h.size, fun k hk hn => h.block k hk (fun e => hn (hS k e.symm))⟩
theorem Keeps.trans {S : Nat → Prop} {a b c : World} (h : Keeps S a b) (k : Keeps S b c) : Keeps S a c :=
  ⟨k.os.trans h.os, k.tape.trans h.tape, k.output.trans h.output, Nat.le_trans h.size k.size, fun i hi hn => (k.block i (Nat.lt_of_lt_of_le hi h.size) hn).trans (h.block i hi hn)⟩
theorem Keeps.setCell {S : Nat → Prop} {w w' : World} (h : Keeps S w w') (a : Addr) (ha : S a.block) (u : Value) : Keeps S w (w'.setCell a u) :=
  h.trans ⟨rfl, rfl, rfl, by simp, fun k _ hn => heap_setCell_other w' a k u (fun e => hn (by rw [e]; exact ha))⟩
theorem Keeps.below {S : Nat → Prop} {w w' : World} {B : Nat} (h : Keeps S w w') (hB : B ≤ w.heap.size) (hS : ∀ k, S k → B ≤ k) : Below B w w' :=
  ⟨h.os, h.tape, h.output, h.size, fun k hk => h.block k (by omega) (fun hs => by have := hS k hs; omega)⟩
theorem contains_cases (xs : List Int) (n : Nat) (hl : xs.length = n) (t : Int) : (xs.contains t = true ∧ ∃ k, k < n ∧ xs.getD k 0 = t ∧ ∀ j, j < k → xs.getD j 0 ≠ t) ∨ (xs.contains t = false ∧ ∀ j, j < n → xs.getD j 0 ≠ t) := by
  subst hl
  induction xs with
  | nil => exact .inr ⟨rfl, fun j hj => absurd hj (Nat.not_lt_zero _)⟩
  | cons x xs ih =>
    by_cases hx : x = t
    · subst hx
      exact .inl ⟨by simp, 0, by simp, rfl, fun j hj => absurd hj (Nat.not_lt_zero _)⟩
    · rcases ih with ⟨h1, k, hk, hk1, hk2⟩ | ⟨h1, h2⟩
      · refine .inl ⟨by simp at h1 ⊢; exact .inr h1, k + 1, by simpa using hk, hk1, fun j hj => ?_⟩
        rcases j with _ | j
        · exact hx
        · exact hk2 j (by omega)
      · refine .inr ⟨by simp at h1 ⊢; exact ⟨fun e => hx e.symm, h1⟩, fun j hj => ?_⟩
        rcases j with _ | j
        · exact hx
        · exact h2 j (by simpa using hj)

end Go.Proofs.YtoljmleomkkchaaDoor
