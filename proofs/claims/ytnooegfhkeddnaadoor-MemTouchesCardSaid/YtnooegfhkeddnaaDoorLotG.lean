/-
  Waking those that sleep at a cell (Wake).
-/
import Derived.Test.YtnooegfhkeddnaaDoorLotF
namespace Go.Proofs.YtnooegfhkeddnaaDoor
set_option maxRecDepth 100000
open Go.RowKit Go.Shelf

/-- All blocks that there were, but those of S, are as they were. -/
structure Keeps (S : Nat → Prop) (w w' : World) : Prop where
  os : w'.os = w.os
  tape : w'.tape = w.tape
  output : w'.output = w.output
  size : w.heap.size ≤ w'.heap.size
  block : ∀ k, k < w.heap.size → ¬ S k → w'.heap[k]? = w.heap[k]?

theorem Keeps.of_grown {S : Nat → Prop} {w w' : World} {row : Option Nat} (h : w.grownBy w' row) (hS : ∀ k, row = some k → S k) : Keeps S w w' :=
  ⟨h.os, h.tape, h.output, h.size, fun k hk hn => h.block k hk (fun e => hn (hS k e.symm))⟩
theorem Keeps.trans {S : Nat → Prop} {a b c : World} (h : Keeps S a b) (k : Keeps S b c) : Keeps S a c :=
  ⟨k.os.trans h.os, k.tape.trans h.tape, k.output.trans h.output, Nat.le_trans h.size k.size, fun i hi hn => (k.block i (Nat.lt_of_lt_of_le hi h.size) hn).trans (h.block i hi hn)⟩
theorem Keeps.setCell {S : Nat → Prop} {w w' : World} (h : Keeps S w w') (a : Addr) (ha : S a.block) (u : Value) : Keeps S w (w'.setCell a u) :=
  h.trans ⟨rfl, rfl, rfl, by simp, fun k _ hn => heap_setCell_other w' a k u (fun e => hn (by rw [e]; exact ha))⟩
theorem Keeps.below {S : Nat → Prop} {w w' : World} {B : Nat} (h : Keeps S w w') (hB : B ≤ w.heap.size) (hS : ∀ k, S k → B ≤ k) : Below B w w' :=
  ⟨h.os, h.tape, h.output, h.size, fun k hk => h.block k (by omega) (fun hs => by have := hS k hs; omega)⟩
theorem Lot.keeps {S : Nat → Prop} {w w' : World} {B p : Nat} {nt : Int} {v : Value} {l : List (Int × Int)} (h : Lot w B p nt v l) (hk : Keeps S w w') (h1 : ¬ S p) (h2 : ∀ g, v.ownBlock = some g → ¬ S g) : Lot w' B p nt v l := by
  refine ⟨(hk.block p h.lt h1).trans h.at_, ?_, h.lo⟩
  refine ⟨h.own.1, ?_⟩
  rcases h.own.2 with hn | ⟨g, cap, cur, rfl, hb, hg, rest⟩
  · exact .inl hn
  · exact .inr ⟨g, cap, cur, rfl, hb, (hk.block g (lt_of_block hg) (h2 g rfl)).trans hg, rest⟩

set_option maxHeartbeats 400000 in
theorem indexI_yes {w : World} {B : Nat} (A : Option Addr) (n c : Nat) (xs : List Int) (h : Ints .i64 w B A n xs) (hn : n ≤ 9223372036854775807) (t : Int) (k : Nat) (hk : k < n) (hx : xs.getD k 0 = t) (hj : ∀ j, j < k → xs.getD j 0 ≠ t) :
    Calls Tryd.prog 57 #[.slice A n c, .int .i64 t] w fun e w' => e = .returned (.int .i64 k) ∧ w = w' := by
  obtain ⟨b, off, rfl, _, hc⟩ := h.row (by omega)
  have HJ := Lib.hid hj
  have HX := Lib.hid hx
  have HC := Lib.hid hc
  clear h hj hx hc
  go_enter Tryd.func57, Tryd.ntmps57
  go_wp2
  go_loop [5, 8] (fun _ i => ∃ j : Nat, j ≤ k ∧ i = .int .i64 j) (fun _ i => n - (intOf i).toNat)
  case atStart => exact ⟨0, Nat.zero_le _, rfl⟩
  case round =>
    obtain ⟨j, hjk, rfl⟩ := hrel
    have hjn : (j : Int) < (n : Int) := by omega
    have hcj := HC.out j (by omega)
    by_cases e : j = k
    · subst e
      rw [HX.out] at hcj
      have htt : (t == t) = true := by simp
      go_wp2
      go_ret
      exact ⟨rfl, rfl⟩
    · have hne : (t == xs.getD j 0) = false := beq_eq_false_iff_ne.2 (fun e2 => HJ.out j (by omega) e2.symm)
      generalize xs.getD j 0 = u at hcj hne
      go_wp2
      go_round
      case rel => exact ⟨j + 1, by omega, by go_num⟩
      case measure => simp [intOf]; omega

set_option maxHeartbeats 400000 in
theorem indexI_no {w : World} {B : Nat} (A : Option Addr) (n c : Nat) (xs : List Int) (h : Ints .i64 w B A n xs) (hn : n ≤ 9223372036854775807) (t : Int) (hj : ∀ j, j < n → xs.getD j 0 ≠ t) :
    Calls Tryd.prog 57 #[.slice A n c, .int .i64 t] w fun e w' => e = .returned (.int .i64 (-1)) ∧ w = w' := by
  have HJ := Lib.hid hj
  clear hj
  go_enter Tryd.func57, Tryd.ntmps57
  go_wp2
  go_loop [5, 8] (fun _ i => ∃ j : Nat, j ≤ n ∧ i = .int .i64 j) (fun _ i => n - (intOf i).toNat)
  case atStart => exact ⟨0, Nat.zero_le _, rfl⟩
  case round =>
    obtain ⟨j, hjk, rfl⟩ := hrel
    by_cases e : j < n
    · obtain ⟨b, off, rfl, _, hc⟩ := h.row (by omega)
      have hcj := hc j e
      have hjn : (j : Int) < (n : Int) := by omega
      have hne : (t == xs.getD j 0) = false := beq_eq_false_iff_ne.2 (fun e2 => HJ.out j (by omega) e2.symm)
      clear hc h
      generalize xs.getD j 0 = u at hcj hne
      go_wp2
      go_round
      case rel => exact ⟨j + 1, by omega, by go_num⟩
      case measure => simp [intOf]; omega
    · have hjn : ¬ (j : Int) < (n : Int) := by omega
      go_wp2
      go_ret
      exact ⟨rfl, rfl⟩

theorem contains_cases (xs : List Int) (n : Nat) (hl : xs.length = n) (t : Int) : (xs.contains t = true ∧ ∃ k, k < n ∧ xs.getD k 0 = t ∧ ∀ j, j < k → xs.getD j 0 ≠ t) ∨ (xs.contains t = false ∧ ∀ j, j < n → xs.getD j 0 ≠ t) := by
  subst hl
  induction xs with
  | nil => exact .inr ⟨rfl, fun j hj => absurd hj (Nat.not_lt_zero _)⟩
  | cons x xs ih =>
    by_cases hx : x = t
    · subst hx
      exact .inl ⟨by simp, 0, by simp, rfl, fun j hj => absurd hj (Nat.not_lt_zero _)⟩
    · rcases ih with ⟨h1, k, hk, hk1, hk2⟩ | ⟨h1, h2⟩
      · refine .inl ⟨by simp at h1 ⊢; exact .inr h1, k + 1, by simpa using hk, hk1, fun j hj => ?_⟩
        rcases j with _ | j
        · exact hx
        · exact hk2 j (by omega)
      · refine .inr ⟨by simp at h1 ⊢; exact ⟨fun e => hx e.symm, h1⟩, fun j hj => ?_⟩
        rcases j with _ | j
        · exact hx
        · exact h2 j (by simpa using hj)

set_option maxHeartbeats 400000 in
theorem containsI_any {w : World} {B : Nat} (A : Option Addr) (n c : Nat) (xs : List Int) (h : Ints .i64 w B A n xs) (hn : n ≤ 9223372036854775807) (t : Int) :
    Calls Tryd.prog 44 #[.slice A n c, .int .i64 t] w fun e w' => e = .returned (.bool (xs.contains t)) ∧ w = w' := by
  rcases contains_cases xs n h.len t with ⟨h1, k, hk, hk1, hk2⟩ | ⟨h1, h2⟩
  · rw [h1]
    have HI := Lib.hid (indexI_yes A n c xs h hn t k hk hk1 hk2)
    have hk0 : (0 : Int) ≤ (k : Int) := by omega
    clear h h1 hk1 hk2
    go_enter Tryd.func44, Tryd.ntmps44
    go_wp2_with fail
    refine HI.out.mono ?_
    rintro e w' ⟨rfl, rfl⟩
    go_wp2
    go_ret
    exact ⟨rfl, rfl⟩
  · rw [h1]
    have HI := Lib.hid (indexI_no A n c xs h hn t h2)
    clear h h1 h2
    go_enter Tryd.func44, Tryd.ntmps44
    go_wp2_with fail
    refine HI.out.mono ?_
    rintro e w' ⟨rfl, rfl⟩
    go_wp2
    go_ret
    exact ⟨rfl, rfl⟩

set_option maxHeartbeats 400000 in
theorem wakec_any (b : Nat) (A : Option Addr) (n c B : Nat) (xs : List Int) (s : Int × Int) (W : World) (hc : W.cell? ⟨b, 0, none⟩ = some (.slice A n c)) (h : Ints .i64 W B A n xs) (hB : B ≤ W.heap.size) (hn : n ≤ 9223372036854775807) :
    Calls Tryd.prog 43 #[.agg #[.int .i64 s.1, .int .i64 s.2], .pointer (some ⟨b, 0, none⟩)] W fun e w' => e = .returned (.bool (xs.contains s.1)) ∧ W.grownBy w' none := by
  have hb : b < W.heap.size := World.block_lt_of_cell? W _ hc
  have hne : b ≠ W.heap.size := by omega
  have h1 : Ints .i64 (W.alloc (.cells #[.int .i64 s.1, .int .i64 s.2] 87)) B A n xs := h.keep (Nat.le_refl _) fun p hp => World.cell?_alloc_lt W _ p (by omega)
  have HI := Lib.hid (containsI_any A n c xs h1 hn s.1)
  rcases s with ⟨s1, s2⟩
  generalize xs.contains s1 = r at HI ⊢
  clear h h1
  go_enter Tryd.func43, Tryd.ntmps43
  go_wp2_with fail
  refine HI.out.mono ?_
  rintro e w' ⟨rfl, rfl⟩
  go_wp2
  go_ret
  exact ⟨rfl, World.grownBy_alloc _ _ _⟩

set_option maxHeartbeats 400000 in
theorem deleteFuncS_nil {w : World} (p : Int × Int → Bool) (f : Nat) (lb : Array Value) (eg : ∀ args w, (callFunc f args).run Tryd.prog w = .ok (.enter f args) w) (hp : Pred f lb p w none) :
    Calls Tryd.prog 42 #[.slice none 0 0, .func (.func f) #[] lb] w fun e w' => e = .returned (.slice none 0 0) ∧ w.grownBy w' none := by
  have hrow : Row2 w (.slice none 0 0) [] := ⟨⟨none, 0, rfl, fun h => absurd h (Nat.lt_irrefl 0)⟩, by decide⟩
  have hf := indexFuncS_any hrow p f lb eg none hp
  have HF := Lib.hid hf
  clear hf hrow hp
  go_enter Tryd.func42, Tryd.ntmps42
  go_wp2_with fail
  refine HF.out.mono ?_
  rintro e w' ⟨he, hg⟩
  obtain rfl : e = .returned (.int .i64 (-1)) := he
  have HG := Lib.hid hg
  clear hg HF
  go_wp2
  go_ret
  exact ⟨rfl, HG.out⟩
end Go.Proofs.YtnooegfhkeddnaaDoor
