/-
  How many steps more there can be, where threads ask a phaser How many steps more there can be, where threads ask a phaser: awaits, who comes, who closes; any call Threads that ask a phaser, as a kind: what is kept, and how many steps more there can be Threads that ask a phaser, as a kind
-/
import Derived.Test.YtdhlmgoodpepeaaGreatDoorQR2
import Derived.Test.YtdhlmgoodpepeaaGreatDoorQK
namespace Go.Proofs.YtdhlmgoodpepeaaGreatDoor
set_option maxRecDepth 100000
set_option linter.unusedVariables false
set_option linter.unusedSimpArgs false

/-- What is owed, where what is seen may be stale: a lap. -/
def owed (r : Nat → Int) (cell : Int) (k : Nat) : Nat := if r 1 = cell then 0 else k
def swapped (r : Nat → Int) (a b : Nat) : Nat := if r 3 = 1 then a else b
/-- Arrive, Leave, the first part of Pass. -/
def ownC (n len i : Nat) (r : Nat → Int) (cell : Int) : Nat :=
  (len - i) + (if i = 0 then 28 * n else if i ≤ 18 then 28 * n + owed r cell 20 else if i = 19 then swapped r (8 * n) (28 * n + 20) else if i ≤ 21 ∨ i = 23 then 8 * n else 0)
/-- An await, that begins at u. -/
def ownU (len u i : Nat) (r : Nat → Int) (cell : Int) (sl : Bool) : Nat :=
  (len - (u + i)) + (if i = 0 then 0 else if i ≤ 6 then owed r cell 8 else if i = 7 then (if sl then 0 else 8) else 0)
def ownR (n i : Nat) (r : Nat → Int) (cell : Int) : Nat :=
  (15 - i) + (if i = 0 then 28 * n else if i ≤ 7 then 28 * n + owed r cell 20 else if i = 8 then swapped r 0 (28 * n + 20) else 0)
def ownS (n i : Nat) (r : Nat → Int) (cell : Int) : Nat :=
  (11 - i) + (if i = 0 then 28 * n else if i ≤ 4 then 28 * n + owed r cell 20 else if i = 5 then swapped r (8 * n) (28 * n + 20) else if i = 6 then 8 * n else 0)
/-- What a thread has yet to do in its call, at most. -/
def ownG (n : Nat) (c : GC) (j : Nat) (r : Nat → Int) (cell : Int) (sl : Bool) : Nat :=
  match c.w with
  | 6 => ownR n j r cell
  | 7 => ownC n 31 j r cell
  | 8 => ownC n 31 j r cell
  | 9 => if j < 29 then ownC n 39 j r cell else ownU 39 29 (j - 29) r cell sl
  | 10 => if j = 0 then 11 else ownU 11 1 (j - 1) r cell sl
  | _ => ownS n j r cell
/-- A step does some of it. -/
def OwnStep (n : Nat) (own : Nat → (Nat → Int) → Int → Bool → Nat) (j : Nat) (r : Nat → Int) (cell : Int) : DoK → Prop
  | .set i v => own (j + 1) (upd r i v) cell false + 1 ≤ own j r cell false
  | .mem a now (some q) => own (j + 1) (upd r q.1 q.2) now false + 1 + (if now = cell then 0 else 20 * n) ≤ own j r cell false
  | .mem _ _ none => False
  | .goto k => own k r cell false + 1 ≤ own j r cell false
  | .next => own (j + 1) r cell false + 1 ≤ own j r cell false
  | .sleep _ => own (j + 1) r cell true + 1 ≤ own j r cell false
  | .wake _ _ => own (j + 1) r cell false + 1 + 8 * n ≤ own j r cell false
  | .say _ _ => True

section
variable {n len : Nat} {r r' : Nat → Int} {cell : Int} {i k : Nat}
theorem owed_same (h : r' 1 = r 1) (cell : Int) (k : Nat) : owed r' cell k = owed r cell k := by unfold owed; rw [h]
theorem ownC_low (h1 : 1 ≤ i) (h2 : i ≤ 18) : ownC n len i r cell = (len - i) + (28 * n + owed r cell 20) := by
  unfold ownC
  rw [if_neg (by omega), if_pos h2]
theorem ownC_fwd (h1 : 1 ≤ i) (hk : i < k) (h2 : k ≤ 18) (hl : 29 ≤ len) (hr : r' 1 = r 1) : ownC n len k r' cell + 1 ≤ ownC n len i r cell := by
  rw [ownC_low (by omega) h2, ownC_low h1 (by omega), owed_same hr]
  omega
theorem ownC_out (hk : i < k) (h2 : k = 22 ∨ 24 ≤ k) (hl : k < len) : ownC n len k r' cell + 1 ≤ ownC n len i r cell := by
  unfold ownC
  rw [if_neg (by omega), if_neg (by omega), if_neg (by omega), if_neg (by omega)]
  omega
theorem ownC_late (h1 : i = 20 ∨ i = 21) (hk : i < k) (h2 : k = 21 ∨ k = 23) (hl : 29 ≤ len) : ownC n len k r' cell + 1 ≤ ownC n len i r cell := by
  unfold ownC
  rw [if_neg (by omega), if_neg (by omega), if_neg (by omega), if_pos (by omega), if_neg (by omega), if_neg (by omega), if_neg (by omega), if_pos (by omega)]
  omega
end
section
variable {n len q : Nat} {r : Nat → Int} {cell : Nat → Int} {m : Int} {own : Nat → (Nat → Int) → Int → Bool → Nat} {i : Nat}
theorem ownC_29 (hl : 29 ≤ len) (h : i = 22 ∨ i = 24 ∨ i = 26 ∨ i = 28) (r : Nat → Int) (c : Int) : ownC n len i r c = len - i := by
  unfold ownC
  rw [if_neg (by omega), if_neg (by omega), if_neg (by omega), if_neg (by omega)]
  rfl
theorem come_own (hO : ∀ i r cell sl, i < 29 → own i r cell sl = ownC n len i r cell) (h29 : ∀ r cell, own 29 r cell false = len - 29) (hq : ∀ r cell, own q r cell false = len - q) (hl : 29 ≤ len) (hql : 29 < q) (hqn : q < len) (hi : i < 29) :
    OwnStep n own i r (cell 0) (relD ((come0 m (q : Int)).getD i default) cell r) := by
  match i, hi with
  | 0, _ =>
    show own 1 (upd r 1 (cell 0)) (cell 0) false + 1 + (if cell 0 = cell 0 then 0 else 20 * n) ≤ own 0 r (cell 0) false
    rw [hO _ _ _ _ (by decide), hO _ _ _ _ (by decide), if_pos rfl, ownC_low (by decide) (by decide)]
    have : owed (upd r 1 (cell 0)) (cell 0) 20 = 0 := by unfold owed; rw [upd_same, if_pos rfl]
    rw [this]
    unfold ownC
    rw [if_pos rfl]
    omega
  | 1, _ =>
    show own 2 (upd r 2 _) (cell 0) false + 1 ≤ own 1 r (cell 0) false
    rw [hO _ _ _ _ (by decide), hO _ _ _ _ (by decide)]
    exact ownC_fwd (by decide) (by decide) (by decide) hl (upd_ne _ _ (show (1 : Nat) ≠ 2 by decide))
  | 2, _ =>
    show OwnStep n own 2 r (cell 0) (if r 2 = 1 % m64 then .goto 25 else .next)
    split
    · show own 25 r (cell 0) false + 1 ≤ own 2 r (cell 0) false
      rw [hO _ _ _ _ (by decide), hO _ _ _ _ (by decide)]
      exact ownC_out (by decide) (by decide) (by omega)
    · show own 3 r (cell 0) false + 1 ≤ own 2 r (cell 0) false
      rw [hO _ _ _ _ (by decide), hO _ _ _ _ (by decide)]
      exact ownC_fwd (by decide) (by decide) (by decide) hl rfl
  | 3, _ =>
    show own 4 (upd r 2 _) (cell 0) false + 1 ≤ own 3 r (cell 0) false
    rw [hO _ _ _ _ (by decide), hO _ _ _ _ (by decide)]
    exact ownC_fwd (by decide) (by decide) (by decide) hl (upd_ne _ _ (show (1 : Nat) ≠ 2 by decide))
  | 4, _ =>
    show OwnStep n own 4 r (cell 0) (if r 2 = 0 % m64 then .goto 27 else .next)
    split
    · show own 27 r (cell 0) false + 1 ≤ own 4 r (cell 0) false
      rw [hO _ _ _ _ (by decide), hO _ _ _ _ (by decide)]
      exact ownC_out (by decide) (by decide) (by omega)
    · show own 5 r (cell 0) false + 1 ≤ own 4 r (cell 0) false
      rw [hO _ _ _ _ (by decide), hO _ _ _ _ (by decide)]
      exact ownC_fwd (by decide) (by decide) (by decide) hl rfl
  | 5, _ =>
    show own 6 (upd r 4 _) (cell 0) false + 1 ≤ own 5 r (cell 0) false
    rw [hO _ _ _ _ (by decide), hO _ _ _ _ (by decide)]
    exact ownC_fwd (by decide) (by decide) (by decide) hl (upd_ne _ _ (show (1 : Nat) ≠ 4 by decide))
  | 6, _ =>
    show OwnStep n own 6 r (cell 0) (if r 2 = 1 % m64 then .goto 8 else .next)
    split
    · show own 8 r (cell 0) false + 1 ≤ own 6 r (cell 0) false
      rw [hO _ _ _ _ (by decide), hO _ _ _ _ (by decide)]
      exact ownC_fwd (by decide) (by decide) (by decide) hl rfl
    · show own 7 r (cell 0) false + 1 ≤ own 6 r (cell 0) false
      rw [hO _ _ _ _ (by decide), hO _ _ _ _ (by decide)]
      exact ownC_fwd (by decide) (by decide) (by decide) hl rfl
  | 7, _ =>
    show own 18 r (cell 0) false + 1 ≤ own 7 r (cell 0) false
    rw [hO _ _ _ _ (by decide), hO _ _ _ _ (by decide)]
    exact ownC_fwd (by decide) (by decide) (by decide) hl rfl
  | 8, _ =>
    show own 9 (upd r 3 _) (cell 0) false + 1 ≤ own 8 r (cell 0) false
    rw [hO _ _ _ _ (by decide), hO _ _ _ _ (by decide)]
    exact ownC_fwd (by decide) (by decide) (by decide) hl (upd_ne _ _ (show (1 : Nat) ≠ 3 by decide))
  | 9, _ =>
    show OwnStep n own 9 r (cell 0) (if r 3 = 0 % m64 then .goto 17 else .next)
    split
    · show own 17 r (cell 0) false + 1 ≤ own 9 r (cell 0) false
      rw [hO _ _ _ _ (by decide), hO _ _ _ _ (by decide)]
      exact ownC_fwd (by decide) (by decide) (by decide) hl rfl
    · show own 10 r (cell 0) false + 1 ≤ own 9 r (cell 0) false
      rw [hO _ _ _ _ (by decide), hO _ _ _ _ (by decide)]
      exact ownC_fwd (by decide) (by decide) (by decide) hl rfl
  | 10, _ =>
    show own 11 (upd r 4 _) (cell 0) false + 1 ≤ own 10 r (cell 0) false
    rw [hO _ _ _ _ (by decide), hO _ _ _ _ (by decide)]
    exact ownC_fwd (by decide) (by decide) (by decide) hl (upd_ne _ _ (show (1 : Nat) ≠ 4 by decide))
  | 11, _ =>
    show own 12 (upd r 3 _) (cell 0) false + 1 ≤ own 11 r (cell 0) false
    rw [hO _ _ _ _ (by decide), hO _ _ _ _ (by decide)]
    exact ownC_fwd (by decide) (by decide) (by decide) hl (upd_ne _ _ (show (1 : Nat) ≠ 3 by decide))
  | 12, _ =>
    show OwnStep n own 12 r (cell 0) (if r 3 = 2147483647 % m64 then .goto 15 else .next)
    split
    · show own 15 r (cell 0) false + 1 ≤ own 12 r (cell 0) false
      rw [hO _ _ _ _ (by decide), hO _ _ _ _ (by decide)]
      exact ownC_fwd (by decide) (by decide) (by decide) hl rfl
    · show own 13 r (cell 0) false + 1 ≤ own 12 r (cell 0) false
      rw [hO _ _ _ _ (by decide), hO _ _ _ _ (by decide)]
      exact ownC_fwd (by decide) (by decide) (by decide) hl rfl
  | 13, _ =>
    show own 14 (upd r 4 _) (cell 0) false + 1 ≤ own 13 r (cell 0) false
    rw [hO _ _ _ _ (by decide), hO _ _ _ _ (by decide)]
    exact ownC_fwd (by decide) (by decide) (by decide) hl (upd_ne _ _ (show (1 : Nat) ≠ 4 by decide))
  | 14, _ =>
    show own 18 r (cell 0) false + 1 ≤ own 14 r (cell 0) false
    rw [hO _ _ _ _ (by decide), hO _ _ _ _ (by decide)]
    exact ownC_fwd (by decide) (by decide) (by decide) hl rfl
  | 15, _ =>
    show own 16 (upd r 4 _) (cell 0) false + 1 ≤ own 15 r (cell 0) false
    rw [hO _ _ _ _ (by decide), hO _ _ _ _ (by decide)]
    exact ownC_fwd (by decide) (by decide) (by decide) hl (upd_ne _ _ (show (1 : Nat) ≠ 4 by decide))
  | 16, _ =>
    show own 18 r (cell 0) false + 1 ≤ own 16 r (cell 0) false
    rw [hO _ _ _ _ (by decide), hO _ _ _ _ (by decide)]
    exact ownC_fwd (by decide) (by decide) (by decide) hl rfl
  | 17, _ =>
    show own 18 (upd r 4 _) (cell 0) false + 1 ≤ own 17 r (cell 0) false
    rw [hO _ _ _ _ (by decide), hO _ _ _ _ (by decide)]
    exact ownC_fwd (by decide) (by decide) (by decide) hl (upd_ne _ _ (show (1 : Nat) ≠ 4 by decide))
  | 18, _ =>
    show OwnStep n own 18 r (cell 0) (if cell 0 = r 1 then .mem 0 (r 4) (some (3, 1)) else .mem 0 (cell 0) (some (3, 0)))
    split
    · next e =>
      show own 19 (upd r 3 1) (r 4) false + 1 + (if r 4 = cell 0 then 0 else 20 * n) ≤ own 18 r (cell 0) false
      rw [hO _ _ _ _ (by decide), hO _ _ _ _ (by decide), ownC_low (i := 18) (by decide) (by decide)]
      have e1 : ownC n len 19 (upd r 3 1) (r 4) = (len - 19) + 8 * n := by
        unfold ownC swapped
        rw [if_neg (by decide), if_neg (by decide), if_pos rfl, upd_same, if_pos rfl]
      rw [e1]
      split <;> omega
    · next e =>
      show own 19 (upd r 3 0) (cell 0) false + 1 + (if cell 0 = cell 0 then 0 else 20 * n) ≤ own 18 r (cell 0) false
      rw [hO _ _ _ _ (by decide), hO _ _ _ _ (by decide), ownC_low (i := 18) (by decide) (by decide), if_pos rfl]
      have e1 : ownC n len 19 (upd r 3 0) (cell 0) = (len - 19) + (28 * n + 20) := by
        unfold ownC swapped
        rw [if_neg (by decide), if_neg (by decide), if_pos rfl, upd_same, if_neg (by decide)]
      have e2 : owed r (cell 0) 20 = 20 := by unfold owed; rw [if_neg (fun x => e x.symm)]
      rw [e1, e2]
      omega
  | 19, _ =>
    show OwnStep n own 19 r (cell 0) (if r 3 = 0 % m64 then .goto 0 else .next)
    split
    · next e =>
      show own 0 r (cell 0) false + 1 ≤ own 19 r (cell 0) false
      rw [hO _ _ _ _ (by decide), hO _ _ _ _ (by decide)]
      have e1 : ownC n len 19 r (cell 0) = (len - 19) + (28 * n + 20) := by
        unfold ownC swapped
        rw [if_neg (by decide), if_neg (by decide), if_pos rfl, if_neg (by rw [e]; decide)]
      have e2 : ownC n len 0 r (cell 0) = (len - 0) + 28 * n := by unfold ownC; rw [if_pos rfl]
      rw [e1, e2]
      omega
    · next e =>
      show own 20 r (cell 0) false + 1 ≤ own 19 r (cell 0) false
      rw [hO _ _ _ _ (by decide), hO _ _ _ _ (by decide)]
      unfold ownC swapped
      rw [if_neg (by decide), if_neg (by decide), if_neg (by decide), if_pos (by decide), if_neg (by decide), if_neg (by decide), if_pos rfl]
      split <;> omega
  | 20, _ =>
    show own 21 (upd r 5 _) (cell 0) false + 1 ≤ own 20 r (cell 0) false
    rw [hO _ _ _ _ (by decide), hO _ _ _ _ (by decide)]
    exact ownC_late (by decide) (by decide) (by decide) hl
  | 21, _ =>
    show OwnStep n own 21 r (cell 0) (if r 2 = 1 % m64 then .goto 23 else .next)
    split
    · show own 23 r (cell 0) false + 1 ≤ own 21 r (cell 0) false
      rw [hO _ _ _ _ (by decide), hO _ _ _ _ (by decide)]
      exact ownC_late (by decide) (by decide) (by decide) hl
    · show own 22 r (cell 0) false + 1 ≤ own 21 r (cell 0) false
      rw [hO _ _ _ _ (by decide), hO _ _ _ _ (by decide)]
      exact ownC_out (by decide) (by decide) (by omega)
  | 22, _ =>
    show own 29 r (cell 0) false + 1 ≤ own 22 r (cell 0) false
    rw [h29, hO _ _ _ _ (by decide), ownC_29 hl (by decide)]
    omega
  | 23, _ =>
    show own 24 r (cell 0) false + 1 + 8 * n ≤ own 23 r (cell 0) false
    rw [hO _ _ _ _ (by decide), hO _ _ _ _ (by decide), ownC_29 hl (by decide)]
    unfold ownC
    rw [if_neg (by decide), if_neg (by decide), if_neg (by decide), if_pos (by decide)]
    omega
  | 24, _ =>
    show own 29 r (cell 0) false + 1 ≤ own 24 r (cell 0) false
    rw [h29, hO _ _ _ _ (by decide), ownC_29 hl (by decide)]
    omega
  | 25, _ =>
    show own 26 (upd r 2 _) (cell 0) false + 1 ≤ own 25 r (cell 0) false
    rw [hO _ _ _ _ (by decide), hO _ _ _ _ (by decide)]
    exact ownC_out (by decide) (by decide) (by omega)
  | 26, _ =>
    show own (q : Int).toNat r (cell 0) false + 1 ≤ own 26 r (cell 0) false
    rw [Int.toNat_natCast, hq, hO _ _ _ _ (by decide), ownC_29 hl (by decide)]
    omega
  | 27, _ =>
    show own 28 (upd r 2 _) (cell 0) false + 1 ≤ own 27 r (cell 0) false
    rw [hO _ _ _ _ (by decide), hO _ _ _ _ (by decide)]
    exact ownC_out (by decide) (by decide) (by omega)
  | 28, _ =>
    show own (q : Int).toNat r (cell 0) false + 1 ≤ own 28 r (cell 0) false
    rw [Int.toNat_natCast, hq, hO _ _ _ _ (by decide), ownC_29 hl (by decide)]
    omega
  | i + 29, hi => exact absurd hi (by omega)
end
end Go.Proofs.YtdhlmgoodpepeaaGreatDoor

namespace Go.Proofs.YtdhlmgoodpepeaaGreatDoor
set_option maxRecDepth 100000
set_option linter.unusedVariables false
set_option linter.unusedSimpArgs false

section
variable {n len u : Nat} {r r' : Nat → Int} {cell : Nat → Int} {own : Nat → (Nat → Int) → Int → Bool → Nat} {i k : Nat} {c : Int} {sl sl' : Bool}
theorem owed_load (r : Nat → Int) (c : Int) (k : Nat) : owed (upd r 1 c) c k = 0 := by unfold owed; rw [upd_same, if_pos rfl]
theorem ownU_mid (h1 : 1 ≤ i) (h2 : i ≤ 6) : ownU len u i r c sl = (len - (u + i)) + owed r c 8 := by
  unfold ownU
  rw [if_neg (by omega), if_pos h2]
theorem ownU_fwd (h1 : 1 ≤ i) (hk : i < k) (h2 : k ≤ 6) (hl : u + 9 < len) (hr : r' 1 = r 1) : ownU len u k r' c sl' + 1 ≤ ownU len u i r c sl := by
  rw [ownU_mid (by omega) h2, ownU_mid h1 (by omega), owed_same hr]
  omega
theorem ownU_out (hk : i < k) (h2 : 8 ≤ k) (hk9 : k ≤ 9) (hl : u + 9 < len) : ownU len u k r' c sl' + 1 ≤ ownU len u i r c sl := by
  unfold ownU
  rw [if_neg (by omega), if_neg (by omega), if_neg (by omega)]
  omega
theorem until_own (hO : ∀ i r c sl, i ≤ 9 → own (u + i) r c sl = ownU len u i r c sl) (hl : u + 9 < len) (hi : i < 9) : OwnStep n own (u + i) r (cell 0) (relD ((until0 (u : Int)).getD i default) cell r) := by
  match i, hi with
  | 0, _ =>
    show own (u + 1) (upd r 1 (cell 0)) (cell 0) false + 1 + (if cell 0 = cell 0 then 0 else 20 * n) ≤ own (u + 0) r (cell 0) false
    rw [hO _ _ _ _ (by decide), hO _ _ _ _ (by decide), if_pos rfl, ownU_mid (i := 1) (by decide) (by decide), owed_load]
    unfold ownU
    rw [if_pos rfl]
    omega
  | 1, _ =>
    show own (u + 2) (upd r 2 _) (cell 0) false + 1 ≤ own (u + 1) r (cell 0) false
    rw [hO _ _ _ _ (by decide), hO _ _ _ _ (by decide)]
    exact ownU_fwd (by decide) (by decide) (by decide) hl (upd_ne _ _ (show (1 : Nat) ≠ 2 by decide))
  | 2, _ =>
    show OwnStep n own (u + 2) r (cell 0) (if r 2 = 1 % m64 then .goto ((u : Int) + 8).toNat else .next)
    split
    · rw [show ((u : Int) + 8).toNat = u + 8 from nat_add u 8]
      show own (u + 8) r (cell 0) false + 1 ≤ own (u + 2) r (cell 0) false
      rw [hO _ _ _ _ (by decide), hO _ _ _ _ (by decide)]
      exact ownU_out (by decide) (by decide) (by decide) hl
    · show own (u + 3) r (cell 0) false + 1 ≤ own (u + 2) r (cell 0) false
      rw [hO _ _ _ _ (by decide), hO _ _ _ _ (by decide)]
      exact ownU_fwd (by decide) (by decide) (by decide) hl rfl
  | 3, _ =>
    show own (u + 4) (upd r 2 _) (cell 0) false + 1 ≤ own (u + 3) r (cell 0) false
    rw [hO _ _ _ _ (by decide), hO _ _ _ _ (by decide)]
    exact ownU_fwd (by decide) (by decide) (by decide) hl (upd_ne _ _ (show (1 : Nat) ≠ 2 by decide))
  | 4, _ =>
    show OwnStep n own (u + 4) r (cell 0) (if r 2 = r 5 then .goto ((u : Int) + 6).toNat else .next)
    split
    · rw [show ((u : Int) + 6).toNat = u + 6 from nat_add u 6]
      show own (u + 6) r (cell 0) false + 1 ≤ own (u + 4) r (cell 0) false
      rw [hO _ _ _ _ (by decide), hO _ _ _ _ (by decide)]
      exact ownU_fwd (by decide) (by decide) (by decide) hl rfl
    · show own (u + 5) r (cell 0) false + 1 ≤ own (u + 4) r (cell 0) false
      rw [hO _ _ _ _ (by decide), hO _ _ _ _ (by decide)]
      exact ownU_fwd (by decide) (by decide) (by decide) hl rfl
  | 5, _ =>
    show OwnStep n own (u + 5) r (cell 0) (.goto ((u : Int) + 9).toNat)
    rw [show ((u : Int) + 9).toNat = u + 9 from nat_add u 9]
    show own (u + 9) r (cell 0) false + 1 ≤ own (u + 5) r (cell 0) false
    rw [hO _ _ _ _ (by decide), hO _ _ _ _ (by decide)]
    exact ownU_out (by decide) (by decide) (by decide) hl
  | 6, _ =>
    show OwnStep n own (u + 6) r (cell 0) (if cell 0 = r 1 then .sleep 0 else .next)
    have e7 : ∀ sl, ownU len u 7 r (cell 0) sl = (len - (u + 7)) + (if sl then 0 else 8) := fun sl => by
      unfold ownU
      rw [if_neg (by decide), if_neg (by decide), if_pos rfl]
    split
    · show own (u + 7) r (cell 0) true + 1 ≤ own (u + 6) r (cell 0) false
      rw [hO _ _ _ _ (by decide), hO _ _ _ _ (by decide), e7, ownU_mid (i := 6) (by decide) (by decide), if_pos rfl]
      omega
    · next e =>
      show own (u + 7) r (cell 0) false + 1 ≤ own (u + 6) r (cell 0) false
      have e2 : owed r (cell 0) 8 = 8 := by unfold owed; rw [if_neg (fun x => e x.symm)]
      rw [hO _ _ _ _ (by decide), hO _ _ _ _ (by decide), e7, ownU_mid (i := 6) (by decide) (by decide), if_neg (by decide), e2]
      omega
  | 7, _ =>
    show OwnStep n own (u + 7) r (cell 0) (.goto (u : Int).toNat)
    rw [Int.toNat_natCast]
    show own (u + 0) r (cell 0) false + 1 ≤ own (u + 7) r (cell 0) false
    rw [hO _ _ _ _ (by decide), hO _ _ _ _ (by decide)]
    unfold ownU
    rw [if_pos rfl, if_neg (by decide), if_neg (by decide), if_pos rfl, if_neg (by decide)]
    omega
  | 8, _ =>
    show own (u + 9) (upd r 2 _) (cell 0) false + 1 ≤ own (u + 8) r (cell 0) false
    rw [hO _ _ _ _ (by decide), hO _ _ _ _ (by decide)]
    exact ownU_out (by decide) (by decide) (by decide) hl
  | i + 9, hi => exact absurd hi (by omega)
end

section
variable {n : Nat} {r r' : Nat → Int} {cell : Nat → Int} {i k : Nat} {c : Int}
theorem ownR_low (h1 : 1 ≤ i) (h2 : i ≤ 7) : ownR n i r c = (15 - i) + (28 * n + owed r c 20) := by
  unfold ownR
  rw [if_neg (by omega), if_pos h2]
theorem ownR_fwd (h1 : 1 ≤ i) (hk : i < k) (h2 : k ≤ 7) (hr : r' 1 = r 1) : ownR n k r' c + 1 ≤ ownR n i r c := by
  rw [ownR_low (by omega) h2, ownR_low h1 (by omega), owed_same hr]
  omega
theorem ownR_out (hk : i < k) (h2 : 8 < k) (hl : k < 15) : ownR n k r' c + 1 ≤ ownR n i r c := by
  unfold ownR
  rw [if_neg (by omega), if_neg (by omega), if_neg (by omega)]
  omega
theorem reg_own (n0 : Int) (hi : i < 15) : OwnStep n (fun j r c _ => ownR n j r c) i r (cell 0) (relD ((reg0 n0).getD i default) cell r) := by
  match i, hi with
  | 0, _ =>
    show ownR n 1 (upd r 1 (cell 0)) (cell 0) + 1 + (if cell 0 = cell 0 then 0 else 20 * n) ≤ ownR n 0 r (cell 0)
    rw [if_pos rfl, ownR_low (i := 1) (by decide) (by decide), owed_load]
    unfold ownR
    rw [if_pos rfl]
    omega
  | 1, _ => exact ownR_fwd (by decide) (by decide) (by decide) (upd_ne _ _ (show (1 : Nat) ≠ 2 by decide))
  | 2, _ =>
    show OwnStep n (fun j r c _ => ownR n j r c) 2 r (cell 0) (if r 2 = 1 % m64 then .goto 11 else .next)
    split
    · exact ownR_out (by decide) (by decide) (by decide)
    · exact ownR_fwd (by decide) (by decide) (by decide) rfl
  | 3, _ => exact ownR_fwd (by decide) (by decide) (by decide) (upd_ne _ _ (show (1 : Nat) ≠ 2 by decide))
  | 4, _ => exact ownR_fwd (by decide) (by decide) (by decide) (upd_ne _ _ (show (1 : Nat) ≠ 3 by decide))
  | 5, _ =>
    show OwnStep n (fun j r c _ => ownR n j r c) 5 r (cell 0) (if r 3 < r 2 then .goto 13 else .next)
    split
    · exact ownR_out (by decide) (by decide) (by decide)
    · exact ownR_fwd (by decide) (by decide) (by decide) rfl
  | 6, _ => exact ownR_fwd (by decide) (by decide) (by decide) (upd_ne _ _ (show (1 : Nat) ≠ 4 by decide))
  | 7, _ =>
    show OwnStep n (fun j r c _ => ownR n j r c) 7 r (cell 0) (if cell 0 = r 1 then .mem 0 (r 4) (some (3, 1)) else .mem 0 (cell 0) (some (3, 0)))
    have e1 : ∀ c, ownR n 8 (upd r 3 1) c = (15 - 8) + 0 := fun c => by
      unfold ownR swapped
      rw [if_neg (by decide), if_neg (by decide), if_pos rfl, upd_same, if_pos rfl]
    have e3 : ∀ c, ownR n 8 (upd r 3 0) c = (15 - 8) + (28 * n + 20) := fun c => by
      unfold ownR swapped
      rw [if_neg (by decide), if_neg (by decide), if_pos rfl, upd_same, if_neg (by decide)]
    split
    · show ownR n 8 (upd r 3 1) (r 4) + 1 + (if r 4 = cell 0 then 0 else 20 * n) ≤ ownR n 7 r (cell 0)
      rw [e1, ownR_low (i := 7) (by decide) (by decide)]
      split <;> omega
    · next e =>
      show ownR n 8 (upd r 3 0) (cell 0) + 1 + (if cell 0 = cell 0 then 0 else 20 * n) ≤ ownR n 7 r (cell 0)
      have e2 : owed r (cell 0) 20 = 20 := by unfold owed; rw [if_neg (fun x => e x.symm)]
      rw [e3, ownR_low (i := 7) (by decide) (by decide), if_pos rfl, e2]
      omega
  | 8, _ =>
    show OwnStep n (fun j r c _ => ownR n j r c) 8 r (cell 0) (if r 3 = 0 % m64 then .goto 0 else .next)
    split
    · next e =>
      show ownR n 0 r (cell 0) + 1 ≤ ownR n 8 r (cell 0)
      have e1 : ownR n 8 r (cell 0) = (15 - 8) + (28 * n + 20) := by
        unfold ownR swapped
        rw [if_neg (by decide), if_neg (by decide), if_pos rfl, if_neg (by rw [e]; decide)]
      have e2 : ownR n 0 r (cell 0) = (15 - 0) + 28 * n := by unfold ownR; rw [if_pos rfl]
      rw [e1, e2]
      omega
    · next e =>
      show ownR n 9 r (cell 0) + 1 ≤ ownR n 8 r (cell 0)
      unfold ownR swapped
      rw [if_neg (by decide), if_neg (by decide), if_neg (by decide), if_neg (by decide), if_neg (by decide), if_pos rfl]
      split <;> omega
  | 9, _ => exact ownR_out (by decide) (by decide) (by decide)
  | 10, _ =>
    show ownR n 14 r (cell 0) + 1 ≤ ownR n 10 r (cell 0)
    exact ownR_out (by decide) (by decide) (by decide)
  | 11, _ => exact ownR_out (by decide) (by decide) (by decide)
  | 12, _ =>
    show ownR n 14 r (cell 0) + 1 ≤ ownR n 12 r (cell 0)
    exact ownR_out (by decide) (by decide) (by decide)
  | 13, _ => exact ownR_out (by decide) (by decide) (by decide)
  | 14, _ => exact trivial
  | i + 15, hi => exact absurd hi (by omega)
end

section
variable {n : Nat} {r r' : Nat → Int} {cell : Nat → Int} {i k : Nat} {c : Int}
theorem ownS_low (h1 : 1 ≤ i) (h2 : i ≤ 4) : ownS n i r c = (11 - i) + (28 * n + owed r c 20) := by
  unfold ownS
  rw [if_neg (by omega), if_pos h2]
theorem ownS_fwd (h1 : 1 ≤ i) (hk : i < k) (h2 : k ≤ 4) (hr : r' 1 = r 1) : ownS n k r' c + 1 ≤ ownS n i r c := by
  rw [ownS_low (by omega) h2, ownS_low h1 (by omega), owed_same hr]
  omega
theorem ownS_out (hk : i < k) (h2 : 6 < k) (hl : k < 11) : ownS n k r' c + 1 ≤ ownS n i r c := by
  unfold ownS
  rw [if_neg (by omega), if_neg (by omega), if_neg (by omega), if_neg (by omega)]
  omega
theorem close_own (hi : i < 11) : OwnStep n (fun j r c _ => ownS n j r c) i r (cell 0) (relD ((close0).getD i default) cell r) := by
  match i, hi with
  | 0, _ =>
    show ownS n 1 (upd r 1 (cell 0)) (cell 0) + 1 + (if cell 0 = cell 0 then 0 else 20 * n) ≤ ownS n 0 r (cell 0)
    rw [if_pos rfl, ownS_low (i := 1) (by decide) (by decide), owed_load]
    unfold ownS
    rw [if_pos rfl]
    omega
  | 1, _ => exact ownS_fwd (by decide) (by decide) (by decide) (upd_ne _ _ (show (1 : Nat) ≠ 2 by decide))
  | 2, _ =>
    show OwnStep n (fun j r c _ => ownS n j r c) 2 r (cell 0) (if r 2 = 1 % m64 then .goto 9 else .next)
    split
    · exact ownS_out (by decide) (by decide) (by decide)
    · exact ownS_fwd (by decide) (by decide) (by decide) rfl
  | 3, _ => exact ownS_fwd (by decide) (by decide) (by decide) (upd_ne _ _ (show (1 : Nat) ≠ 4 by decide))
  | 4, _ =>
    show OwnStep n (fun j r c _ => ownS n j r c) 4 r (cell 0) (if cell 0 = r 1 then .mem 0 (r 4) (some (3, 1)) else .mem 0 (cell 0) (some (3, 0)))
    have e1 : ∀ c, ownS n 5 (upd r 3 1) c = (11 - 5) + (8 * n) := fun c => by
      unfold ownS swapped
      rw [if_neg (by decide), if_neg (by decide), if_pos rfl, upd_same, if_pos rfl]
    have e3 : ∀ c, ownS n 5 (upd r 3 0) c = (11 - 5) + (28 * n + 20) := fun c => by
      unfold ownS swapped
      rw [if_neg (by decide), if_neg (by decide), if_pos rfl, upd_same, if_neg (by decide)]
    split
    · show ownS n 5 (upd r 3 1) (r 4) + 1 + (if r 4 = cell 0 then 0 else 20 * n) ≤ ownS n 4 r (cell 0)
      rw [e1, ownS_low (i := 4) (by decide) (by decide)]
      split <;> omega
    · next e =>
      show ownS n 5 (upd r 3 0) (cell 0) + 1 + (if cell 0 = cell 0 then 0 else 20 * n) ≤ ownS n 4 r (cell 0)
      have e2 : owed r (cell 0) 20 = 20 := by unfold owed; rw [if_neg (fun x => e x.symm)]
      rw [e3, ownS_low (i := 4) (by decide) (by decide), if_pos rfl, e2]
      omega
  | 5, _ =>
    show OwnStep n (fun j r c _ => ownS n j r c) 5 r (cell 0) (if r 3 = 0 % m64 then .goto 0 else .next)
    split
    · next e =>
      show ownS n 0 r (cell 0) + 1 ≤ ownS n 5 r (cell 0)
      have e1 : ownS n 5 r (cell 0) = (11 - 5) + (28 * n + 20) := by
        unfold ownS swapped
        rw [if_neg (by decide), if_neg (by decide), if_pos rfl, if_neg (by rw [e]; decide)]
      have e2 : ownS n 0 r (cell 0) = (11 - 0) + 28 * n := by unfold ownS; rw [if_pos rfl]
      rw [e1, e2]
      omega
    · next e =>
      show ownS n 6 r (cell 0) + 1 ≤ ownS n 5 r (cell 0)
      unfold ownS swapped
      rw [if_neg (by decide), if_neg (by decide), if_neg (by decide), if_pos rfl, if_neg (by decide), if_neg (by decide), if_pos rfl]
      split <;> omega
  | 6, _ =>
    show ownS n 7 r (cell 0) + 1 + 8 * n ≤ ownS n 6 r (cell 0)
    unfold ownS
    rw [if_neg (by decide), if_neg (by decide), if_neg (by decide), if_neg (by decide), if_neg (by decide), if_neg (by decide), if_neg (by decide), if_pos rfl]
    omega
  | 7, _ => exact ownS_out (by decide) (by decide) (by decide)
  | 8, _ =>
    show ownS n 10 r (cell 0) + 1 ≤ ownS n 8 r (cell 0)
    exact ownS_out (by decide) (by decide) (by decide)
  | 9, _ => exact ownS_out (by decide) (by decide) (by decide)
  | 10, _ => exact trivial
  | i + 11, hi => exact absurd hi (by omega)
end
end Go.Proofs.YtdhlmgoodpepeaaGreatDoor

namespace Go.Proofs.YtdhlmgoodpepeaaGreatDoor
set_option maxRecDepth 100000
set_option linter.unusedVariables false
set_option linter.unusedSimpArgs false

section
variable {n : Nat} {r : Nat → Int} {cell : Nat → Int} {j : Nat} {c : GC}
theorem arr_own {w : Nat} {m : Int} (hw : w = 7 ∧ m = -1 ∨ w = 8 ∧ m = -65537) (hj : j < 31) : OwnStep n (ownG n ⟨w, 0⟩) j r (cell 0) (relD ((come0 m 30 ++ [(2, 2, 5, 0, 0), (16, 3, 2, 0, 0)]).getD j default) cell r) := by
  have hO : ∀ (j : Nat) r c sl, ownG n ⟨w, 0⟩ j r c sl = ownC n 31 j r c := by
    intro j r c sl
    rcases hw with ⟨rfl, _⟩ | ⟨rfl, _⟩ <;> rfl
  have h29 : ∀ r c, ownC n 31 29 r c = 31 - 29 := fun r c => by
    unfold ownC
    rw [if_neg (by decide), if_neg (by decide), if_neg (by decide), if_neg (by decide)]
  have h30 : ∀ r c, ownC n 31 30 r c = 31 - 30 := fun r c => by
    unfold ownC
    rw [if_neg (by decide), if_neg (by decide), if_neg (by decide), if_neg (by decide)]
  by_cases h1 : j < 29
  · rw [gd_left (by rw [come_len]; exact h1)]
    exact come_own (q := 30) (len := 31) (fun i r c sl _ => hO i r c sl) (fun r c => by rw [hO, h29]) (fun r c => by rw [hO, h30]) (by decide) (by decide) (by decide) h1
  · rw [gd_right (come_len _ _) (by omega)]
    by_cases h2 : j = 29
    · subst h2
      show ownG n ⟨w, 0⟩ 30 (upd r 2 (r 5)) (cell 0) false + 1 ≤ ownG n ⟨w, 0⟩ 29 r (cell 0) false
      rw [hO, hO, h29, h30]
      decide
    · obtain rfl : j = 30 := by omega
      exact trivial
theorem pass_own (hj : j < 39) : OwnStep n (ownG n ⟨9, 0⟩) j r (cell 0) (relD ((come0 (-1) 38 ++ until0 29).getD j default) cell r) := by
  have hat : ∀ (j : Nat) r c sl, ownG n ⟨9, 0⟩ j r c sl = if j < 29 then ownC n 39 j r c else ownU 39 29 (j - 29) r c sl := fun _ _ _ _ => rfl
  by_cases h1 : j < 29
  · rw [gd_left (by rw [come_len]; exact h1)]
    refine come_own (q := 38) (len := 39) (fun i r c sl hi => by rw [hat, if_pos hi]) (fun r c => ?_) (fun r c => ?_) (by decide) (by decide) (by decide) h1
    · rw [hat, if_neg (by decide)]
      unfold ownU
      rw [if_pos rfl]
    · rw [hat, if_neg (by decide)]
      unfold ownU
      rw [if_neg (by decide), if_neg (by decide), if_neg (by decide)]
  · rw [gd_right (come_len _ _) (by omega)]
    by_cases h2 : j < 38
    · obtain ⟨i, rfl⟩ : ∃ i, j = 29 + i := ⟨j - 29, by omega⟩
      rw [Nat.add_sub_cancel_left]
      exact until_own (len := 39) (u := 29) (fun i r c sl hi => by rw [hat, if_neg (by omega), Nat.add_sub_cancel_left]) (by decide) (by omega)
    · obtain rfl : j = 38 := by omega
      exact trivial
theorem watch_own {m : Int} (hj : j < 11) : OwnStep n (ownG n ⟨10, m⟩) j r (cell 0) (relD (((1, 5, m, 0, 0) :: until0 1).getD j default) cell r) := by
  have hat : ∀ (j : Nat) r c sl, ownG n ⟨10, m⟩ j r c sl = if j = 0 then 11 else ownU 11 1 (j - 1) r c sl := fun _ _ _ _ => rfl
  by_cases h0 : j = 0
  · subst h0
    show ownG n ⟨10, m⟩ 1 (upd r 5 (m % m64)) (cell 0) false + 1 ≤ ownG n ⟨10, m⟩ 0 r (cell 0) false
    rw [hat, hat, if_neg (by decide), if_pos rfl]
    unfold ownU
    rw [if_pos rfl]
    decide
  · obtain ⟨i, rfl⟩ : ∃ i, j = 1 + i := ⟨j - 1, by omega⟩
    rw [show ((1, 5, m, 0, 0) :: until0 1 : List Ins5).getD (1 + i) default = (until0 1).getD i default by rw [Nat.add_comm]; rfl]
    by_cases h2 : 1 + i < 10
    · exact until_own (len := 11) (u := 1) (fun i r c sl hi => by rw [hat, if_neg (by omega), Nat.add_sub_cancel_left]) (by decide) (by omega)
    · obtain rfl : i = 9 := by omega
      exact trivial
theorem gather_own (hf : fitsC (c.w : Int) c.n) (hj : j < (gather0 c).length) : OwnStep n (ownG n c) j r (cell 0) (relD ((gather0 c).getD j default) cell r) := by
  obtain ⟨w, m⟩ := c
  have hf : fitsC (w : Int) m := hf
  have hw : w = 6 ∧ (1 ≤ m ∧ m ≤ 65535) ∨ w = 10 ∧ (0 ≤ m ∧ m ≤ 2147483647) ∨ w = 7 ∧ m = 0 ∨ w = 8 ∧ m = 0 ∨ w = 9 ∧ m = 0 ∨ w = 11 ∧ m = 0 := by
    unfold fitsC at hf
    omega
  rcases hw with ⟨rfl, hn⟩ | ⟨rfl, hn⟩ | ⟨rfl, rfl⟩ | ⟨rfl, rfl⟩ | ⟨rfl, rfl⟩ | ⟨rfl, rfl⟩
  · exact reg_own m hj
  · exact watch_own hj
  · exact arr_own (.inl ⟨rfl, rfl⟩) hj
  · exact arr_own (.inr ⟨rfl, rfl⟩) hj
  · exact pass_own hj
  · exact close_own hj

/-! How others' share grows. -/
theorem owed_mono (r : Nat → Int) (c d : Int) (k : Nat) : owed r d k ≤ owed r c k + k := by unfold owed; split <;> split <;> omega
theorem ownC_cell (len i : Nat) (r : Nat → Int) (c d : Int) : ownC n len i r d ≤ ownC n len i r c + 20 := by
  unfold ownC
  have := owed_mono r c d 20
  repeat' (split <;> try omega)
theorem ownU_cell (len u i : Nat) (r : Nat → Int) (c d : Int) (sl : Bool) : ownU len u i r d sl ≤ ownU len u i r c sl + 20 := by
  unfold ownU
  have := owed_mono r c d 8
  repeat' (split <;> try omega)
theorem ownR_cell (i : Nat) (r : Nat → Int) (c d : Int) : ownR n i r d ≤ ownR n i r c + 20 := by
  unfold ownR
  have := owed_mono r c d 20
  repeat' (split <;> try omega)
theorem ownS_cell (i : Nat) (r : Nat → Int) (c d : Int) : ownS n i r d ≤ ownS n i r c + 20 := by
  unfold ownS
  have := owed_mono r c d 20
  repeat' (split <;> try omega)
theorem ownG_cell (c : GC) (j : Nat) (r : Nat → Int) (v d : Int) (sl : Bool) : ownG n c j r d sl ≤ ownG n c j r v sl + 20 := by
  unfold ownG
  split
  · exact ownR_cell _ _ _ _
  · exact ownC_cell _ _ _ _ _
  · exact ownC_cell _ _ _ _ _
  · split
    · exact ownC_cell _ _ _ _ _
    · exact ownU_cell _ _ _ _ _ _ _
  · split
    · omega
    · exact ownU_cell _ _ _ _ _ _ _
  · exact ownS_cell _ _ _ _
theorem ownU_wake (len u i : Nat) (r : Nat → Int) (c : Int) (sl sl' : Bool) : ownU len u i r c sl' ≤ ownU len u i r c sl + 8 := by
  unfold ownU
  repeat' (split <;> try omega)
theorem ownG_wake (c : GC) (j : Nat) (r : Nat → Int) (v : Int) (sl sl' : Bool) : ownG n c j r v sl' ≤ ownG n c j r v sl + 8 := by
  unfold ownG
  split
  · omega
  · omega
  · omega
  · split
    · omega
    · exact ownU_wake _ _ _ _ _ _ _
  · split
    · omega
    · exact ownU_wake _ _ _ _ _ _ _
  · omega
/-- A call at its begin owes no more than this. -/
theorem ownG_zero (c : GC) (r : Nat → Int) (v : Int) (sl : Bool) : ownG n c 0 r v sl ≤ 39 + 28 * n := by
  unfold ownG
  split
  · unfold ownR; rw [if_pos rfl]; omega
  · unfold ownC; rw [if_pos rfl]; omega
  · unfold ownC; rw [if_pos rfl]; omega
  · rw [if_pos (by decide)]; unfold ownC; rw [if_pos rfl]; omega
  · rw [if_pos rfl]; omega
  · unfold ownS; rw [if_pos rfl]; omega
end
end Go.Proofs.YtdhlmgoodpepeaaGreatDoor

namespace Go.Proofs.YtdhlmgoodpepeaaGreatDoor
set_option maxRecDepth 100000
set_option linter.unusedVariables false
set_option linter.unusedSimpArgs false

/-- What a thread has yet to do, at most. -/
def wtG (n : Nat) (calls : Nat → List GC) (S : CS) (t : Nat) : Nat :=
  (match (calls t)[(S.th t).k]? with
  | none => if (S.th t).en = true then 0 else 1
  | some c => ownG n c (S.th t).j (S.th t).r (S.cell 0) (slK S t) + 1) + (39 + 28 * n) * ((calls t).length - ((S.th t).k + 1))
def potG (n : Nat) (calls : Nat → List GC) (S : CS) : Nat := sumN n (wtG n calls S)

section
variable {n k : Nat} {calls : Nat → List GC} {S S' : CS} {t : Nat} {c : GC}
theorem wtG_some (hc : (calls t)[(S.th t).k]? = some c) : wtG n calls S t = ownG n c (S.th t).j (S.th t).r (S.cell 0) (slK S t) + 1 + (39 + 28 * n) * ((calls t).length - ((S.th t).k + 1)) := by
  unfold wtG
  rw [hc]
theorem wtG_none (hc : (calls t)[(S.th t).k]? = none) : wtG n calls S t = (if (S.th t).en = true then 0 else 1) + (39 + 28 * n) * ((calls t).length - ((S.th t).k + 1)) := by
  unfold wtG
  rw [hc]
/-- Who did not move owes as much as ever, but for what it has seen, and for its sleep. -/
theorem wtG_other {u : Nat} (hth : S'.th u = S.th u) (hc : S'.cell 0 = S.cell 0) (hs : slK S' u = slK S u) : wtG n calls S' u = wtG n calls S u := by
  unfold wtG
  rw [hth, hc, hs]
theorem wtG_cell {u : Nat} (hth : S'.th u = S.th u) (hs : slK S' u = slK S u) : wtG n calls S' u ≤ wtG n calls S u + 20 := by
  cases hc : (calls u)[(S.th u).k]? with
  | none =>
    rw [wtG_none hc, wtG_none (S := S') (by rw [hth]; exact hc), hth]
    omega
  | some c =>
    rw [wtG_some hc, wtG_some (S := S') (by rw [hth]; exact hc), hth, hs]
    have := ownG_cell (n := n) c (S.th u).j (S.th u).r (S.cell 0) (S'.cell 0) (slK S u)
    omega
theorem wtG_wake {u : Nat} (hth : S'.th u = S.th u) (hcl : S'.cell 0 = S.cell 0) : wtG n calls S' u ≤ wtG n calls S u + 8 := by
  cases hc : (calls u)[(S.th u).k]? with
  | none =>
    rw [wtG_none hc, wtG_none (S := S') (by rw [hth]; exact hc), hth]
    omega
  | some c =>
    rw [wtG_some hc, wtG_some (S := S') (by rw [hth]; exact hc), hth, hcl]
    have := ownG_wake (n := n) c (S.th u).j (S.th u).r (S.cell 0) (slK S u) (slK S' u)
    omega
/-- What an instruction of a call may come to. -/
structure InsG (c : GC) (j : Nat) (cell r : Nat → Int) (D : DoK) : Prop where
  next : (∀ w v, D ≠ .say w v) → j + 1 < (gather0 c).length
  goto : ∀ k, D = .goto k → k < (gather0 c).length
  say : ∀ w v, D = .say w v → j + 1 = (gather0 c).length
theorem insG {j : Nat} (hj : j < (gather0 c).length) (cell r : Nat → Int) : InsG c j cell r (relD ((gather0 c).getD j default) cell r) := by
  have hgood := all_getD (gather_good c) hj
  have hlow := all_getD (gather_low c) hj
  have hlast : j + 1 = (gather0 c).length → relD ((gather0 c).getD j default) cell r = .say 3 (signed (r 2)) := fun e1 => by
    have := gather_last c
    rw [← e1, Nat.add_sub_cancel] at this
    rw [this]
    rfl
  refine ⟨fun q => ?_, fun k q => relD_goto q hlow hgood, fun w v q => ?_⟩
  · have : j + 1 ≠ (gather0 c).length := fun e1 => q _ _ (hlast e1)
    omega
  · have h16 := relD_say q hgood
    by_cases e1 : j + 1 = (gather0 c).length
    · exact e1
    · exfalso
      have hd : j < (gather0 c).dropLast.length := by rw [List.length_dropLast]; omega
      have := of_decide_eq_true (all_getD (gather_says c) hd)
      rw [List.getD_eq_getElem?_getD, List.getElem?_dropLast, if_pos (by omega), ← List.getD_eq_getElem?_getD] at this
      exact this h16
/-- The last instruction of a call is still to do. -/
theorem ownG_last {j : Nat} (hf : fitsC (c.w : Int) c.n) (h : j + 1 = (gather0 c).length) (r : Nat → Int) (v : Int) (sl : Bool) : 1 ≤ ownG n c j r v sl := by
  obtain ⟨w, m⟩ := c
  have hf : fitsC (w : Int) m := hf
  have hw : w = 6 ∨ w = 10 ∨ w = 7 ∨ w = 8 ∨ w = 9 ∨ w = 11 := by
    unfold fitsC at hf
    omega
  rcases hw with rfl | rfl | rfl | rfl | rfl | rfl
  · have h : j + 1 = 15 := h
    obtain rfl : j = 14 := by omega
    exact Nat.le_add_right 1 _
  · have h : j + 1 = 11 := h
    obtain rfl : j = 10 := by omega
    exact Nat.le_add_right 1 _
  · have h : j + 1 = 31 := h
    obtain rfl : j = 30 := by omega
    exact Nat.le_add_right 1 _
  · have h : j + 1 = 31 := h
    obtain rfl : j = 30 := by omega
    exact Nat.le_add_right 1 _
  · have h : j + 1 = 39 := h
    obtain rfl : j = 38 := by omega
    exact Nat.le_add_right 1 _
  · have h : j + 1 = 11 := h
    obtain rfl : j = 10 := by omega
    exact Nat.le_add_right 1 _
theorem potG_step (hfit : ∀ t, t < n → ∀ c ∈ calls t, fitsC (c.w : Int) c.n) (hW : WfK gatherF n calls S) (hm0 : ∀ c a' now q, (calls t)[(S.th t).k]? = some c → relD ((gather0 c).getD (S.th t).j default) S.cell (S.th t).r = .mem a' now q → a' = 0) (ht : t < n) (he : (S.th t).en = false) (hs : slK S t = false) : potG n calls (stepK gatherF calls t S) + 1 ≤ potG n calls S := by
  have other : ∀ (x' : TK) u, u ≠ t → upd S.th t x' u = S.th u := fun x' u hu => upd_ne _ _ hu
  cases hc : (calls t)[(S.th t).k]? with
  | none =>
    rw [stepK_end hc]
    refine sumN_shift (b := 0) ht (fun u hu hne => wtG_other (other _ u hne) rfl rfl) ?_
    rw [wtG_none hc, wtG_none (S := { S with th := upd S.th t { S.th t with en := true } }) (by show (calls t)[(upd S.th t { S.th t with en := true } t).k]? = none; rw [upd_same]; exact hc)]
    show (if (upd S.th t { S.th t with en := true } t).en = true then 0 else 1) + _ * ((calls t).length - ((upd S.th t { S.th t with en := true } t).k + 1)) + 1 ≤ _
    rw [upd_same, if_pos rfl, he, if_neg (by decide)]
    show 0 + (39 + 28 * n) * ((calls t).length - ((S.th t).k + 1)) + 1 ≤ _
    omega
  | some c =>
    have hj : (S.th t).j < (gather0 c).length := (hW.th t ht).j c hc
    have hf := hfit t ht c (List.mem_of_getElem? hc)
    have hst := gather_own (n := n) (r := (S.th t).r) (cell := S.cell) hf hj
    have hins := insG hj S.cell (S.th t).r
    rw [stepK_eq hc]
    show potG n calls (doneK (gather0 c).length t S (S.th t) (relD ((gather0 c).getD (S.th t).j default) S.cell (S.th t).r)) + 1 ≤ _
    have hm0 := fun a' now q => hm0 c a' now q hc
    generalize relD ((gather0 c).getD (S.th t).j default) S.cell (S.th t).r = D at hst hins hm0
    have wt0 := wtG_some (n := n) hc
    rw [hs] at wt0
    have stay : ∀ {S' : CS} {j' : Nat} {r' : Nat → Int}, (S'.th t).k = (S.th t).k → (S'.th t).j = j' → (S'.th t).r = r' → wtG n calls S' t = ownG n c j' r' (S'.cell 0) (slK S' t) + 1 + (39 + 28 * n) * ((calls t).length - ((S.th t).k + 1)) := fun {S' j' r'} e1 e2 e3 => by
      rw [wtG_some (S := S') (by rw [e1]; exact hc), e1, e2, e3]
    cases D with
    | set i v =>
      have hn := hins.next (fun w v q => by cases q)
      have hst : ownG n c ((S.th t).j + 1) (upd (S.th t).r i v) (S.cell 0) false + 1 ≤ ownG n c (S.th t).j (S.th t).r (S.cell 0) false := hst
      refine sumN_shift (b := 0) ht (fun u hu hne => wtG_other (other _ u hne) rfl rfl) ?_
      rw [stay (S' := doneK (gather0 c).length t S (S.th t) (.set i v)) (j' := (S.th t).j + 1) (r' := upd (S.th t).r i v) (by show (upd S.th t _ t).k = _; rw [upd_same, goK_in hn]) (by show (upd S.th t _ t).j = _; rw [upd_same, goK_in hn]) (by show (upd S.th t _ t).r = _; rw [upd_same])]
      rw [show slK (doneK (gather0 c).length t S (S.th t) (.set i v)) t = false from hs, wt0]
      show ownG n c ((S.th t).j + 1) (upd (S.th t).r i v) (S.cell 0) false + 1 + _ + 1 ≤ _
      omega
    | mem a' now q =>
      have hn := hins.next (fun w v q => by cases q)
      cases q with
      | none => exact absurd hst id
      | some q =>
        obtain rfl := hm0 _ _ _ rfl
        have hst : ownG n c ((S.th t).j + 1) (upd (S.th t).r q.1 q.2) now false + 1 + (if now = S.cell 0 then 0 else 20 * n) ≤ ownG n c (S.th t).j (S.th t).r (S.cell 0) false := hst
        have hcell : (doneK (gather0 c).length t S (S.th t) (.mem 0 now (some q))).cell 0 = now := by
          show upd S.cell 0 now 0 = now
          exact upd_same _ _ _
        have hmine : wtG n calls (doneK (gather0 c).length t S (S.th t) (.mem 0 now (some q))) t = ownG n c ((S.th t).j + 1) (upd (S.th t).r q.1 q.2) now false + 1 + (39 + 28 * n) * ((calls t).length - ((S.th t).k + 1)) := by
          rw [stay (S' := doneK (gather0 c).length t S (S.th t) (.mem 0 now (some q))) (j' := (S.th t).j + 1) (r' := upd (S.th t).r q.1 q.2) (by show (upd S.th t _ t).k = _; rw [upd_same, goK_in hn]) (by show (upd S.th t _ t).j = _; rw [upd_same, goK_in hn]) (by show (upd S.th t _ t).r = _; rw [upd_same])]
          rw [show slK (doneK (gather0 c).length t S (S.th t) (.mem 0 now (some q))) t = false from hs, hcell]
        by_cases e : now = S.cell 0
        · rw [if_pos e] at hst
          refine sumN_shift (b := 0) ht (fun u hu hne => wtG_other (other _ u hne) (by rw [hcell, e]) rfl) ?_
          rw [hmine, wt0]
          omega
        · rw [if_neg e] at hst
          have hb := sumN_bulk (a := 1 + 20 * n) (b := 20) (f := wtG n calls (doneK (gather0 c).length t S (S.th t) (.mem 0 now (some q)))) (g := wtG n calls S) ht (fun u hu hne => wtG_cell (other _ u hne) rfl) (by
            rw [hmine, wt0]
            omega)
          show sumN n _ + 1 ≤ sumN n _
          have : 20 * n = n * 20 := Nat.mul_comm _ _
          omega
    | goto k =>
      have hn := hins.goto k rfl
      have hst : ownG n c k (S.th t).r (S.cell 0) false + 1 ≤ ownG n c (S.th t).j (S.th t).r (S.cell 0) false := hst
      refine sumN_shift (b := 0) ht (fun u hu hne => wtG_other (other _ u hne) rfl rfl) ?_
      rw [stay (S' := doneK (gather0 c).length t S (S.th t) (.goto k)) (j' := k) (r' := (S.th t).r) (by show (upd S.th t _ t).k = _; rw [upd_same, goK_in hn]) (by show (upd S.th t _ t).j = _; rw [upd_same, goK_in hn]) (by show (upd S.th t _ t).r = _; rw [upd_same, goK_in hn])]
      rw [show slK (doneK (gather0 c).length t S (S.th t) (.goto k)) t = false from hs, wt0]
      show ownG n c k (S.th t).r (S.cell 0) false + 1 + _ + 1 ≤ _
      omega
    | next =>
      have hn := hins.next (fun w v q => by cases q)
      have hst : ownG n c ((S.th t).j + 1) (S.th t).r (S.cell 0) false + 1 ≤ ownG n c (S.th t).j (S.th t).r (S.cell 0) false := hst
      refine sumN_shift (b := 0) ht (fun u hu hne => wtG_other (other _ u hne) rfl rfl) ?_
      rw [stay (S' := doneK (gather0 c).length t S (S.th t) .next) (j' := (S.th t).j + 1) (r' := (S.th t).r) (by show (upd S.th t _ t).k = _; rw [upd_same, goK_in hn]) (by show (upd S.th t _ t).j = _; rw [upd_same, goK_in hn]) (by show (upd S.th t _ t).r = _; rw [upd_same, goK_in hn])]
      rw [show slK (doneK (gather0 c).length t S (S.th t) .next) t = false from hs, wt0]
      show ownG n c ((S.th t).j + 1) (S.th t).r (S.cell 0) false + 1 + _ + 1 ≤ _
      omega
    | sleep a' =>
      have hn := hins.next (fun w v q => by cases q)
      have hst : ownG n c ((S.th t).j + 1) (S.th t).r (S.cell 0) true + 1 ≤ ownG n c (S.th t).j (S.th t).r (S.cell 0) false := hst
      refine sumN_shift (b := 0) ht (fun u hu hne => wtG_other (other _ u hne) rfl (slK_app (t := t) (a := a') rfl hne)) ?_
      rw [stay (S' := doneK (gather0 c).length t S (S.th t) (.sleep a')) (j' := (S.th t).j + 1) (r' := (S.th t).r) (by show (upd S.th t _ t).k = _; rw [upd_same, goK_in hn]) (by show (upd S.th t _ t).j = _; rw [upd_same, goK_in hn]) (by show (upd S.th t _ t).r = _; rw [upd_same, goK_in hn])]
      rw [slK_self (t := t) (a := a') (S := S) rfl, wt0]
      show ownG n c ((S.th t).j + 1) (S.th t).r (S.cell 0) true + 1 + _ + 1 ≤ _
      omega
    | wake a' k =>
      have hn := hins.next (fun w v q => by cases q)
      have hst : ownG n c ((S.th t).j + 1) (S.th t).r (S.cell 0) false + 1 + 8 * n ≤ ownG n c (S.th t).j (S.th t).r (S.cell 0) false := hst
      have hsl : slK (doneK (gather0 c).length t S (S.th t) (.wake a' k)) t = false := by
        cases e : slK (doneK (gather0 c).length t S (S.th t) (.wake a' k)) t with
        | false => rfl
        | true =>
          obtain ⟨b, hb⟩ := slK_mem e
          have hb : (t, b) ∈ wakeK S.lot a' k := hb
          rw [slK_of ((wakeK_sub _ _ _).subset hb)] at hs
          cases hs
      have e8 : 8 * n = n * 8 := Nat.mul_comm _ _
      have hb := sumN_bulk (a := 1 + 8 * n) (b := 8) (f := wtG n calls (doneK (gather0 c).length t S (S.th t) (.wake a' k))) (g := wtG n calls S) ht (fun u hu hne => wtG_wake (other _ u hne) rfl) (by
        rw [stay (S' := doneK (gather0 c).length t S (S.th t) (.wake a' k)) (j' := (S.th t).j + 1) (r' := (S.th t).r) (by show (upd S.th t _ t).k = _; rw [upd_same, goK_in hn]) (by show (upd S.th t _ t).j = _; rw [upd_same, goK_in hn]) (by show (upd S.th t _ t).r = _; rw [upd_same, goK_in hn])]
        rw [hsl, wt0]
        show ownG n c ((S.th t).j + 1) (S.th t).r (S.cell 0) false + 1 + _ + _ ≤ _
        omega)
      show sumN n _ + 1 ≤ sumN n _
      omega
    | say w v =>
      have e1 := hins.say w v rfl
      have hno : ¬ (S.th t).j + 1 < (gather0 c).length := by omega
      have hk := (List.getElem?_eq_some_iff.1 hc).1
      have h1 := ownG_last (n := n) hf e1 (S.th t).r (S.cell 0) false
      refine sumN_shift (b := 0) ht (fun u hu hne => wtG_other (other _ u hne) rfl rfl) ?_
      have ek : ((doneK (gather0 c).length t S (S.th t) (.say w v)).th t).k = (S.th t).k + 1 := by
        show (upd S.th t _ t).k = _
        rw [upd_same, goK_out hno]
      have ej : ((doneK (gather0 c).length t S (S.th t) (.say w v)).th t).j = 0 := by
        show (upd S.th t _ t).j = _
        rw [upd_same, goK_out hno]
      have ee : ((doneK (gather0 c).length t S (S.th t) (.say w v)).th t).en = false := by
        show (upd S.th t _ t).en = _
        rw [upd_same, goK_out hno]
        exact he
      rw [wt0]
      cases hd : (calls t)[(S.th t).k + 1]? with
      | none =>
        have hlen := List.getElem?_eq_none_iff.1 hd
        rw [wtG_none (S := doneK (gather0 c).length t S (S.th t) (.say w v)) (by rw [ek]; exact hd), ee, if_neg (by decide), ek]
        rw [show (calls t).length - ((S.th t).k + 1 + 1) = 0 by omega, show (calls t).length - ((S.th t).k + 1) = 0 by omega]
        omega
      | some d =>
        have hlen := (List.getElem?_eq_some_iff.1 hd).1
        rw [wtG_some (S := doneK (gather0 c).length t S (S.th t) (.say w v)) (by rw [ek]; exact hd), ek, ej]
        rw [show (calls t).length - ((S.th t).k + 1) = (calls t).length - ((S.th t).k + 1 + 1) + 1 by omega, Nat.mul_succ]
        have h0 := ownG_zero (n := n) d ((doneK (gather0 c).length t S (S.th t) (.say w v)).th t).r ((doneK (gather0 c).length t S (S.th t) (.say w v)).cell 0) (slK (doneK (gather0 c).length t S (S.th t) (.say w v)) t)
        omega
theorem potG_poke (ht : t < n) : potG n calls (pokeK t S) ≤ potG n calls S + 8 := by
  have h1 := sumN_drop (f := wtG n calls (pokeK t S)) (g := fun u => if u = t then wtG n calls S u + 8 else wtG n calls S u) (d := 0) ht (fun u hu hne => by
    show _ ≤ (if u = t then _ else _)
    rw [if_neg hne]
    exact Nat.le_of_eq (wtG_other rfl rfl (slK_poke hne))) (by
    show _ + 0 ≤ (if t = t then _ else _)
    rw [if_pos rfl]
    exact wtG_wake rfl rfl)
  have h2 := sumN_at (f := fun u => if u = t then wtG n calls S u + 8 else wtG n calls S u) (g := wtG n calls S) (d := 8) ht (fun u hu hne => if_neg hne) (by
    show (if t = t then _ else _) = _
    rw [if_pos rfl])
  show sumN n _ ≤ sumN n _ + 8
  omega
/-- Threads that ask a phaser, that holds x. -/
def gatherK {c0 : Nat → Int} (hfit : ∀ t, t < n → ∀ c ∈ calls t, fitsC (c.w : Int) c.n) {x : PhS} (hx : x.ok) (hc0 : c0 0 = x.word) : KindW gatherF n calls c0 where
  I := GInv n calls (c0 0)
  pot := potG n calls
  pk := 8
  init := ginv_new hx hc0
  step := fun S a e s t hW _ hI ha he h0 ht hen hs => ⟨ginv_step hfit hW hI ha he h0 ht, potG_step hfit hW (fun c a' now q hc hD => by
    obtain ⟨log, rfl, rfl, hL, ⟨z, hz, hzc⟩, hT⟩ := hI
    have hst := gather_step (hfit t ht c (List.mem_of_getElem? hc)) ((hW.th t ht).j c hc) ((hT t ht).2 c hc) hz hzc
    rw [hD] at hst
    cases q with
    | none => exact absurd hst id
    | some q => exact hst.1) ht hen hs⟩
  poke := fun S a e t hW hI ht hs => ⟨ginv_poke hI t, potG_poke ht⟩
theorem potG_new (c0 : Nat → Int) (hl : ∀ t, t < n → (calls t).length ≤ k) : potG n calls (newK c0) ≤ n * ((39 + 28 * n) * k + 1) := by
  rw [← sumN_const]
  refine sumN_le (fun t ht => ?_)
  have hlen := hl t ht
  cases hc : (calls t)[0]? with
  | none =>
    rw [wtG_none (S := newK c0) hc]
    show (if false = true then 0 else 1) + (39 + 28 * n) * ((calls t).length - (0 + 1)) ≤ _
    have := Nat.mul_le_mul_left (39 + 28 * n) (show (calls t).length - (0 + 1) ≤ k by omega)
    rw [if_neg (by decide)]
    omega
  | some c =>
    have h0 := (List.getElem?_eq_some_iff.1 hc).1
    rw [wtG_some (S := newK c0) hc]
    show ownG n c 0 _ _ _ + 1 + (39 + 28 * n) * ((calls t).length - (0 + 1)) ≤ _
    have h1 := ownG_zero (n := n) c ((newK c0).th t).r ((newK c0).cell 0) (slK (newK c0) t)
    have := Nat.mul_le_mul_left (39 + 28 * n) (show (calls t).length - (0 + 1) + 1 ≤ k by omega)
    rw [Nat.mul_succ] at this
    omega
end
end Go.Proofs.YtdhlmgoodpepeaaGreatDoor
