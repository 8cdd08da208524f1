/-
  A lot of package park: a block with how many threads there are and one slice, which owns its sleepers, two cells each. Lots that are only asked: find, has, Cell, At; and a new one. Lots: who sleeps at a cell (At), and falling asleep (Sleep). Lots: falling asleep (Sleep).
-/
import Derived.Test.YtoljmleomkkchaaDoorBase
import Derived.Shelf.Abstract
namespace Go.Proofs.YtoljmleomkkchaaDoor
set_option maxRecDepth 100000
open Go.RowKit

/-- The cells of a sleeper. -/
def enc2 (s : Int × Int) : List Value := [.int .i64 s.1, .int .i64 s.2]
/-- The cells of sleepers, one behind the other. -/
def cells2 : List (Int × Int) → List Value
  | [] => []
  | s :: l => .int .i64 s.1 :: .int .i64 s.2 :: cells2 l

theorem cells2_length (l : List (Int × Int)) : (cells2 l).length = l.length * 2 := by
  induction l with
  | nil => rfl
  | cons s l ih => simp only [cells2, List.length_cons, ih]; omega

theorem cells2_append (l r : List (Int × Int)) : cells2 (l ++ r) = cells2 l ++ cells2 r := by
  induction l with
  | nil => rfl
  | cons s l ih => simp only [List.cons_append, cells2, ih]

theorem cells2_at (l : List (Int × Int)) (k : Nat) (h : k < l.length) : (cells2 l)[k * 2]? = some (.int .i64 (l.getD k default).1) ∧ (cells2 l)[k * 2 + 1]? = some (.int .i64 (l.getD k default).2) := by
  induction l generalizing k with
  | nil => exact absurd h (Nat.not_lt_zero _)
  | cons s l ih =>
    rcases k with _ | k
    · exact ⟨rfl, rfl⟩
    · have h1 := ih k (by simpa using h)
      rw [show (k + 1) * 2 = k * 2 + 1 + 1 from by omega]
      exact h1

theorem cells2_drop (l : List (Int × Int)) (k : Nat) : (cells2 l).drop (k * 2) = cells2 (l.drop k) := by
  induction l generalizing k with
  | nil => simp [cells2]
  | cons s l ih =>
    rcases k with _ | k
    · rfl
    · rw [show (k + 1) * 2 = k * 2 + 1 + 1 from by omega]
      exact ih k

theorem cells2_take (l : List (Int × Int)) (k : Nat) : (cells2 l).take (k * 2) = cells2 (l.take k) := by
  induction l generalizing k with
  | nil => simp [cells2]
  | cons s l ih =>
    rcases k with _ | k
    · rfl
    · rw [show (k + 1) * 2 = k * 2 + 1 + 1 from by omega]
      simp only [cells2, List.take_succ_cons, ih k]

theorem cells2_one (l : List (Int × Int)) : ∀ u ∈ cells2 l, u.oneCell' = true := by
  induction l with
  | nil => intro u hu; cases hu
  | cons s l ih =>
    intro u hu
    simp only [cells2, List.mem_cons] at hu
    rcases hu with rfl | rfl | hu
    · rfl
    · rfl
    · exact ih u hu

theorem slice_of_own2 {w : World} {B e sz : Nat} {v : Value} {n : Nat} {xs : List Value} (h : w.ownsRow B e sz v n xs) : ∃ A c, v = .slice A n c := by
  rcases h.2 with ⟨rfl, e⟩ | ⟨g, cap, cur, rfl, _⟩
  · exact ⟨none, 0, by rw [e]⟩
  · exact ⟨_, _, rfl⟩

/-- A row of sleepers that is read: by a slice value whose cells lie from block g on. -/
structure Row2 (w : World) (v : Value) (l : List (Int × Int)) : Prop where
  row : ∃ A cap, v = .slice A l.length cap ∧ (0 < l.length → ∃ g, A = some ⟨g, 0, none⟩ ∧ g < w.heap.size ∧ ∀ k, k < l.length → w.cell? ⟨g, k * 2, none⟩ = some (.int .i64 (l.getD k default).1) ∧ w.cell? ⟨g, k * 2 + 1, none⟩ = some (.int .i64 (l.getD k default).2))
  len : l.length ≤ 9223372036854775807

theorem Row2.grow {w w' : World} {v : Value} {l : List (Int × Int)} (h : Row2 w v l) (hg : w.grownBy w' none) : Row2 w' v l := by
  obtain ⟨⟨A, cap, rfl, hr⟩, hl⟩ := h
  refine ⟨⟨A, cap, rfl, fun h0 => ?_⟩, hl⟩
  obtain ⟨g, rfl, hlt, hc⟩ := hr h0
  refine ⟨g, rfl, Nat.lt_of_lt_of_le hlt hg.size, fun k hk => ?_⟩
  have hb := hg.block g hlt (by simp)
  exact ⟨(World.cell?_of_block (a := ⟨g, k * 2, none⟩) hb).trans (hc k hk).1, (World.cell?_of_block (a := ⟨g, k * 2 + 1, none⟩) hb).trans (hc k hk).2⟩

/-- What is asked of a predicate on sleepers: whatever else is made, it answers p, and makes no more than blocks. -/
def Pred (g : Nat) (lb : Array Value) (p : Int × Int → Bool) (w : World) (row : Option Nat) : Prop :=
  ∀ (W : World) (s : Int × Int), w.grownBy W row → Calls Tryd.prog g (#[.agg #[.int .i64 s.1, .int .i64 s.2]] ++ lb) W fun e w' => e = .returned (.bool (p s)) ∧ W.grownBy w' none

/-- The first place at which p holds, or -1. -/
def firstAt (p : Int × Int → Bool) : List (Int × Int) → Nat → Int
  | [], _ => -1
  | s :: l, i => if p s then (i : Int) else firstAt p l (i + 1)

theorem firstAt_miss (p : Int × Int → Bool) (l : List (Int × Int)) (i : Nat) (h : ∀ s ∈ l, p s = false) : firstAt p l i = -1 := by
  induction l generalizing i with
  | nil => rfl
  | cons s l ih =>
    rw [firstAt, h s (by simp)]
    exact ih _ fun t ht => h t (by simp [ht])

theorem firstAt_hit (p : Int × Int → Bool) (l : List (Int × Int)) (i k : Nat) (hk : k < l.length) (hp : p (l.getD k default) = true) (h : ∀ j, j < k → p (l.getD j default) = false) : firstAt p l i = ((i + k : Nat) : Int) := by
  induction l generalizing i k with
  | nil => exact absurd hk (Nat.not_lt_zero _)
  | cons s l ih =>
    rcases k with _ | k
    · have : p s = true := hp
      rw [firstAt, this]
      simp
    · have h0 : p s = false := h 0 (by omega)
      rw [firstAt, h0]
      have := ih (i + 1) k (by simpa using hk) hp (fun j hj => h (j + 1) (by omega))
      simp only [Bool.false_eq_true, if_false]
      rw [this]
      congr 1
      omega

/-- What a call that tells a number, and makes no more than blocks, comes to. -/
def Told1 (r : Int) (w : World) (e : Ending) (w' : World) : Prop := e = .returned (.int .i64 r) ∧ w.grownBy w' none
def Found (p : Int × Int → Bool) (l : List (Int × Int)) (w : World) (e : Ending) (w' : World) : Prop := Told1 (firstAt p l 0) w e w'

end Go.Proofs.YtoljmleomkkchaaDoor

namespace Go.Proofs.YtoljmleomkkchaaDoor
set_option maxRecDepth 100000
open Go.RowKit Go.Shelf

/-- At which place thread t sleeps, or -1. -/
def isThread (t : Int) : Int × Int → Bool := fun s => s.1 == t

/-- What thread t is at: its cell, or -1. -/
def cellOf (l : List (Int × Int)) (t : Int) : Int := ((l.find? (isThread t)).map (·.2)).getD (-1)

theorem firstAt_cases (p : Int × Int → Bool) (l : List (Int × Int)) : (firstAt p l 0 = -1 ∧ ∀ s ∈ l, p s = false) ∨ ∃ k, k < l.length ∧ firstAt p l 0 = (k : Int) ∧ p (l.getD k default) = true ∧ l.find? p = some (l.getD k default) ∧ ∀ j, j < k → p (l.getD j default) = false := by
  induction l with
  | nil => exact .inl ⟨rfl, fun s hs => by cases hs⟩
  | cons s l ih =>
    cases hp : p s with
    | true => exact .inr ⟨0, by simp, by simp [firstAt, hp], hp, by simp [List.find?, hp], fun j hj => absurd hj (Nat.not_lt_zero _)⟩
    | false =>
      rcases ih with ⟨_, h2⟩ | ⟨k, hk, _, h3, h4, h5⟩
      · exact .inl ⟨firstAt_miss p _ 0 (fun t ht => by
          rcases List.mem_cons.1 ht with rfl | ht
          · exact hp
          · exact h2 t ht), fun t ht => by
          rcases List.mem_cons.1 ht with rfl | ht
          · exact hp
          · exact h2 t ht⟩
      · refine .inr ⟨k + 1, by simpa using hk, ?_, h3, ?_, ?_⟩
        · have hall : ∀ j, j < k + 1 → p ((s :: l).getD j default) = false := fun j hj => by
            rcases j with _ | j
            · exact hp
            · exact h5 j (by omega)
          have := firstAt_hit p (s :: l) 0 (k + 1) (by simpa using hk) h3 hall
          rw [this, Nat.zero_add]
        · simp only [List.find?, hp]
          exact h4
        · intro j hj
          rcases j with _ | j
          · exact hp
          · exact h5 j (by omega)

end Go.Proofs.YtoljmleomkkchaaDoor

namespace Go.Proofs.YtoljmleomkkchaaDoor
set_option maxRecDepth 100000
open Go.RowKit Go.Shelf

theorem infoInt : (Tryd.prog.info? 3).map (fun i => (i.zero, i.size, i.bytes)) = some (some (.int .i64 0), 1, 8) := by kernel_rfl

theorem news_one {w : World} {x : Value} {t : TypeId} {n : Nat} (hn : n = w.heap.size) : ∀ j u, [x][j]? = some u → (w.alloc (.cells #[x] t)).cell? ((⟨n, 0, none⟩ : Addr).add j) = some u := by
  subst hn
  exact cell_one_new w x t

/-- The threads of those that sleep at cell c, in order. -/
def threadsAt (l : List (Int × Int)) (c : Int) : List Int := (l.filter (fun s => s.2 == c)).map (·.1)

theorem threadsAt_length (l : List (Int × Int)) (c : Int) : (threadsAt l c).length ≤ l.length := by
  unfold threadsAt
  rw [List.length_map]
  exact List.length_filter_le _ _

theorem threadsAt_take (l : List (Int × Int)) (c : Int) (k : Nat) (hk : k < l.length) :
    threadsAt (l.take (k + 1)) c = threadsAt (l.take k) c ++ (if (l.getD k default).2 == c then [(l.getD k default).1] else []) := by
  unfold threadsAt
  rw [List.take_succ_eq_append_getElem hk, List.filter_append, List.map_append, List.getD_eq_getElem?_getD, List.getElem?_eq_getElem hk]
  congr 1
  simp only [List.filter_cons, List.filter_nil, Option.getD_some]
  split <;> rfl

/-- What a call that tells threads comes to: a row of the call's own. -/
def ToldInts (xs : List Int) (w : World) (e : Ending) (w' : World) : Prop :=
  ∃ v, e = .returned v ∧ w'.ownsRow w.heap.size 3 1 v xs.length (xs.map (Value.int .i64)) ∧ w.grownBy w' none

end Go.Proofs.YtoljmleomkkchaaDoor

namespace Go.Proofs.YtoljmleomkkchaaDoor
set_option maxRecDepth 100000
open Go.RowKit Go.Shelf

/-- Threads that sleep. -/
def sleeps (l : List (Int × Int)) (t : Int) : Prop := ∃ s ∈ l, isThread t s = true

/-- A call that tells an error, or none, and makes no more than blocks. -/
def ToldErr (v : Value) (w : World) (e : Ending) (w' : World) : Prop := e = .returned v ∧ w.grownBy w' none

end Go.Proofs.YtoljmleomkkchaaDoor
