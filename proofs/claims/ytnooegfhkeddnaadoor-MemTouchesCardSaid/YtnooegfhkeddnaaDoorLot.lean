/-
  A lot of package park: a block with how many threads there are and one slice, which owns its sleepers, two cells each.
-/
import Derived.Test.YtnooegfhkeddnaaDoorBase
namespace Go.Proofs.YtnooegfhkeddnaaDoor
set_option maxRecDepth 100000
open Go.RowKit

/-- The cells of a sleeper. -/
def enc2 (s : Int × Int) : List Value := [.int .i64 s.1, .int .i64 s.2]
/-- The cells of sleepers, one behind the other. -/
def cells2 : List (Int × Int) → List Value
  | [] => []
  | s :: l => .int .i64 s.1 :: .int .i64 s.2 :: cells2 l

theorem cells2_length (l : List (Int × Int)) : (cells2 l).length = l.length * 2 := by
  induction l with
  | nil => rfl
  | cons s l ih => simp only [cells2, List.length_cons, ih]; omega

theorem cells2_append (l r : List (Int × Int)) : cells2 (l ++ r) = cells2 l ++ cells2 r := by
  induction l with
  | nil => rfl
  | cons s l ih => simp only [List.cons_append, cells2, ih]

theorem cells2_at (l : List (Int × Int)) (k : Nat) (h : k < l.length) : (cells2 l)[k * 2]? = some (.int .i64 (l.getD k default).1) ∧ (cells2 l)[k * 2 + 1]? = some (.int .i64 (l.getD k default).2) := by
  induction l generalizing k with
  | nil => exact absurd h (Nat.not_lt_zero _)
  | cons s l ih =>
    rcases k with _ | k
    · exact ⟨rfl, rfl⟩
    · have h1 := ih k (by simpa using h)
      rw [show (k + 1) * 2 = k * 2 + 1 + 1 from by omega]
      exact h1

theorem cells2_drop (l : List (Int × Int)) (k : Nat) : (cells2 l).drop (k * 2) = cells2 (l.drop k) := by
  induction l generalizing k with
  | nil => simp [cells2]
  | cons s l ih =>
    rcases k with _ | k
    · rfl
    · rw [show (k + 1) * 2 = k * 2 + 1 + 1 from by omega]
      exact ih k

theorem cells2_take (l : List (Int × Int)) (k : Nat) : (cells2 l).take (k * 2) = cells2 (l.take k) := by
  induction l generalizing k with
  | nil => simp [cells2]
  | cons s l ih =>
    rcases k with _ | k
    · rfl
    · rw [show (k + 1) * 2 = k * 2 + 1 + 1 from by omega]
      simp only [cells2, List.take_succ_cons, ih k]

theorem cells2_one (l : List (Int × Int)) : ∀ u ∈ cells2 l, u.oneCell' = true := by
  induction l with
  | nil => intro u hu; cases hu
  | cons s l ih =>
    intro u hu
    simp only [cells2, List.mem_cons] at hu
    rcases hu with rfl | rfl | hu
    · rfl
    · rfl
    · exact ih u hu

/-- Block p is a lot of nt threads; l are those that sleep, in the order of falling asleep; v is its slice, which owns them. -/
structure Lot (w : World) (B p : Nat) (nt : Int) (v : Value) (l : List (Int × Int)) : Prop where
  at_ : w.heap[p]? = some (.cells #[.int .i64 nt, v] 82 (0, 0))
  own : w.ownsRow B 87 2 v l.length (cells2 l)
  lo : B ≤ p

theorem Lot.lt {w : World} {B p : Nat} {nt : Int} {v : Value} {l : List (Int × Int)} (h : Lot w B p nt v l) : p < w.heap.size := lt_of_block h.at_

theorem Lot.cells {w : World} {B p : Nat} {nt : Int} {v : Value} {l : List (Int × Int)} (h : Lot w B p nt v l) : w.cell? ⟨p, 0, none⟩ = some (.int .i64 nt) ∧ w.cell? ⟨p, 1, none⟩ = some v ∧ w.frozen? ⟨p, 1, none⟩ = false :=
  ⟨by rw [cell_of_row w p 0 _ _ _ h.at_]; rfl, by rw [cell_of_row w p 1 _ _ _ h.at_]; rfl, frozen_of_row w p 1 _ _ h.at_⟩

theorem Lot.apart {w : World} {B p : Nat} {nt : Int} {v : Value} {l : List (Int × Int)} (h : Lot w B p nt v l) : v.ownBlock ≠ some p := by
  rcases h.own.2 with ⟨rfl, _⟩ | ⟨g, cap, cur, rfl, _, hh, _⟩
  · simp [Value.ownBlock]
  · intro he
    obtain rfl : g = p := by simpa [Value.ownBlock] using he
    have := h.at_
    rw [hh] at this
    injection this with this
    injection this with _ ht
    exact absurd ht (by decide)

theorem Lot.grown {w w' : World} {B p : Nat} {nt : Int} {v : Value} {l : List (Int × Int)} (h : Lot w B p nt v l) {row : Option Nat} (hg : w.grownBy w' row) (h1 : some p ≠ row) (h2 : row = none ∨ v.ownBlock ≠ row) : Lot w' B p nt v l :=
  ⟨(hg.block p h.lt h1).trans h.at_, h.own.kept hg (by
    rcases h2 with rfl | h2
    · cases v.ownBlock <;> simp
    · exact .inr h2), h.lo⟩

theorem Lot.grow {w w' : World} {B p : Nat} {nt : Int} {v : Value} {l : List (Int × Int)} (h : Lot w B p nt v l) (hg : w.grownBy w' none) : Lot w' B p nt v l := h.grown hg (by simp) (.inl rfl)

/-- Where there is a sleeper: the slice's form, and the sleeper's two cells. -/
theorem Lot.form {w : World} {B p : Nat} {nt : Int} {v : Value} {l : List (Int × Int)} (h : Lot w B p nt v l) {k : Nat} (hk : k < l.length) :
    ∃ g cap, v = .slice (some ⟨g, 0, none⟩) l.length cap ∧ B ≤ g ∧ g < w.heap.size ∧ w.cell? ⟨g, k * 2, none⟩ = some (.int .i64 (l.getD k default).1) ∧ w.cell? ⟨g, k * 2 + 1, none⟩ = some (.int .i64 (l.getD k default).2) := by
  obtain ⟨g, cap, rfl, hb, hlt⟩ := h.own.form (by omega)
  obtain ⟨h1, h2⟩ := cells2_at l k hk
  exact ⟨g, cap, rfl, hb, hlt, (h.own.cellAt (k * 2) (by omega)).trans h1, (h.own.cellAt (k * 2 + 1) (by omega)).trans h2⟩

theorem slice_of_own2 {w : World} {B e sz : Nat} {v : Value} {n : Nat} {xs : List Value} (h : w.ownsRow B e sz v n xs) : ∃ A c, v = .slice A n c := by
  rcases h.2 with ⟨rfl, e⟩ | ⟨g, cap, cur, rfl, _⟩
  · exact ⟨none, 0, by rw [e]⟩
  · exact ⟨_, _, rfl⟩

/-- A row of sleepers that is read: by a slice value whose cells lie from block g on. -/
structure Row2 (w : World) (v : Value) (l : List (Int × Int)) : Prop where
  row : ∃ A cap, v = .slice A l.length cap ∧ (0 < l.length → ∃ g, A = some ⟨g, 0, none⟩ ∧ g < w.heap.size ∧ ∀ k, k < l.length → w.cell? ⟨g, k * 2, none⟩ = some (.int .i64 (l.getD k default).1) ∧ w.cell? ⟨g, k * 2 + 1, none⟩ = some (.int .i64 (l.getD k default).2))
  len : l.length ≤ 9223372036854775807

theorem Lot.row2 {w : World} {B p : Nat} {nt : Int} {v : Value} {l : List (Int × Int)} (h : Lot w B p nt v l) : Row2 w v l := by
  constructor
  · rcases h.own.2 with ⟨rfl, e⟩ | ⟨g, cap, cur, rfl, hb, hh, _⟩
    · exact ⟨none, 0, by rw [e], fun h0 => absurd e (by omega)⟩
    · refine ⟨_, _, rfl, fun _ => ⟨g, rfl, lt_of_block hh, fun k hk => ?_⟩⟩
      obtain ⟨h1, h2⟩ := cells2_at l k hk
      exact ⟨(h.own.cellAt (k * 2) (by omega)).trans h1, (h.own.cellAt (k * 2 + 1) (by omega)).trans h2⟩
  · rcases h.own.2 with ⟨_, e⟩ | ⟨g, cap, cur, _, _, _, h1, h2, _⟩
    · omega
    · unfold maxLen at h2
      omega

theorem Row2.grow {w w' : World} {v : Value} {l : List (Int × Int)} (h : Row2 w v l) (hg : w.grownBy w' none) : Row2 w' v l := by
  obtain ⟨⟨A, cap, rfl, hr⟩, hl⟩ := h
  refine ⟨⟨A, cap, rfl, fun h0 => ?_⟩, hl⟩
  obtain ⟨g, rfl, hlt, hc⟩ := hr h0
  refine ⟨g, rfl, Nat.lt_of_lt_of_le hlt hg.size, fun k hk => ?_⟩
  have hb := hg.block g hlt (by simp)
  exact ⟨(World.cell?_of_block (a := ⟨g, k * 2, none⟩) hb).trans (hc k hk).1, (World.cell?_of_block (a := ⟨g, k * 2 + 1, none⟩) hb).trans (hc k hk).2⟩

/-- What is asked of a predicate on sleepers: whatever else is made, it answers p, and makes no more than blocks. -/
def Pred (g : Nat) (lb : Array Value) (p : Int × Int → Bool) (w : World) (row : Option Nat) : Prop :=
  ∀ (W : World) (s : Int × Int), w.grownBy W row → Calls Tryd.prog g (#[.agg #[.int .i64 s.1, .int .i64 s.2]] ++ lb) W fun e w' => e = .returned (.bool (p s)) ∧ W.grownBy w' none

/-- The first place at which p holds, or -1. -/
def firstAt (p : Int × Int → Bool) : List (Int × Int) → Nat → Int
  | [], _ => -1
  | s :: l, i => if p s then (i : Int) else firstAt p l (i + 1)

theorem firstAt_miss (p : Int × Int → Bool) (l : List (Int × Int)) (i : Nat) (h : ∀ s ∈ l, p s = false) : firstAt p l i = -1 := by
  induction l generalizing i with
  | nil => rfl
  | cons s l ih =>
    rw [firstAt, h s (by simp)]
    exact ih _ fun t ht => h t (by simp [ht])

theorem firstAt_hit (p : Int × Int → Bool) (l : List (Int × Int)) (i k : Nat) (hk : k < l.length) (hp : p (l.getD k default) = true) (h : ∀ j, j < k → p (l.getD j default) = false) : firstAt p l i = ((i + k : Nat) : Int) := by
  induction l generalizing i k with
  | nil => exact absurd hk (Nat.not_lt_zero _)
  | cons s l ih =>
    rcases k with _ | k
    · have : p s = true := hp
      rw [firstAt, this]
      simp
    · have h0 : p s = false := h 0 (by omega)
      rw [firstAt, h0]
      have := ih (i + 1) k (by simpa using hk) hp (fun j hj => h (j + 1) (by omega))
      simp only [Bool.false_eq_true, if_false]
      rw [this]
      congr 1
      omega

/-- What a call that tells a number, and makes no more than blocks, comes to. -/
def Told1 (r : Int) (w : World) (e : Ending) (w' : World) : Prop := e = .returned (.int .i64 r) ∧ w.grownBy w' none
def Found (p : Int × Int → Bool) (l : List (Int × Int)) (w : World) (e : Ending) (w' : World) : Prop := Told1 (firstAt p l 0) w e w'

set_option maxHeartbeats 400000 in
theorem indexFuncS_any {w : World} {v : Value} {l : List (Int × Int)} (h : Row2 w v l) (p : Int × Int → Bool) (g : Nat) (lb : Array Value) (eg : ∀ args w, (callFunc g args).run Tryd.prog w = .ok (.enter g args) w) (row : Option Nat) (hp : Pred g lb p w row) :
    Calls Tryd.prog 55 #[v, .func (.func g) #[] lb] w (Found p l w) := by
  have hlen := h.len
  obtain ⟨A, cap, rfl, hr⟩ := h.row
  obtain ⟨n, hn⟩ : ∃ n, l.length = n := ⟨_, rfl⟩
  rw [hn] at hlen hr ⊢
  have HN := Lib.hid hn
  have H := Lib.hid h
  have HP := Lib.hid hp
  clear h hp hn
  go_enter Tryd.func55, Tryd.ntmps55
  go_wp2
  go_loopw [5, 8] (fun _ j wr => ∃ k : Nat, k ≤ n ∧ j = .int .i64 k ∧ w.grownBy wr none ∧ Hid (∀ j, j < k → p (l.getD j default) = false)) (fun _ j _ => n - (intOf j).toNat)
  case atStart => exact ⟨0, Nat.zero_le _, rfl, World.grownBy.refl w _, fun j hj => absurd hj (Nat.not_lt_zero _)⟩
  case round =>
    obtain ⟨k, hk, rfl, hg, hall⟩ := hrel
    by_cases hlt : k < n
    · have hkn : (k : Int) < (n : Int) := by omega
      obtain ⟨b, rfl, hb, hc⟩ := hr (by omega)
      obtain ⟨c1, c2⟩ := hc k hlt
      have hbl := hg.block b hb (by simp)
      have d1 := (World.cell?_of_block (a := ⟨b, k * 2, none⟩) hbl).trans c1
      have d2 := (World.cell?_of_block (a := ⟨b, k * 2 + 1, none⟩) hbl).trans c2
      obtain ⟨s, hs⟩ : ∃ s, l.getD k default = s := ⟨_, rfl⟩
      rw [hs] at d1 d2
      have HS := Lib.hid hs
      have HC := Lib.hid (And.intro hg hall.out)
      have hcall := HP.out wr s (hg.but row)
      clear hc c1 c2 hbl hr hs hg hall
      cases hq : p s with
      | true =>
        rw [hq] at hcall
        have HQ := Lib.hid hq
        have HCALL := Lib.hid hcall
        clear hq hcall
        go_wp2_with fail
        refine HCALL.out.mono ?_
        rintro e w' ⟨rfl, hg'⟩
        go_wp2
        go_ret
        refine ⟨ret_int ?_, HC.out.1.andThen hg' (by intro j hj; cases hj)⟩
        rw [firstAt_hit p l 0 k (by rw [HN.out]; exact hlt) (by rw [HS.out]; exact HQ.out) HC.out.2, Nat.zero_add]
      | false =>
        rw [hq] at hcall
        have HQ := Lib.hid hq
        have HCALL := Lib.hid hcall
        clear hq hcall
        go_wp2_with fail
        refine HCALL.out.mono ?_
        rintro e w' ⟨rfl, hg'⟩
        have hg2 := HC.out.1.andThen hg' (by intro j hj; cases hj)
        go_wp2
        go_roundw
        case rel =>
          refine ⟨k + 1, by omega, by go_num, hg2, Lib.hid fun j hj => ?_⟩
          by_cases e : j = k
          · subst e; rw [HS.out]; exact HQ.out
          · exact HC.out.2 j (by omega)
        case measure => simp [intOf]; omega
    · have hkn : ¬ (k : Int) < (n : Int) := by omega
      have HC := Lib.hid (And.intro hg hall.out)
      clear hg hall
      go_wp2
      go_ret
      refine ⟨ret_int ?_, HC.out.1⟩
      rw [firstAt_miss p l 0 (fun s hs => ?_)]
      obtain ⟨j, hj, rfl⟩ := List.mem_iff_getElem.1 hs
      have := HC.out.2 j (by have := HN.out; omega)
      rw [List.getD_eq_getElem?_getD, List.getElem?_eq_getElem hj] at this
      exact this
end Go.Proofs.YtnooegfhkeddnaaDoor
