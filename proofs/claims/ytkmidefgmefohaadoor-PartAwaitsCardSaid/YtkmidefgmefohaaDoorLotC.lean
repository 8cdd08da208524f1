/-
  A lot of package park: a block with how many threads there are and one slice, which owns its sleepers, two cells each. Lots that are only asked: find, has, Cell, At; and a new one. Lots: who sleeps at a cell (At), and falling asleep (Sleep). Lots: falling asleep (Sleep).
-/
import Derived.Test.YtkmidefgmefohaaDoorBase
import Derived.Shelf.Abstract
namespace Go.Proofs.YtkmidefgmefohaaDoor
set_option maxRecDepth 100000
open Go.RowKit

/-- The cells of a sleeper. -/
def enc2 (s : Int × Int) : List Value := [.int .i64 s.1, .int .i64 s.2]
/-- The cells of sleepers, one behind the other. -/
def cells2 : List (Int × Int) → List Value
  | [] => []
  | s :: l => .int .i64 s.1 :: .int .i64 s.2 :: cells2 l

theorem cells2_length (l : List (Int × Int)) : (cells2 l).length = l.length * 2 := by
  induction l with
  | nil => rfl
  | cons s l ih => simp only [cells2, List.length_cons, ih]; omega

theorem cells2_append (l r : List (Int × Int)) : cells2 (l ++ r) = cells2 l ++ cells2 r := by
  induction l with
  | nil => rfl
  | cons s l ih => simp only [List.cons_append, cells2, ih]

theorem cells2_at (l : List (Int × Int)) (k : Nat) (h : k < l.length) : (cells2 l)[k * 2]? = some (.int .i64 (l.getD k default).1) ∧ (cells2 l)[k * 2 + 1]? = some (.int .i64 (l.getD k default).2) := by
  induction l generalizing k with
  | nil => exact absurd h (Nat.not_lt_zero _)
  | cons s l ih =>
    rcases k with _ | k
    · exact ⟨rfl, rfl⟩
    · have h1 := ih k (by simpa using h)
      rw [show (k + 1) * 2 = k * 2 + 1 + 1 from by omega]
      exact h1

theorem cells2_drop (l : List (Int × Int)) (k : Nat) : (cells2 l).drop (k * 2) = cells2 (l.drop k) := by
  induction l generalizing k with
  | nil => simp [cells2]
  | cons s l ih =>
    rcases k with _ | k
    · rfl
    · rw [show (k + 1) * 2 = k * 2 + 1 + 1 from by omega]
      exact ih k

theorem cells2_take (l : List (Int × Int)) (k : Nat) : (cells2 l).take (k * 2) = cells2 (l.take k) := by
  induction l generalizing k with
  | nil => simp [cells2]
  | cons s l ih =>
    rcases k with _ | k
    · rfl
    · rw [show (k + 1) * 2 = k * 2 + 1 + 1 from by omega]
      simp only [cells2, List.take_succ_cons, ih k]

theorem cells2_one (l : List (Int × Int)) : ∀ u ∈ cells2 l, u.oneCell' = true := by
  induction l with
  | nil => intro u hu; cases hu
  | cons s l ih =>
    intro u hu
    simp only [cells2, List.mem_cons] at hu
    rcases hu with rfl | rfl | hu
    · rfl
    · rfl
    · exact ih u hu

/-- Block p is a lot of nt threads; l are those that sleep, in the order of falling asleep; v is its slice, which owns them. -/
structure Lot (w : World) (B p : Nat) (nt : Int) (v : Value) (l : List (Int × Int)) : Prop where
  at_ : w.heap[p]? = some (.cells #[.int .i64 nt, v] 97 (0, 0))
  own : w.ownsRow B 107 2 v l.length (cells2 l)
  lo : B ≤ p

theorem Lot.lt {w : World} {B p : Nat} {nt : Int} {v : Value} {l : List (Int × Int)} (h : Lot w B p nt v l) : p < w.heap.size := lt_of_block h.at_

theorem Lot.cells {w : World} {B p : Nat} {nt : Int} {v : Value} {l : List (Int × Int)} (h : Lot w B p nt v l) : w.cell? ⟨p, 0, none⟩ = some (.int .i64 nt) ∧ w.cell? ⟨p, 1, none⟩ = some v ∧ w.frozen? ⟨p, 1, none⟩ = false :=
  ⟨by rw [cell_of_row w p 0 _ _ _ h.at_]; rfl, by rw [cell_of_row w p 1 _ _ _ h.at_]; rfl, frozen_of_row w p 1 _ _ h.at_⟩

theorem Lot.apart {w : World} {B p : Nat} {nt : Int} {v : Value} {l : List (Int × Int)} (h : Lot w B p nt v l) : v.ownBlock ≠ some p := by
  rcases h.own.2 with ⟨rfl, _⟩ | ⟨g, cap, cur, rfl, _, hh, _⟩
  · simp [Value.ownBlock]
  · intro he
    obtain rfl : g = p := by simpa [Value.ownBlock] using he
    have := h.at_
    rw [hh] at this
    injection this with this
    injection this with _ ht
    exact absurd ht (by decide)

theorem Lot.grown {w w' : World} {B p : Nat} {nt : Int} {v : Value} {l : List (Int × Int)} (h : Lot w B p nt v l) {row : Option Nat} (hg : w.grownBy w' row) (h1 : some p ≠ row) (h2 : row = none ∨ v.ownBlock ≠ row) : Lot w' B p nt v l :=
  ⟨(hg.block p h.lt h1).trans h.at_, h.own.kept hg (by
    rcases h2 with rfl | h2
    · cases v.ownBlock <;> simp
    · exact .inr h2), h.lo⟩

theorem Lot.grow {w w' : World} {B p : Nat} {nt : Int} {v : Value} {l : List (Int × Int)} (h : Lot w B p nt v l) (hg : w.grownBy w' none) : Lot w' B p nt v l := h.grown hg (by simp) (.inl rfl)

/-- Where there is a sleeper: the slice's form, and the sleeper's two cells. -/
theorem Lot.form {w : World} {B p : Nat} {nt : Int} {v : Value} {l : List (Int × Int)} (h : Lot w B p nt v l) {k : Nat} (hk : k < l.length) :
    ∃ g cap, v = .slice (some ⟨g, 0, none⟩) l.length cap ∧ B ≤ g ∧ g < w.heap.size ∧ w.cell? ⟨g, k * 2, none⟩ = some (.int .i64 (l.getD k default).1) ∧ w.cell? ⟨g, k * 2 + 1, none⟩ = some (.int .i64 (l.getD k default).2) := by
  obtain ⟨g, cap, rfl, hb, hlt⟩ := h.own.form (by omega)
  obtain ⟨h1, h2⟩ := cells2_at l k hk
  exact ⟨g, cap, rfl, hb, hlt, (h.own.cellAt (k * 2) (by omega)).trans h1, (h.own.cellAt (k * 2 + 1) (by omega)).trans h2⟩

theorem slice_of_own2 {w : World} {B e sz : Nat} {v : Value} {n : Nat} {xs : List Value} (h : w.ownsRow B e sz v n xs) : ∃ A c, v = .slice A n c := by
  rcases h.2 with ⟨rfl, e⟩ | ⟨g, cap, cur, rfl, _⟩
  · exact ⟨none, 0, by rw [e]⟩
  · exact ⟨_, _, rfl⟩

/-- A row of sleepers that is read: by a slice value whose cells lie from block g on. -/
structure Row2 (w : World) (v : Value) (l : List (Int × Int)) : Prop where
  row : ∃ A cap, v = .slice A l.length cap ∧ (0 < l.length → ∃ g, A = some ⟨g, 0, none⟩ ∧ g < w.heap.size ∧ ∀ k, k < l.length → w.cell? ⟨g, k * 2, none⟩ = some (.int .i64 (l.getD k default).1) ∧ w.cell? ⟨g, k * 2 + 1, none⟩ = some (.int .i64 (l.getD k default).2))
  len : l.length ≤ 9223372036854775807

theorem Lot.row2 {w : World} {B p : Nat} {nt : Int} {v : Value} {l : List (Int × Int)} (h : Lot w B p nt v l) : Row2 w v l := by
  constructor
  · rcases h.own.2 with ⟨rfl, e⟩ | ⟨g, cap, cur, rfl, hb, hh, _⟩
    · exact ⟨none, 0, by rw [e], fun h0 => absurd e (by omega)⟩
    · refine ⟨_, _, rfl, fun _ => ⟨g, rfl, lt_of_block hh, fun k hk => ?_⟩⟩
      obtain ⟨h1, h2⟩ := cells2_at l k hk
      exact ⟨(h.own.cellAt (k * 2) (by omega)).trans h1, (h.own.cellAt (k * 2 + 1) (by omega)).trans h2⟩
  · rcases h.own.2 with ⟨_, e⟩ | ⟨g, cap, cur, _, _, _, h1, h2, _⟩
    · omega
    · unfold maxLen at h2
      omega

theorem Row2.grow {w w' : World} {v : Value} {l : List (Int × Int)} (h : Row2 w v l) (hg : w.grownBy w' none) : Row2 w' v l := by
  obtain ⟨⟨A, cap, rfl, hr⟩, hl⟩ := h
  refine ⟨⟨A, cap, rfl, fun h0 => ?_⟩, hl⟩
  obtain ⟨g, rfl, hlt, hc⟩ := hr h0
  refine ⟨g, rfl, Nat.lt_of_lt_of_le hlt hg.size, fun k hk => ?_⟩
  have hb := hg.block g hlt (by simp)
  exact ⟨(World.cell?_of_block (a := ⟨g, k * 2, none⟩) hb).trans (hc k hk).1, (World.cell?_of_block (a := ⟨g, k * 2 + 1, none⟩) hb).trans (hc k hk).2⟩

/-- What is asked of a predicate on sleepers: whatever else is made, it answers p, and makes no more than blocks. -/
def Pred (g : Nat) (lb : Array Value) (p : Int × Int → Bool) (w : World) (row : Option Nat) : Prop :=
  ∀ (W : World) (s : Int × Int), w.grownBy W row → Calls Tryd.prog g (#[.agg #[.int .i64 s.1, .int .i64 s.2]] ++ lb) W fun e w' => e = .returned (.bool (p s)) ∧ W.grownBy w' none

/-- The first place at which p holds, or -1. -/
def firstAt (p : Int × Int → Bool) : List (Int × Int) → Nat → Int
  | [], _ => -1
  | s :: l, i => if p s then (i : Int) else firstAt p l (i + 1)

theorem firstAt_miss (p : Int × Int → Bool) (l : List (Int × Int)) (i : Nat) (h : ∀ s ∈ l, p s = false) : firstAt p l i = -1 := by
  induction l generalizing i with
  | nil => rfl
  | cons s l ih =>
    rw [firstAt, h s (by simp)]
    exact ih _ fun t ht => h t (by simp [ht])

theorem firstAt_hit (p : Int × Int → Bool) (l : List (Int × Int)) (i k : Nat) (hk : k < l.length) (hp : p (l.getD k default) = true) (h : ∀ j, j < k → p (l.getD j default) = false) : firstAt p l i = ((i + k : Nat) : Int) := by
  induction l generalizing i k with
  | nil => exact absurd hk (Nat.not_lt_zero _)
  | cons s l ih =>
    rcases k with _ | k
    · have : p s = true := hp
      rw [firstAt, this]
      simp
    · have h0 : p s = false := h 0 (by omega)
      rw [firstAt, h0]
      have := ih (i + 1) k (by simpa using hk) hp (fun j hj => h (j + 1) (by omega))
      simp only [Bool.false_eq_true, if_false]
      rw [this]
      congr 1
      omega

/-- What a call that tells a number, and makes no more than blocks, comes to. -/
def Told1 (r : Int) (w : World) (e : Ending) (w' : World) : Prop := e = .returned (.int .i64 r) ∧ w.grownBy w' none
def Found (p : Int × Int → Bool) (l : List (Int × Int)) (w : World) (e : Ending) (w' : World) : Prop := Told1 (firstAt p l 0) w e w'

set_option maxHeartbeats 400000 in
theorem indexFuncS_any {w : World} {v : Value} {l : List (Int × Int)} (h : Row2 w v l) (p : Int × Int → Bool) (g : Nat) (lb : Array Value) (eg : ∀ args w, (callFunc g args).run Tryd.prog w = .ok (.enter g args) w) (row : Option Nat) (hp : Pred g lb p w row) :
    Calls Tryd.prog 69 #[v, .func (.func g) #[] lb] w (Found p l w) := by
  have hlen := h.len
  obtain ⟨A, cap, rfl, hr⟩ := h.row
  obtain ⟨n, hn⟩ : ∃ n, l.length = n := ⟨_, rfl⟩
  rw [hn] at hlen hr ⊢
  have HN := Lib.hid hn
  have H := Lib.hid h
  have HP := Lib.hid hp
  clear h hp hn
  go_enter Tryd.func69, Tryd.ntmps69
  go_wp2
  go_loopw [5, 8] (fun _ j wr => ∃ k : Nat, k ≤ n ∧ j = .int .i64 k ∧ w.grownBy wr none ∧ Hid (∀ j, j < k → p (l.getD j default) = false)) (fun _ j _ => n - (intOf j).toNat)
  case atStart => exact ⟨0, Nat.zero_le _, rfl, World.grownBy.refl w _, fun j hj => absurd hj (Nat.not_lt_zero _)⟩
  case round =>
    obtain ⟨k, hk, rfl, hg, hall⟩ := hrel
    by_cases hlt : k < n
    · have hkn : (k : Int) < (n : Int) := by omega
      obtain ⟨b, rfl, hb, hc⟩ := hr (by omega)
      obtain ⟨c1, c2⟩ := hc k hlt
      have hbl := hg.block b hb (by simp)
      have d1 := (World.cell?_of_block (a := ⟨b, k * 2, none⟩) hbl).trans c1
      have d2 := (World.cell?_of_block (a := ⟨b, k * 2 + 1, none⟩) hbl).trans c2
      obtain ⟨s, hs⟩ : ∃ s, l.getD k default = s := ⟨_, rfl⟩
      rw [hs] at d1 d2
      have HS := Lib.hid hs
      have HC := Lib.hid (And.intro hg hall.out)
      have hcall := HP.out wr s (hg.but row)
      clear hc c1 c2 hbl hr hs hg hall
      cases hq : p s with
      | true =>
        rw [hq] at hcall
        have HQ := Lib.hid hq
        have HCALL := Lib.hid hcall
        clear hq hcall
        go_wp2_with fail
        refine HCALL.out.mono ?_
        rintro e w' ⟨rfl, hg'⟩
        go_wp2
        go_ret
        refine ⟨ret_int ?_, HC.out.1.andThen hg' (by intro j hj; cases hj)⟩
        rw [firstAt_hit p l 0 k (by rw [HN.out]; exact hlt) (by rw [HS.out]; exact HQ.out) HC.out.2, Nat.zero_add]
      | false =>
        rw [hq] at hcall
        have HQ := Lib.hid hq
        have HCALL := Lib.hid hcall
        clear hq hcall
        go_wp2_with fail
        refine HCALL.out.mono ?_
        rintro e w' ⟨rfl, hg'⟩
        have hg2 := HC.out.1.andThen hg' (by intro j hj; cases hj)
        go_wp2
        go_roundw
        case rel =>
          refine ⟨k + 1, by omega, by go_num, hg2, Lib.hid fun j hj => ?_⟩
          by_cases e : j = k
          · subst e; rw [HS.out]; exact HQ.out
          · exact HC.out.2 j (by omega)
        case measure => simp [intOf]; omega
    · have hkn : ¬ (k : Int) < (n : Int) := by omega
      have HC := Lib.hid (And.intro hg hall.out)
      clear hg hall
      go_wp2
      go_ret
      refine ⟨ret_int ?_, HC.out.1⟩
      rw [firstAt_miss p l 0 (fun s hs => ?_)]
      obtain ⟨j, hj, rfl⟩ := List.mem_iff_getElem.1 hs
      have := HC.out.2 j (by have := HN.out; omega)
      rw [List.getD_eq_getElem?_getD, List.getElem?_eq_getElem hj] at this
      exact this
end Go.Proofs.YtkmidefgmefohaaDoor

namespace Go.Proofs.YtkmidefgmefohaaDoor
set_option maxRecDepth 100000
open Go.RowKit Go.Shelf

/-- At which place thread t sleeps, or -1. -/
def isThread (t : Int) : Int × Int → Bool := fun s => s.1 == t

theorem findc_any (t : Int) (b : Nat) (s : Int × Int) (W : World) (hc : W.cell? ⟨b, 0, none⟩ = some (.int .i64 t)) :
    Calls Tryd.prog 70 #[.agg #[.int .i64 s.1, .int .i64 s.2], .pointer (some ⟨b, 0, none⟩)] W fun e w' => e = .returned (.bool (isThread t s)) ∧ W.grownBy w' none := by
  have hb : b < W.heap.size := World.block_lt_of_cell? W _ hc
  have hne : b ≠ W.heap.size := by omega
  have hd : isThread t s = (s.1 == t) := rfl
  obtain ⟨r, hr⟩ : ∃ r, isThread t s = r := ⟨_, rfl⟩
  rw [hr] at hd ⊢
  rcases s with ⟨s1, s2⟩
  clear hr
  have hd' : (s1 == t) = r := hd.symm
  clear hd
  cases r
  all_goals
    go_enter Tryd.func70, Tryd.ntmps70
    go_wp2
    go_ret
    exact ⟨rfl, World.grownBy_alloc _ _ _⟩

set_option maxHeartbeats 400000 in
theorem find_any {w : World} {B p : Nat} {nt : Int} {v : Value} {l : List (Int × Int)} (h : Lot w B p nt v l) (t : Int) :
    Calls Tryd.prog 55 #[.pointer (some ⟨p, 0, none⟩), .int .i64 t] w (Found (isThread t) l w) := by
  have eg : ∀ args w, (callFunc 70 args).run Tryd.prog w = .ok (.enter 70 args) w := enters_of Tryd.func70 (by kernel_rfl) rfl
  have hg0 := World.grownBy_alloc w (.cells #[.int .i64 t] 3) none
  have h1 := h.grow hg0
  have hp : Pred 70 #[.pointer (some ⟨w.heap.size, 0, none⟩)] (isThread t) (w.alloc (.cells #[.int .i64 t] 3)) none := by
    intro W s hg
    refine findc_any t w.heap.size s W ?_
    have hb := hg.block w.heap.size (by simp) (by simp)
    exact (World.cell?_of_block (a := ⟨w.heap.size, 0, none⟩) hb).trans (by simp)
  have hI := indexFuncS_any h1.row2 (isThread t) 70 _ eg none hp
  unfold Found at hI ⊢
  generalize firstAt (isThread t) l 0 = r at hI ⊢
  have hc := h.cells
  obtain ⟨hc0, hc1, _⟩ := hc
  have hplt := h.lt
  have hpne : p ≠ w.heap.size := by omega
  obtain ⟨A, c, rfl⟩ : ∃ A c, v = .slice A l.length c := by
    rcases h.own.2 with ⟨rfl, e⟩ | ⟨g, cap, cur, rfl, _⟩
    · exact ⟨none, 0, by rw [e]⟩
    · exact ⟨_, _, rfl⟩
  have HI := Lib.hid hI
  have H0 := Lib.hid hg0
  clear h h1 hp hI eg hg0
  go_enter Tryd.func55, Tryd.ntmps55
  go_wp2_with fail
  refine HI.out.mono ?_
  rintro e w' ⟨rfl, hg'⟩
  have hg2 := H0.out.andThen hg' (by intro j hj; cases hj)
  clear HI H0 hg' hc0 hc1
  go_wp2
  go_ret
  exact ⟨rfl, hg2⟩

theorem has_yes {w : World} {B p : Nat} {nt : Int} {v : Value} {l : List (Int × Int)} (h : Lot w B p nt v l) (t : Int) (h0 : 0 ≤ t) (h1 : t < nt) :
    Calls Tryd.prog 75 #[.pointer (some ⟨p, 0, none⟩), .int .i64 t] w fun e w' => e = .returned (.bool true) ∧ w = w' := by
  obtain ⟨hc0, _, _⟩ := h.cells
  clear h
  go_enter Tryd.func75, Tryd.ntmps75
  go_wp2
  go_ret
  exact ⟨rfl, rfl⟩

theorem has_no {w : World} {B p : Nat} {nt : Int} {v : Value} {l : List (Int × Int)} (h : Lot w B p nt v l) (t : Int) (ht : t < 0 ∨ nt ≤ t) :
    Calls Tryd.prog 75 #[.pointer (some ⟨p, 0, none⟩), .int .i64 t] w fun e w' => e = .returned (.bool false) ∧ w = w' := by
  obtain ⟨hc0, _, _⟩ := h.cells
  clear h
  rcases Int.lt_or_le t 0 with h0 | h0
  · have h0' : ¬ 0 ≤ t := by omega
    go_enter Tryd.func75, Tryd.ntmps75
    go_wp2
    go_ret
    exact ⟨rfl, rfl⟩
  · have h1 : ¬ t < nt := by omega
    clear ht
    go_enter Tryd.func75, Tryd.ntmps75
    go_wp2
    go_ret
    exact ⟨rfl, rfl⟩

/-- What a call that makes a lot comes to. -/
def MadeLot (w : World) (nt : Int) (e : Ending) (w' : World) : Prop :=
  ∃ p v, e = .returned (.tuple #[.pointer (some ⟨p, 0, none⟩), .nilIface]) ∧ Lot w' w.heap.size p nt v [] ∧ w.grownBy w' none

theorem pnew_ok {w : World} (n : Int) (h0 : 0 ≤ n) (h1 : n ≤ 16) : Calls Tryd.prog 33 #[.int .i64 n] w (MadeLot w n) := by
  have h0' : ¬ n < 0 := by omega
  have h1' : ¬ 16 < n := by omega
  have hL : Lot (w.alloc (.cells #[.int .i64 n, .slice none 0 0] 97)) w.heap.size w.heap.size n (.slice none 0 0) [] := ⟨heap_alloc_new w _, World.ownsRow_nil _ _ _ _, Nat.le_refl _⟩
  have HL := Lib.hid hL
  clear hL
  go_enter Tryd.func33, Tryd.ntmps33
  go_wp2
  go_ret2
  exact ⟨w.heap.size, _, rfl, HL.out, World.grownBy_alloc _ _ _⟩

/-- What thread t is at: its cell, or -1. -/
def cellOf (l : List (Int × Int)) (t : Int) : Int := ((l.find? (isThread t)).map (·.2)).getD (-1)

theorem firstAt_cases (p : Int × Int → Bool) (l : List (Int × Int)) : (firstAt p l 0 = -1 ∧ ∀ s ∈ l, p s = false) ∨ ∃ k, k < l.length ∧ firstAt p l 0 = (k : Int) ∧ p (l.getD k default) = true ∧ l.find? p = some (l.getD k default) ∧ ∀ j, j < k → p (l.getD j default) = false := by
  induction l with
  | nil => exact .inl ⟨rfl, fun s hs => by cases hs⟩
  | cons s l ih =>
    cases hp : p s with
    | true => exact .inr ⟨0, by simp, by simp [firstAt, hp], hp, by simp [List.find?, hp], fun j hj => absurd hj (Nat.not_lt_zero _)⟩
    | false =>
      rcases ih with ⟨_, h2⟩ | ⟨k, hk, _, h3, h4, h5⟩
      · exact .inl ⟨firstAt_miss p _ 0 (fun t ht => by
          rcases List.mem_cons.1 ht with rfl | ht
          · exact hp
          · exact h2 t ht), fun t ht => by
          rcases List.mem_cons.1 ht with rfl | ht
          · exact hp
          · exact h2 t ht⟩
      · refine .inr ⟨k + 1, by simpa using hk, ?_, h3, ?_, ?_⟩
        · have hall : ∀ j, j < k + 1 → p ((s :: l).getD j default) = false := fun j hj => by
            rcases j with _ | j
            · exact hp
            · exact h5 j (by omega)
          have := firstAt_hit p (s :: l) 0 (k + 1) (by simpa using hk) h3 hall
          rw [this, Nat.zero_add]
        · simp only [List.find?, hp]
          exact h4
        · intro j hj
          rcases j with _ | j
          · exact hp
          · exact h5 j (by omega)

set_option maxHeartbeats 400000 in
theorem cell_any {w : World} {B p : Nat} {nt : Int} {v : Value} {l : List (Int × Int)} (h : Lot w B p nt v l) (t : Int) :
    Calls Tryd.prog 45 #[.pointer (some ⟨p, 0, none⟩), .int .i64 t] w (Told1 (cellOf l t) w) := by
  have hf := find_any h t
  rcases firstAt_cases (isThread t) l with ⟨e1, hall⟩ | ⟨k, hk, e1, _, hfind, _⟩
  · unfold Found at hf
    rw [e1] at hf
    have hn : cellOf l t = -1 := by
      unfold cellOf
      rw [List.find?_eq_none.2 (fun s hs => by rw [hall s hs]; simp)]
      rfl
    rw [hn]
    have HF := Lib.hid hf
    clear hf h e1 hall hn
    go_enter Tryd.func45, Tryd.ntmps45
    go_wp2_with fail
    refine HF.out.mono ?_
    rintro e w' ⟨rfl, hg⟩
    go_wp2
    go_ret
    exact ⟨rfl, hg⟩
  · unfold Found at hf
    rw [e1] at hf
    have hn : cellOf l t = (l.getD k default).2 := by
      unfold cellOf
      rw [hfind]
      rfl
    rw [hn]
    have HF := Lib.hid hf
    have H := Lib.hid h
    have hx2 := (cells2_at l k hk).2
    generalize (l.getD k default).2 = r at hx2 ⊢
    have HX2 := Lib.hid hx2
    clear hx2
    obtain ⟨n, hnl⟩ : ∃ n, l.length = n := ⟨_, rfl⟩
    obtain ⟨g, cap, rfl, _, _, _, _⟩ := h.form hk
    have HN := Lib.hid hnl
    have hlen : l.length ≤ 9223372036854775807 := h.row2.len
    rw [hnl] at hk hlen
    have hkn : (k : Int) < (n : Int) := by omega
    clear hf h e1 hn hfind hnl
    go_enter Tryd.func45, Tryd.ntmps45
    go_wp2_with fail
    refine HF.out.mono ?_
    rintro e w' ⟨rfl, hg⟩
    have h' := H.out.grow hg
    obtain ⟨_, hc1, _⟩ := h'.cells
    have hx := (h'.own.cellAt (k * 2 + 1) (by rw [HN.out]; omega)).trans HX2.out
    rw [HN.out] at hc1
    have HG := Lib.hid hg
    clear h' hg HF H
    go_wp2
    go_ret
    exact ⟨rfl, HG.out⟩
end Go.Proofs.YtkmidefgmefohaaDoor

namespace Go.Proofs.YtkmidefgmefohaaDoor
set_option maxRecDepth 100000
open Go.RowKit Go.Shelf

theorem infoInt : (Tryd.prog.info? 3).map (fun i => (i.zero, i.size, i.bytes)) = some (some (.int .i64 0), 1, 8) := by kernel_rfl

theorem news_one {w : World} {x : Value} {t : TypeId} {n : Nat} (hn : n = w.heap.size) : ∀ j u, [x][j]? = some u → (w.alloc (.cells #[x] t)).cell? ((⟨n, 0, none⟩ : Addr).add j) = some u := by
  subst hn
  exact cell_one_new w x t

/-- The threads of those that sleep at cell c, in order. -/
def threadsAt (l : List (Int × Int)) (c : Int) : List Int := (l.filter (fun s => s.2 == c)).map (·.1)

theorem threadsAt_length (l : List (Int × Int)) (c : Int) : (threadsAt l c).length ≤ l.length := by
  unfold threadsAt
  rw [List.length_map]
  exact List.length_filter_le _ _

theorem threadsAt_take (l : List (Int × Int)) (c : Int) (k : Nat) (hk : k < l.length) :
    threadsAt (l.take (k + 1)) c = threadsAt (l.take k) c ++ (if (l.getD k default).2 == c then [(l.getD k default).1] else []) := by
  unfold threadsAt
  rw [List.take_succ_eq_append_getElem hk, List.filter_append, List.map_append, List.getD_eq_getElem?_getD, List.getElem?_eq_getElem hk]
  congr 1
  simp only [List.filter_cons, List.filter_nil, Option.getD_some]
  split <;> rfl

/-- What a call that tells threads comes to: a row of the call's own. -/
def ToldInts (xs : List Int) (w : World) (e : Ending) (w' : World) : Prop :=
  ∃ v, e = .returned v ∧ w'.ownsRow w.heap.size 3 1 v xs.length (xs.map (Value.int .i64)) ∧ w.grownBy w' none

set_option maxHeartbeats 1000000 in
theorem at_any {w : World} {B p : Nat} {nt : Int} {v : Value} {l : List (Int × Int)} (h : Lot w B p nt v l) (hsmall : l.length ≤ 1000) (c : Int) :
    Calls Tryd.prog 76 #[.pointer (some ⟨p, 0, none⟩), .int .i64 c] w (ToldInts (threadsAt l c) w) := by
  obtain ⟨⟨A, cap, rfl, hr⟩, _⟩ := h.row2
  obtain ⟨_, hc1, _⟩ := h.cells
  obtain ⟨n, hn⟩ : ∃ n, l.length = n := ⟨_, rfl⟩
  rw [hn] at hr hc1 hsmall
  obtain ⟨i0, hi, hz0, hz1, hz2⟩ := info_parts infoInt
  have HN := Lib.hid hn
  clear h hn
  go_enter Tryd.func76, Tryd.ntmps76
  go_wp2
  clear hc1
  go_loopw [5, 13] (fun v j wr => ∃ k : Nat, k ≤ n ∧ j = .int .i64 k ∧ w.grownBy wr none ∧ wr.ownsRow w.heap.size 3 1 v (threadsAt (l.take k) c).length ((threadsAt (l.take k) c).map (Value.int .i64))) (fun _ j _ => n - (intOf j).toNat)
  case atStart => exact ⟨0, Nat.zero_le _, rfl, World.grownBy.refl w _, World.ownsRow_nil _ _ _ _⟩
  case round =>
    obtain ⟨k, hk, rfl, hg, hown⟩ := hrel
    by_cases hlt : k < n
    · have hkn : (k : Int) < (n : Int) := by omega
      obtain ⟨b, rfl, hb, hc⟩ := hr (by omega)
      obtain ⟨c1, c2⟩ := hc k hlt
      have hbl := hg.block b hb (by simp)
      have d1 := (World.cell?_of_block (a := ⟨b, k * 2, none⟩) hbl).trans c1
      have d2 := (World.cell?_of_block (a := ⟨b, k * 2 + 1, none⟩) hbl).trans c2
      have hstep := threadsAt_take l c k (by rw [HN.out]; exact hlt)
      have hbw : b < wr.heap.size := Nat.lt_of_lt_of_le hb hg.size
      have hbne : b ≠ wr.heap.size := by omega
      have hTl : (threadsAt (l.take k) c).length ≤ 1000 := by
        have h1 := threadsAt_length (l.take k) c
        rw [List.length_take] at h1
        omega
      obtain ⟨s, hs⟩ : ∃ s, l.getD k default = s := ⟨_, rfl⟩
      rw [hs] at d1 d2 hstep
      obtain ⟨T, hT⟩ : ∃ T, threadsAt (l.take k) c = T := ⟨_, rfl⟩
      rw [hT] at hstep hTl hown
      rcases s with ⟨s1, s2⟩
      dsimp only at d1 d2 hstep
      have HST := Lib.hid hstep
      have HG := Lib.hid hg
      have HO := Lib.hid hown
      clear hc c1 c2 hbl hr hs hg hT hstep hown
      cases hq : s2 == c with
      | true =>
        have hst := HST.out
        rw [hq, if_pos rfl] at hst
        clear HST
        have HST := Lib.hid hst
        clear hst
        have h1c : ∀ u ∈ [Value.int .i64 s1], u.oneCell' = true := by intro u hu; rw [List.mem_singleton.1 hu]; rfl
        have H1C := Lib.hid h1c
        clear h1c
        go_wp2_with (at_builtin; refine wpList_append_own _ rfl (.tmp 21) (.tmp 24) 46 rfl w.heap.size 3 i0 (.int .i64 0) 1 8 Tryd.underlying46 hi hz0 hz1 hz2 rfl (by decide) _ T.length (T.map (Value.int .i64)) rfl ?hown ⟨wr.heap.size + 1, 0, none⟩ 1 1 [.int .i64 s1] rfl rfl ?c1 H1C.out ?c3 ?c4 ?c5 ?_)
        case hown => exact (HO.out.alloc _).alloc _
        case c1 => exact news_one (by simp)
        case c3 => unfold maxLen; omega
        case c4 => omega
        case c5 => have := HG.out.size; simp; omega
        intro v' w1 hown1 hg1 _
        have hgw : w.grownBy w1 none := (HG.out.andThen ((World.grownBy_alloc _ _ none).andThen (World.grownBy_alloc _ _ none) (by intro j hj; cases hj)) (by intro j hj; cases hj)).andThen hg1 (fun j hj => .inl (HO.out.lt j hj).1)
        have hown2 : w1.ownsRow w.heap.size 3 1 v' (threadsAt (l.take (k + 1)) c).length ((threadsAt (l.take (k + 1)) c).map (Value.int .i64)) := by
          rw [HST.out, List.length_append, List.map_append]
          exact hown1
        have H1 := Lib.hid hgw
        have H2 := Lib.hid hown2
        clear hown1 hg1 hgw hown2 d1 d2
        go_wp2
        go_roundw
        case rel => exact ⟨k + 1, by omega, by go_num, H1.out, H2.out⟩
        case measure => simp [intOf]; omega
      | false =>
        have hst := HST.out
        rw [hq, if_neg (by simp), List.append_nil] at hst
        clear HST
        have HST := Lib.hid hst
        clear hst
        go_wp2
        go_roundw
        case rel =>
          refine ⟨k + 1, by omega, by go_num, HG.out.andThen (World.grownBy_alloc _ _ none) (by intro j hj; cases hj), ?_⟩
          rw [HST.out]
          exact HO.out.alloc _
        case measure => simp [intOf]; omega
    · have hkn : ¬ (k : Int) < (n : Int) := by omega
      have e : l.take k = l := List.take_of_length_le (by rw [HN.out]; omega)
      rw [e] at hown
      have HO := Lib.hid hown
      have HG := Lib.hid hg
      clear hown hg
      go_wp2
      go_ret
      exact ⟨_, rfl, HO.out, HG.out⟩
end Go.Proofs.YtkmidefgmefohaaDoor

namespace Go.Proofs.YtkmidefgmefohaaDoor
set_option maxRecDepth 100000
open Go.RowKit Go.Shelf

theorem infoSl : (Tryd.prog.info? 107).map (fun i => (i.zero, i.size, i.bytes)) = some (some (.agg #[.int .i64 0, .int .i64 0]), 2, 16) := by kernel_rfl

/-- The lot behind a store of its slice. -/
theorem Lot.put {w : World} {B p : Nat} {nt : Int} {v v' : Value} {l : List (Int × Int)} (hat : w.heap[p]? = some (.cells #[.int .i64 nt, v] 97 (0, 0))) (hlo : B ≤ p) (hown : w.ownsRow B 107 2 v' l.length (cells2 l)) :
    Lot (w.setCell ⟨p, 1, none⟩ v') B p nt v' l := by
  have hne : v'.ownBlock ≠ some p := by
    rcases hown.2 with ⟨rfl, _⟩ | ⟨g, cap, cur, rfl, _, hh, _⟩
    · simp [Value.ownBlock]
    · intro he
      obtain rfl : g = p := by simpa [Value.ownBlock] using he
      rw [hh] at hat
      injection hat with hat
      injection hat with _ ht
      exact absurd ht (by decide)
  refine ⟨?_, ownsRow_setCell_other hown (a := ⟨p, 1, none⟩) hne v', hlo⟩
  have := heap_setCell_same w p 1 _ _ v' hat
  simpa using this

/-- Threads that sleep. -/
def sleeps (l : List (Int × Int)) (t : Int) : Prop := ∃ s ∈ l, isThread t s = true

def SleptNew (B p : Nat) (nt : Int) (l : List (Int × Int)) (t c : Int) (w : World) (e : Ending) (w' : World) : Prop :=
  ∃ v', e = .returned .nilIface ∧ Lot w' B p nt v' (l ++ [(t, c)]) ∧ Below B w w'

def SleptNew2 (B p : Nat) (nt : Int) (v : Value) (l : List (Int × Int)) (t c : Int) (w : World) (e : Ending) (w' : World) : Prop :=
  ∃ v', e = .returned .nilIface ∧ Lot w' B p nt v' (l ++ [(t, c)]) ∧ Below B w w' ∧ ∀ k, k < w.heap.size → k ≠ p → some k ≠ v.ownBlock → w'.heap[k]? = w.heap[k]?

set_option maxHeartbeats 400000 in
theorem sleep_new2 {w : World} {B p : Nat} {nt : Int} {v : Value} {l : List (Int × Int)} (h : Lot w B p nt v l) (hB : B ≤ w.heap.size) (hsmall : l.length ≤ 1000) (t c : Int) (ht0 : 0 ≤ t) (ht1 : t < nt) (hc0 : 0 ≤ c) (hc1 : c < 300) (hs : ∀ s ∈ l, isThread t s = false) :
    Calls Tryd.prog 66 #[.pointer (some ⟨p, 0, none⟩), .int .i64 t, .int .i64 c] w (SleptNew2 B p nt v l t c w) := by
  obtain ⟨i0, hi, hz0, hz1, hz2⟩ := info_parts infoSl
  have hh := has_yes h t ht0 ht1
  have hf := find_any h t
  unfold Found at hf
  rw [firstAt_miss _ _ _ hs] at hf
  have hlv := slice_of_own2 h.own
  obtain ⟨A, cap, rfl⟩ := hlv
  have H := Lib.hid h
  have HH := Lib.hid hh
  have HF := Lib.hid hf
  have h1c : ∀ u ∈ [Value.int .i64 t, Value.int .i64 c], u.oneCell' = true := by
    intro u hu
    simp only [List.mem_cons, List.not_mem_nil, or_false] at hu
    rcases hu with rfl | rfl <;> rfl
  have H1C := Lib.hid h1c
  have hc0' : ¬ c < 0 := by omega
  have hc1' : ¬ 300 ≤ c := by omega
  clear h hh hf hs h1c hc0 hc1
  go_enter Tryd.func66, Tryd.ntmps66
  go_wp2_with fail
  refine HH.out.mono ?_
  rintro e w1 ⟨rfl, rfl⟩
  go_wp2_with fail
  refine HF.out.mono ?_
  rintro e w1 ⟨rfl, hg⟩
  have h1 := H.out.grow hg
  obtain ⟨_, hcell, hfz⟩ := h1.cells
  have hbel := (Below.refl B w).grown hg hB (by intro k hk; cases hk)
  have H1 := Lib.hid h1
  have HB := Lib.hid hbel
  have hp1 : p ≠ w1.heap.size := by have := h1.lt; omega
  have HGK := Lib.hid hg
  clear h1 hg H HH HF hbel
  go_wp2_with (at_builtin; refine wpList_append_own _ rfl (.tmp 29) (.tmp 33) 95 rfl B 107 i0 (.agg #[.int .i64 0, .int .i64 0]) 2 16 Tryd.underlying95 hi hz0 hz1 hz2 rfl (by decide) _ l.length (cells2 l) rfl ?hown ⟨w1.heap.size, 0, none⟩ 1 1 [.int .i64 t, .int .i64 c] rfl rfl ?c1 H1C.out ?c3 ?c4 ?c5 ?_)
  case hown => exact H1.out.own.alloc _
  case c1 => exact World.news_of_block (cs := #[.int .i64 t, .int .i64 c]) (heap_alloc_new w1 _)
  case c3 => unfold maxLen; omega
  case c4 => omega
  case c5 => have := HB.out.size; simp; omega
  intro v' w2 hown2 hg2 _
  obtain ⟨A2, cap2, rfl⟩ := slice_of_own2 hown2
  have hap := H1.out.apart
  have hat2 : w2.heap[p]? = some (.cells #[.int .i64 nt, .slice A l.length cap] 97 (0, 0)) :=
    (hg2.block p (by have := H1.out.lt; simp; omega) (fun e => hap e.symm)).trans ((Below.heap_alloc w1 _ p H1.out.lt).trans H1.out.at_)
  have hown2' : w2.ownsRow B 107 2 (.slice A2 (l.length + 1) cap2) (l ++ [(t, c)]).length (cells2 (l ++ [(t, c)])) := by
    rw [cells2_append, List.length_append]
    exact hown2
  have hL := Lot.put hat2 H1.out.lo hown2'
  have hcell2 : w2.cell? ⟨p, 1, none⟩ = some (.slice A l.length cap) := by rw [cell_of_row w2 p 1 _ _ _ hat2]; rfl
  have hfz2 : w2.frozen? ⟨p, 1, none⟩ = false := frozen_of_row w2 p 1 _ _ hat2
  have hbel2 : Below B w (w2.setCell ⟨p, 1, none⟩ (.slice A2 (l.length + 1) cap2)) :=
    ((HB.out.alloc (Nat.le_trans hB HB.out.size) _).grown hg2 (by have := HB.out.size; simp; omega) (fun k hk => (H1.out.own.lt k hk).1)).setCell (p := ⟨p, 1, none⟩) H1.out.lo _
  have HL := Lib.hid hL
  have HB2 := Lib.hid hbel2
  have HKK := Lib.hid (show ∀ k, k < w.heap.size → k ≠ p → some k ≠ (Value.slice A l.length cap).ownBlock → (w2.setCell ⟨p, 1, none⟩ (.slice A2 (l.length + 1) cap2)).heap[k]? = w.heap[k]? from fun k hk h1 h2 => by
    have hs1 := HGK.out.size
    exact (heap_setCell_other w2 ⟨p, 1, none⟩ k _ h1).trans ((hg2.block k (by simp; omega) h2).trans ((Below.heap_alloc w1 _ k (by omega)).trans (HGK.out.block k hk (by simp)))))
  clear hL hbel2 hown2 hown2' hg2 hat2 hap hcell hfz HGK
  go_wp2
  go_ret
  exact ⟨_, rfl, HL.out, HB2.out, HKK.out⟩

theorem sleep_new {w : World} {B p : Nat} {nt : Int} {v : Value} {l : List (Int × Int)} (h : Lot w B p nt v l) (hB : B ≤ w.heap.size) (hsmall : l.length ≤ 1000) (t c : Int) (ht0 : 0 ≤ t) (ht1 : t < nt) (hc0 : 0 ≤ c) (hc1 : c < 300) (hs : ∀ s ∈ l, isThread t s = false) :
    Calls Tryd.prog 66 #[.pointer (some ⟨p, 0, none⟩), .int .i64 t, .int .i64 c] w (SleptNew B p nt l t c w) :=
  (sleep_new2 h hB hsmall t c ht0 ht1 hc0 hc1 hs).mono fun _ _ ⟨v', h1, h2, h3, _⟩ => ⟨v', h1, h2, h3⟩

/-- A call that tells an error, or none, and makes no more than blocks. -/
def ToldErr (v : Value) (w : World) (e : Ending) (w' : World) : Prop := e = .returned v ∧ w.grownBy w' none

set_option maxHeartbeats 400000 in
theorem sleep_twice {w : World} {B p : Nat} {nt : Int} {v : Value} {l : List (Int × Int)} (h : Lot w B p nt v l) (t c : Int) (ht0 : 0 ≤ t) (ht1 : t < nt) (hc0 : 0 ≤ c) (hc1 : c < 300) (hs : sleeps l t) :
    Calls Tryd.prog 66 #[.pointer (some ⟨p, 0, none⟩), .int .i64 t, .int .i64 c] w (ToldErr (.iface 26 (.int .i64 6)) w) := by
  have hh := has_yes h t ht0 ht1
  have hf := find_any h t
  unfold Found at hf
  obtain ⟨k, hk⟩ : ∃ k : Nat, firstAt (isThread t) l 0 = (k : Int) := by
    rcases firstAt_cases (isThread t) l with ⟨_, hall⟩ | ⟨k, _, e, _⟩
    · obtain ⟨s, hm, he⟩ := hs
      rw [hall s hm] at he
      cases he
    · exact ⟨k, e⟩
  rw [hk] at hf
  have HH := Lib.hid hh
  have HF := Lib.hid hf
  have hc0' : ¬ c < 0 := by omega
  have hc1' : ¬ 300 ≤ c := by omega
  have hk0 : (0 : Int) ≤ (k : Int) := by omega
  clear h hh hf hs hc0 hc1 hk
  go_enter Tryd.func66, Tryd.ntmps66
  go_wp2_with fail
  refine HH.out.mono ?_
  rintro e w1 ⟨rfl, rfl⟩
  go_wp2_with fail
  refine HF.out.mono ?_
  rintro e w1 ⟨rfl, hg⟩
  have HG := Lib.hid hg
  clear HH HF hg
  go_wp2
  go_ret
  exact ⟨rfl, HG.out⟩

set_option maxHeartbeats 400000 in
theorem sleep_range {w : World} {B p : Nat} {nt : Int} {v : Value} {l : List (Int × Int)} (h : Lot w B p nt v l) (t c : Int) (hr : t < 0 ∨ nt ≤ t ∨ c < 0 ∨ 300 ≤ c) :
    Calls Tryd.prog 66 #[.pointer (some ⟨p, 0, none⟩), .int .i64 t, .int .i64 c] w (ToldErr (.iface 26 (.int .i64 2)) w) := by
  by_cases ht : t < 0 ∨ nt ≤ t
  · have HH := Lib.hid (has_no h t ht)
    clear h hr ht
    go_enter Tryd.func66, Tryd.ntmps66
    go_wp2_with fail
    refine HH.out.mono ?_
    rintro e w1 ⟨rfl, rfl⟩
    go_wp2
    go_ret
    exact ⟨rfl, World.grownBy.refl _ _⟩
  · have HH := Lib.hid (has_yes h t (by omega) (by omega))
    have hcc : c < 0 ∨ ¬ c < 0 ∧ 300 ≤ c := by omega
    clear h hr ht
    rcases hcc with hc | ⟨hc, hc2⟩
    all_goals
      go_enter Tryd.func66, Tryd.ntmps66
      go_wp2_with fail
      refine HH.out.mono ?_
      rintro e w1 ⟨rfl, rfl⟩
      go_wp2
      go_ret
      exact ⟨rfl, World.grownBy.refl _ _⟩
end Go.Proofs.YtkmidefgmefohaaDoor
