/-
  Words for memory that the walks of this seat share: a slice of integers that reads as a list; what such a reading survives. A lot of package park: a block with how many threads there are and one slice, which owns its sleepers, two cells each. Lots that are only asked: find, has, Cell, At; and a new one. Lots: who sleeps at a cell (At), and falling asleep (Sleep). Lots: falling asleep (Sleep). Lots: stores of many cells; slices.Delete of one sleeper; waking one for nothing (Poke). slices.Delete of one sleeper; waking one for nothing (Poke). slices.DeleteFunc of sleepers. Waking those that sleep at a cell (Wake). Waking those that sleep at a cell (Wake). A memory of package mem: a block with one slice, which owns its cells; Load, Store, Fetch and Swap at a cell that there is, and at one that there isn't. slices.Equal at []uint64: whether two readings are one list; nothing is written. How memories come to be: slices.Clone, Words, mem.Of, mem.New; the laws' own 'memory' and 'pick'. errors.As at an Errno: nil; an Errno itself. api.Tell and plain.Place of nil and of an Errno. (The walk of errors.As follows the kit's worked example Toyas.)
-/
import Derived.Test.YtkhaeabbbhfloaaDoorRows
import Derived.WalkKit
import Derived.WalkSpells
import Derived.WalkLawsBesides
import Derived.OneCell
import Derived.IntWalk
import Derived.Deep.AppendLies
import Derived.Deep.QuietTactic
import Derived.BigQuiet
import Derived.Lib.Hide
import Derived.Lib.SliceRun
import Derived.Maps.Range
import Derived.Maps.RangeWalk
import Derived.Shelf.Abstract
import Derived.Deep.RegionLaw
import Derived.LaidEql
import Derived.Stop.Asserts
import Derived.RowKitTokens
namespace Go.Proofs.YtkhaeabbbhfloaaDoor
set_option maxRecDepth 100000
open Go.RowKit

/-- The slice value '.slice A n c' reads as the integers xs of kind k, all below block B. -/
structure Ints (k : IntKind) (w : World) (B : Nat) (A : Option Addr) (n : Nat) (xs : List Int) : Prop where
  len : xs.length = n
  row : 0 < n → ∃ b off, A = some ⟨b, off, none⟩ ∧ b < B ∧ ∀ i, i < n → w.cell? ⟨b, off + i, none⟩ = some (.int k (xs.getD i 0))

theorem Ints.keep {k : IntKind} {w w' : World} {B B' : Nat} {A : Option Addr} {n : Nat} {xs : List Int} (h : Ints k w B A n xs) (hB : B ≤ B') (hc : ∀ p : Addr, p.block < B → w'.cell? p = w.cell? p) : Ints k w' B' A n xs :=
  ⟨h.len, fun hn => by
    obtain ⟨b, off, e, hb, hx⟩ := h.row hn
    exact ⟨b, off, e, by omega, fun i hi => (hc _ hb).trans (hx i hi)⟩⟩

theorem Ints.below {k : IntKind} {w w' : World} {B : Nat} {A : Option Addr} {n : Nat} {xs : List Int} (h : Ints k w B A n xs) (hb : Below B w w') : Ints k w' B A n xs :=
  h.keep (Nat.le_refl _) fun _ hp => hb.cell hp

theorem Ints.of_own {k : IntKind} {w : World} {B e n : Nat} {A : Option Addr} {c : Nat} {xs : List Int} (h : w.ownsRow B e 1 (.slice A n c) n (xs.map (Value.int k))) : Ints k w w.heap.size A n xs := by
  have hl : xs.length = n := by have := h.1; simpa using this
  refine ⟨hl, fun hn => ?_⟩
  obtain ⟨g, cap, hv, hb, hlt⟩ := h.form hn
  obtain ⟨rfl, rfl⟩ : A = some ⟨g, 0, none⟩ ∧ c = cap := by injection hv with h1 _ h3; exact ⟨h1, h3⟩
  refine ⟨g, 0, rfl, hlt, fun i hi => ?_⟩
  have h1 := h.cellAt i (by omega)
  have hg : (xs.map (Value.int k))[i]? = some (.int k (xs.getD i 0)) := by
    rw [List.getElem?_map, List.getD_eq_getElem?_getD, List.getElem?_eq_getElem (by omega)]
    rfl
  rw [Nat.zero_add, h1, hg]

theorem ret_int {k : IntKind} {a b : Int} (h : a = b) : Ending.returned (.int k a) = .returned (.int k b) := by rw [h]
end Go.Proofs.YtkhaeabbbhfloaaDoor

namespace Go.Proofs.YtkhaeabbbhfloaaDoor
set_option maxRecDepth 100000
open Go.RowKit

/-- The cells of sleepers, one behind the other. -/
def cells2 : List (Int × Int) → List Value
  | [] => []
  | s :: l => .int .i64 s.1 :: .int .i64 s.2 :: cells2 l

theorem cells2_length (l : List (Int × Int)) : (cells2 l).length = l.length * 2 := by
  induction l with
  | nil => rfl
  | cons s l ih => simp only [cells2, List.length_cons, ih]; omega

theorem cells2_append (l r : List (Int × Int)) : cells2 (l ++ r) = cells2 l ++ cells2 r := by
  induction l with
  | nil => rfl
  | cons s l ih => simp only [List.cons_append, cells2, ih]

theorem cells2_at (l : List (Int × Int)) (k : Nat) (h : k < l.length) : (cells2 l)[k * 2]? = some (.int .i64 (l.getD k default).1) ∧ (cells2 l)[k * 2 + 1]? = some (.int .i64 (l.getD k default).2) := by
  induction l generalizing k with
  | nil => exact absurd h (Nat.not_lt_zero _)
  | cons s l ih =>
    rcases k with _ | k
    · exact ⟨rfl, rfl⟩
    · have h1 := ih k (by simpa using h)
      rw [show (k + 1) * 2 = k * 2 + 1 + 1 from by omega]
      exact h1

theorem cells2_drop (l : List (Int × Int)) (k : Nat) : (cells2 l).drop (k * 2) = cells2 (l.drop k) := by
  induction l generalizing k with
  | nil => simp [cells2]
  | cons s l ih =>
    rcases k with _ | k
    · rfl
    · rw [show (k + 1) * 2 = k * 2 + 1 + 1 from by omega]
      exact ih k

theorem cells2_take (l : List (Int × Int)) (k : Nat) : (cells2 l).take (k * 2) = cells2 (l.take k) := by
  induction l generalizing k with
  | nil => simp [cells2]
  | cons s l ih =>
    rcases k with _ | k
    · rfl
    · rw [show (k + 1) * 2 = k * 2 + 1 + 1 from by omega]
      simp only [cells2, List.take_succ_cons, ih k]

theorem cells2_one (l : List (Int × Int)) : ∀ u ∈ cells2 l, u.oneCell' = true := by
  induction l with
  | nil => intro u hu; cases hu
  | cons s l ih =>
    intro u hu
    simp only [cells2, List.mem_cons] at hu
    rcases hu with rfl | rfl | hu
    · rfl
    · rfl
    · exact ih u hu

/-- Block p is a lot of nt threads; l are those that sleep, in the order of falling asleep; v is its slice, which owns them. -/
structure Lot (w : World) (B p : Nat) (nt : Int) (v : Value) (l : List (Int × Int)) : Prop where
  at_ : w.heap[p]? = some (.cells #[.int .i64 nt, v] 104 (0, 0))
  own : w.ownsRow B 113 2 v l.length (cells2 l)
  lo : B ≤ p

theorem Lot.lt {w : World} {B p : Nat} {nt : Int} {v : Value} {l : List (Int × Int)} (h : Lot w B p nt v l) : p < w.heap.size := lt_of_block h.at_

theorem Lot.cells {w : World} {B p : Nat} {nt : Int} {v : Value} {l : List (Int × Int)} (h : Lot w B p nt v l) : w.cell? ⟨p, 0, none⟩ = some (.int .i64 nt) ∧ w.cell? ⟨p, 1, none⟩ = some v ∧ w.frozen? ⟨p, 1, none⟩ = false :=
  ⟨by rw [cell_of_row w p 0 _ _ _ h.at_]; rfl, by rw [cell_of_row w p 1 _ _ _ h.at_]; rfl, frozen_of_row w p 1 _ _ h.at_⟩

theorem Lot.apart {w : World} {B p : Nat} {nt : Int} {v : Value} {l : List (Int × Int)} (h : Lot w B p nt v l) : v.ownBlock ≠ some p := by
  rcases h.own.2 with ⟨rfl, _⟩ | ⟨g, cap, cur, rfl, _, hh, _⟩
  · simp [Value.ownBlock]
  · intro he
    obtain rfl : g = p := by simpa [Value.ownBlock] using he
    have := h.at_
    rw [hh] at this
    injection this with this
    injection this with _ ht
    exact absurd ht (by decide)

theorem Lot.grown {w w' : World} {B p : Nat} {nt : Int} {v : Value} {l : List (Int × Int)} (h : Lot w B p nt v l) {row : Option Nat} (hg : w.grownBy w' row) (h1 : some p ≠ row) (h2 : row = none ∨ v.ownBlock ≠ row) : Lot w' B p nt v l :=
  ⟨(hg.block p h.lt h1).trans h.at_, h.own.kept hg (by
    rcases h2 with rfl | h2
    · cases v.ownBlock <;> simp
    · exact .inr h2), h.lo⟩

theorem Lot.grow {w w' : World} {B p : Nat} {nt : Int} {v : Value} {l : List (Int × Int)} (h : Lot w B p nt v l) (hg : w.grownBy w' none) : Lot w' B p nt v l := h.grown hg (by simp) (.inl rfl)

/-- Where there is a sleeper: the slice's form, and the sleeper's two cells. -/
theorem Lot.form {w : World} {B p : Nat} {nt : Int} {v : Value} {l : List (Int × Int)} (h : Lot w B p nt v l) {k : Nat} (hk : k < l.length) :
    ∃ g cap, v = .slice (some ⟨g, 0, none⟩) l.length cap ∧ B ≤ g ∧ g < w.heap.size ∧ w.cell? ⟨g, k * 2, none⟩ = some (.int .i64 (l.getD k default).1) ∧ w.cell? ⟨g, k * 2 + 1, none⟩ = some (.int .i64 (l.getD k default).2) := by
  obtain ⟨g, cap, rfl, hb, hlt⟩ := h.own.form (by omega)
  obtain ⟨h1, h2⟩ := cells2_at l k hk
  exact ⟨g, cap, rfl, hb, hlt, (h.own.cellAt (k * 2) (by omega)).trans h1, (h.own.cellAt (k * 2 + 1) (by omega)).trans h2⟩

theorem slice_of_own2 {w : World} {B e sz : Nat} {v : Value} {n : Nat} {xs : List Value} (h : w.ownsRow B e sz v n xs) : ∃ A c, v = .slice A n c := by
  rcases h.2 with ⟨rfl, e⟩ | ⟨g, cap, cur, rfl, _⟩
  · exact ⟨none, 0, by rw [e]⟩
  · exact ⟨_, _, rfl⟩

/-- A row of sleepers that is read: by a slice value whose cells lie from block g on. -/
structure Row2 (w : World) (v : Value) (l : List (Int × Int)) : Prop where
  row : ∃ A cap, v = .slice A l.length cap ∧ (0 < l.length → ∃ g, A = some ⟨g, 0, none⟩ ∧ g < w.heap.size ∧ ∀ k, k < l.length → w.cell? ⟨g, k * 2, none⟩ = some (.int .i64 (l.getD k default).1) ∧ w.cell? ⟨g, k * 2 + 1, none⟩ = some (.int .i64 (l.getD k default).2))
  len : l.length ≤ 9223372036854775807

theorem Lot.row2 {w : World} {B p : Nat} {nt : Int} {v : Value} {l : List (Int × Int)} (h : Lot w B p nt v l) : Row2 w v l := by
  constructor
  · rcases h.own.2 with ⟨rfl, e⟩ | ⟨g, cap, cur, rfl, hb, hh, _⟩
    · exact ⟨none, 0, by rw [e], fun h0 => absurd e (by omega)⟩
    · refine ⟨_, _, rfl, fun _ => ⟨g, rfl, lt_of_block hh, fun k hk => ?_⟩⟩
      obtain ⟨h1, h2⟩ := cells2_at l k hk
      exact ⟨(h.own.cellAt (k * 2) (by omega)).trans h1, (h.own.cellAt (k * 2 + 1) (by omega)).trans h2⟩
  · rcases h.own.2 with ⟨_, e⟩ | ⟨g, cap, cur, _, _, _, h1, h2, _⟩
    · omega
    · unfold maxLen at h2
      omega

theorem Row2.grow {w w' : World} {v : Value} {l : List (Int × Int)} (h : Row2 w v l) (hg : w.grownBy w' none) : Row2 w' v l := by
  obtain ⟨⟨A, cap, rfl, hr⟩, hl⟩ := h
  refine ⟨⟨A, cap, rfl, fun h0 => ?_⟩, hl⟩
  obtain ⟨g, rfl, hlt, hc⟩ := hr h0
  refine ⟨g, rfl, Nat.lt_of_lt_of_le hlt hg.size, fun k hk => ?_⟩
  have hb := hg.block g hlt (by simp)
  exact ⟨(World.cell?_of_block (a := ⟨g, k * 2, none⟩) hb).trans (hc k hk).1, (World.cell?_of_block (a := ⟨g, k * 2 + 1, none⟩) hb).trans (hc k hk).2⟩

/-- What is asked of a predicate on sleepers: whatever else is made, it answers p, and makes no more than blocks. -/
def Pred (g : Nat) (lb : Array Value) (p : Int × Int → Bool) (w : World) (row : Option Nat) : Prop :=
  ∀ (W : World) (s : Int × Int), w.grownBy W row → Calls Tryd.prog g (#[.agg #[.int .i64 s.1, .int .i64 s.2]] ++ lb) W fun e w' => e = .returned (.bool (p s)) ∧ W.grownBy w' none

/-- The first place at which p holds, or -1. -/
def firstAt (p : Int × Int → Bool) : List (Int × Int) → Nat → Int
  | [], _ => -1
  | s :: l, i => if p s then (i : Int) else firstAt p l (i + 1)

theorem firstAt_miss (p : Int × Int → Bool) (l : List (Int × Int)) (i : Nat) (h : ∀ s ∈ l, p s = false) : firstAt p l i = -1 := by
  induction l generalizing i with
  | nil => rfl
  | cons s l ih =>
    rw [firstAt, h s (by simp)]
    exact ih _ fun t ht => h t (by simp [ht])

theorem firstAt_hit (p : Int × Int → Bool) (l : List (Int × Int)) (i k : Nat) (hk : k < l.length) (hp : p (l.getD k default) = true) (h : ∀ j, j < k → p (l.getD j default) = false) : firstAt p l i = ((i + k : Nat) : Int) := by
  induction l generalizing i k with
  | nil => exact absurd hk (Nat.not_lt_zero _)
  | cons s l ih =>
    rcases k with _ | k
    · have : p s = true := hp
      rw [firstAt, this]
      simp
    · have h0 : p s = false := h 0 (by omega)
      rw [firstAt, h0]
      have := ih (i + 1) k (by simpa using hk) hp (fun j hj => h (j + 1) (by omega))
      simp only [Bool.false_eq_true, if_false]
      rw [this]
      congr 1
      omega

/-- What a call that tells a number, and makes no more than blocks, comes to. -/
def Told1 (r : Int) (w : World) (e : Ending) (w' : World) : Prop := e = .returned (.int .i64 r) ∧ w.grownBy w' none
def Found (p : Int × Int → Bool) (l : List (Int × Int)) (w : World) (e : Ending) (w' : World) : Prop := Told1 (firstAt p l 0) w e w'

set_option maxHeartbeats 400000 in
theorem indexFuncS_any {w : World} {v : Value} {l : List (Int × Int)} (h : Row2 w v l) (p : Int × Int → Bool) (g : Nat) (lb : Array Value) (eg : ∀ args w, (callFunc g args).run Tryd.prog w = .ok (.enter g args) w) (row : Option Nat) (hp : Pred g lb p w row) :
    Calls Tryd.prog 82 #[v, .func (.func g) #[] lb] w (Found p l w) := by
  have hlen := h.len
  obtain ⟨A, cap, rfl, hr⟩ := h.row
  obtain ⟨n, hn⟩ : ∃ n, l.length = n := ⟨_, rfl⟩
  rw [hn] at hlen hr ⊢
  have HN := Lib.hid hn
  have H := Lib.hid h
  have HP := Lib.hid hp
  clear h hp hn
  go_enter Tryd.func82, Tryd.ntmps82
  go_wp2
  go_loopw [5, 8] (fun _ j wr => ∃ k : Nat, k ≤ n ∧ j = .int .i64 k ∧ w.grownBy wr none ∧ Hid (∀ j, j < k → p (l.getD j default) = false)) (fun _ j _ => n - (intOf j).toNat)
  case atStart => exact ⟨0, Nat.zero_le _, rfl, World.grownBy.refl w _, fun j hj => absurd hj (Nat.not_lt_zero _)⟩
  case round =>
    obtain ⟨k, hk, rfl, hg, hall⟩ := hrel
    by_cases hlt : k < n
    · have hkn : (k : Int) < (n : Int) := by omega
      obtain ⟨b, rfl, hb, hc⟩ := hr (by omega)
      obtain ⟨c1, c2⟩ := hc k hlt
      have hbl := hg.block b hb (by simp)
      have d1 := (World.cell?_of_block (a := ⟨b, k * 2, none⟩) hbl).trans c1
      have d2 := (World.cell?_of_block (a := ⟨b, k * 2 + 1, none⟩) hbl).trans c2
      obtain ⟨s, hs⟩ : ∃ s, l.getD k default = s := ⟨_, rfl⟩
      rw [hs] at d1 d2
      have HS := Lib.hid hs
      have HC := Lib.hid (And.intro hg hall.out)
      have hcall := HP.out wr s (hg.but row)
      clear hc c1 c2 hbl hr hs hg hall
      cases hq : p s with
      | true =>
        rw [hq] at hcall
        have HQ := Lib.hid hq
        have HCALL := Lib.hid hcall
        clear hq hcall
        go_wp2_with fail
        refine HCALL.out.mono ?_
        rintro e w' ⟨rfl, hg'⟩
        go_wp2
        go_ret
        refine ⟨ret_int ?_, HC.out.1.andThen hg' (by intro j hj; cases hj)⟩
        rw [firstAt_hit p l 0 k (by rw [HN.out]; exact hlt) (by rw [HS.out]; exact HQ.out) HC.out.2, Nat.zero_add]
      | false =>
        rw [hq] at hcall
        have HQ := Lib.hid hq
        have HCALL := Lib.hid hcall
        clear hq hcall
        go_wp2_with fail
        refine HCALL.out.mono ?_
        rintro e w' ⟨rfl, hg'⟩
        have hg2 := HC.out.1.andThen hg' (by intro j hj; cases hj)
        go_wp2
        go_roundw
        case rel =>
          refine ⟨k + 1, by omega, by go_num, hg2, Lib.hid fun j hj => ?_⟩
          by_cases e : j = k
          · subst e; rw [HS.out]; exact HQ.out
          · exact HC.out.2 j (by omega)
        case measure => simp [intOf]; omega
    · have hkn : ¬ (k : Int) < (n : Int) := by omega
      have HC := Lib.hid (And.intro hg hall.out)
      clear hg hall
      go_wp2
      go_ret
      refine ⟨ret_int ?_, HC.out.1⟩
      rw [firstAt_miss p l 0 (fun s hs => ?_)]
      obtain ⟨j, hj, rfl⟩ := List.mem_iff_getElem.1 hs
      have := HC.out.2 j (by have := HN.out; omega)
      rw [List.getD_eq_getElem?_getD, List.getElem?_eq_getElem hj] at this
      exact this
end Go.Proofs.YtkhaeabbbhfloaaDoor

namespace Go.Proofs.YtkhaeabbbhfloaaDoor
set_option maxRecDepth 100000
open Go.RowKit Go.Shelf

/-- At which place thread t sleeps, or -1. -/
def isThread (t : Int) : Int × Int → Bool := fun s => s.1 == t

theorem findc_any (t : Int) (b : Nat) (s : Int × Int) (W : World) (hc : W.cell? ⟨b, 0, none⟩ = some (.int .i64 t)) :
    Calls Tryd.prog 83 #[.agg #[.int .i64 s.1, .int .i64 s.2], .pointer (some ⟨b, 0, none⟩)] W fun e w' => e = .returned (.bool (isThread t s)) ∧ W.grownBy w' none := by
  have hb : b < W.heap.size := World.block_lt_of_cell? W _ hc
  have hne : b ≠ W.heap.size := by omega
  have hd : isThread t s = (s.1 == t) := rfl
  obtain ⟨r, hr⟩ : ∃ r, isThread t s = r := ⟨_, rfl⟩
  rw [hr] at hd ⊢
  rcases s with ⟨s1, s2⟩
  clear hr
  have hd' : (s1 == t) = r := hd.symm
  clear hd
  cases r
  all_goals
    go_enter Tryd.func83, Tryd.ntmps83
    go_wp2
    go_ret
    exact ⟨rfl, World.grownBy_alloc _ _ _⟩

set_option maxHeartbeats 400000 in
theorem find_any {w : World} {B p : Nat} {nt : Int} {v : Value} {l : List (Int × Int)} (h : Lot w B p nt v l) (t : Int) :
    Calls Tryd.prog 60 #[.pointer (some ⟨p, 0, none⟩), .int .i64 t] w (Found (isThread t) l w) := by
  have eg : ∀ args w, (callFunc 83 args).run Tryd.prog w = .ok (.enter 83 args) w := enters_of Tryd.func83 (by kernel_rfl) rfl
  have hg0 := World.grownBy_alloc w (.cells #[.int .i64 t] 3) none
  have h1 := h.grow hg0
  have hp : Pred 83 #[.pointer (some ⟨w.heap.size, 0, none⟩)] (isThread t) (w.alloc (.cells #[.int .i64 t] 3)) none := by
    intro W s hg
    refine findc_any t w.heap.size s W ?_
    have hb := hg.block w.heap.size (by simp) (by simp)
    exact (World.cell?_of_block (a := ⟨w.heap.size, 0, none⟩) hb).trans (by simp)
  have hI := indexFuncS_any h1.row2 (isThread t) 83 _ eg none hp
  unfold Found at hI ⊢
  generalize firstAt (isThread t) l 0 = r at hI ⊢
  have hc := h.cells
  obtain ⟨hc0, hc1, _⟩ := hc
  have hplt := h.lt
  have hpne : p ≠ w.heap.size := by omega
  obtain ⟨A, c, rfl⟩ : ∃ A c, v = .slice A l.length c := by
    rcases h.own.2 with ⟨rfl, e⟩ | ⟨g, cap, cur, rfl, _⟩
    · exact ⟨none, 0, by rw [e]⟩
    · exact ⟨_, _, rfl⟩
  have HI := Lib.hid hI
  have H0 := Lib.hid hg0
  clear h h1 hp hI eg hg0
  go_enter Tryd.func60, Tryd.ntmps60
  go_wp2_with fail
  refine HI.out.mono ?_
  rintro e w' ⟨rfl, hg'⟩
  have hg2 := H0.out.andThen hg' (by intro j hj; cases hj)
  clear HI H0 hg' hc0 hc1
  go_wp2
  go_ret
  exact ⟨rfl, hg2⟩

theorem has_yes {w : World} {B p : Nat} {nt : Int} {v : Value} {l : List (Int × Int)} (h : Lot w B p nt v l) (t : Int) (h0 : 0 ≤ t) (h1 : t < nt) :
    Calls Tryd.prog 59 #[.pointer (some ⟨p, 0, none⟩), .int .i64 t] w fun e w' => e = .returned (.bool true) ∧ w = w' := by
  obtain ⟨hc0, _, _⟩ := h.cells
  clear h
  go_enter Tryd.func59, Tryd.ntmps59
  go_wp2
  go_ret
  exact ⟨rfl, rfl⟩

theorem has_no {w : World} {B p : Nat} {nt : Int} {v : Value} {l : List (Int × Int)} (h : Lot w B p nt v l) (t : Int) (ht : t < 0 ∨ nt ≤ t) :
    Calls Tryd.prog 59 #[.pointer (some ⟨p, 0, none⟩), .int .i64 t] w fun e w' => e = .returned (.bool false) ∧ w = w' := by
  obtain ⟨hc0, _, _⟩ := h.cells
  clear h
  rcases Int.lt_or_le t 0 with h0 | h0
  · have h0' : ¬ 0 ≤ t := by omega
    go_enter Tryd.func59, Tryd.ntmps59
    go_wp2
    go_ret
    exact ⟨rfl, rfl⟩
  · have h1 : ¬ t < nt := by omega
    clear ht
    go_enter Tryd.func59, Tryd.ntmps59
    go_wp2
    go_ret
    exact ⟨rfl, rfl⟩

/-- What a call that makes a lot comes to. -/
def MadeLot (w : World) (nt : Int) (e : Ending) (w' : World) : Prop :=
  ∃ p v, e = .returned (.tuple #[.pointer (some ⟨p, 0, none⟩), .nilIface]) ∧ Lot w' w.heap.size p nt v [] ∧ w.grownBy w' none

theorem pnew_ok {w : World} (n : Int) (h0 : 0 ≤ n) (h1 : n ≤ 16) : Calls Tryd.prog 38 #[.int .i64 n] w (MadeLot w n) := by
  have h0' : ¬ n < 0 := by omega
  have h1' : ¬ 16 < n := by omega
  have hL : Lot (w.alloc (.cells #[.int .i64 n, .slice none 0 0] 104)) w.heap.size w.heap.size n (.slice none 0 0) [] := ⟨heap_alloc_new w _, World.ownsRow_nil _ _ _ _, Nat.le_refl _⟩
  have HL := Lib.hid hL
  clear hL
  go_enter Tryd.func38, Tryd.ntmps38
  go_wp2
  go_ret2
  exact ⟨w.heap.size, _, rfl, HL.out, World.grownBy_alloc _ _ _⟩

/-- What thread t is at: its cell, or -1. -/
def cellOf (l : List (Int × Int)) (t : Int) : Int := ((l.find? (isThread t)).map (·.2)).getD (-1)

theorem firstAt_cases (p : Int × Int → Bool) (l : List (Int × Int)) : (firstAt p l 0 = -1 ∧ ∀ s ∈ l, p s = false) ∨ ∃ k, k < l.length ∧ firstAt p l 0 = (k : Int) ∧ p (l.getD k default) = true ∧ l.find? p = some (l.getD k default) ∧ ∀ j, j < k → p (l.getD j default) = false := by
  induction l with
  | nil => exact .inl ⟨rfl, fun s hs => by cases hs⟩
  | cons s l ih =>
    cases hp : p s with
    | true => exact .inr ⟨0, by simp, by simp [firstAt, hp], hp, by simp [List.find?, hp], fun j hj => absurd hj (Nat.not_lt_zero _)⟩
    | false =>
      rcases ih with ⟨_, h2⟩ | ⟨k, hk, _, h3, h4, h5⟩
      · exact .inl ⟨firstAt_miss p _ 0 (fun t ht => by
          rcases List.mem_cons.1 ht with rfl | ht
          · exact hp
          · exact h2 t ht), fun t ht => by
          rcases List.mem_cons.1 ht with rfl | ht
          · exact hp
          · exact h2 t ht⟩
      · refine .inr ⟨k + 1, by simpa using hk, ?_, h3, ?_, ?_⟩
        · have hall : ∀ j, j < k + 1 → p ((s :: l).getD j default) = false := fun j hj => by
            rcases j with _ | j
            · exact hp
            · exact h5 j (by omega)
          have := firstAt_hit p (s :: l) 0 (k + 1) (by simpa using hk) h3 hall
          rw [this, Nat.zero_add]
        · simp only [List.find?, hp]
          exact h4
        · intro j hj
          rcases j with _ | j
          · exact hp
          · exact h5 j (by omega)

set_option maxHeartbeats 400000 in
theorem cell_any {w : World} {B p : Nat} {nt : Int} {v : Value} {l : List (Int × Int)} (h : Lot w B p nt v l) (t : Int) :
    Calls Tryd.prog 48 #[.pointer (some ⟨p, 0, none⟩), .int .i64 t] w (Told1 (cellOf l t) w) := by
  have hf := find_any h t
  rcases firstAt_cases (isThread t) l with ⟨e1, hall⟩ | ⟨k, hk, e1, _, hfind, _⟩
  · unfold Found at hf
    rw [e1] at hf
    have hn : cellOf l t = -1 := by
      unfold cellOf
      rw [List.find?_eq_none.2 (fun s hs => by rw [hall s hs]; simp)]
      rfl
    rw [hn]
    have HF := Lib.hid hf
    clear hf h e1 hall hn
    go_enter Tryd.func48, Tryd.ntmps48
    go_wp2_with fail
    refine HF.out.mono ?_
    rintro e w' ⟨rfl, hg⟩
    go_wp2
    go_ret
    exact ⟨rfl, hg⟩
  · unfold Found at hf
    rw [e1] at hf
    have hn : cellOf l t = (l.getD k default).2 := by
      unfold cellOf
      rw [hfind]
      rfl
    rw [hn]
    have HF := Lib.hid hf
    have H := Lib.hid h
    have hx2 := (cells2_at l k hk).2
    generalize (l.getD k default).2 = r at hx2 ⊢
    have HX2 := Lib.hid hx2
    clear hx2
    obtain ⟨n, hnl⟩ : ∃ n, l.length = n := ⟨_, rfl⟩
    obtain ⟨g, cap, rfl, _, _, _, _⟩ := h.form hk
    have HN := Lib.hid hnl
    have hlen : l.length ≤ 9223372036854775807 := h.row2.len
    rw [hnl] at hk hlen
    have hkn : (k : Int) < (n : Int) := by omega
    clear hf h e1 hn hfind hnl
    go_enter Tryd.func48, Tryd.ntmps48
    go_wp2_with fail
    refine HF.out.mono ?_
    rintro e w' ⟨rfl, hg⟩
    have h' := H.out.grow hg
    obtain ⟨_, hc1, _⟩ := h'.cells
    have hx := (h'.own.cellAt (k * 2 + 1) (by rw [HN.out]; omega)).trans HX2.out
    rw [HN.out] at hc1
    have HG := Lib.hid hg
    clear h' hg HF H
    go_wp2
    go_ret
    exact ⟨rfl, HG.out⟩
end Go.Proofs.YtkhaeabbbhfloaaDoor

namespace Go.Proofs.YtkhaeabbbhfloaaDoor
set_option maxRecDepth 100000
open Go.RowKit Go.Shelf

theorem infoInt : (Tryd.prog.info? 3).map (fun i => (i.zero, i.size, i.bytes)) = some (some (.int .i64 0), 1, 8) := by kernel_rfl

theorem news_one {w : World} {x : Value} {t : TypeId} {n : Nat} (hn : n = w.heap.size) : ∀ j u, [x][j]? = some u → (w.alloc (.cells #[x] t)).cell? ((⟨n, 0, none⟩ : Addr).add j) = some u := by
  subst hn
  exact cell_one_new w x t

/-- The threads of those that sleep at cell c, in order. -/
def threadsAt (l : List (Int × Int)) (c : Int) : List Int := (l.filter (fun s => s.2 == c)).map (·.1)

theorem threadsAt_length (l : List (Int × Int)) (c : Int) : (threadsAt l c).length ≤ l.length := by
  unfold threadsAt
  rw [List.length_map]
  exact List.length_filter_le _ _

theorem threadsAt_take (l : List (Int × Int)) (c : Int) (k : Nat) (hk : k < l.length) :
    threadsAt (l.take (k + 1)) c = threadsAt (l.take k) c ++ (if (l.getD k default).2 == c then [(l.getD k default).1] else []) := by
  unfold threadsAt
  rw [List.take_succ_eq_append_getElem hk, List.filter_append, List.map_append, List.getD_eq_getElem?_getD, List.getElem?_eq_getElem hk]
  congr 1
  simp only [List.filter_cons, List.filter_nil, Option.getD_some]
  split <;> rfl

/-- What a call that tells threads comes to: a row of the call's own. -/
def ToldInts (xs : List Int) (w : World) (e : Ending) (w' : World) : Prop :=
  ∃ v, e = .returned v ∧ w'.ownsRow w.heap.size 3 1 v xs.length (xs.map (Value.int .i64)) ∧ w.grownBy w' none

set_option maxHeartbeats 1000000 in
theorem at_any {w : World} {B p : Nat} {nt : Int} {v : Value} {l : List (Int × Int)} (h : Lot w B p nt v l) (hsmall : l.length ≤ 1000) (c : Int) :
    Calls Tryd.prog 86 #[.pointer (some ⟨p, 0, none⟩), .int .i64 c] w (ToldInts (threadsAt l c) w) := by
  obtain ⟨⟨A, cap, rfl, hr⟩, _⟩ := h.row2
  obtain ⟨_, hc1, _⟩ := h.cells
  obtain ⟨n, hn⟩ : ∃ n, l.length = n := ⟨_, rfl⟩
  rw [hn] at hr hc1 hsmall
  obtain ⟨i0, hi, hz0, hz1, hz2⟩ := info_parts infoInt
  have HN := Lib.hid hn
  clear h hn
  go_enter Tryd.func86, Tryd.ntmps86
  go_wp2
  clear hc1
  go_loopw [5, 13] (fun v j wr => ∃ k : Nat, k ≤ n ∧ j = .int .i64 k ∧ w.grownBy wr none ∧ wr.ownsRow w.heap.size 3 1 v (threadsAt (l.take k) c).length ((threadsAt (l.take k) c).map (Value.int .i64))) (fun _ j _ => n - (intOf j).toNat)
  case atStart => exact ⟨0, Nat.zero_le _, rfl, World.grownBy.refl w _, World.ownsRow_nil _ _ _ _⟩
  case round =>
    obtain ⟨k, hk, rfl, hg, hown⟩ := hrel
    by_cases hlt : k < n
    · have hkn : (k : Int) < (n : Int) := by omega
      obtain ⟨b, rfl, hb, hc⟩ := hr (by omega)
      obtain ⟨c1, c2⟩ := hc k hlt
      have hbl := hg.block b hb (by simp)
      have d1 := (World.cell?_of_block (a := ⟨b, k * 2, none⟩) hbl).trans c1
      have d2 := (World.cell?_of_block (a := ⟨b, k * 2 + 1, none⟩) hbl).trans c2
      have hstep := threadsAt_take l c k (by rw [HN.out]; exact hlt)
      have hbw : b < wr.heap.size := Nat.lt_of_lt_of_le hb hg.size
      have hbne : b ≠ wr.heap.size := by omega
      have hTl : (threadsAt (l.take k) c).length ≤ 1000 := by
        have h1 := threadsAt_length (l.take k) c
        rw [List.length_take] at h1
        omega
      obtain ⟨s, hs⟩ : ∃ s, l.getD k default = s := ⟨_, rfl⟩
      rw [hs] at d1 d2 hstep
      obtain ⟨T, hT⟩ : ∃ T, threadsAt (l.take k) c = T := ⟨_, rfl⟩
      rw [hT] at hstep hTl hown
      rcases s with ⟨s1, s2⟩
      dsimp only at d1 d2 hstep
      have HST := Lib.hid hstep
      have HG := Lib.hid hg
      have HO := Lib.hid hown
      clear hc c1 c2 hbl hr hs hg hT hstep hown
      cases hq : s2 == c with
      | true =>
        have hst := HST.out
        rw [hq, if_pos rfl] at hst
        clear HST
        have HST := Lib.hid hst
        clear hst
        have h1c : ∀ u ∈ [Value.int .i64 s1], u.oneCell' = true := by intro u hu; rw [List.mem_singleton.1 hu]; rfl
        have H1C := Lib.hid h1c
        clear h1c
        go_wp2_with (at_builtin; refine wpList_append_own _ rfl (.tmp 21) (.tmp 24) 49 rfl w.heap.size 3 i0 (.int .i64 0) 1 8 Tryd.underlying49 hi hz0 hz1 hz2 rfl (by decide) _ T.length (T.map (Value.int .i64)) rfl ?hown ⟨wr.heap.size + 1, 0, none⟩ 1 1 [.int .i64 s1] rfl rfl ?c1 H1C.out ?c3 ?c4 ?c5 ?_)
        case hown => exact (HO.out.alloc _).alloc _
        case c1 => exact news_one (by simp)
        case c3 => unfold maxLen; omega
        case c4 => omega
        case c5 => have := HG.out.size; simp; omega
        intro v' w1 hown1 hg1 _
        have hgw : w.grownBy w1 none := (HG.out.andThen ((World.grownBy_alloc _ _ none).andThen (World.grownBy_alloc _ _ none) (by intro j hj; cases hj)) (by intro j hj; cases hj)).andThen hg1 (fun j hj => .inl (HO.out.lt j hj).1)
        have hown2 : w1.ownsRow w.heap.size 3 1 v' (threadsAt (l.take (k + 1)) c).length ((threadsAt (l.take (k + 1)) c).map (Value.int .i64)) := by
          rw [HST.out, List.length_append, List.map_append]
          exact hown1
        have H1 := Lib.hid hgw
        have H2 := Lib.hid hown2
        clear hown1 hg1 hgw hown2 d1 d2
        go_wp2
        go_roundw
        case rel => exact ⟨k + 1, by omega, by go_num, H1.out, H2.out⟩
        case measure => simp [intOf]; omega
      | false =>
        have hst := HST.out
        rw [hq, if_neg (by simp), List.append_nil] at hst
        clear HST
        have HST := Lib.hid hst
        clear hst
        go_wp2
        go_roundw
        case rel =>
          refine ⟨k + 1, by omega, by go_num, HG.out.andThen (World.grownBy_alloc _ _ none) (by intro j hj; cases hj), ?_⟩
          rw [HST.out]
          exact HO.out.alloc _
        case measure => simp [intOf]; omega
    · have hkn : ¬ (k : Int) < (n : Int) := by omega
      have e : l.take k = l := List.take_of_length_le (by rw [HN.out]; omega)
      rw [e] at hown
      have HO := Lib.hid hown
      have HG := Lib.hid hg
      clear hown hg
      go_wp2
      go_ret
      exact ⟨_, rfl, HO.out, HG.out⟩
end Go.Proofs.YtkhaeabbbhfloaaDoor

namespace Go.Proofs.YtkhaeabbbhfloaaDoor
set_option maxRecDepth 100000
open Go.RowKit Go.Shelf

theorem infoSl : (Tryd.prog.info? 113).map (fun i => (i.zero, i.size, i.bytes)) = some (some (.agg #[.int .i64 0, .int .i64 0]), 2, 16) := by kernel_rfl

/-- The lot behind a store of its slice. -/
theorem Lot.put {w : World} {B p : Nat} {nt : Int} {v v' : Value} {l : List (Int × Int)} (hat : w.heap[p]? = some (.cells #[.int .i64 nt, v] 104 (0, 0))) (hlo : B ≤ p) (hown : w.ownsRow B 113 2 v' l.length (cells2 l)) :
    Lot (w.setCell ⟨p, 1, none⟩ v') B p nt v' l := by
  have hne : v'.ownBlock ≠ some p := by
    rcases hown.2 with ⟨rfl, _⟩ | ⟨g, cap, cur, rfl, _, hh, _⟩
    · simp [Value.ownBlock]
    · intro he
      obtain rfl : g = p := by simpa [Value.ownBlock] using he
      rw [hh] at hat
      injection hat with hat
      injection hat with _ ht
      exact absurd ht (by decide)
  refine ⟨?_, ownsRow_setCell_other hown (a := ⟨p, 1, none⟩) hne v', hlo⟩
  have := heap_setCell_same w p 1 _ _ v' hat
  simpa using this

/-- Threads that sleep. -/
def sleeps (l : List (Int × Int)) (t : Int) : Prop := ∃ s ∈ l, isThread t s = true

/-- A call that tells an error, or none, and makes no more than blocks. -/
def ToldErr (v : Value) (w : World) (e : Ending) (w' : World) : Prop := e = .returned v ∧ w.grownBy w' none

end Go.Proofs.YtkhaeabbbhfloaaDoor

namespace Go.Proofs.YtkhaeabbbhfloaaDoor
set_option maxRecDepth 100000
open Go.RowKit Go.Shelf

/-- An array with the values vs from place o on. -/
def laid : Array Value → Nat → List Value → Array Value
  | cur, _, [] => cur
  | cur, o, v :: r => laid (cur.setIfInBounds o v) (o + 1) r

theorem laid_size (cur : Array Value) (o : Nat) (vs : List Value) : (laid cur o vs).size = cur.size := by
  induction vs generalizing cur o with
  | nil => rfl
  | cons v r ih => rw [laid, ih, Array.size_setIfInBounds]

theorem laid_at (cur : Array Value) (o : Nat) (vs : List Value) (i : Nat) (hfit : o + vs.length ≤ cur.size) : (laid cur o vs)[i]? = if o ≤ i ∧ i < o + vs.length then vs[i - o]? else cur[i]? := by
  induction vs generalizing cur o with
  | nil =>
    rw [laid, if_neg (by simp)]
  | cons v r ih =>
    simp only [List.length_cons] at hfit
    rw [laid, ih _ _ (by rw [Array.size_setIfInBounds]; omega), Array.getElem?_setIfInBounds]
    simp only [List.length_cons]
    by_cases h1 : o + 1 ≤ i ∧ i < o + 1 + r.length
    · rw [if_pos h1, if_pos (by omega), show i - o = (i - (o + 1)) + 1 from by omega, List.getElem?_cons_succ]
    · rw [if_neg h1]
      by_cases h2 : o = i
      · subst h2
        rw [if_pos rfl, if_pos (by omega), if_pos (by omega), Nat.sub_self]
        rfl
      · rw [if_neg h2, if_neg (by omega)]

theorem heap_setCells (g : Nat) (t : TypeId) (vs : List Value) : ∀ (o : Nat) (w : World) (cur : Array Value), w.heap[g]? = some (.cells cur t (0, 0)) →
    (w.setCells g o vs).heap[g]? = some (.cells (laid cur o vs) t (0, 0)) ∧ w.grownBy (w.setCells g o vs) (some g) := by
  induction vs with
  | nil => intro o w cur h; exact ⟨h, World.grownBy.refl w _⟩
  | cons v r ih =>
    intro o w cur h
    obtain ⟨h1, h2⟩ := ih (o + 1) (w.setCell ⟨g, o, none⟩ v) (cur.setIfInBounds o v) (heap_setCell_same w g o cur t v h)
    have h0 : w.grownBy (w.setCell ⟨g, o, none⟩ v) (some g) := ⟨rfl, rfl, rfl, by simp, fun k _ hk => heap_setCell_other w ⟨g, o, none⟩ k v (fun e => hk (by simp [e]))⟩
    exact ⟨h1, h0.andThen h2 (fun j hj => .inr hj)⟩

theorem toList_take_ext {a : Array Value} {xs : List Value} {n : Nat} (hn : xs.length = n) (h : ∀ i, i < n → a[i]? = xs[i]?) : a.toList.take n = xs := by
  apply List.ext_getElem?
  intro i
  rw [List.getElem?_take]
  by_cases hi : i < n
  · rw [if_pos hi, Array.getElem?_toList]
    exact h i hi
  · rw [if_neg hi, List.getElem?_eq_none (by omega)]

/-- The parts of a row that owns sleepers. -/
theorem own_parts {w : World} {B g cap : Nat} {l : List (Int × Int)} (h : w.ownsRow B 113 2 (.slice (some ⟨g, 0, none⟩) l.length cap) l.length (cells2 l)) :
    ∃ cur, w.heap[g]? = some (.cells cur 113 (0, 0)) ∧ B ≤ g ∧ l.length ≤ cap ∧ cap ≤ maxLen ∧ cur.size = cap * 2 ∧ ∀ i, i < l.length * 2 → cur[i]? = (cells2 l)[i]? := by
  rcases h.2 with ⟨e, _⟩ | ⟨g', cap', cur, e, hb, hh, h1, h2, h3, h4⟩
  · simp at e
  · simp only [Value.slice.injEq, Option.some.injEq, Addr.mk.injEq, and_true, true_and] at e
    obtain ⟨rfl, rfl⟩ := e
    refine ⟨cur, hh, hb, h1, h2, h3, fun i hi => ?_⟩
    rw [← h4, List.getElem?_take, if_pos hi, Array.getElem?_toList]

theorem own_of_parts {w : World} {B g cap n : Nat} {cur : Array Value} {l : List (Int × Int)} (hn : l.length = n) (hh : w.heap[g]? = some (.cells cur 113 (0, 0))) (hb : B ≤ g) (h1 : l.length ≤ cap) (h2 : cap ≤ maxLen) (h3 : cur.size = cap * 2) (h : ∀ i, i < l.length * 2 → cur[i]? = (cells2 l)[i]?) :
    w.ownsRow B 113 2 (.slice (some ⟨g, 0, none⟩) n cap) l.length (cells2 l) := by
  subst hn
  exact ⟨cells2_length l, .inr ⟨g, cap, cur, rfl, hb, hh, h1, h2, h3, toList_take_ext (cells2_length l) h⟩⟩

/-- 'clear' on a slice of sleepers. -/
theorem run_clear2 (w : World) (ty : TypeId) (b o n c : Nat) (hc : ∀ j, j < n * 2 → (w.cell? ⟨b, o + j, none⟩).isSome = true) (hf : ∀ j, j < n * 2 → w.frozen? ⟨b, o + j, none⟩ = false) :
    (Builtin.clear_ #[102] ty #[.slice (some ⟨b, o, none⟩) n c]).run Tryd.prog w = .ok (.tuple #[]) (w.setCells b o (Builtin.zeroCells #[.int .i64 0, .int .i64 0] n).toList) := by
  have hz : ∀ w, (zeroValue 113).run Tryd.prog w = .ok (.agg #[.int .i64 0, .int .i64 0]) w := fun w => by kernel_rfl
  have hl : (Builtin.zeroCells #[Value.int .i64 0, .int .i64 0] n).toList.length = n * 2 := by simp [Builtin.zeroCells]
  have h1 : ∀ v ∈ (Builtin.zeroCells #[Value.int .i64 0, .int .i64 0] n).toList, v.oneCell' = true := by
    intro v hv
    simp [Builtin.zeroCells] at hv
    obtain ⟨i, _, rfl⟩ := hv
    rcases Nat.mod_two_eq_zero_or_one i with e | e <;> simp [e] <;> rfl
  rcases n with _ | m
  · simp [Builtin.clear_, run_underlying Tryd.underlying102, Builtin.zeroCells, World.setCells]
  · have hst := run_storeCells_cells (P := Tryd.prog) b o _ 0 w (by rw [hl]; simpa using hc) (by rw [hl]; simpa using hf) h1
    simp only [Nat.add_zero] at hst
    simp [Builtin.clear_, run_underlying Tryd.underlying102, hz, Value.cells, hst]
end Go.Proofs.YtkhaeabbbhfloaaDoor

namespace Go.Proofs.YtkhaeabbbhfloaaDoor
set_option maxRecDepth 100000
open Go.RowKit Go.Shelf

/-- What cutting a row to the sleepers r comes to. -/
def CutTo (B g cap : Nat) (r : List (Int × Int)) (w : World) (e : Ending) (w' : World) : Prop :=
  e = .returned (.slice (some ⟨g, 0, none⟩) r.length cap) ∧ w'.ownsRow B 113 2 (.slice (some ⟨g, 0, none⟩) r.length cap) r.length (cells2 r) ∧ w.grownBy w' (some g)

set_option maxHeartbeats 1000000 in
theorem deleteS_any {w : World} {B g cap : Nat} {l : List (Int × Int)} (hown : w.ownsRow B 113 2 (.slice (some ⟨g, 0, none⟩) l.length cap) l.length (cells2 l)) (k : Nat) (hk : k < l.length) :
    Calls Tryd.prog 61 #[.slice (some ⟨g, 0, none⟩) l.length cap, .int .i64 k, .int .i64 ((k : Int) + 1)] w (CutTo B g cap (l.eraseIdx k) w) := by
  obtain ⟨cur, hh, hb, hlc, hcm, hcs, hat⟩ := own_parts hown
  obtain ⟨i0, hi, hz0, hz1, hz2⟩ := info_parts infoSl
  obtain ⟨n, hn⟩ : ∃ n, l.length = n := ⟨_, rfl⟩
  rw [hn] at hk hlc hat ⊢
  unfold maxLen at hcm
  have hkk : ((k : Int) == (k : Int) + 1) = false := by simp; omega
  have hkn : (k : Int) + 1 ≤ (n : Int) := by omega
  have hnc : (n : Int) ≤ (cap : Int) := by omega
  have HN := Lib.hid hn
  have HAT := Lib.hid hat
  have HH := Lib.hid hh
  obtain ⟨news, hnews⟩ : ∃ news, news = cells2 (l.drop (k + 1)) := ⟨_, rfl⟩
  have hnl : news.length = (n - (k + 1)) * 2 := by rw [hnews, cells2_length, List.length_drop, hn]
  obtain ⟨A, hA, hsrc⟩ : ∃ A : Addr, (if cap = k + 1 then some (⟨g, 0, none⟩ : Addr) else some ⟨g, (k + 1) * 2, none⟩) = some A ∧ Hid (∀ t u, news[t]? = some u → w.drew.cell? (A.add t) = some u) := by
    by_cases h : cap = k + 1
    · refine ⟨⟨g, 0, none⟩, by simp [h], fun t u hu => ?_⟩
      rw [List.length_eq_zero_iff.1 (show news.length = 0 by omega)] at hu
      simp at hu
    · refine ⟨⟨g, (k + 1) * 2, none⟩, by simp [h], fun t u hu => ?_⟩
      have ht : t < (n - (k + 1)) * 2 := by
        have := (List.getElem?_eq_some_iff.1 hu).1
        omega
      have ha : (⟨g, (k + 1) * 2, none⟩ : Addr).add t = ⟨g, (k + 1) * 2 + t, none⟩ := by unfold Addr.add; split <;> simp_all
      rw [ha]
      show w.cell? _ = _
      rw [cell_of_row w g _ cur _ _ hh, hat _ (by omega), ← hu, hnews, ← cells2_drop, List.getElem?_drop]
  have s1 : Hid (news.length = (n - (k + 1)) * 2) := hnl
  have s2 : Hid (∀ u ∈ news, u.oneCell' = true) := by rw [hnews]; exact cells2_one _
  have s3 : Hid (∀ t, t < news.length → (w.drew.cell? ⟨g, 0 + k * 2 + t, none⟩).isSome = true ∧ w.drew.frozen? ⟨g, 0 + k * 2 + t, none⟩ = false) := by
    intro t ht
    refine ⟨?_, ?_⟩
    · show (w.cell? _).isSome = true
      rw [cell_of_row w g _ cur _ _ hh, Array.getElem?_eq_getElem (by omega)]
      rfl
    · show w.frozen? _ = false
      exact frozen_of_row w g _ cur _ hh
  have hset := heap_setCells g 113 news (0 + k * 2) w.drew cur hh
  obtain ⟨W1, hW1⟩ : ∃ W1, W1 = w.drew.setCells g (0 + k * 2) news := ⟨_, rfl⟩
  rw [← hW1] at hset
  obtain ⟨hset1, hset2⟩ := hset
  have hsz := laid_size cur (0 + k * 2) news
  have hcl := fun ty => run_clear2 W1 ty g ((n - 1) * 2) 1 (cap - (n - 1)) (fun j hj => by
    rw [cell_of_row W1 g _ _ _ _ hset1, Array.getElem?_eq_getElem (by omega)]
    rfl) (fun j _ => frozen_of_row W1 g _ _ _ hset1)
  have hset' := heap_setCells g 113 (Builtin.zeroCells #[.int .i64 0, .int .i64 0] 1).toList ((n - 1) * 2) W1 _ hset1
  have hend : (W1.setCells g ((n - 1) * 2) (Builtin.zeroCells #[.int .i64 0, .int .i64 0] 1).toList).ownsRow B 113 2 (.slice (some ⟨g, 0, none⟩) (n - 1) cap) (l.eraseIdx k).length (cells2 (l.eraseIdx k)) := by
    have hel : (l.eraseIdx k).length = n - 1 := by rw [List.length_eraseIdx, if_pos (by omega), hn]
    refine own_of_parts hel hset'.1 hb (by omega) (by unfold maxLen; omega) (by rw [laid_size, hsz, hcs]) (fun i hi => ?_)
    have hz : (Builtin.zeroCells #[Value.int .i64 0, .int .i64 0] 1).toList.length = 2 := by simp [Builtin.zeroCells]
    rw [laid_at _ _ _ _ (by rw [hz, hsz, hcs]; omega), if_neg (by omega), laid_at _ _ _ _ (by rw [hnl, hcs]; omega), List.eraseIdx_eq_take_drop_succ, cells2_append]
    by_cases h1 : i < k * 2
    · rw [if_neg (by omega), hat _ (by omega), List.getElem?_append_left (by rw [cells2_length, List.length_take]; omega), ← cells2_take, List.getElem?_take, if_pos h1]
    · rw [if_pos (by omega), List.getElem?_append_right (by rw [cells2_length, List.length_take]; omega), hnews, cells2_length, List.length_take]
      congr 1
      omega
  have hgrow : w.grownBy (W1.setCells g ((n - 1) * 2) (Builtin.zeroCells #[.int .i64 0, .int .i64 0] 1).toList) (some g) := by
    have h0 : w.grownBy w.drew (some g) := ⟨rfl, rfl, rfl, Nat.le_refl _, fun _ _ _ => rfl⟩
    exact (h0.andThen hset2 (fun j hj => .inr hj)).andThen hset'.2 (fun j hj => .inr hj)
  have hel : (l.eraseIdx k).length = n - 1 := by rw [List.length_eraseIdx, if_pos (by omega), hn]
  have X := Lib.hid hend
  have Y := Lib.hid hgrow
  have Z := Lib.hid hel
  have hW : Hid (W1 = w.drew.setCells g (0 + k * 2) news) := hW1
  have hkc : k ≤ cap := by omega
  have hk1c : k + 1 ≤ cap := by omega
  have hk0 : (0 : Int) ≤ (k : Int) + 1 := by omega
  have hd : k + (n - (k + 1)) = n - 1 := by omega
  have hd2 : n - (n - 1) = 1 := by omega
  have hd3 : n - 1 ≤ n := by omega
  have hd4 : n - 1 ≤ cap := by omega
  clear hn hat hh hown hend hgrow hset' hset1 hset2 hW1 hnews hnl hel HAT HH hsz hcs
  go_enter Tryd.func61, Tryd.ntmps61
  go_wp2_with fail
  go_region_law (refine step_append_room rfl (.tmp 22) (.tmp 25) 102 rfl 113 i0 2 Tryd.underlying102 hi hz1 g 0 k cap (by simp [Act.eval, Act.put]) A (n - (k + 1)) (cap - (k + 1)) news (by simp [Act.eval, Act.put]) s1.out hsrc.out s2.out (by omega) s3.out ?_; rw [← hW.out])
  go_wp2
  go_ret
  unfold CutTo
  have x := X.out
  rw [Z.out] at x ⊢
  exact ⟨rfl, x, Y.out⟩

theorem eraseP_at (p : Int × Int → Bool) (l : List (Int × Int)) (k : Nat) (hk : k < l.length) (hp : p (l.getD k default) = true) (h : ∀ j, j < k → p (l.getD j default) = false) : l.eraseP p = l.eraseIdx k := by
  induction l generalizing k with
  | nil => exact absurd hk (Nat.not_lt_zero _)
  | cons s l ih =>
    rcases k with _ | k
    · have : p s = true := hp
      rw [List.eraseP_cons, this]
      rfl
    · have h0 : p s = false := h 0 (by omega)
      rw [List.eraseP_cons, h0, ih k (by simpa using hk) hp (fun j hj => h (j + 1) (by omega))]
      rfl

set_option maxHeartbeats 400000 in
theorem poke_none {w : World} {B p : Nat} {nt : Int} {v : Value} {l : List (Int × Int)} (h : Lot w B p nt v l) (t : Int) (ht0 : 0 ≤ t) (ht1 : t < nt) (hs : ∀ s ∈ l, isThread t s = false) :
    Calls Tryd.prog 42 #[.pointer (some ⟨p, 0, none⟩), .int .i64 t] w (ToldErr (.iface 80 (.int .i64 6)) w) := by
  have hf := find_any h t
  unfold Found at hf
  rw [firstAt_miss _ _ _ hs] at hf
  have HH := Lib.hid (has_yes h t ht0 ht1)
  have HF := Lib.hid hf
  clear h hf hs
  go_enter Tryd.func42, Tryd.ntmps42
  go_wp2_with fail
  refine HH.out.mono ?_
  rintro e w1 ⟨rfl, rfl⟩
  go_wp2_with fail
  refine HF.out.mono ?_
  rintro e w1 ⟨rfl, hg⟩
  go_wp2
  go_ret
  exact ⟨rfl, hg⟩

set_option maxHeartbeats 400000 in
theorem poke_range {w : World} {B p : Nat} {nt : Int} {v : Value} {l : List (Int × Int)} (h : Lot w B p nt v l) (t : Int) (hr : t < 0 ∨ nt ≤ t) :
    Calls Tryd.prog 42 #[.pointer (some ⟨p, 0, none⟩), .int .i64 t] w (ToldErr (.iface 80 (.int .i64 2)) w) := by
  have HH := Lib.hid (has_no h t hr)
  clear h hr
  go_enter Tryd.func42, Tryd.ntmps42
  go_wp2_with fail
  refine HH.out.mono ?_
  rintro e w1 ⟨rfl, rfl⟩
  go_wp2
  go_ret
  exact ⟨rfl, World.grownBy.refl _ _⟩
end Go.Proofs.YtkhaeabbbhfloaaDoor

namespace Go.Proofs.YtkhaeabbbhfloaaDoor
set_option maxRecDepth 100000
open Go.RowKit Go.Shelf

/-- Those that are kept. -/
def keepers (p : Int × Int → Bool) (l : List (Int × Int)) : List (Int × Int) := l.filter fun s => !p s

theorem keepers_step (p : Int × Int → Bool) (l : List (Int × Int)) (j : Nat) (hj : j < l.length) : keepers p (l.take (j + 1)) = keepers p (l.take j) ++ (if p (l.getD j default) then [] else [l.getD j default]) := by
  unfold keepers
  rw [List.take_succ_eq_append_getElem hj, List.filter_append, List.getD_eq_getElem?_getD, List.getElem?_eq_getElem hj]
  congr 1
  simp only [List.filter_cons, List.filter_nil, Option.getD_some]
  cases p l[j] <;> rfl

theorem keepers_all (p : Int × Int → Bool) (l : List (Int × Int)) (h : ∀ s ∈ l, p s = false) : keepers p l = l := by
  unfold keepers
  exact List.filter_eq_self.2 fun s hs => by rw [h s hs]; rfl

/-- What holds at every head of the loop: j are looked at, i of them kept. -/
structure Sieve (w wr : World) (g cap : Nat) (cur : Array Value) (l : List (Int × Int)) (p : Int × Int → Bool) (i j : Nat) : Prop where
  hj : j ≤ l.length
  hij : i < j
  row : ∃ cu, wr.heap[g]? = some (.cells cu 113 (0, 0)) ∧ cu.size = cap * 2 ∧ (∀ x, x < i * 2 → cu[x]? = (cells2 (keepers p (l.take j)))[x]?) ∧ ∀ x, j * 2 ≤ x → cu[x]? = cur[x]?
  len : (keepers p (l.take j)).length = i
  grow : w.grownBy wr (some g)

theorem Sieve.drop {w wr w' : World} {g cap : Nat} {cur : Array Value} {l : List (Int × Int)} {p : Int × Int → Bool} {i j : Nat} (h : Sieve w wr g cap cur l p i j) (hlt : j < l.length) (hp : p (l.getD j default) = true) (hg : wr.grownBy w' none) : Sieve w w' g cap cur l p i (j + 1) := by
  obtain ⟨cu, h1, h2, h3, h4⟩ := h.row
  have e : keepers p (l.take (j + 1)) = keepers p (l.take j) := by rw [keepers_step p l j hlt, hp, if_pos rfl, List.append_nil]
  refine ⟨by omega, by have := h.hij; omega, ⟨cu, (hg.block g (lt_of_block h1) (by simp)).trans h1, h2, by rw [e]; exact h3, fun x hx => h4 x (by omega)⟩, by rw [e]; exact h.len, h.grow.andThen hg (by intro k hk; cases hk)⟩

theorem Sieve.keep {w wr w1 : World} {g cap : Nat} {cur : Array Value} {l : List (Int × Int)} {p : Int × Int → Bool} {i j : Nat} (h : Sieve w wr g cap cur l p i j) (hlt : j < l.length) (hcap : l.length ≤ cap) (hp : p (l.getD j default) = false) (hg : wr.grownBy w1 none) :
    Sieve w ((w1.setCell ⟨g, i * 2, none⟩ (.int .i64 (l.getD j default).1)).setCell ⟨g, i * 2 + 1, none⟩ (.int .i64 (l.getD j default).2)) g cap cur l p (i + 1) (j + 1) := by
  obtain ⟨cu, h1, h2, h3, h4⟩ := h.row
  have hij := h.hij
  have e : keepers p (l.take (j + 1)) = keepers p (l.take j) ++ [l.getD j default] := by rw [keepers_step p l j hlt, hp, if_neg (by simp)]
  have hh1 : w1.heap[g]? = some (.cells cu 113 (0, 0)) := (hg.block g (lt_of_block h1) (by simp)).trans h1
  have hs := heap_setCells g 113 [.int .i64 (l.getD j default).1, .int .i64 (l.getD j default).2] (i * 2) w1 cu hh1
  refine ⟨by omega, by omega, ⟨_, hs.1, by rw [laid_size]; exact h2, fun x hx => ?_, fun x hx => ?_⟩, ?_, ?_⟩
  · rw [laid_at _ _ _ _ (by rw [h2]; simp; omega), e, cells2_append]
    by_cases hx2 : x < i * 2
    · rw [if_neg (by omega), h3 x hx2, List.getElem?_append_left (by rw [cells2_length, h.len]; exact hx2)]
    · rw [if_pos (by simp; omega), List.getElem?_append_right (by rw [cells2_length, h.len]; omega), cells2_length, h.len]
      rfl
  · rw [laid_at _ _ _ _ (by rw [h2]; simp; omega), if_neg (by simp; omega), h4 x (by omega)]
  · rw [e, List.length_append, h.len]
    rfl
  · exact (h.grow.andThen hg (by intro k hk; cases hk)).andThen hs.2 (fun k hk => .inr hk)

set_option maxHeartbeats 1000000 in
theorem deleteFuncS_any {w : World} {B g cap : Nat} {l : List (Int × Int)} (hown : w.ownsRow B 113 2 (.slice (some ⟨g, 0, none⟩) l.length cap) l.length (cells2 l)) (p : Int × Int → Bool) (f : Nat) (lb : Array Value) (eg : ∀ args w, (callFunc f args).run Tryd.prog w = .ok (.enter f args) w) (hp : Pred f lb p w (some g)) :
    Calls Tryd.prog 87 #[.slice (some ⟨g, 0, none⟩) l.length cap, .func (.func f) #[] lb] w (CutTo B g cap (keepers p l) w) := by
  obtain ⟨cur, hh, hb, hlc, hcm, hcs, hat⟩ := own_parts hown
  unfold maxLen at hcm
  have hrow : Row2 w (.slice (some ⟨g, 0, none⟩) l.length cap) l := by
    refine ⟨⟨_, _, rfl, fun _ => ⟨g, rfl, lt_of_block hh, fun k hk => ?_⟩⟩, by omega⟩
    obtain ⟨h1, h2⟩ := cells2_at l k hk
    exact ⟨(hown.cellAt (k * 2) (by omega)).trans h1, (hown.cellAt (k * 2 + 1) (by omega)).trans h2⟩
  have hf := indexFuncS_any hrow p f lb eg (some g) hp
  unfold Found at hf
  rcases firstAt_cases p l with ⟨e1, hall⟩ | ⟨k0, hk0, e1, hpk, _, hpj⟩
  · rw [e1] at hf
    rw [keepers_all p l hall]
    have HF := Lib.hid hf
    have HO := Lib.hid hown
    clear hf hown hall e1 hat hh hp hrow
    go_enter Tryd.func87, Tryd.ntmps87
    go_wp2_with fail
    refine HF.out.mono ?_
    rintro e w' ⟨rfl, hg⟩
    have ho : w'.ownsRow B 113 2 (.slice (some ⟨g, 0, none⟩) l.length cap) l.length (cells2 l) := HO.out.kept hg (.inr (by simp [Value.ownBlock]))
    have HO2 := Lib.hid ho
    have HG := Lib.hid (hg.but (some g))
    clear ho hg HF HO
    go_wp2
    go_ret
    exact ⟨rfl, HO2.out, HG.out⟩
  · rw [e1] at hf
    have hne : ((k0 : Int) == -1) = false := beq_eq_false_iff_ne.2 (by omega)
    have hs0 : ∀ W, w.grownBy W none → Sieve w W g cap cur l p k0 (k0 + 1) := fun W hg => by
      have e : keepers p (l.take (k0 + 1)) = l.take k0 := by
        rw [keepers_step p l k0 hk0, hpk, if_pos rfl, List.append_nil, keepers_all]
        intro s hs
        obtain ⟨j, hj, rfl⟩ := List.mem_iff_getElem.1 hs
        have hj2 : j < k0 := by rw [List.length_take] at hj; omega
        have := hpj j hj2
        rw [List.getD_eq_getElem?_getD, List.getElem?_eq_getElem (by omega)] at this
        rw [List.getElem_take]
        exact this
      refine ⟨hk0, by omega, ⟨cur, (hg.block g (lt_of_block hh) (by simp)).trans hh, hcs, fun x hx => ?_, fun x _ => rfl⟩, by rw [e, List.length_take]; omega, hg.but _⟩
      rw [e, ← cells2_take, List.getElem?_take, if_pos hx]
      exact hat x (by omega)
    have S0 := Lib.hid hs0
    have HF := Lib.hid hf
    have HP := Lib.hid hp
    have HAT := Lib.hid hat
    have hlen9 : l.length ≤ 9223372036854775807 := by omega
    clear hs0 hf hp hat hown hpk hpj e1 hrow hh
    go_enter Tryd.func87, Tryd.ntmps87
    go_wp2_with fail
    refine HF.out.mono ?_
    rintro e w' ⟨rfl, hg⟩
    have S1 := Lib.hid (S0.out w' hg)
    clear HF S0 hg
    go_wp2
    go_loopw [5, 6] (fun s5 s6 wr => ∃ i j : Nat, s5 = .int .i64 i ∧ s6 = .int .i64 j ∧ Hid (Sieve w wr g cap cur l p i j)) (fun _ s6 _ => l.length - (intOf s6).toNat)
    case atStart => exact ⟨k0, k0 + 1, rfl, by go_num, S1⟩
    case round =>
      obtain ⟨i, j, rfl, rfl, hS⟩ := hrel
      have hij := hS.out.hij
      have hjn := hS.out.hj
      obtain ⟨cu, hh, hcs2, _, hhi⟩ := hS.out.row
      by_cases hlt : j < l.length
      · have hjl : (j : Int) < (l.length : Int) := by omega
        obtain ⟨a1, a2⟩ := cells2_at l j hlt
        have c1 : wr.cell? ⟨g, j * 2, none⟩ = some (.int .i64 (l.getD j default).1) := by
          rw [cell_of_row wr g _ _ _ _ hh, hhi _ (by omega), HAT.out _ (by omega), a1]
        have c2 : wr.cell? ⟨g, j * 2 + 1, none⟩ = some (.int .i64 (l.getD j default).2) := by
          rw [cell_of_row wr g _ _ _ _ hh, hhi _ (by omega), HAT.out _ (by omega), a2]
        obtain ⟨s, hs⟩ : ∃ s, l.getD j default = s := ⟨_, rfl⟩
        rw [hs] at c1 c2
        have HS := Lib.hid hs
        have hglt : g < wr.heap.size := lt_of_block hh
        have hgne : g ≠ wr.heap.size := by omega
        have hcall := HP.out (wr.alloc (.cells #[.int .i64 s.1, .int .i64 s.2] 113)) s (hS.out.grow.andThen (World.grownBy_alloc _ _ none) (by intro k hk; cases hk))
        have HC := Lib.hid hcall
        have HH := Lib.hid hh
        clear hs a1 a2 hhi hcall hh
        cases hq : p s with
        | true =>
          have hc := HC.out
          rw [hq] at hc
          have HC2 := Lib.hid hc
          have HQ := Lib.hid hq
          clear hc HC hq
          go_wp2_with fail
          refine HC2.out.mono ?_
          rintro e w1 ⟨rfl, hg1⟩
          have hS2 := hS.out.drop hlt (by rw [HS.out]; exact HQ.out) ((World.grownBy_alloc wr (.cells #[.int .i64 s.1, .int .i64 s.2] 113) none).andThen hg1 (by intro k hk; cases hk))
          have HS2 := Lib.hid hS2
          clear hS2 hg1 HC2
          go_wp2
          go_roundw
          case rel => exact ⟨i, j + 1, rfl, by go_num, HS2⟩
          case measure => simp [intOf]; omega
        | false =>
          have hc := HC.out
          rw [hq] at hc
          have HC2 := Lib.hid hc
          have HQ := Lib.hid hq
          clear hc HC hq
          go_wp2_with fail
          refine HC2.out.mono ?_
          rintro e w1 ⟨rfl, hg1⟩
          have hS2 := hS.out.keep (w1 := w1) hlt hlc (by rw [HS.out]; exact HQ.out) ((World.grownBy_alloc wr (.cells #[.int .i64 s.1, .int .i64 s.2] 113) none).andThen hg1 (by intro k hk; cases hk))
          rw [HS.out] at hS2
          have hh1 : w1.heap[g]? = some (.cells cu 113 (0, 0)) := (hg1.block g (by simp; omega) (by simp)).trans ((Below.heap_alloc wr _ g hglt).trans HH.out)
          have hv1 : w1.heap[wr.heap.size]? = some (.cells #[.int .i64 s.1, .int .i64 s.2] 113 (0, 0)) := (hg1.block wr.heap.size (by simp) (by simp)).trans (heap_alloc_new wr _)
          have e1 : w1.cell? ⟨wr.heap.size, 0, none⟩ = some (.int .i64 s.1) := by rw [cell_of_row w1 _ _ _ _ _ hv1]; rfl
          have e2 : w1.cell? ⟨wr.heap.size, 1, none⟩ = some (.int .i64 s.2) := by rw [cell_of_row w1 _ _ _ _ _ hv1]; rfl
          obtain ⟨o1, e3⟩ : ∃ o, w1.cell? ⟨g, i * 2, none⟩ = some o := ⟨cu[i * 2]'(by omega), by rw [cell_of_row w1 g _ _ _ _ hh1, Array.getElem?_eq_getElem (by omega)]⟩
          obtain ⟨o2, e4⟩ : ∃ o, w1.cell? ⟨g, i * 2 + 1, none⟩ = some o := ⟨cu[i * 2 + 1]'(by omega), by rw [cell_of_row w1 g _ _ _ _ hh1, Array.getElem?_eq_getElem (by omega)]⟩
          have e5 : w1.frozen? ⟨g, i * 2, none⟩ = false := frozen_of_row w1 g _ _ _ hh1
          have e6 : w1.frozen? ⟨g, i * 2 + 1, none⟩ = false := frozen_of_row w1 g _ _ _ hh1
          have hil : (i : Int) < (l.length : Int) := by omega
          have HS2 := Lib.hid hS2
          clear hS2 hg1 HC2 hh1 hv1 c1 c2
          go_wp2
          go_roundw
          case rel => exact ⟨i + 1, j + 1, by go_num, by go_num, HS2⟩
          case measure => simp [intOf]; omega
      · obtain rfl : j = l.length := by omega
        have hjl : ¬ (l.length : Int) < (l.length : Int) := by omega
        have hcl := fun ty => run_clear2 wr ty g (i * 2) (l.length - i) (cap - i) (fun x hx => by
          rw [cell_of_row wr g _ _ _ _ hh, Array.getElem?_eq_getElem (by omega)]
          rfl) (fun x _ => frozen_of_row wr g _ _ _ hh)
        have hset := heap_setCells g 113 (Builtin.zeroCells #[.int .i64 0, .int .i64 0] (l.length - i)).toList (i * 2) wr cu hh
        have hlen := hS.out.len
        rw [List.take_length] at hlen
        have hend : (wr.setCells g (i * 2) (Builtin.zeroCells #[.int .i64 0, .int .i64 0] (l.length - i)).toList).ownsRow B 113 2 (.slice (some ⟨g, 0, none⟩) i cap) (keepers p l).length (cells2 (keepers p l)) := by
          refine own_of_parts hlen hset.1 hb (by omega) (by unfold maxLen; omega) (by rw [laid_size, hcs2]) (fun x hx => ?_)
          have hz : (Builtin.zeroCells #[Value.int .i64 0, .int .i64 0] (l.length - i)).toList.length = (l.length - i) * 2 := by simp [Builtin.zeroCells]
          rw [laid_at _ _ _ _ (by rw [hz, hcs2]; omega), if_neg (by omega)]
          obtain ⟨cu', hh', _, h3, _⟩ := hS.out.row
          rw [hh] at hh'
          injection hh' with hh'
          injection hh' with hh'
          subst hh'
          rw [List.take_length] at h3
          exact h3 x (by omega)
        have hgrow := hS.out.grow.andThen hset.2 (fun k hk => .inr hk)
        have X := Lib.hid hend
        have Y := Lib.hid hgrow
        have Z := Lib.hid hlen
        have hic : i ≤ cap := by omega
        have hil : i ≤ l.length := by omega
        have hne2 : ¬ cap = i := by omega
        have hi0 : (0 : Int) ≤ (i : Int) := by omega
        clear hend hgrow hset hh hhi hlen hS HP
        go_wp2
        go_ret
        unfold CutTo
        have x := X.out
        rw [Z.out] at x ⊢
        exact ⟨rfl, x, Y.out⟩
end Go.Proofs.YtkhaeabbbhfloaaDoor

namespace Go.Proofs.YtkhaeabbbhfloaaDoor
set_option maxRecDepth 100000
open Go.RowKit Go.Shelf

/-- All blocks that there were, but those of S, are as they were. -/
structure Keeps (S : Nat → Prop) (w w' : World) : Prop where
  os : w'.os = w.os
  tape : w'.tape = w.tape
  output : w'.output = w.output
  size : w.heap.size ≤ w'.heap.size
  block : ∀ k, k < w.heap.size → ¬ S k → w'.heap[k]? = w.heap[k]?

theorem Keeps.of_grown {S : Nat → Prop} {w w' : World} {row : Option Nat} (h : w.grownBy w' row) (hS : ∀ k, row = some k → S k) : Keeps S w w' :=
  ⟨h.os, h.tape, h.output, h.size, fun k hk hn => h.block k hk (fun e => hn (hS k e.symm))⟩
theorem Keeps.trans {S : Nat → Prop} {a b c : World} (h : Keeps S a b) (k : Keeps S b c) : Keeps S a c :=
  ⟨k.os.trans h.os, k.tape.trans h.tape, k.output.trans h.output, Nat.le_trans h.size k.size, fun i hi hn => (k.block i (Nat.lt_of_lt_of_le hi h.size) hn).trans (h.block i hi hn)⟩
theorem Keeps.setCell {S : Nat → Prop} {w w' : World} (h : Keeps S w w') (a : Addr) (ha : S a.block) (u : Value) : Keeps S w (w'.setCell a u) :=
  h.trans ⟨rfl, rfl, rfl, by simp, fun k _ hn => heap_setCell_other w' a k u (fun e => hn (by rw [e]; exact ha))⟩
theorem Keeps.below {S : Nat → Prop} {w w' : World} {B : Nat} (h : Keeps S w w') (hB : B ≤ w.heap.size) (hS : ∀ k, S k → B ≤ k) : Below B w w' :=
  ⟨h.os, h.tape, h.output, h.size, fun k hk => h.block k (by omega) (fun hs => by have := hS k hs; omega)⟩
theorem Lot.keeps {S : Nat → Prop} {w w' : World} {B p : Nat} {nt : Int} {v : Value} {l : List (Int × Int)} (h : Lot w B p nt v l) (hk : Keeps S w w') (h1 : ¬ S p) (h2 : ∀ g, v.ownBlock = some g → ¬ S g) : Lot w' B p nt v l := by
  refine ⟨(hk.block p h.lt h1).trans h.at_, ?_, h.lo⟩
  refine ⟨h.own.1, ?_⟩
  rcases h.own.2 with hn | ⟨g, cap, cur, rfl, hb, hg, rest⟩
  · exact .inl hn
  · exact .inr ⟨g, cap, cur, rfl, hb, (hk.block g (lt_of_block hg) (h2 g rfl)).trans hg, rest⟩

set_option maxHeartbeats 400000 in
theorem indexI_yes {w : World} {B : Nat} (A : Option Addr) (n c : Nat) (xs : List Int) (h : Ints .i64 w B A n xs) (hn : n ≤ 9223372036854775807) (t : Int) (k : Nat) (hk : k < n) (hx : xs.getD k 0 = t) (hj : ∀ j, j < k → xs.getD j 0 ≠ t) :
    Calls Tryd.prog 93 #[.slice A n c, .int .i64 t] w fun e w' => e = .returned (.int .i64 k) ∧ w = w' := by
  obtain ⟨b, off, rfl, _, hc⟩ := h.row (by omega)
  have HJ := Lib.hid hj
  have HX := Lib.hid hx
  have HC := Lib.hid hc
  clear h hj hx hc
  go_enter Tryd.func93, Tryd.ntmps93
  go_wp2
  go_loop [5, 8] (fun _ i => ∃ j : Nat, j ≤ k ∧ i = .int .i64 j) (fun _ i => n - (intOf i).toNat)
  case atStart => exact ⟨0, Nat.zero_le _, rfl⟩
  case round =>
    obtain ⟨j, hjk, rfl⟩ := hrel
    have hjn : (j : Int) < (n : Int) := by omega
    have hcj := HC.out j (by omega)
    by_cases e : j = k
    · subst e
      rw [HX.out] at hcj
      have htt : (t == t) = true := by simp
      go_wp2
      go_ret
      exact ⟨rfl, rfl⟩
    · have hne : (t == xs.getD j 0) = false := beq_eq_false_iff_ne.2 (fun e2 => HJ.out j (by omega) e2.symm)
      generalize xs.getD j 0 = u at hcj hne
      go_wp2
      go_round
      case rel => exact ⟨j + 1, by omega, by go_num⟩
      case measure => simp [intOf]; omega

set_option maxHeartbeats 400000 in
theorem indexI_no {w : World} {B : Nat} (A : Option Addr) (n c : Nat) (xs : List Int) (h : Ints .i64 w B A n xs) (hn : n ≤ 9223372036854775807) (t : Int) (hj : ∀ j, j < n → xs.getD j 0 ≠ t) :
    Calls Tryd.prog 93 #[.slice A n c, .int .i64 t] w fun e w' => e = .returned (.int .i64 (-1)) ∧ w = w' := by
  have HJ := Lib.hid hj
  clear hj
  go_enter Tryd.func93, Tryd.ntmps93
  go_wp2
  go_loop [5, 8] (fun _ i => ∃ j : Nat, j ≤ n ∧ i = .int .i64 j) (fun _ i => n - (intOf i).toNat)
  case atStart => exact ⟨0, Nat.zero_le _, rfl⟩
  case round =>
    obtain ⟨j, hjk, rfl⟩ := hrel
    by_cases e : j < n
    · obtain ⟨b, off, rfl, _, hc⟩ := h.row (by omega)
      have hcj := hc j e
      have hjn : (j : Int) < (n : Int) := by omega
      have hne : (t == xs.getD j 0) = false := beq_eq_false_iff_ne.2 (fun e2 => HJ.out j (by omega) e2.symm)
      clear hc h
      generalize xs.getD j 0 = u at hcj hne
      go_wp2
      go_round
      case rel => exact ⟨j + 1, by omega, by go_num⟩
      case measure => simp [intOf]; omega
    · have hjn : ¬ (j : Int) < (n : Int) := by omega
      go_wp2
      go_ret
      exact ⟨rfl, rfl⟩

theorem contains_cases (xs : List Int) (n : Nat) (hl : xs.length = n) (t : Int) : (xs.contains t = true ∧ ∃ k, k < n ∧ xs.getD k 0 = t ∧ ∀ j, j < k → xs.getD j 0 ≠ t) ∨ (xs.contains t = false ∧ ∀ j, j < n → xs.getD j 0 ≠ t) := by
  subst hl
  induction xs with
  | nil => exact .inr ⟨rfl, fun j hj => absurd hj (Nat.not_lt_zero _)⟩
  | cons x xs ih =>
    by_cases hx : x = t
    · subst hx
      exact .inl ⟨by simp, 0, by simp, rfl, fun j hj => absurd hj (Nat.not_lt_zero _)⟩
    · rcases ih with ⟨h1, k, hk, hk1, hk2⟩ | ⟨h1, h2⟩
      · refine .inl ⟨by simp at h1 ⊢; exact .inr h1, k + 1, by simpa using hk, hk1, fun j hj => ?_⟩
        rcases j with _ | j
        · exact hx
        · exact hk2 j (by omega)
      · refine .inr ⟨by simp at h1 ⊢; exact ⟨fun e => hx e.symm, h1⟩, fun j hj => ?_⟩
        rcases j with _ | j
        · exact hx
        · exact h2 j (by simpa using hj)

set_option maxHeartbeats 400000 in
theorem containsI_any {w : World} {B : Nat} (A : Option Addr) (n c : Nat) (xs : List Int) (h : Ints .i64 w B A n xs) (hn : n ≤ 9223372036854775807) (t : Int) :
    Calls Tryd.prog 89 #[.slice A n c, .int .i64 t] w fun e w' => e = .returned (.bool (xs.contains t)) ∧ w = w' := by
  rcases contains_cases xs n h.len t with ⟨h1, k, hk, hk1, hk2⟩ | ⟨h1, h2⟩
  · rw [h1]
    have HI := Lib.hid (indexI_yes A n c xs h hn t k hk hk1 hk2)
    have hk0 : (0 : Int) ≤ (k : Int) := by omega
    clear h h1 hk1 hk2
    go_enter Tryd.func89, Tryd.ntmps89
    go_wp2_with fail
    refine HI.out.mono ?_
    rintro e w' ⟨rfl, rfl⟩
    go_wp2
    go_ret
    exact ⟨rfl, rfl⟩
  · rw [h1]
    have HI := Lib.hid (indexI_no A n c xs h hn t h2)
    clear h h1 h2
    go_enter Tryd.func89, Tryd.ntmps89
    go_wp2_with fail
    refine HI.out.mono ?_
    rintro e w' ⟨rfl, rfl⟩
    go_wp2
    go_ret
    exact ⟨rfl, rfl⟩

set_option maxHeartbeats 400000 in
theorem wakec_any (b : Nat) (A : Option Addr) (n c B : Nat) (xs : List Int) (s : Int × Int) (W : World) (hc : W.cell? ⟨b, 0, none⟩ = some (.slice A n c)) (h : Ints .i64 W B A n xs) (hB : B ≤ W.heap.size) (hn : n ≤ 9223372036854775807) :
    Calls Tryd.prog 88 #[.agg #[.int .i64 s.1, .int .i64 s.2], .pointer (some ⟨b, 0, none⟩)] W fun e w' => e = .returned (.bool (xs.contains s.1)) ∧ W.grownBy w' none := by
  have hb : b < W.heap.size := World.block_lt_of_cell? W _ hc
  have hne : b ≠ W.heap.size := by omega
  have h1 : Ints .i64 (W.alloc (.cells #[.int .i64 s.1, .int .i64 s.2] 113)) B A n xs := h.keep (Nat.le_refl _) fun p hp => World.cell?_alloc_lt W _ p (by omega)
  have HI := Lib.hid (containsI_any A n c xs h1 hn s.1)
  rcases s with ⟨s1, s2⟩
  generalize xs.contains s1 = r at HI ⊢
  clear h h1
  go_enter Tryd.func88, Tryd.ntmps88
  go_wp2_with fail
  refine HI.out.mono ?_
  rintro e w' ⟨rfl, rfl⟩
  go_wp2
  go_ret
  exact ⟨rfl, World.grownBy_alloc _ _ _⟩

set_option maxHeartbeats 400000 in
theorem deleteFuncS_nil {w : World} (p : Int × Int → Bool) (f : Nat) (lb : Array Value) (eg : ∀ args w, (callFunc f args).run Tryd.prog w = .ok (.enter f args) w) (hp : Pred f lb p w none) :
    Calls Tryd.prog 87 #[.slice none 0 0, .func (.func f) #[] lb] w fun e w' => e = .returned (.slice none 0 0) ∧ w.grownBy w' none := by
  have hrow : Row2 w (.slice none 0 0) [] := ⟨⟨none, 0, rfl, fun h => absurd h (Nat.lt_irrefl 0)⟩, by decide⟩
  have hf := indexFuncS_any hrow p f lb eg none hp
  have HF := Lib.hid hf
  clear hf hrow hp
  go_enter Tryd.func87, Tryd.ntmps87
  go_wp2_with fail
  refine HF.out.mono ?_
  rintro e w' ⟨he, hg⟩
  obtain rfl : e = .returned (.int .i64 (-1)) := he
  have HG := Lib.hid hg
  clear hg HF
  go_wp2
  go_ret
  exact ⟨rfl, HG.out⟩
end Go.Proofs.YtkhaeabbbhfloaaDoor

namespace Go.Proofs.YtkhaeabbbhfloaaDoor
set_option maxRecDepth 100000
open Go.RowKit Go.Shelf

/-- How many are woken. -/
def wakeN (n : Int) (T : List Int) : Nat := min n.toNat T.length

/-- Those that sleep on. -/
def rest (l : List (Int × Int)) (T : List Int) : List (Int × Int) := keepers (fun s => T.contains s.1) l

def Woke (B p : Nat) (nt : Int) (v : Value) (l : List (Int × Int)) (out : List Int) (w : World) (e : Ending) (w' : World) : Prop :=
  ∃ v' A c, e = .returned (.slice A out.length c) ∧ Ints .i64 w' w'.heap.size A out.length out ∧ Lot w' B p nt v' (rest l out) ∧ Keeps (fun k => k = p ∨ some k = v.ownBlock) w w' ∧ v'.ownBlock = v.ownBlock ∧ (0 < out.length → ∃ b off, A = some ⟨b, off, none⟩ ∧ w.heap.size ≤ b)

theorem Ints.take {k : IntKind} {w : World} {B n m : Nat} {A : Option Addr} {xs : List Int} (h : Ints k w B A n xs) (hm : m ≤ n) : Ints k w B A m (xs.take m) := by
  refine ⟨by rw [List.length_take, h.len]; omega, fun h0 => ?_⟩
  obtain ⟨b, off, rfl, hb, hc⟩ := h.row (by omega)
  refine ⟨b, off, rfl, hb, fun i hi => ?_⟩
  rw [hc i (by omega), List.getD_eq_getElem?_getD, List.getD_eq_getElem?_getD, List.getElem?_take, if_pos hi]

/-- What cutting a row, nil or not, to the sleepers r comes to. -/
def CutOwn (B : Nat) (v : Value) (r : List (Int × Int)) (w : World) (e : Ending) (w' : World) : Prop :=
  ∃ v', e = .returned v' ∧ w'.ownsRow B 113 2 v' r.length (cells2 r) ∧ w.grownBy w' v.ownBlock ∧ v'.ownBlock = v.ownBlock

theorem deleteFuncS_own {w : World} {B : Nat} {v : Value} {l : List (Int × Int)} (hown : w.ownsRow B 113 2 v l.length (cells2 l)) (p : Int × Int → Bool) (f : Nat) (lb : Array Value) (eg : ∀ args w, (callFunc f args).run Tryd.prog w = .ok (.enter f args) w) (hp : Pred f lb p w v.ownBlock) :
    Calls Tryd.prog 87 #[v, .func (.func f) #[] lb] w (CutOwn B v (keepers p l) w) := by
  have hown' := hown
  rcases hown.2 with ⟨rfl, e⟩ | ⟨g, cap, cur, rfl, _⟩
  · have hl : l = [] := List.eq_nil_of_length_eq_zero e
    subst hl
    refine (deleteFuncS_nil p f lb eg hp).mono ?_
    rintro e w' ⟨rfl, hg⟩
    exact ⟨_, rfl, World.ownsRow_nil _ _ _ _, hg, rfl⟩
  · refine (deleteFuncS_any hown' p f lb eg hp).mono ?_
    rintro e w' ⟨rfl, h1, h2⟩
    exact ⟨_, rfl, h1, h2, rfl⟩

theorem wakeN_cases (n : Int) (T : List Int) : (n < 0 ∧ wakeN n T = 0) ∨ (¬ n < 0 ∧ n ≤ (T.length : Int) ∧ wakeN n T = n.toNat) ∨ (¬ n < 0 ∧ ¬ n ≤ (T.length : Int) ∧ wakeN n T = T.length) := by
  unfold wakeN
  omega

set_option maxHeartbeats 1000000 in
theorem wake_any {w : World} {B p : Nat} {nt : Int} {v : Value} {l : List (Int × Int)} (h : Lot w B p nt v l) (hsmall : l.length ≤ 1000) (c n : Int) :
    Calls Tryd.prog 74 #[.pointer (some ⟨p, 0, none⟩), .int .i64 c, .int .i64 n] w (Woke B p nt v l ((threadsAt l c).take (wakeN n (threadsAt l c))) w) := by
  have hat := at_any h hsmall c
  have hTl := threadsAt_length l c
  have hvlt : ∀ k, v.ownBlock = some k → k < w.heap.size := fun k hk => (h.own.lt k hk).2
  have hplt := h.lt
  obtain ⟨T, hT⟩ : ∃ T, threadsAt l c = T := ⟨_, rfl⟩
  rw [hT] at hat hTl ⊢
  have eg : ∀ args w, (callFunc 88 args).run Tryd.prog w = .ok (.enter 88 args) w := enters_of Tryd.func88 (by kernel_rfl) rfl
  obtain ⟨Av, cv, hvv⟩ := slice_of_own2 h.own
  have HVV := Lib.hid hvv
  have HA := Lib.hid hat
  have H := Lib.hid h
  have HV := Lib.hid hvlt
  have hmT : wakeN n T ≤ T.length := by unfold wakeN; omega
  have hcases := wakeN_cases n T
  obtain ⟨m, hm⟩ : ∃ m, wakeN n T = m := ⟨_, rfl⟩
  rw [hm] at hcases hmT ⊢
  obtain ⟨O, hO⟩ : ∃ O, T.take m = O := ⟨_, rfl⟩
  have hml : O.length = m := by rw [← hO, List.length_take]; omega
  rw [hO]
  have OO := Lib.hid hO
  have ML := Lib.hid hml
  clear hO hml
  -- what happens behind the two calls, for whatever number that is woken
  have key : ∀ (w1 : World) (A : Option Addr) (c1 : Nat), w1.ownsRow w.heap.size 3 1 (.slice A T.length c1) T.length (T.map (Value.int .i64)) → w.grownBy w1 none →
      Calls Tryd.prog 87 #[v, .func (.func 88) #[] #[.pointer (some ⟨w1.heap.size, 0, none⟩)]] (w1.alloc (.cells #[.slice A m c1] 49)) (CutOwn B v (rest l O) (w1.alloc (.cells #[.slice A m c1] 49))) := by
    intro w1 A c1 hown1 hg1
    have h1 := (H.out.grow hg1).grow (World.grownBy_alloc w1 (.cells #[.slice A m c1] 49) none)
    refine deleteFuncS_own h1.own _ 88 _ eg ?_
    intro W s hgW
    have hsz := hg1.size
    have hb := hgW.block w1.heap.size (by simp) (fun e => by have := HV.out _ e.symm; omega)
    have hcell : W.cell? ⟨w1.heap.size, 0, none⟩ = some (.slice A m c1) := (World.cell?_of_block (a := ⟨w1.heap.size, 0, none⟩) hb).trans (by simp)
    have hownW := (hown1.alloc (.cells #[.slice A m c1] 49)).kept hgW (by
      rcases A with _ | a
      · exact .inl rfl
      · refine .inr (fun e => ?_)
        have h1 := (hown1.lt a.block rfl).1
        have h2 := HV.out a.block e.symm
        omega)
    have hI : Ints .i64 W W.heap.size A m O := by rw [← OO.out]; exact (Ints.of_own hownW).take hmT
    exact wakec_any w1.heap.size A m c1 _ _ s W hcell hI (Nat.le_refl _) (by omega)
  have KEY := Lib.hid key
  -- and behind them
  have fin : ∀ (w1 w2 : World) (A : Option Addr) (c1 : Nat) (v' : Value), w1.ownsRow w.heap.size 3 1 (.slice A T.length c1) T.length (T.map (Value.int .i64)) → w.grownBy w1 none →
      w2.ownsRow B 113 2 v' (rest l O).length (cells2 (rest l O)) → (w1.alloc (.cells #[.slice A m c1] 49)).grownBy w2 v.ownBlock → v'.ownBlock = v.ownBlock →
      w2.cell? ⟨p, 1, none⟩ = some v ∧ w2.frozen? ⟨p, 1, none⟩ = false ∧ (w2.setCell ⟨p, 1, none⟩ v').cell? ⟨w1.heap.size, 0, none⟩ = some (.slice A m c1) ∧
      Woke B p nt v l O w (.returned (.slice A m c1)) (w2.setCell ⟨p, 1, none⟩ v') := by
    intro w1 w2 A c1 v' hown1 hg1 hown2 hg2 hvo
    have hsz := hg1.size
    have hsz2 := hg2.size
    have h1 := (H.out.grow hg1).grow (World.grownBy_alloc w1 (.cells #[.slice A m c1] 49) none)
    have hat2 := (hg2.block p h1.lt (fun e => H.out.apart e.symm)).trans h1.at_
    have hL := Lot.put hat2 h1.lo hown2
    have hwb : w2.heap[w1.heap.size]? = some (.cells #[.slice A m c1] 49 (0, 0)) := (hg2.block w1.heap.size (by simp) (fun e => by have := HV.out _ e.symm; omega)).trans (heap_alloc_new w1 _)
    have hml := ML.out
    refine ⟨by rw [cell_of_row w2 p 1 _ _ _ hat2]; rfl, frozen_of_row w2 p 1 _ _ hat2, ?_, v', A, c1, by rw [hml], ?_, hL, ?_, hvo, fun h0 => by
      obtain ⟨g, cap, hv, hb, _⟩ := hown1.form (by omega : 0 < T.length)
      injection hv with hv1
      exact ⟨g, 0, hv1, hb⟩⟩
    · rw [World.cell?_setCell_other _ _ _ _ (by intro e; injection e with e; omega), cell_of_row w2 _ 0 _ _ _ hwb]
      rfl
    · rw [hml]
      have hown2' := (hown1.alloc (.cells #[.slice A m c1] 49)).kept hg2 (by
        rcases A with _ | a
        · exact .inl rfl
        · refine .inr (fun e => ?_)
          have h1 := (hown1.lt a.block rfl).1
          have h2 := HV.out a.block e.symm
          omega)
      have hne : (Value.slice A T.length c1).ownBlock ≠ some p := by
        rcases A with _ | a
        · simp [Value.ownBlock]
        · intro e
          have h1 := (hown1.lt p e).1
          omega
      rw [← OO.out]
      exact (Ints.of_own (ownsRow_setCell_other hown2' (a := ⟨p, 1, none⟩) hne v')).take hmT
    · exact (((Keeps.of_grown hg1 (by intro k hk; cases hk)).trans (Keeps.of_grown (World.grownBy_alloc w1 (.cells #[.slice A m c1] 49) none) (by intro k hk; cases hk))).trans (Keeps.of_grown hg2 (fun k hk => .inr hk.symm))).setCell _ (.inl rfl) _
  have FIN := Lib.hid fin
  clear hat h hT key fin hvlt hvv eg
  have hvv := HVV.out
  clear HVV
  subst hvv
  rcases hcases with ⟨hn0, hmv⟩ | ⟨hn0, hn1, hmv⟩ | ⟨hn0, hn1, hmv⟩
  all_goals
    subst hmv
    go_enter Tryd.func74, Tryd.ntmps74
    go_wp2_with fail
    refine HA.out.mono ?_
    rintro e w1 ⟨v1, rfl, hown1, hg1⟩
    obtain ⟨A, c1, rfl⟩ := slice_of_own2 hown1
    have hlc : T.length ≤ c1 := by
      rcases hown1.2 with ⟨e, e2⟩ | ⟨_, _, _, e, _, _, h1, _⟩
      · omega
      · injection e with _ _ e; omega
    have h1 := H.out.grow hg1
    obtain ⟨_, hcell, _⟩ := h1.cells
    have hplt1 := h1.lt
    have hp1 : p ≠ w1.heap.size := by omega
    have HO := Lib.hid hown1
    have HG := Lib.hid hg1
    clear h1 hown1 hg1
    go_wp2_with fail
    refine (KEY.out w1 A c1 HO.out HG.out).mono ?_
    rintro e w2 ⟨v', rfl, hown2, hg2, hvo⟩
    obtain ⟨f1, f2, f3, f4⟩ := FIN.out w1 w2 A c1 v' HO.out HG.out hown2 hg2 hvo
    obtain ⟨A2, c2, rfl⟩ := slice_of_own2 hown2
    have F4 := Lib.hid f4
    clear hown2 hg2 hvo f4 hcell
    go_wp2
    go_ret
    exact F4.out
end Go.Proofs.YtkhaeabbbhfloaaDoor

namespace Go.Proofs.YtkhaeabbbhfloaaDoor
set_option maxRecDepth 100000
open Go.RowKit

/-- Block m is a memory of the cells xs; v is its slice, which owns them; both lie from block B on. -/
structure Mem (w : World) (B m : Nat) (v : Value) (xs : List Int) : Prop where
  at_ : w.heap[m]? = some (.cells #[v] 95 (0, 0))
  own : w.ownsRow B 30 1 v xs.length (xs.map (Value.int .u64))
  lo : B ≤ m

theorem Mem.cell {w : World} {B m : Nat} {v : Value} {xs : List Int} (h : Mem w B m v xs) : w.cell? ⟨m, 0, none⟩ = some v := cell_of_one h.at_

/-- A memory's own row lies in another block than the memory itself. -/
theorem Mem.apart {w : World} {B m : Nat} {v : Value} {xs : List Int} (h : Mem w B m v xs) : v.ownBlock ≠ some m := by
  rcases h.own.2 with ⟨rfl, _⟩ | ⟨g, cap, cur, rfl, _, hh, _⟩
  · simp [Value.ownBlock]
  · intro he
    obtain rfl : g = m := by simpa [Value.ownBlock] using he
    have := h.at_
    rw [hh] at this
    injection this with this
    injection this with _ ht
    exact absurd ht (by decide)

/-- What writes neither to the memory's block nor to its row leaves the memory. -/
theorem Mem.grown {w w' : World} {B m : Nat} {v : Value} {xs : List Int} (h : Mem w B m v xs) {row : Option Nat} (hg : w.grownBy w' row) (h1 : some m ≠ row) (h2 : row = none ∨ v.ownBlock ≠ row) : Mem w' B m v xs :=
  ⟨(hg.block m (lt_of_block h.at_) h1).trans h.at_, h.own.kept hg (by
    rcases h2 with rfl | h2
    · cases v.ownBlock <;> simp
    · exact .inr h2), h.lo⟩

theorem Mem.drewN {w : World} {B m : Nat} {v : Value} {xs : List Int} (h : Mem w B m v xs) (q : Nat) : Mem (w.drewN q) B m v xs := ⟨h.at_, h.own, h.lo⟩

theorem Mem.alloc {w : World} {B m : Nat} {v : Value} {xs : List Int} (h : Mem w B m v xs) (o : Obj) : Mem (w.alloc o) B m v xs :=
  h.grown (World.grownBy_alloc w o none) (by simp) (.inl rfl)

/-- The slice's form where there is a cell; what the cell has; that it may be written. -/
theorem Mem.form {w : World} {B m : Nat} {v : Value} {xs : List Int} (h : Mem w B m v xs) {k : Nat} (hk : k < xs.length) :
    ∃ g cap, v = .slice (some ⟨g, 0, none⟩) xs.length cap ∧ B ≤ g ∧ g < w.heap.size ∧ w.cell? ⟨g, k, none⟩ = some (.int .u64 (xs.getD k 0)) ∧ w.frozen? ⟨g, k, none⟩ = false ∧ g ≠ m ∧ xs.length ≤ 9223372036854775807 := by
  obtain ⟨g, cap, rfl, hb, hlt⟩ := h.own.form (by omega)
  refine ⟨g, cap, rfl, hb, hlt, ?_, h.own.frozenAt k, ?_, ?_⟩
  · rw [h.own.cellAt k (by omega), List.getElem?_map, List.getD_eq_getElem?_getD, List.getElem?_eq_getElem hk]
    rfl
  · intro e
    exact h.apart (by simp [Value.ownBlock, e])
  · rcases h.own.2 with ⟨e, _⟩ | ⟨g', cap', cur, e, _, _, h1, h2, _⟩
    · simp at e
    · unfold maxLen at h2
      omega

/-- A store into the row. -/
theorem Mem.stored {w : World} {B m g cap : Nat} {xs : List Int} (h : Mem w B m (.slice (some ⟨g, 0, none⟩) xs.length cap) xs) (k : Nat) (x : Int) :
    Mem (w.setCell ⟨g, k, none⟩ (.int .u64 x)) B m (.slice (some ⟨g, 0, none⟩) xs.length cap) (xs.set k x) ∧ w.grownBy (w.setCell ⟨g, k, none⟩ (.int .u64 x)) (some g) := by
  obtain ⟨h1, h2⟩ := h.own.stored k (.int .u64 x)
  refine ⟨⟨?_, ?_, h.lo⟩, h2⟩
  · rw [heap_setCell_other w ⟨g, k, none⟩ m _ (fun e => h.apart (by simp only [Value.ownBlock]; rw [e]))]
    exact h.at_
  · rw [List.length_set, List.map_set]
    exact h1

set_option maxHeartbeats 400000 in
theorem load_in {w : World} {B m : Nat} {v : Value} {xs : List Int} (h : Mem w B m v xs) {k : Nat} (hk : k < xs.length) :
    Calls Tryd.prog 68 #[.pointer (some ⟨m, 0, none⟩), .int .i64 k] w fun e w' => e = .returned (.tuple #[.int .u64 (xs.getD k 0), .nilIface]) ∧ w = w' := by
  obtain ⟨g, cap, rfl, _, _, hx, _, _, hn⟩ := h.form hk
  have hm := h.cell
  have hkn : (k : Int) < (xs.length : Int) := by omega
  clear h
  generalize xs.getD k 0 = x at hx
  generalize xs.length = n at *
  go_enter Tryd.func68, Tryd.ntmps68
  go_wp2
  go_ret2
  exact ⟨rfl, rfl⟩

set_option maxHeartbeats 400000 in
theorem store_in {w : World} {B m : Nat} {v : Value} {xs : List Int} (h : Mem w B m v xs) {k : Nat} (hk : k < xs.length) (x : Int) :
    Calls Tryd.prog 69 #[.pointer (some ⟨m, 0, none⟩), .int .i64 k, .int .u64 x] w fun e w' => e = .returned .nilIface ∧ Mem w' B m v (xs.set k x) ∧ w.grownBy w' v.ownBlock := by
  obtain ⟨g, cap, rfl, _, _, hx, hf, _, hn⟩ := h.form hk
  have hs := h.stored k x
  have hm := h.cell
  have hkn : (k : Int) < (xs.length : Int) := by omega
  have H := Lib.hid hs
  clear h hs
  go_enter Tryd.func69, Tryd.ntmps69
  go_wp2
  go_ret
  exact ⟨rfl, H.out.1, H.out.2⟩

set_option maxHeartbeats 400000 in
theorem fetch_in {w : World} {B m : Nat} {v : Value} {xs : List Int} (h : Mem w B m v xs) {k : Nat} (hk : k < xs.length) (x : Int) :
    Calls Tryd.prog 70 #[.pointer (some ⟨m, 0, none⟩), .int .i64 k, .int .u64 x] w fun e w' => e = .returned (.tuple #[.int .u64 (xs.getD k 0), .nilIface]) ∧ Mem w' B m v (xs.set k (IntKind.u64.wrap (xs.getD k 0 + x))) ∧ w.grownBy w' v.ownBlock := by
  obtain ⟨g, cap, rfl, _, _, hx, hf, _, hn⟩ := h.form hk
  have hs := h.stored k (IntKind.u64.wrap (xs.getD k 0 + x))
  have hm := h.cell
  have hkn : (k : Int) < (xs.length : Int) := by omega
  generalize xs.getD k 0 = y at hx hs
  have H := Lib.hid hs
  clear h hs
  go_enter Tryd.func70, Tryd.ntmps70
  go_wp2
  go_ret2
  exact ⟨rfl, H.out.1, H.out.2⟩

set_option maxHeartbeats 400000 in
theorem swap_yes {w : World} {B m : Nat} {v : Value} {xs : List Int} (h : Mem w B m v xs) {k : Nat} (hk : k < xs.length) (x y : Int) (he : xs.getD k 0 = x) :
    Calls Tryd.prog 71 #[.pointer (some ⟨m, 0, none⟩), .int .i64 k, .int .u64 x, .int .u64 y] w fun e w' => e = .returned (.tuple #[.bool true, .nilIface]) ∧ Mem w' B m v (xs.set k y) ∧ w.grownBy w' v.ownBlock := by
  obtain ⟨g, cap, rfl, _, _, hx, hf, _, hn⟩ := h.form hk
  have hs := h.stored k y
  have hm := h.cell
  have hkn : (k : Int) < (xs.length : Int) := by omega
  rw [he] at hx
  have hxx : (x != x) = false := by simp
  have H := Lib.hid hs
  clear h hs he
  go_enter Tryd.func71, Tryd.ntmps71
  go_wp2
  go_ret2
  exact ⟨rfl, H.out.1, H.out.2⟩

set_option maxHeartbeats 400000 in
theorem swap_no {w : World} {B m : Nat} {v : Value} {xs : List Int} (h : Mem w B m v xs) {k : Nat} (hk : k < xs.length) (x y : Int) (he : xs.getD k 0 ≠ x) :
    Calls Tryd.prog 71 #[.pointer (some ⟨m, 0, none⟩), .int .i64 k, .int .u64 x, .int .u64 y] w fun e w' => e = .returned (.tuple #[.bool false, .nilIface]) ∧ w = w' := by
  obtain ⟨g, cap, rfl, _, _, hx, hf, _, hn⟩ := h.form hk
  have hm := h.cell
  have hkn : (k : Int) < (xs.length : Int) := by omega
  have hxx : (xs.getD k 0 != x) = true := by simpa using he
  generalize xs.getD k 0 = z at *
  clear h he
  go_enter Tryd.func71, Tryd.ntmps71
  go_wp2
  go_ret2
  exact ⟨rfl, rfl⟩
end Go.Proofs.YtkhaeabbbhfloaaDoor

namespace Go.Proofs.YtkhaeabbbhfloaaDoor
set_option maxRecDepth 100000
open Go.RowKit

set_option maxHeartbeats 400000 in
theorem equalU_same (A C : Option Addr) (n c d : Nat) (xs : List Int) (w : World) (hn : n ≤ 9223372036854775807) (B : Nat) (ha : Ints .u64 w B A n xs) (hc : Ints .u64 w B C n xs) :
    Calls Tryd.prog 16 #[.slice A n c, .slice C n d] w fun e w' => e = .returned (.bool true) ∧ ∃ q, w' = w.drewN q := by
  have hne : ((n : Int) != (n : Int)) = false := by simp
  go_enter Tryd.func16, Tryd.ntmps16
  go_wp2
  go_loopw [5, 13] (fun i j wr => ∃ k : Nat, k ≤ n ∧ j = .int .i64 k ∧ ∃ q, wr = w.drewN q) (fun _ j _ => n - (intOf j).toNat)
  case atStart => exact ⟨0, Nat.zero_le _, rfl, 0, rfl⟩
  case round =>
    obtain ⟨k, hk, rfl, q, rfl⟩ := hrel
    by_cases hlt : k < n
    · obtain ⟨b, off, rfl, _, hx⟩ := ha.row (by omega)
      obtain ⟨b', off', rfl, _, hy⟩ := hc.row (by omega)
      have h1 := hx k hlt
      have h2 := hy k hlt
      have hkn : (k : Int) < (n : Int) := by omega
      clear hx hy ha hc
      generalize xs.getD k 0 = x at h1 h2
      have hxx : (x != x) = false := by simp
      go_wp2
      go_quiet (fail)
      go_wp2
      go_roundw
      case rel => exact ⟨k + 1, by omega, by go_num, q + nq, by simp⟩
      case measure => simp [intOf]; omega
    · have hkn : ¬ (k : Int) < (n : Int) := by omega
      go_wp2
      go_ret
      exact ⟨rfl, q, rfl⟩
end Go.Proofs.YtkhaeabbbhfloaaDoor

namespace Go.Proofs.YtkhaeabbbhfloaaDoor
set_option maxRecDepth 100000
open Go.RowKit

theorem infoU64 : (Tryd.prog.info? 30).map (fun i => (i.zero, i.size, i.bytes)) = some (some (.int .u64 0), 1, 8) := by kernel_rfl

theorem news_of_ints {k : IntKind} {w : World} {B : Nat} {ad : Addr} {n : Nat} {xs : List Int} (h : Ints k w B (some ad) n xs) : ∀ j u, (xs.map (Value.int k))[j]? = some u → w.cell? (ad.add j) = some u := by
  intro j u hu
  rw [List.getElem?_map] at hu
  obtain ⟨x, hx, rfl⟩ := Option.map_eq_some_iff.1 hu
  have hj : j < xs.length := (List.getElem?_eq_some_iff.1 hx).1
  have hl := h.len
  obtain ⟨b, off, e, _, hc⟩ := h.row (by omega)
  obtain rfl : ad = ⟨b, off, none⟩ := by injection e
  have h1 := hc j (by omega)
  rw [List.getD_eq_getElem?_getD, hx] at h1
  have ha : (⟨b, off, none⟩ : Addr).add j = ⟨b, off + j, none⟩ := by unfold Addr.add; split <;> simp_all
  rw [ha]
  exact h1

set_option maxHeartbeats 400000 in
theorem cloneU_any {w : World} {B : Nat} (A : Option Addr) (n c : Nat) (xs : List Int) (h : Ints .u64 w B A n xs) (hn : n ≤ 17592186044416) :
    Calls Tryd.prog 46 #[.slice A n c] w fun e w' => ∃ v, e = .returned v ∧ w'.ownsRow w.heap.size 30 1 v n (xs.map (Value.int .u64)) ∧ w.grownBy w' none := by
  rcases A with _ | ad
  · have h0 : n = 0 := by
      rcases Nat.eq_zero_or_pos n with h0 | h0
      · exact h0
      · obtain ⟨_, _, e, _⟩ := h.row h0
        cases e
    subst h0
    have hx : xs = [] := List.eq_nil_of_length_eq_zero h.len
    subst hx
    have hq := fun (w : World) => Lib.run_eql_slice_nil (P := Tryd.prog) w 31 30 none 0 c 0 0 Tryd.underlying31
    clear h
    go_enter Tryd.func46, Tryd.ntmps46
    go_wp2
    go_ret
    exact ⟨_, rfl, World.ownsRow_nil _ _ _ _, World.grownBy.refl w _⟩
  · have hq := fun (w : World) => Lib.run_eql_slice_nil (P := Tryd.prog) w 31 30 (some ad) n c 0 0 Tryd.underlying31
    have hnews := news_of_ints h
    have hl := h.len
    obtain ⟨i0, hi, hz0, hz1, hz2⟩ := info_parts infoU64
    clear h
    go_enter Tryd.func46, Tryd.ntmps46
    have hown0 := World.ownsRow_made (base := w.heap.size) (e := 30) (size := 1) w #[] 0 (Nat.le_refl _) (by decide) rfl
    have hnews' : ∀ j u, (xs.map (Value.int .u64))[j]? = some u → (w.alloc (.cells #[] 30)).cell? (ad.add j) = some u := fun j u hu => Lib.cell?_alloc_some _ (hnews j u hu)
    have H0 := Lib.hid hown0
    have H1 := Lib.hid hnews'
    have H2 := Lib.hid hl
    clear hown0 hnews' hl hnews
    go_wp2_with (at_builtin; refine wpList_append_own _ rfl (.tmp 5) (.tmp 6) 31 rfl w.heap.size 30 i0 (.int .u64 0) 1 8 Tryd.underlying31 hi hz0 hz1 hz2 rfl (by decide) _ 0 [] rfl H0.out ad n c (xs.map (Value.int .u64)) rfl ?c1 H1.out ?c2 ?c3 ?c4 ?c5 ?_)
    case c1 => rw [List.length_map, H2.out, Nat.mul_one]
    case c2 => intro u hu; obtain ⟨x, _, rfl⟩ := List.mem_map.1 hu; rfl
    case c3 => unfold maxLen; omega
    case c4 => omega
    case c5 => simp
    intro v' w1 hown1 hg1 _
    have hg := (World.grownBy_alloc w (.cells #[] 30) none).andThen hg1 (by intro j hj; simp only [Value.ownBlock, Option.some.injEq] at hj; omega)
    have H3 := Lib.hid hown1
    have H4 := Lib.hid hg1
    clear hown1 hg1 H0 H1
    go_wp2
    go_ret
    exact ⟨v', rfl, by simpa using H3.out, hg⟩

theorem mem_made {w : World} {B0 : Nat} {v : Value} {n : Nat} {xs : List Int} (hl : xs.length = n) (hB : B0 ≤ w.heap.size) (hown : w.ownsRow B0 30 1 v n (xs.map (Value.int .u64))) :
    Mem (w.alloc (.cells #[v] 95)) B0 w.heap.size v xs :=
  ⟨heap_alloc_new w _, by rw [hl]; exact hown.alloc _, hB⟩

theorem slice_of_own {w : World} {B e sz : Nat} {v : Value} {n : Nat} {xs : List Value} (h : w.ownsRow B e sz v n xs) : ∃ A c, v = .slice A n c := by
  rcases h.2 with ⟨rfl, e⟩ | ⟨g, cap, cur, rfl, _⟩
  · exact ⟨none, 0, by rw [e]⟩
  · exact ⟨_, _, rfl⟩

/-- What a call that makes a memory of the cells xs comes to. -/
def MadeMem (w : World) (xs : List Int) (e : Ending) (w' : World) : Prop :=
  ∃ m v, e = .returned (.tuple #[.pointer (some ⟨m, 0, none⟩), .nilIface]) ∧ Mem w' w.heap.size m v xs ∧ w.grownBy w' none

set_option maxHeartbeats 400000 in
theorem of_ok {w : World} {B : Nat} (A : Option Addr) (n c : Nat) (xs : List Int) (h : Ints .u64 w B A n xs) (hn : n ≤ 300) :
    Calls Tryd.prog 37 #[.slice A n c] w (MadeMem w xs) := by
  have hl := h.len
  have hcl := cloneU_any A n c xs h (by omega)
  have hn' : ¬ (300 : Int) < (n : Int) := by omega
  have H := Lib.hid hcl
  have H2 := Lib.hid hl
  clear h hcl hl
  go_enter Tryd.func37, Tryd.ntmps37
  go_wp2_with fail
  refine H.out.mono ?_
  rintro e w1 ⟨v, rfl, hown, hg⟩
  obtain ⟨A', c', rfl⟩ := slice_of_own hown
  have H3 := Lib.hid hown
  have H4 := Lib.hid hg
  clear hown hg H
  go_wp2
  go_ret2
  exact ⟨w1.heap.size, _, rfl, mem_made H2.out H4.out.size H3.out, H4.out.andThen (World.grownBy_alloc _ _ none) (by intro j hj; cases hj)⟩

set_option maxHeartbeats 400000 in
theorem words_any {w : World} {B m : Nat} {v : Value} {xs : List Int} (h : Mem w B m v xs) (hn : xs.length ≤ 17592186044416) :
    Calls Tryd.prog 32 #[.pointer (some ⟨m, 0, none⟩)] w fun e w' => ∃ v', e = .returned v' ∧ w'.ownsRow w.heap.size 30 1 v' xs.length (xs.map (Value.int .u64)) ∧ w.grownBy w' none := by
  obtain ⟨A, c, rfl⟩ := slice_of_own h.own
  have hI : Ints .u64 w w.heap.size A xs.length xs := Ints.of_own h.own
  have hm := h.cell
  have H := Lib.hid (cloneU_any A xs.length c xs hI hn)
  clear h hI
  generalize xs.length = n at *
  go_enter Tryd.func32, Tryd.ntmps32
  go_wp2_with fail
  refine H.out.mono ?_
  rintro e w1 ⟨v', rfl, hown, hg⟩
  have H3 := Lib.hid hown
  have H4 := Lib.hid hg
  clear hown hg H hm
  go_wp2
  go_ret
  exact ⟨v', rfl, H3.out, H4.out⟩
end Go.Proofs.YtkhaeabbbhfloaaDoor

namespace Go.Proofs.YtkhaeabbbhfloaaDoor
set_option maxRecDepth 100000
open Go.RowKit Go.Extern.Stop Go.Stop Go.Extern

/-- What the listed variable holds: the type error's own handle. -/
def ErrVar (w : World) : Prop := w.cell? ⟨1, 0, none⟩ = some (.iface 160 (.agg #[.pointer (some ⟨2, 46, none⟩)]))

end Go.Proofs.YtkhaeabbbhfloaaDoor
