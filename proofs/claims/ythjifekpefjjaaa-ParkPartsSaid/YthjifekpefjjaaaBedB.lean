/-
  The laws' 'bed': a lot of sixteen behind nods.
-/
import Derived.Test.YthjifekpefjjaaaBedA
import Derived.Deep.RegionWith
namespace Go.Proofs.Ythjifekpefjjaaa
open Go.RowKit Go.Shelf

/-- What one nod does to those that sleep. -/
def stepNod (l : List (Int × Int)) (x : Int × Int × Bool) : List (Int × Int) :=
  if x.2.2 then l.eraseP (isThread (pickI x.1 16)) else if l.any (isThread (pickI x.1 16)) then l else l ++ [(pickI x.1 16, pickI x.2.1 4)]
/-- Those that sleep behind nods, in order. -/
def bedL (nods : List (Int × Int × Bool)) : List (Int × Int) := nods.foldl stepNod []

theorem bedL_take (nods : List (Int × Int × Bool)) (k : Nat) (hk : k < nods.length) : bedL (nods.take (k + 1)) = stepNod (bedL (nods.take k)) (nods.getD k default) := by
  unfold bedL
  rw [List.take_succ_eq_append_getElem hk, List.foldl_append, List.getD_eq_getElem?_getD, List.getElem?_eq_getElem hk]
  rfl

theorem stepNod_length (l : List (Int × Int)) (x : Int × Int × Bool) : (stepNod l x).length ≤ l.length + 1 := by
  unfold stepNod
  split
  · exact Nat.le_trans List.length_eraseP_le (Nat.le_succ _)
  · split
    · omega
    · simp

theorem bedL_length (nods : List (Int × Int × Bool)) (k : Nat) (hk : k ≤ nods.length) : (bedL (nods.take k)).length ≤ k := by
  induction k with
  | zero => simp [bedL]
  | succ k ih =>
    rw [bedL_take nods k (by omega)]
    exact Nat.le_trans (stepNod_length _ _) (by have := ih (by omega); omega)

/-- A slice of nods as it came in. -/
structure Nods (w : World) (B : Nat) (A : Option Addr) (n : Nat) (xs : List (Int × Int × Bool)) : Prop where
  len : xs.length = n
  row : 0 < n → ∃ b off, A = some ⟨b, off, none⟩ ∧ b < B ∧ ∀ i, i < n → w.cell? ⟨b, off + i * 3, none⟩ = some (.int .i64 (xs.getD i default).1) ∧ w.cell? ⟨b, off + i * 3 + 1, none⟩ = some (.int .i64 (xs.getD i default).2.1) ∧ w.cell? ⟨b, off + i * 3 + 2, none⟩ = some (.bool (xs.getD i default).2.2)

theorem Nods.below {w w' : World} {B n : Nat} {A : Option Addr} {xs : List (Int × Int × Bool)} (h : Nods w B A n xs) (hb : Below B w w') : Nods w' B A n xs :=
  ⟨h.len, fun h0 => by
    obtain ⟨b, off, e, hlt, hc⟩ := h.row h0
    refine ⟨b, off, e, hlt, fun i hi => ?_⟩
    obtain ⟨h1, h2, h3⟩ := hc i hi
    exact ⟨(hb.cell (p := ⟨b, _, none⟩) hlt).trans h1, (hb.cell (p := ⟨b, _, none⟩) hlt).trans h2, (hb.cell (p := ⟨b, _, none⟩) hlt).trans h3⟩⟩

/-- A call that changes those that sleep, whatever it tells. -/
def Turned (B p : Nat) (nt : Int) (r : List (Int × Int)) (w : World) (e : Ending) (w' : World) : Prop :=
  ∃ val v', e = .returned val ∧ Lot w' B p nt v' r ∧ Below B w w'

theorem poke_turns {w : World} {B p : Nat} {nt : Int} {v : Value} {l : List (Int × Int)} (h : Lot w B p nt v l) (hB : B ≤ w.heap.size) (t : Int) (ht0 : 0 ≤ t) (ht1 : t < nt) :
    Calls Try.prog 30 #[.pointer (some ⟨p, 0, none⟩), .int .i64 t] w (Turned B p nt (l.eraseP (isThread t)) w) := by
  by_cases hs : ∃ s ∈ l, isThread t s = true
  · refine (poke_yes h hB t ht0 ht1 hs).mono ?_
    rintro e w' ⟨v', rfl, h1, h2, _⟩
    exact ⟨_, v', rfl, h1, h2⟩
  · have hn : ∀ s ∈ l, isThread t s = false := fun s hs2 => by
      cases he : isThread t s with
      | false => rfl
      | true => exact absurd ⟨s, hs2, he⟩ hs
    have e : l.eraseP (isThread t) = l := List.eraseP_of_forall_not fun s hs2 => by rw [hn s hs2]; simp
    rw [e]
    refine (poke_none h t ht0 ht1 hn).mono ?_
    rintro e w' ⟨rfl, hg⟩
    exact ⟨_, v, rfl, h.grow hg, (Below.refl B w).grown hg hB (by intro k hk; cases hk)⟩

theorem sleep_turns {w : World} {B p : Nat} {nt : Int} {v : Value} {l : List (Int × Int)} (h : Lot w B p nt v l) (hB : B ≤ w.heap.size) (hsmall : l.length ≤ 1000) (t c : Int) (ht0 : 0 ≤ t) (ht1 : t < nt) (hc0 : 0 ≤ c) (hc1 : c < 300) :
    Calls Try.prog 38 #[.pointer (some ⟨p, 0, none⟩), .int .i64 t, .int .i64 c] w (Turned B p nt (if l.any (isThread t) then l else l ++ [(t, c)]) w) := by
  cases ha : l.any (isThread t) with
  | true =>
    rw [if_pos rfl]
    refine (sleep_twice h t c ht0 ht1 hc0 hc1 (List.any_eq_true.1 ha)).mono ?_
    rintro e w' ⟨rfl, hg⟩
    exact ⟨_, v, rfl, h.grow hg, (Below.refl B w).grown hg hB (by intro k hk; cases hk)⟩
  | false =>
    rw [if_neg (by simp)]
    refine (sleep_new h hB hsmall t c ht0 ht1 hc0 hc1 (fun s hs => by
      have := List.any_eq_false.1 ha s hs
      simpa using this)).mono ?_
    rintro e w' ⟨v', rfl, h1, h2⟩
    exact ⟨_, v', rfl, h1, h2⟩

/-- What 'bed' comes to. -/
def Bedded (l : List (Int × Int)) (w : World) (e : Ending) (w' : World) : Prop :=
  ∃ p v, e = .returned (.pointer (some ⟨p, 0, none⟩)) ∧ Lot w' w.heap.size p 16 v l ∧ Below w.heap.size w w'

/-- What holds at every head of bed's loop. -/
def Bedding (w wr : World) (p : Nat) (l : List (Int × Int)) : Prop := ∃ v, Lot wr w.heap.size p 16 v l ∧ Below w.heap.size w wr

set_option maxHeartbeats 1000000 in
theorem bed_any {w : World} (A : Option Addr) (n c : Nat) (nods : List (Int × Int × Bool)) (h : Nods w w.heap.size A n nods) (hn : n ≤ 60) :
    Calls Try.prog 22 #[.slice A n c] w (Bedded (bedL nods) w) := by
  go_enter Try.func22, Try.ntmps22
  go_wp2_with fail
  refine (pnew_ok 16 (by decide) (by decide)).mono ?_
  rintro e w1 ⟨p, v, rfl, hL, hg1⟩
  have hb1 := (Below.refl w.heap.size w).grown hg1 (Nat.le_refl _) (by intro k hk; cases hk)
  have hbed : Bedding w w1 p (bedL (nods.take 0)) := ⟨v, hL, hb1⟩
  clear hg1 hL hb1
  go_wp2
  go_loopw [19] (fun j wr => ∃ k : Nat, k ≤ n ∧ j = .int .i64 k ∧ Bedding w wr p (bedL (nods.take k))) (fun j _ => n - (intOf j).toNat)
  case atStart => exact ⟨0, Nat.zero_le _, rfl, hbed⟩
  case round =>
    clear hbed
    obtain ⟨k, hk, rfl, hR⟩ := hrel
    by_cases hlt : k < n
    · have hkn : (k : Int) < (n : Int) := by omega
      obtain ⟨v', hL, hbel⟩ := hR
      obtain ⟨b, off, rfl, hb, hc⟩ := (h.below hbel).row (by omega)
      obtain ⟨c1, c2, c3⟩ := hc k hlt
      have hst := bedL_take nods k (by rw [h.len]; exact hlt)
      have hlen := bedL_length nods k (by rw [h.len]; omega)
      obtain ⟨L, hLe⟩ : ∃ L, bedL (nods.take k) = L := ⟨_, rfl⟩
      rw [hLe] at hL hst hlen
      obtain ⟨x, hx⟩ : ∃ x, nods.getD k default = x := ⟨_, rfl⟩
      rw [hx] at c1 c2 c3 hst
      rcases x with ⟨x1, x2, x3⟩
      dsimp only at c1 c2 c3
      have hbw : b < wr.heap.size := Nat.lt_of_lt_of_le hb hbel.size
      have hbne : b ≠ wr.heap.size := by omega
      have hL1 := hL.grow (World.grownBy_alloc wr (.cells #[.int .i64 x1, .int .i64 x2, .bool x3] 71) none)
      have hb1 := hbel.alloc hbel.size (.cells #[.int .i64 x1, .int .i64 x2, .bool x3] 71)
      have HST := Lib.hid hst
      have HL := Lib.hid hL1
      have HB := Lib.hid hb1
      have HH := Lib.hid h
      have hx0 := pickI_lo x1 16
      have hx1 := pickI_hi x1 16 (by decide)
      have hy0 := pickI_lo x2 4
      have hy1 := pickI_hi x2 4 (by decide)
      have HX := Lib.hid (And.intro hx0 (And.intro hx1 (And.intro hy0 hy1)))
      clear hc hst hL hbel hLe hx hL1 hb1 h hx0 hx1 hy0 hy1
      cases x3 with
      | true =>
        go_wp2_with fail
        refine (pick_det x1 _ 16 _ rfl (by decide) (by decide)).mono ?_
        rintro e w2 ⟨rfl, rfl⟩
        go_wp2_with fail
        refine (poke_turns HL.out HB.out.size (pickI x1 16) HX.out.1 HX.out.2.1).mono ?_
        rintro e w2 ⟨val, v2, rfl, hL2, hb2⟩
        have hnext : Bedding w w2 p (bedL (nods.take (k + 1))) := ⟨v2, by rw [HST.out]; exact hL2, HB.out.trans hb2⟩
        clear hL2 hb2 HST HL HB HX
        go_wp2
        go_roundw
        case rel => exact ⟨k + 1, by omega, by go_num, hnext⟩
        case measure => simp [intOf]; omega
      | false =>
        obtain ⟨W, hW⟩ : ∃ W, wr.alloc (.cells #[.int .i64 x1, .int .i64 x2, .bool false] 71) = W := ⟨_, rfl⟩
        have hsl : ∀ q, Calls Try.prog 38 #[.pointer (some ⟨p, 0, none⟩), .int .i64 (pickI x1 16), .int .i64 (pickI x2 4)] (W.drewN q) (Turned w.heap.size p 16 (stepNod L (x1, x2, false)) (W.drewN q)) := fun q => by
          have hg : W.grownBy (W.drewN q) none := ⟨rfl, rfl, rfl, Nat.le_refl _, fun _ _ _ => rfl⟩
          have hl := HL.out
          have hbb := HB.out.size
          rw [hW] at hl hbb
          exact sleep_turns (hl.grow hg) hbb (by omega) _ _ HX.out.1 HX.out.2.1 HX.out.2.2.1 (by have := HX.out.2.2.2; omega)
        rw [← hW] at hsl
        clear hW
        have HSL := Lib.hid (hsl 1)
        clear hsl
        go_wp2_with fail
        go_region_with (first | (go_at_call_of 13 (Value.int .i64 x1); refine (pick_det x1 _ 16 _ rfl (by decide) (by decide)).mono ?_; rintro e w2 ⟨rfl, rfl⟩) | (go_at_call_of 13 (Value.int .i64 x2); refine (pick_det x2 _ 4 _ rfl (by decide) (by decide)).mono ?_; rintro e w2 ⟨rfl, rfl⟩) | (go_at_call 38; refine HSL.out.mono ?_; rintro e w2 ⟨val, v2, rfl, hL2, hb2⟩))
        all_goals
          have hnext : Bedding w w2 p (bedL (nods.take (k + 1))) := ⟨v2, by rw [HST.out]; exact hL2, (below_drewN HB.out 1).trans hb2⟩
          clear hL2 hb2 HST HL HB HX HSL
          go_wp2
          go_roundw
          case rel => exact ⟨k + 1, by omega, by go_num, hnext⟩
          case measure => simp [intOf]; omega
    · have hkn : ¬ (k : Int) < (n : Int) := by omega
      obtain rfl : k = n := by omega
      have e : nods.take k = nods := List.take_of_length_le (by rw [h.len]; exact Nat.le_refl _)
      rw [e] at hR
      obtain ⟨v', hL, hbel⟩ := hR
      have HL := Lib.hid hL
      have HB := Lib.hid hbel
      clear hL hbel
      go_wp2
      go_ret
      exact ⟨p, v', rfl, HL.out, HB.out⟩
end Go.Proofs.Ythjifekpefjjaaa
