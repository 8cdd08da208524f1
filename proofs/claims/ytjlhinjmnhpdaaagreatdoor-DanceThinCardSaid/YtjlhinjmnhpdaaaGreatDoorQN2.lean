/-
  each: is each of these cells a number? (slices.ContainsFunc at []uint64.) A barrier behind moves that are known, where the laws have it; stores: when a cell was stored to.
-/
import Derived.Test.YtjlhinjmnhpdaaaGreatDoorQL
import Derived.Test.YtjlhinjmnhpdaaaGreatDoorQH7
namespace Go.Proofs.YtjlhinjmnhpdaaaGreatDoor
set_option maxRecDepth 100000
open Go.RowKit Go.Shelf Go.Sort
set_option linter.unusedVariables false
set_option linter.unusedSimpArgs false

/-- What is asked of a predicate on integers that makes no more than blocks. -/
def PredU (g : Nat) (lb : Array Value) (p : Int → Bool) (w : World) (row : Option Nat) : Prop :=
  ∀ (W : World) (t : Int), w.grownBy W row → Calls Tryz.prog g (#[.int .u64 t] ++ lb) W fun e w' => e = .returned (.bool (p t)) ∧ W.grownBy w' none

set_option maxHeartbeats 400000 in
theorem indexFuncU_none {w : World} (A : Option Addr) (n c : Nat) (xs : List Int) (h : Ints .u64 w w.heap.size A n xs) (hn : n ≤ 9223372036854775807) (p : Int → Bool) (g : Nat) (lb : Array Value) (eg : ∀ args w, (callFunc g args).run Tryz.prog w = .ok (.enter g args) w) (hp : PredU g lb p w none) (hall : ∀ t ∈ xs, p t = false) :
    Calls Tryz.prog 58 #[.slice A n c, .func (.func g) #[] lb] w (Told1 (-1) w) := by
  have HP := Lib.hid hp
  have HA := Lib.hid hall
  have HH := Lib.hid h
  clear hp hall h
  go_enter Tryz.func58, Tryz.ntmps58
  go_wp2
  go_loopw [5, 8] (fun _ j wr => ∃ k : Nat, k ≤ n ∧ j = .int .i64 k ∧ w.grownBy wr none) (fun _ j _ => n - (intOf j).toNat)
  case atStart => exact ⟨0, Nat.zero_le _, rfl, World.grownBy.refl w _⟩
  case round =>
    obtain ⟨k, hk, rfl, hg⟩ := hrel
    by_cases hlt : k < n
    · have hkn : (k : Int) < (n : Int) := by omega
      obtain ⟨b, off, rfl, hb, hc⟩ := HH.out.row (by omega)
      have hcell : wr.cell? ⟨b, off + k, none⟩ = some (.int .u64 (xs.getD k 0)) := (World.cell?_of_block (a := ⟨b, off + k, none⟩) (hg.block b hb (by simp))).trans (hc k hlt)
      have hm : xs.getD k 0 ∈ xs := by
        have hl := HH.out.len
        rw [List.getD_eq_getElem?_getD, List.getElem?_eq_getElem (by omega)]
        exact List.getElem_mem _
      have hcall := HP.out wr (xs.getD k 0) hg
      rw [HA.out _ hm] at hcall
      generalize xs.getD k 0 = t at hcell hcall
      have HC := Lib.hid hcall
      have HG := Lib.hid hg
      clear hc hm hcall hg
      go_wp2_with fail
      refine HC.out.mono ?_
      rintro e w' ⟨rfl, hg'⟩
      have hg2 := HG.out.andThen hg' (by intro j hj; cases hj)
      clear hg' HC HG
      go_wp2
      go_roundw
      case rel => exact ⟨k + 1, by omega, by go_num, hg2⟩
      case measure => simp [intOf]; omega
    · have hkn : ¬ (k : Int) < (n : Int) := by omega
      have HG := Lib.hid hg
      clear hg
      go_wp2
      go_ret
      exact ⟨rfl, HG.out⟩

set_option maxHeartbeats 400000 in
theorem containsFuncU_none {w : World} (A : Option Addr) (n c : Nat) (xs : List Int) (h : Ints .u64 w w.heap.size A n xs) (hn : n ≤ 9223372036854775807) (p : Int → Bool) (g : Nat) (lb : Array Value) (eg : ∀ args w, (callFunc g args).run Tryz.prog w = .ok (.enter g args) w) (hp : PredU g lb p w none) (hall : ∀ t ∈ xs, p t = false) :
    Calls Tryz.prog 37 #[.slice A n c, .func (.func g) #[] lb] w fun e w' => e = .returned (.bool false) ∧ w.grownBy w' none := by
  have HI := Lib.hid (indexFuncU_none A n c xs h hn p g lb eg hp hall)
  clear h hp hall
  go_enter Tryz.func37, Tryz.ntmps37
  go_wp2_with fail
  refine HI.out.mono ?_
  rintro e w' ⟨rfl, hg⟩
  go_wp2
  go_ret
  exact ⟨rfl, hg⟩


theorem eachc_any {w : World} {b : Nat} {r : Nat} (hr : r ≤ 6) (hb : w.cell? ⟨b, 0, none⟩ = some (.int .i64 (r : Nat))) (y : Int) :
    Calls Tryz.prog 38 #[.int .u64 y, .pointer (some ⟨b, 0, none⟩)] w fun e w' => e = .returned (.bool (y != (r : Int))) ∧ w.grownBy w' none := by
  have hu := wrapU_small r hr
  go_enter Tryz.func38, Tryz.ntmps38
  go_wp2
  go_ret
  exact ⟨rfl, World.grownBy.refl _ _⟩

theorem each_any {w : World} (A : Option Addr) (n c : Nat) (xs : List Int) (h : Ints .u64 w w.heap.size A n xs) (hn : n ≤ 300) (r : Nat) (hr : r ≤ 6) (hall : ∀ v ∈ xs, v = (r : Int)) :
    Calls Tryz.prog 18 #[.slice A n c, .int .i64 (r : Nat)] w fun e w' => e = .returned (.bool true) ∧ w.grownBy w' none := by
  have hat := heap_alloc_new w (.cells #[.int .i64 (r : Nat)] 3)
  have HG := Lib.hid (grown_a (World.grownBy.refl w none) (.cells #[.int .i64 (r : Nat)] 3))
  have HH := Lib.hid (h.old ((Below.refl _ _).alloc (Nat.le_refl _) (.cells #[.int .i64 (r : Nat)] 3)))
  have hc : (w.alloc (.cells #[.int .i64 (r : Nat)] 3)).cell? ⟨w.heap.size, 0, none⟩ = some (.int .i64 (r : Nat)) := (cell_in hat 0).trans rfl
  have HC := Lib.hid (containsFuncU_none A n c xs HH.out (by omega) (fun y => y != (r : Int)) 38 #[.pointer (some ⟨w.heap.size, 0, none⟩)] (fun args w => by kernel_rfl) (fun W t hg => eachc_any hr (hg.cell hc (by simp)) t) (fun t ht => by rw [hall t ht]; simp))
  clear hat HH hc h hall
  go_enter Tryz.func18, Tryz.ntmps18
  go_wp2_with fail
  refine HC.out.mono ?_
  rintro e w' ⟨rfl, hg⟩
  have HG2 := Lib.hid (HG.out.andThen hg (by intro j hj; cases hj))
  clear hg HC HG
  go_wp2
  go_ret
  exact ⟨rfl, HG2.out⟩
end Go.Proofs.YtjlhinjmnhpdaaaGreatDoor

namespace Go.Proofs.YtjlhinjmnhpdaaaGreatDoor
set_option maxRecDepth 100000
open Go.RowKit Go.Shelf Go.Sort
set_option linter.unusedVariables false
set_option linter.unusedSimpArgs false

theorem floor_his {w w1 : World} {k n rounds : Nat} (H : DanceOK) (hw : DW w) (hb : Below w.heap.size w w1) (d : Dims k n rounds) {D : Option Addr} {nm cm : Nat} {l : List (Int × Bool)} (hl : Moves w w.heap.size D nm l) (hnm : nm ≤ 900) :
    Calls Tryz.prog 19 #[.int .i64 (k : Nat), .int .i64 (n : Nat), .int .i64 (rounds : Nat), .slice D nm cm] w1 fun e w' => ∃ c m p, e = .returned (.pointer (some ⟨c, 0, none⟩)) ∧ Flo w c k n rounds p m w' ∧ p ≤ 900 ∧ Hist k n rounds p m := by
  have hp : pokesM (pickL n l) ≤ 900 := by
    have h1 := pokesM_le (pickL n l)
    have h2 : (pickL n l).length = nm := by unfold pickL; rw [List.length_map, hl.len]
    omega
  refine (floor_any H (hw.old hb) d D nm cm l (hl.old hb) (by omega)).mono ?_
  rintro e w' ⟨c, rfl, hA⟩
  have hD := dn_moves d (pickL_lt (by have := d.n1; omega) l) (dn_new d) (by omega)
  rw [Nat.zero_add] at hD
  exact ⟨c, _, _, rfl, ⟨hA.old hb, (kM_big d).behind _, hD⟩, hp, hist_moves (pickL_lt (by have := d.n1; omega) l)⟩
theorem flo_acts {w wr : World} {c k n rounds p : Nat} {m : Mach} (h : Flo w c k n rounds p m wr) :
    Calls Tryz.prog 23 #[.pointer (some ⟨c, 0, none⟩)] wr fun e w' => ∃ A cap, e = .returned (.slice A m.acts.length cap) ∧ ActRow w' A m.acts.length m.acts ∧ wr.grownBy w' none :=
  (at_acts h.at_ h.few.2).mono fun e w' ⟨A, cap, he, ho, hg⟩ => ⟨A, cap, he, actRow_own ho rfl, hg⟩

theorem st7_take {l : List Act6} {i : Nat} (h : i < l.length) (c : Nat) : st7 (l.take (i + 1)) c = st7 (l.take i) c ++ if (l.getD i default).2.2.1 = 7 ∧ (l.getD i default).2.2.2.1 = (c : Int) then [(l.getD i default).1] else [] := by
  rw [take_more h, st7_append]
  congr 1
  unfold st7
  by_cases e : (l.getD i default).2.2.1 = 7 ∧ (l.getD i default).2.2.2.1 = (c : Int)
  · rw [if_pos e, List.filter_cons_of_pos (by simpa using e)]
    rfl
  · rw [if_neg e, List.filter_cons_of_neg (by simpa using e)]
    rfl
theorem st7_len (l : List Act6) (c : Nat) : (st7 l c).length ≤ l.length := by
  unfold st7
  rw [List.length_map]
  exact List.length_filter_le _ _

theorem opN_take {l : List Act6} {i : Nat} (h : i < l.length) (o c : Nat) : opN (l.take (i + 1)) o c = opN (l.take i) o c + if (l.getD i default).2.2.1 = (o : Int) ∧ (l.getD i default).2.2.2.1 = (c : Int) then 1 else 0 := by
  rw [take_more h, opN_append]
  congr 1
  unfold opN
  by_cases e : (l.getD i default).2.2.1 = (o : Int) ∧ (l.getD i default).2.2.2.1 = (c : Int)
  · rw [if_pos e, List.filter_cons_of_pos (by simpa using e)]
    rfl
  · rw [if_neg e, List.filter_cons_of_neg (by simpa using e)]
    rfl
theorem opN_len (l : List Act6) (o c : Nat) : opN l o c ≤ l.length := List.length_filter_le _ _

set_option maxHeartbeats 2000000 in
theorem stores_any {w0 w : World} {c k n rounds p : Nat} {m : Mach} (h : Flo w0 c k n rounds p m w) (g : Nat) :
    Calls Tryz.prog 28 #[.pointer (some ⟨c, 0, none⟩), .int .i64 (g : Nat)] w fun e w' => ∃ A cap, e = .returned (.slice A (st7 m.acts g).length cap) ∧ w'.ownsRow w.heap.size 3 1 (.slice A (st7 m.acts g).length cap) (st7 m.acts g).length ((st7 m.acts g).map (Value.int .i64)) ∧ Below w.heap.size w w' := by
  have HA := Lib.hid (flo_acts h)
  have HL := Lib.hid h.few.2
  clear h
  generalize m.acts = l at *
  go_enter Tryz.func28, Tryz.ntmps28
  go_wp2_with fail
  refine HA.out.mono ?_
  rintro e w1 ⟨A1, c1, rfl, hr, hg1⟩
  have HR := Lib.hid hr
  have HB1 := Lib.hid ((Below.refl _ _).grown hg1 (Nat.le_refl _) (by intro k hk; cases hk))
  clear hr hg1 HA
  go_wp2
  go_loopw [5, 11] (fun v j wr => ∃ q : Nat, q ≤ l.length ∧ j = .int .i64 q ∧ Hid (wr.ownsRow w1.heap.size 3 1 v (st7 (l.take q) g).length ((st7 (l.take q) g).map (Value.int .i64)) ∧ Below w1.heap.size w1 wr)) (fun _ j _ => l.length - (intOf j).toNat)
  case atStart => exact ⟨0, Nat.zero_le _, rfl, ⟨World.ownsRow_nil _ _ _ _, Below.refl _ _⟩⟩
  case round =>
    obtain ⟨q, hq, rfl, hx⟩ := hrel
    by_cases hlt : q < l.length
    · have hkn : (q : Int) < (l.length : Int) := by omega
      obtain ⟨b, off, rfl, x1, x2, x3, x4, x5, x6⟩ := (HR.out.old hx.out.2) q hlt
      have HT := Lib.hid (st7_take hlt g)
      have HN := Lib.hid (Nat.le_trans (st7_len (l.take q) g) (List.length_take_le _ _))
      generalize l.getD q default = a at *
      obtain ⟨a1, a2, a3, a4, a5, a6⟩ := a
      dsimp only at x1 x2 x3 x4 x5 x6 HT
      by_cases e7 : a3 = 7
      · subst e7
        by_cases eg : a4 = (g : Int)
        · subst eg
          rw [if_pos ⟨rfl, rfl⟩] at HT
          obtain ⟨A0, c0, rfl⟩ := slice_of_own2 hx.out.1
          obtain ⟨i0, hi, hz0, hz1, hz2⟩ := info_parts infoInt
          have HX := Lib.hid hx.out
          have hnl := HL.out
          have hnn := HN.out
          clear hx
          generalize st7 (l.take q) g = xs at *
          have HX2 := Lib.hid (show (wr.alloc (.cells #[.int .i64 a1, .int .i64 a2, .int .i64 7, .int .i64 (g : Int), .int .u64 a5, .int .u64 a6] 43)).ownsRow w1.heap.size 3 1 (.slice A0 xs.length c0) xs.length (xs.map (Value.int .i64)) from HX.out.1.alloc _)
          have hs8 := HX.out.2.size
          go_wp2_with (at_builtin; refine wpList_append_own_at _ rfl (.tmp 24) (.tmp 27) 31 rfl w1.heap.size 3 i0 (.int .i64 0) 1 8 Tryz.underlying31 hi hz0 hz1 hz2 rfl (by decide) _ xs.length (xs.map (Value.int .i64)) rfl ?hown ⟨wr.heap.size + 1, 0, none⟩ 1 1 [.int .i64 a1] rfl rfl ?c1 ?c2 ?c3 ?c4 ?c5 ?_)
          case hown => exact HX2.out.alloc _
          case c1 =>
            have := World.news_of_block (cs := #[.int .i64 a1]) (heap_alloc_new (wr.alloc (.cells #[.int .i64 a1, .int .i64 a2, .int .i64 7, .int .i64 (g : Int), .int .u64 a5, .int .u64 a6] 43)) (.cells #[.int .i64 a1] 3))
            simpa using this
          case c2 => simp [Value.oneCell']
          case c3 => unfold maxLen; omega
          case c4 => omega
          case c5 => simp; omega
          intro v' w7 hown7 hg7 _ hat7
          have hb7 := ((HX.out.2.alloc hs8 (.cells #[.int .i64 a1, .int .i64 a2, .int .i64 7, .int .i64 (g : Int), .int .u64 a5, .int .u64 a6] 43)).alloc (by simp; omega) (.cells #[.int .i64 a1] 3)).grown hg7 (by simp; omega) (fun k hk => (HX.out.1.lt k hk).1)
          have e1 : xs.map (Value.int .i64) ++ [Value.int .i64 a1] = (st7 (l.take (q + 1)) g).map (Value.int .i64) := by rw [HT.out, List.map_append]; rfl
          have e2 : xs.length + 1 = (st7 (l.take (q + 1)) g).length := by rw [HT.out, List.length_append]; rfl
          rw [e1, e2] at hown7
          have HX7 := Lib.hid (And.intro hown7 hb7)
          clear hown7 hg7 hat7 HX HX2 hb7 e1 e2 HT hi hz0 hz1 hz2
          go_wp2
          go_roundw
          case rel => exact ⟨q + 1, by omega, by go_num, HX7⟩
          case measure => simp [intOf]; omega
        · have hT := HT.out
          rw [if_neg (fun e => eg e.2), List.append_nil] at hT
          have HX := Lib.hid hx.out
          have hnl := HL.out
          clear hx HT
          go_wp2
          go_roundw
          case rel => exact ⟨q + 1, by omega, by go_num, by rw [hT]; exact ⟨HX.out.1.alloc _, HX.out.2.alloc HX.out.2.size _⟩⟩
          case measure => simp [intOf]; omega
      · have hT := HT.out
        rw [if_neg (fun e => e7 e.1), List.append_nil] at hT
        have HX := Lib.hid hx.out
        have hnl := HL.out
        clear hx HT
        go_wp2
        go_roundw
        case rel => exact ⟨q + 1, by omega, by go_num, by rw [hT]; exact ⟨HX.out.1.alloc _, HX.out.2.alloc HX.out.2.size _⟩⟩
        case measure => simp [intOf]; omega
    · have hkn : ¬ (q : Int) < (l.length : Int) := by omega
      obtain rfl : q = l.length := by omega
      rw [List.take_length] at hx
      obtain ⟨A0, c0, rfl⟩ := slice_of_own2 hx.out.1
      have HX := Lib.hid hx.out
      clear hx
      go_wp2
      go_ret
      exact ⟨A0, c0, rfl, own_low HX.out.1 HB1.out.size, HB1.out.trans (HX.out.2.mono HB1.out.size)⟩
end Go.Proofs.YtjlhinjmnhpdaaaGreatDoor
