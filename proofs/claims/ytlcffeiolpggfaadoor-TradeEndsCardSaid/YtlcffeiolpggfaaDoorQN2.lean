/-
  Programs that trade: slices.Concat of programs; trade.Code.
-/
import Derived.Test.YtlcffeiolpggfaaDoorQL
import Derived.Test.YtlcffeiolpggfaaDoorQN
import Derived.Lib.AppendZerosOnto
import Derived.Lib.AppendZeros
namespace Go.Proofs.YtlcffeiolpggfaaDoor
set_option maxRecDepth 100000
open Go.RowKit Go.Shelf Go.Sort
set_option linter.unusedVariables false
set_option linter.unusedSimpArgs false

def RoomyT (w : World) (e : Ending) (w' : World) : Prop := ∃ v, e = .returned v ∧ w'.ownsRow w.heap.size 94 5 v 0 [] ∧ w.grownBy w' none
set_option maxHeartbeats 1000000 in
theorem growT_nil {w : World} (n : Nat) (hn : n ≤ 1000) : Calls Tryd.prog 61 #[.slice none 0 0, .int .i64 n] w (RoomyT w) := by
  have h1 : ¬ (n : Int) < 0 := by omega
  rcases Nat.eq_zero_or_pos n with rfl | hpos
  · go_enter Tryd.func61, Tryd.ntmps61
    go_wp2
    go_ret
    exact ⟨_, rfl, World.ownsRow_nil _ _ _ _, World.grownBy.refl _ _⟩
  · obtain ⟨i0, hi, hz0, hz1, hz2⟩ := info_parts infoIns
    have hold : (Builtin.firstCells i0.size 0 (.slice none 0 0)).run Tryd.prog w.drew = .ok ([] : List Value).toArray w.drew := run_firstCells_none w.drew i0.size 0 0 0
    have hpi : (0 : Int) < (n : Int) := by omega
    have hrz := fun ty => Lib.run_append_grow_zeros (P := Tryd.prog) w 57 3 ty 94 i0 (.agg #[.int .i64 0, .int .i64 0, .int .i64 0, .int .i64 0, .int .i64 0]) .i64 .i64 Tryd.underlying57 Tryd.underlying3 hi hz0 none 0 0 [] hold n hpos (by omega) (by omega) (by omega) (by rw [hz2]; omega) (growslice_fits (by omega) (by rw [hz2]; omega))
    simp only [Nat.zero_add] at hrz
    obtain ⟨G, hG⟩ : ∃ G, grownCap w n 0 94 = G := ⟨_, rfl⟩
    have hGn : n ≤ G := by rw [← hG]; exact grownCap_ge w _ _ _
    have hG63 : G ≤ maxLen := by rw [← hG]; exact grownCap_le_maxLen w n 0 94 (by unfold maxLen; omega)
    rw [hG] at hrz
    obtain ⟨C, hC⟩ : ∃ C, (([] : List Value).toArray ++ Builtin.zeroCells (Value.agg #[.int .i64 0, .int .i64 0, .int .i64 0, .int .i64 0, .int .i64 0]).cells n ++ Builtin.zeroCells (Value.agg #[.int .i64 0, .int .i64 0, .int .i64 0, .int .i64 0, .int .i64 0]).cells (G - n)) = C := ⟨_, rfl⟩
    have hCs : C.size = G * 5 := by
      rw [← hC]
      simp [Builtin.zeroCells, Value.cells]
      omega
    rw [hC] at hrz
    have hown := World.ownsRow_made (base := w.heap.size) (e := 94) (size := 5) w.drew C G (Nat.le_refl _) hG63 hCs
    have hgr : w.grownBy (w.drew.alloc (.cells C 94)) none := (show w.grownBy w.drew none from ⟨rfl, rfl, rfl, Nat.le_refl _, fun _ _ _ => rfl⟩).andThen (World.grownBy_alloc _ _ none) (by intro j hj; cases hj)
    have HO := Lib.hid hown
    have HG := Lib.hid hgr
    have HR := Lib.hid hrz
    have hG63' : G ≤ 9223372036854775807 := by unfold maxLen at hG63; omega
    clear hrz hown hgr hG hC hold hG63 hi hz0 hz1 hz2
    go_enter Tryd.func61, Tryd.ntmps61
    go_wp2_with (at_builtin; refine Lib.wpList_append_run _ rfl _ _ _ _ rfl _ _ rfl rfl _ _ (HR.out _) ?_)
    go_ret
    exact ⟨_, rfl, HO.out, HG.out⟩

/-- Programs that lie one behind the other in a row of rows. -/
def RowsN (w : World) (b : Nat) (ls : List (List In5)) : Prop := ∀ i, i < ls.length → ∃ A c, w.cell? ⟨b, i, none⟩ = some (.slice A (ls.getD i []).length c) ∧ Inss w w.heap.size A (ls.getD i []).length (ls.getD i []) ∧ b < w.heap.size
theorem RowsN.grow {w w' : World} {b : Nat} {ls : List (List In5)} (h : RowsN w b ls) (hg : w.grownBy w' none) : RowsN w' b ls := fun i hi => by
  obtain ⟨A, c, h1, h2, h3⟩ := h i hi
  exact ⟨A, c, (World.cell?_of_block (a := ⟨b, i, none⟩) (hg.block b h3 (by simp))).trans h1, h2.old ⟨hg.os, hg.tape, hg.output, hg.size, fun k hk => hg.block k hk (by simp)⟩, by have := hg.size; omega⟩
def lenN (ls : List (List In5)) (k : Nat) : Nat := ((ls.take k).flatten).length
theorem lenN_succ (ls : List (List In5)) (k : Nat) (hk : k < ls.length) : (ls.take (k + 1)).flatten = (ls.take k).flatten ++ ls.getD k [] ∧ lenN ls (k + 1) = lenN ls k + (ls.getD k []).length := by
  have e : ls.take (k + 1) = ls.take k ++ [ls.getD k []] := by
    rw [List.take_add_one, List.getD_eq_getElem?_getD, List.getElem?_eq_getElem hk]
    rfl
  have e2 : (ls.take (k + 1)).flatten = (ls.take k).flatten ++ ls.getD k [] := by rw [e]; simp
  exact ⟨e2, by unfold lenN; rw [e2, List.length_append]⟩
theorem lenN_le (ls : List (List In5)) (k : Nat) : lenN ls k ≤ ls.flatten.length := by
  have e : ls.flatten = (ls.take k).flatten ++ (ls.drop k).flatten := by rw [← List.flatten_append, List.take_append_drop]
  unfold lenN
  rw [e, List.length_append]
  omega
structure JoinN (w : World) (ls : List (List In5)) (v : Value) (k : Nat) (wr : World) : Prop where
  own : wr.ownsRow w.heap.size 94 5 v (lenN ls k) (cells5 ((ls.take k).flatten))
  grown : w.grownBy wr none
set_option maxHeartbeats 2000000 in
theorem concatN_any {w : World} (b m : Nat) (ls : List (List In5)) (hm : ls.length = m) (hm100 : m ≤ 100) (hR : RowsN w b ls) (h1000 : ls.flatten.length ≤ 1000) :
    Calls Tryd.prog 43 #[.slice (some ⟨b, 0, none⟩) m m] w (PieceOf ls.flatten w) := by
  have HR := Lib.hid hR
  have HN := Lib.hid hm
  have HL := Lib.hid (fun k => lenN_le ls k)
  have H1 := Lib.hid h1000
  have HZ := Lib.hid (show lenN ls 0 = 0 from rfl)
  clear hR hm h1000
  go_enter Tryd.func43, Tryd.ntmps43
  go_wp2
  go_loop [3, 11] (fun s j => ∃ k : Nat, k ≤ m ∧ j = .int .i64 k ∧ s = .int .i64 (lenN ls k : Nat)) (fun _ j => m - (intOf j).toNat)
  case atStart => exact ⟨0, Nat.zero_le _, rfl, by rw [HZ.out]; rfl⟩
  case round =>
    obtain ⟨k, hk, rfl, rfl⟩ := hrel
    by_cases hlt : k < m
    · have hkn : (k : Int) < (m : Int) := by omega
      obtain ⟨A, c, hcell, _, _⟩ := HR.out k (by rw [HN.out]; exact hlt)
      obtain ⟨e1, e2⟩ := lenN_succ ls k (by rw [HN.out]; exact hlt)
      have h3 := HL.out (k + 1)
      have h4 := H1.out
      rw [e2] at h3
      have E2 := Lib.hid e2
      generalize (ls.getD k []).length = z at *
      obtain ⟨q, hq⟩ : ∃ q, lenN ls k = q := ⟨_, rfl⟩
      rw [hq] at h3
      have HQ := Lib.hid hq
      rw [hq]
      have hq1 : wrap64 ((q : Int) + (z : Int)) = ((q + z : Nat) : Int) := by unfold wrap64; omega
      have hq2 : ¬ ((q + z : Nat) : Int) < 0 := by omega
      clear e1 e2 hq h3 h4
      go_wp2
      go_round
      case rel => exact ⟨k + 1, by omega, by go_num, by rw [E2.out, HQ.out]; go_num⟩
      case measure => simp [intOf]; omega
    · have hkn : ¬ (k : Int) < (m : Int) := by omega
      obtain rfl : k = m := by omega
      have h3 := HL.out k
      have h4 := H1.out
      have hfl : (ls.take k).flatten = ls.flatten := by rw [List.take_of_length_le (by rw [HN.out]; exact Nat.le_refl _)]
      have HFl := Lib.hid (show lenN ls k = ls.flatten.length ∧ (ls.take k).flatten = ls.flatten from ⟨by unfold lenN; rw [hfl], hfl⟩)
      have HGr := Lib.hid (growT_nil (w := w) (lenN ls k) (by omega))
      clear h3 h4 hfl
      generalize hgz : lenN ls k = gz at HGr
      clear hgz
      go_wp2_with fail
      refine HGr.out.mono ?_
      rintro e w1 ⟨v1, rfl, hown1, hg1⟩
      have HJ := Lib.hid (show JoinN w ls v1 0 w1 from ⟨by simpa [lenN, cells5] using hown1, hg1⟩)
      clear hown1 hg1 HGr
      go_wp2
      go_loopw [6, 27] (fun v j wr => ∃ i : Nat, i ≤ k ∧ j = .int .i64 i ∧ JoinN w ls v i wr) (fun _ j _ => k - (intOf j).toNat)
      case atStart => exact ⟨0, by omega, rfl, HJ.out⟩
      case round =>
        obtain ⟨i, hi, rfl, hJ⟩ := hrel
        by_cases hlt2 : i < k
        · have hkn2 : (i : Int) < (k : Int) := by omega
          obtain ⟨A, c, hcell, hin, _⟩ := (HR.out.grow hJ.grown) i (by rw [HN.out]; exact hlt2)
          obtain ⟨e1, e2⟩ := lenN_succ ls i (by rw [HN.out]; exact hlt2)
          have h3 := HL.out (i + 1)
          have h4 := H1.out
          obtain ⟨Av, cv, hv⟩ := slice_of_own hJ.own
          subst hv
          obtain ⟨v3, w3, hr3, ho3, hg3⟩ := run_appendP (c := c) hJ.own hin (by omega) hJ.grown.size 57
          rw [← e1, ← e2] at ho3
          have HJ3 := Lib.hid (show JoinN w ls v3 (i + 1) w3 from ⟨ho3, hJ.grown.andThen hg3 (fun k hk => .inl (hJ.own.lt k hk).1)⟩)
          have HR3 := Lib.hid hr3
          clear hr3 ho3 hg3 hin e1 e2 h3 h4 hJ HJ
          go_wp2_with (at_builtin; refine Lib.wpList_append_run _ rfl _ _ _ _ rfl _ _ rfl rfl _ _ HR3.out ?_; clear HR3)
          go_roundw
          case rel => exact ⟨i + 1, by omega, by go_num, HJ3.out⟩
          case measure => simp [intOf]; omega
        · have hkn2 : ¬ (i : Int) < (k : Int) := by omega
          obtain rfl : i = k := by omega
          obtain ⟨Av, cv, hv⟩ := slice_of_own hJ.own
          subst hv
          have ho := hJ.own
          rw [HFl.out.1, HFl.out.2] at ho
          have HI := Lib.hid (Inss.of_own ho rfl)
          have HG := Lib.hid hJ.grown
          have HF1 := Lib.hid HFl.out.1
          clear ho hJ HJ
          go_wp2
          go_ret
          rw [HF1.out]
          exact ⟨Av, cv, rfl, HI.out, HG.out⟩

def tkP (look tell : Int) : List In5 := [(1, 2, 0, 0, 0), (9, 3, 0, 1, 2), (11, 3, 0, look, 0), (5, 6, 1, 0, 16), (7, 0, 4, 6, 0), (15, 0, 1, 6, 0), (5, 2, 1, 16, 16), (10, tell, 0, 0, 0)]
def lvP (look : Int) : List In5 := [(9, 3, 0, 1, 5), (11, 3, 0, look, 0)]
def gfP (mine place sleep away : Int) : List In5 := [(6, 2, mine, 0, 0), (11, 2, 0, sleep, 0), (10, away, 0, 0, 0), (14, mine, 2, 0, 0), (10, place, 0, 0, 0), (1, 3, 0, 0, 0), (7, mine, 3, -1, 0)]
theorem Inss.gr {w w' : World} {A : Option Addr} {n : Nat} {l : List In5} (h : Inss w w.heap.size A n l) (hg : w.grownBy w' none) : Inss w' w'.heap.size A n l := h.old ⟨hg.os, hg.tape, hg.output, hg.size, fun k hk => hg.block k hk (by simp)⟩
def litT (l : List In5) : Array Value := (cells5 l).toArray
def LitOf (l : List In5) (w : World) (e : Ending) (w' : World) : Prop := e = .returned (.slice (some ⟨w.heap.size, 0, none⟩) l.length l.length) ∧ Inss w' w'.heap.size (some ⟨w.heap.size, 0, none⟩) l.length l ∧ w.grownBy w' none
set_option maxHeartbeats 400000 in
theorem trtake_any (look tell : Int) (w : World) : Calls Tryd.prog 44 #[.int .i64 look, .int .i64 tell] w (LitOf (tkP look tell) w) := by
  have HI := Lib.hid (inss_lit (w := w) (cs := litT (tkP look tell)) (l := tkP look tell) (n := 8) rfl rfl (by decide))
  have HG := Lib.hid (World.grownBy_alloc w (.cells (litT (tkP look tell)) 94) none)
  go_enter Tryd.func44, Tryd.ntmps44
  go_wp2
  go_ret
  exact ⟨rfl, HI.out, HG.out⟩
set_option maxHeartbeats 400000 in
theorem trleave_any (look : Int) (w : World) : Calls Tryd.prog 45 #[.int .i64 look] w (LitOf (lvP look) w) := by
  have HI := Lib.hid (inss_lit (w := w) (cs := litT (lvP look)) (l := lvP look) (n := 2) rfl rfl (by decide))
  have HG := Lib.hid (World.grownBy_alloc w (.cells (litT (lvP look)) 94) none)
  go_enter Tryd.func45, Tryd.ntmps45
  go_wp2
  go_ret
  exact ⟨rfl, HI.out, HG.out⟩
set_option maxHeartbeats 400000 in
theorem trgift_any (mine place : Int) (w : World) : Calls Tryd.prog 46 #[.int .i64 mine, .int .i64 place] w (LitOf (gfP mine place (wrap64 (place + 3)) (wrap64 (place + 5))) w) := by
  have HI := Lib.hid (inss_lit (w := w) (cs := litT (gfP mine place (wrap64 (place + 3)) (wrap64 (place + 5)))) (l := gfP mine place (wrap64 (place + 3)) (wrap64 (place + 5))) (n := 7) rfl rfl (by decide))
  have HG := Lib.hid (World.grownBy_alloc w (.cells (litT (gfP mine place (wrap64 (place + 3)) (wrap64 (place + 5)))) 94) none)
  go_enter Tryd.func46, Tryd.ntmps46
  go_wp2
  go_ret
  exact ⟨rfl, HI.out, HG.out⟩
def exP (c : Trd) (p : Nat) : List (List In5) := [[(1, 4, ((c.2 : Nat) : Int) + 1, 0, 0), (1, 5, ((c.1 : Nat) : Int) + (((c.2 : Nat) : Int) + 1) * 65536, 0, 0), (6, 1, 0, 0, 0), (11, 1, 0, (p : Int) + 12, 0)], tkP ((p : Int) + 2) ((p : Int) + 21), lvP ((p : Int) + 2), gfP ((c.1 : Nat) : Int) ((p : Int) + 14) (wrap64 ((p : Int) + 14 + 3)) (wrap64 ((p : Int) + 14 + 5)), [(3, 2, 2, -1, 0), (16, 3, 2, 0, 0)]]
theorem exP_flat (c : Trd) (p : Nat) (hp : p ≤ 1000) : (exP c p).flatten = tradeI c p := by
  have e1 : wrap64 ((p : Int) + 14 + 3) = (p : Int) + 17 := by unfold wrap64; omega
  have e2 : wrap64 ((p : Int) + 14 + 5) = (p : Int) + 19 := by unfold wrap64; omega
  have e3 : ((c.1 : Nat) : Int) + (((c.2 : Nat) : Int) + 1) * 65536 = offT c := by unfold offT mineT givT; omega
  unfold exP
  rw [e1, e2, e3]
  rfl
set_option maxHeartbeats 1000000 in
theorem trexch_any (c : Trd) (p : Nat) (hp : p ≤ 1000) (w : World) : Calls Tryd.prog 25 #[.int .i64 (c.1 : Nat), .int .i64 (c.2 : Nat), .int .i64 (p : Nat)] w (PieceOf (tradeI c p) w) := by
  rw [← exP_flat c p hp]
  have HI1 := Lib.hid (inss_lit (w := w) (cs := litT ((exP c p).getD 0 [])) (l := (exP c p).getD 0 []) (n := 4) rfl rfl (by decide))
  have HG1 := Lib.hid (World.grownBy_alloc w (.cells (litT ((exP c p).getD 0 [])) 94) none)
  have HT := Lib.hid (fun w => atell_any 2 w)
  have hc1 := c.1.2
  have hc2 := c.2.2
  go_enter Tryd.func25, Tryd.ntmps25
  go_wp2_with fail
  refine (trtake_any _ _ _).mono ?_
  rintro e w2 ⟨rfl, hI, hg⟩
  have HI2 := Lib.hid hI
  have HJ1 := Lib.hid (HI1.out.gr hg)
  have HG2 := Lib.hid (HG1.out.andThen hg (fun k hk => by cases hk))
  rw [World.size_alloc] at HI2
  clear hI hg HI1 HG1
  go_wp2_with fail
  refine (trleave_any _ _).mono ?_
  rintro e w3 ⟨rfl, hI, hg⟩
  have HI3 := Lib.hid hI
  have HJ2 := Lib.hid (HI2.out.gr hg)
  have HK1 := Lib.hid (HJ1.out.gr hg)
  have HG3 := Lib.hid (HG2.out.andThen hg (fun k hk => by cases hk))
  clear hI hg HI2 HJ1 HG2
  go_wp2_with fail
  --MB
  refine (trgift_any _ _ _).mono ?_
  rintro e w4 ⟨rfl, hI, hg⟩
  have HI4 := Lib.hid hI
  have HJ3 := Lib.hid (HI3.out.gr hg)
  have HK2 := Lib.hid (HJ2.out.gr hg)
  have HL1 := Lib.hid (HK1.out.gr hg)
  have HG4 := Lib.hid (HG3.out.andThen hg (fun k hk => by cases hk))
  clear hI hg HI3 HJ2 HK1 HG3
  go_wp2_with fail
  refine (HT.out _).mono ?_
  rintro e w5 ⟨rfl, hg⟩
  obtain ⟨q1, hq1⟩ : ∃ q, w.heap.size = q := ⟨_, rfl⟩
  obtain ⟨q3, hq3⟩ : ∃ q, w2.heap.size = q := ⟨_, rfl⟩
  obtain ⟨q4, hq4⟩ : ∃ q, w3.heap.size = q := ⟨_, rfl⟩
  rw [hq1] at HL1 HK2
  rw [hq3] at HJ3
  rw [hq4] at HI4
  have HX := Lib.hid (show RowsN ((w5.alloc (.cells (#[.int .i64 3, .int .i64 2, .int .i64 2, .int .i64 (-1), .int .i64 0, .int .i64 16, .int .i64 3, .int .i64 2, .int .i64 0, .int .i64 0]) 94)).alloc (.cells #[.slice (some ⟨q1, 0, none⟩) 4 4, .slice (some ⟨q1 + 1, 0, none⟩) 8 8, .slice (some ⟨q3, 0, none⟩) 2 2, .slice (some ⟨q4, 0, none⟩) 7 7, .slice (some ⟨w5.heap.size, 0, none⟩) 2 2] 57)) (w5.heap.size + 1) (exP c p) from by
    have hga := World.grownBy_alloc w5 (.cells (#[.int .i64 3, .int .i64 2, .int .i64 2, .int .i64 (-1), .int .i64 0, .int .i64 16, .int .i64 3, .int .i64 2, .int .i64 0, .int .i64 0]) 94) none
    have hgb := World.grownBy_alloc (w5.alloc (.cells (#[.int .i64 3, .int .i64 2, .int .i64 2, .int .i64 (-1), .int .i64 0, .int .i64 16, .int .i64 3, .int .i64 2, .int .i64 0, .int .i64 0]) 94)) (.cells #[.slice (some ⟨q1, 0, none⟩) 4 4, .slice (some ⟨q1 + 1, 0, none⟩) 8 8, .slice (some ⟨q3, 0, none⟩) 2 2, .slice (some ⟨q4, 0, none⟩) 7 7, .slice (some ⟨w5.heap.size, 0, none⟩) 2 2] 57) none
    have hat := heap_alloc_new (w5.alloc (.cells (#[.int .i64 3, .int .i64 2, .int .i64 2, .int .i64 (-1), .int .i64 0, .int .i64 16, .int .i64 3, .int .i64 2, .int .i64 0, .int .i64 0]) 94)) (.cells #[.slice (some ⟨q1, 0, none⟩) 4 4, .slice (some ⟨q1 + 1, 0, none⟩) 8 8, .slice (some ⟨q3, 0, none⟩) 2 2, .slice (some ⟨q4, 0, none⟩) 7 7, .slice (some ⟨w5.heap.size, 0, none⟩) 2 2] 57)
    rw [World.size_alloc] at hat
    have hsz : w5.heap.size + 1 < ((w5.alloc (.cells (#[.int .i64 3, .int .i64 2, .int .i64 2, .int .i64 (-1), .int .i64 0, .int .i64 16, .int .i64 3, .int .i64 2, .int .i64 0, .int .i64 0]) 94)).alloc (.cells #[.slice (some ⟨q1, 0, none⟩) 4 4, .slice (some ⟨q1 + 1, 0, none⟩) 8 8, .slice (some ⟨q3, 0, none⟩) 2 2, .slice (some ⟨q4, 0, none⟩) 7 7, .slice (some ⟨w5.heap.size, 0, none⟩) 2 2] 57)).heap.size := by rw [World.size_alloc, World.size_alloc]; omega
    have hl5 := inss_lit (w := w5) (cs := #[.int .i64 3, .int .i64 2, .int .i64 2, .int .i64 (-1), .int .i64 0, .int .i64 16, .int .i64 3, .int .i64 2, .int .i64 0, .int .i64 0]) (l := (exP c p).getD 4 []) (n := 2) rfl rfl (by decide)
    intro i hi
    match i, hi with
    | 0, _ => exact ⟨_, 4, (cell_of_row _ _ 0 _ _ _ hat).trans rfl, ((HL1.out.gr hg).gr hga).gr hgb, hsz⟩
    | 1, _ => exact ⟨_, 8, (cell_of_row _ _ 1 _ _ _ hat).trans rfl, ((HK2.out.gr hg).gr hga).gr hgb, hsz⟩
    | 2, _ => exact ⟨_, 2, (cell_of_row _ _ 2 _ _ _ hat).trans rfl, ((HJ3.out.gr hg).gr hga).gr hgb, hsz⟩
    | 3, _ => exact ⟨_, 7, (cell_of_row _ _ 3 _ _ _ hat).trans rfl, ((HI4.out.gr hg).gr hga).gr hgb, hsz⟩
    | 4, _ => exact ⟨_, 2, (cell_of_row _ _ 4 _ _ _ hat).trans rfl, hl5.gr hgb, hsz⟩
    | i + 5, h => exact absurd h (by simp [exP]))
  have HG5 := Lib.hid ((HG4.out.andThen hg (fun k hk => by cases hk)).andThen ((World.grownBy_alloc w5 (.cells (#[.int .i64 3, .int .i64 2, .int .i64 2, .int .i64 (-1), .int .i64 0, .int .i64 16, .int .i64 3, .int .i64 2, .int .i64 0, .int .i64 0]) 94) none).andThen (World.grownBy_alloc _ (.cells #[.slice (some ⟨q1, 0, none⟩) 4 4, .slice (some ⟨q1 + 1, 0, none⟩) 8 8, .slice (some ⟨q3, 0, none⟩) 2 2, .slice (some ⟨q4, 0, none⟩) 7 7, .slice (some ⟨w5.heap.size, 0, none⟩) 2 2] 57) none) (fun k hk => by cases hk)) (fun k hk => by cases hk))
  have HC := Lib.hid (concatN_any (w5.heap.size + 1) 5 (exP c p) rfl (by decide) HX.out (by show (23 : Nat) ≤ 1000; decide))
  clear hg HG4 HI4 HJ3 HK2 HL1 HT HX
  generalize (exP c p).flatten = L at *
  go_wp2_with fail
  --MC
  refine HC.out.mono ?_
  rintro e w6 ⟨A, c6, rfl, hI, hg⟩
  have HIf := Lib.hid hI
  have HGf := Lib.hid (HG5.out.andThen hg (fun k hk => by cases hk))
  clear hI hg HC HG5
  go_wp2
  go_ret
  exact ⟨A, c6, rfl, HIf.out, HGf.out⟩

def encTr (c : Trd) : Int × Int := (5, (c.2 : Nat))
/-- Whose it is lies in a cell. -/
theorem trcall_any (c : Trd) (t g : Nat) (hc : (c.1 : Nat) = t + 1) (ht : t < 16) (p : Nat) (hp : p ≤ 1000) (w : World) (hg : w.cell? ⟨g, 0, none⟩ = some (.int .i64 (t : Nat))) (hgs : g < w.heap.size) :
    Calls Tryd.prog 24 (#[.agg #[.int .i64 (encTr c).1, .int .i64 (encTr c).2], .int .i64 (p : Nat)] ++ #[.pointer (some ⟨g, 0, none⟩)]) w (CallOf (tradeI c p) w) := by
  have hcell := (World.cell?_of_block (a := ⟨g, 0, none⟩) ((World.grownBy_alloc w (.cells #[.int .i64 5, .int .i64 (c.2 : Nat)] 52) none).block g hgs (by simp))).trans hg
  have HG := Lib.hid (World.grownBy_alloc w (.cells #[.int .i64 5, .int .i64 (c.2 : Nat)] 52) none)
  have HX := Lib.hid (fun w => trexch_any c p hp w)
  have hc2 := c.2.2
  have e1 : ((t : Nat) : Int) + 1 = (c.1 : Nat) := by omega
  have e2 : ¬ ((c.2 : Nat) : Int) < 0 := by omega
  have e3 : ¬ (1000 : Int) < ((c.2 : Nat) : Int) := by omega
  generalize tradeI c p = l at *
  clear hc hg
  show Calls Tryd.prog 24 #[.agg #[.int .i64 5, .int .i64 (c.2 : Nat)], .int .i64 (p : Nat), .pointer (some ⟨g, 0, none⟩)] w (CallOf l w)
  go_enter Tryd.func24, Tryd.ntmps24
  go_wp2_with fail
  --MA
  refine (HX.out _).mono ?_
  rintro e w1 ⟨A, c', rfl, hI, hg⟩
  have HI := Lib.hid hI
  have HG1 := Lib.hid (HG.out.andThen hg (fun k hk => by cases hk))
  clear hI hg
  go_wp2
  go_ret2
  exact ⟨A, c', rfl, HI.out, HG1.out⟩
set_option maxHeartbeats 1000000 in
theorem trcode_any (L : List Trd) (hL : L.length ≤ 12) (t : Nat) (ht : t < 16) (hm : ∀ c ∈ L, (c.1 : Nat) = t + 1) {w : World} (A : Option Addr) (n cap : Nat) (hR : CRow w w.heap.size A n (L.map encTr)) :
    Calls Tryd.prog 9 #[.int .i64 (t : Nat), .slice A n cap] w (WholeOf tradeF L w) := by
  have hb := (Below.refl w.heap.size w).alloc (Nat.le_refl _) (.cells #[.int .i64 (t : Nat)] 3)
  have hat := heap_alloc_new w (.cells #[.int .i64 (t : Nat)] 3)
  have HB := Lib.hid hb
  have HA := Lib.hid (acodeB_any tradeF encTr 24 #[.pointer (some ⟨w.heap.size, 0, none⟩)] (enter_ask Tryd.func24 (by kernel_rfl) (by kernel_rfl)) (fun c => (by decide : (23 : Nat) ≤ 40)) L hL (w := w.alloc (.cells #[.int .i64 (t : Nat)] 3)) A n cap ((hR.below hb).wide (by rw [World.size_alloc]; omega)) fun c hc p hp w1 hb1 => trcall_any c t w.heap.size (hm c hc) ht p hp w1 ((World.cell?_of_block (a := ⟨w.heap.size, 0, none⟩) (hb1.block _ (by show w.heap.size < _; rw [World.size_alloc]; omega))).trans ((cell_of_row _ _ 0 _ _ _ hat).trans rfl)) (by have := hb1.size; rw [World.size_alloc] at this; omega))
  have h1 : ¬ ((t : Nat) : Int) < 0 := by omega
  have h2 : ((t : Nat) : Int) < 16 := by omega
  have h3 : ¬ (16 : Int) ≤ ((t : Nat) : Int) := by omega
  clear hR hb hat
  go_enter Tryd.func9, Tryd.ntmps9
  go_wp2_with fail
  --MB
  refine HA.out.mono ?_
  rintro e w1 ⟨A', c', rfl, ho, hb⟩
  rw [World.size_alloc] at ho hb
  have HO := Lib.hid (And.intro ho hb)
  clear ho hb HA
  go_wp2
  go_ret2
  exact ⟨A', c', rfl, own_low HO.out.1 (by omega), HB.out.trans (HO.out.2.mono (by omega))⟩
theorem trade_good : ∀ (c : Trd) (p N : Nat), p + 23 < N → ∀ x ∈ tradeI c p, goodX N (17 : Nat) x := fun c p N h x hx => by
  have h1 := mine_lt c
  have h2 := giv_lt c
  have h3 := off_lt c
  simp only [tradeI, List.mem_cons, List.not_mem_nil, or_false] at hx
  rcases hx with rfl | rfl | rfl | rfl | rfl | rfl | rfl | rfl | rfl | rfl | rfl | rfl | rfl | rfl | rfl | rfl | rfl | rfl | rfl | rfl | rfl | rfl | rfl
  all_goals (simp [goodX, kindsOf, kinds, nums, fitsL, boundsL]; try omega)
end Go.Proofs.YtlcffeiolpggfaaDoor
