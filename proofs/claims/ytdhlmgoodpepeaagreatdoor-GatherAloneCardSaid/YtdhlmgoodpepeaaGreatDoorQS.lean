/-
  Programs of a phaser: gather's pieces, and gather.Code. gather's pieces: the next phase gather's pieces: till a phase is no more
-/
import Derived.Test.YtdhlmgoodpepeaaGreatDoorQN
import Derived.Test.YtdhlmgoodpepeaaGreatDoorQP3
import Derived.Test.YtdhlmgoodpepeaaGreatDoorQR
import Derived.Test.YtdhlmgoodpepeaaGreatDoorQL
namespace Go.Proofs.YtdhlmgoodpepeaaGreatDoor
set_option maxRecDepth 100000
open Go.RowKit Go.Shelf Go.Sort
set_option linter.unusedVariables false
set_option linter.unusedSimpArgs false

/-- What a piece comes to: a row of one's own. -/
def OwnOf (l : List In5) (w : World) (e : Ending) (w' : World) : Prop := ∃ A c, e = .returned (.slice A l.length c) ∧ w'.ownsRow w.heap.size 88 5 (.slice A l.length c) l.length (cells5 l) ∧ w.grownBy w' none
def OneOf (r : In5) (w : World) (e : Ending) (w' : World) : Prop := e = .returned (.agg #[.int .i64 r.1, .int .i64 r.2.1, .int .i64 r.2.2.1, .int .i64 r.2.2.2.1, .int .i64 r.2.2.2.2]) ∧ w.grownBy w' none
theorem lit_gr {w w' : World} {cs : Array Value} (hg : (w.alloc (.cells cs 88)).grownBy w' none) (l : List In5) (n : Nat) (hcs : cs.toList = cells5 l) (hl : l.length = n) (hn : n ≤ 1000) : Inss w' w'.heap.size (some ⟨w.heap.size, 0, none⟩) n l := (inss_lit hcs hl hn).gr hg
theorem gr_al {w w' : World} {o : Obj} (hg : (w.alloc o).grownBy w' none) : w.grownBy w' none := (World.grownBy_alloc w o none).andThen hg (fun k hk => by cases hk)
theorem gr_then {w w' w'' : World} (h1 : w.grownBy w' none) (h2 : w'.grownBy w'' none) : w.grownBy w'' none := h1.andThen h2 (fun k hk => by cases hk)
theorem own_gr {w w' : World} {B n : Nat} {v : Value} {xs : List Value} (h : w.ownsRow B 88 5 v n xs) (hg : w.grownBy w' none) : w'.ownsRow B 88 5 v n xs := by
  refine h.kept hg ?_
  cases e : v.ownBlock with
  | none => exact .inl rfl
  | some k => exact .inr (by simp)
set_option maxHeartbeats 2000000 in
theorem concatO_any {w : World} (b m : Nat) (ls : List (List In5)) (hm : ls.length = m) (hm100 : m ≤ 100) (hR : RowsN w b ls) (h1000 : ls.flatten.length ≤ 1000) :
    Calls Tryz.prog 121 #[.slice (some ⟨b, 0, none⟩) m m] w (OwnOf ls.flatten w) := by
  have HR := Lib.hid hR
  have HN := Lib.hid hm
  have HL := Lib.hid (fun k => lenN_le ls k)
  have H1 := Lib.hid h1000
  have HZ := Lib.hid (show lenN ls 0 = 0 from rfl)
  clear hR hm h1000
  go_enter Tryz.func121, Tryz.ntmps121
  go_wp2
  go_loop [3, 11] (fun s j => ∃ k : Nat, k ≤ m ∧ j = .int .i64 k ∧ s = .int .i64 (lenN ls k : Nat)) (fun _ j => m - (intOf j).toNat)
  case atStart => exact ⟨0, Nat.zero_le _, rfl, by rw [HZ.out]; rfl⟩
  case round =>
    obtain ⟨k, hk, rfl, rfl⟩ := hrel
    by_cases hlt : k < m
    · have hkn : (k : Int) < (m : Int) := by omega
      obtain ⟨A, c, hcell, _, _⟩ := HR.out k (by rw [HN.out]; exact hlt)
      obtain ⟨e1, e2⟩ := lenN_succ ls k (by rw [HN.out]; exact hlt)
      have h3 := HL.out (k + 1)
      have h4 := H1.out
      rw [e2] at h3
      have E2 := Lib.hid e2
      generalize (ls.getD k []).length = z at *
      obtain ⟨q, hq⟩ : ∃ q, lenN ls k = q := ⟨_, rfl⟩
      rw [hq] at h3
      have HQ := Lib.hid hq
      rw [hq]
      have hq1 : wrap64 ((q : Int) + (z : Int)) = ((q + z : Nat) : Int) := by unfold wrap64; omega
      have hq2 : ¬ ((q + z : Nat) : Int) < 0 := by omega
      clear e1 e2 hq h3 h4
      go_wp2
      go_round
      case rel => exact ⟨k + 1, by omega, by go_num, by rw [E2.out, HQ.out]; go_num⟩
      case measure => simp [intOf]; omega
    · have hkn : ¬ (k : Int) < (m : Int) := by omega
      obtain rfl : k = m := by omega
      have h3 := HL.out k
      have h4 := H1.out
      have hfl : (ls.take k).flatten = ls.flatten := by rw [List.take_of_length_le (by rw [HN.out]; exact Nat.le_refl _)]
      have HFl := Lib.hid (show lenN ls k = ls.flatten.length ∧ (ls.take k).flatten = ls.flatten from ⟨by unfold lenN; rw [hfl], hfl⟩)
      have HGr := Lib.hid (growT_nil (w := w) (lenN ls k) (by omega))
      clear h3 h4 hfl
      generalize hgz : lenN ls k = gz at HGr
      clear hgz
      go_wp2_with fail
      refine HGr.out.mono ?_
      rintro e w1 ⟨v1, rfl, hown1, hg1⟩
      have HJ := Lib.hid (show JoinN w ls v1 0 w1 from ⟨by simpa [lenN, cells5] using hown1, hg1⟩)
      clear hown1 hg1 HGr
      go_wp2
      go_loopw [6, 27] (fun v j wr => ∃ i : Nat, i ≤ k ∧ j = .int .i64 i ∧ JoinN w ls v i wr) (fun _ j _ => k - (intOf j).toNat)
      case atStart => exact ⟨0, by omega, rfl, HJ.out⟩
      case round =>
        obtain ⟨i, hi, rfl, hJ⟩ := hrel
        by_cases hlt2 : i < k
        · have hkn2 : (i : Int) < (k : Int) := by omega
          obtain ⟨A, c, hcell, hin, _⟩ := (HR.out.grow hJ.grown) i (by rw [HN.out]; exact hlt2)
          obtain ⟨e1, e2⟩ := lenN_succ ls i (by rw [HN.out]; exact hlt2)
          have h3 := HL.out (i + 1)
          have h4 := H1.out
          obtain ⟨Av, cv, hv⟩ := slice_of_own hJ.own
          subst hv
          obtain ⟨v3, w3, hr3, ho3, hg3⟩ := run_appendP (c := c) hJ.own hin (by omega) hJ.grown.size 82
          rw [← e1, ← e2] at ho3
          have HJ3 := Lib.hid (show JoinN w ls v3 (i + 1) w3 from ⟨ho3, hJ.grown.andThen hg3 (fun k hk => .inl (hJ.own.lt k hk).1)⟩)
          have HR3 := Lib.hid hr3
          clear hr3 ho3 hg3 hin e1 e2 h3 h4 hJ HJ
          go_wp2_with (at_builtin; refine Lib.wpList_append_run _ rfl _ _ _ _ rfl _ _ rfl rfl _ _ HR3.out ?_; clear HR3)
          go_roundw
          case rel => exact ⟨i + 1, by omega, by go_num, HJ3.out⟩
          case measure => simp [intOf]; omega
        · have hkn2 : ¬ (i : Int) < (k : Int) := by omega
          obtain rfl : i = k := by omega
          obtain ⟨Av, cv, hv⟩ := slice_of_own hJ.own
          subst hv
          have ho := hJ.own
          rw [HFl.out.1, HFl.out.2] at ho
          have HI := Lib.hid ho
          have HG := Lib.hid hJ.grown
          have HF1 := Lib.hid HFl.out.1
          clear ho hJ HJ
          go_wp2
          go_ret
          rw [HF1.out]
          exact ⟨Av, cv, rfl, HI.out, HG.out⟩
/-- Pieces one behind the other. -/
theorem concat_of {W : World} {vs : Array Value} {b : Nat} (hb : W.heap.size = b) (ls : List (List In5)) (n : Nat) (hn : ls.length = n) (hv : vs.size = n) (h : ∀ i, i < ls.length → ∃ A c, vs[i]? = some (.slice A (ls.getD i []).length c) ∧ Inss W W.heap.size A (ls.getD i []).length (ls.getD i [])) (h100 : n ≤ 100) (h1000 : ls.flatten.length ≤ 1000) :
    Calls Tryz.prog 121 #[.slice (some ⟨b, 0, none⟩) n n] (W.alloc (.cells vs 82)) (fun e w' => ∃ A c, e = .returned (.slice A ls.flatten.length c) ∧ w'.ownsRow W.heap.size 88 5 (.slice A ls.flatten.length c) ls.flatten.length (cells5 ls.flatten) ∧ W.grownBy w' none) := by
  subst hb
  have hga := World.grownBy_alloc W (.cells vs 82) none
  have hat := heap_alloc_new W (.cells vs 82)
  refine (concatO_any (w := W.alloc (.cells vs 82)) W.heap.size n ls hn h100 (fun i hi => ?_) h1000).mono ?_
  · obtain ⟨A, c, h1, h2⟩ := h i hi
    exact ⟨A, c, (cell_of_row _ _ i _ _ _ hat).trans h1, h2.gr hga, by rw [World.size_alloc]; omega⟩
  · rintro e w' ⟨A, c, rfl, hO, hg⟩
    exact ⟨A, c, rfl, own_low hO (by rw [World.size_alloc]; omega), gr_then hga hg⟩
set_option maxHeartbeats 400000 in
theorem gaisover_any (r : Int) (w : World) : Calls Tryz.prog 148 #[.int .i64 r] w (OneOf (5, 2, r, 63, 1) w) := by
  have HG := Lib.hid (World.grownBy_alloc w (.cells #[.int .i64 5, .int .i64 2, .int .i64 r, .int .i64 63, .int .i64 1] 88) none)
  show Calls Tryz.prog 148 _ w fun e w' => e = .returned (.agg #[.int .i64 5, .int .i64 2, .int .i64 r, .int .i64 63, .int .i64 1]) ∧ w.grownBy w' none
  go_enter Tryz.func148, Tryz.ntmps148
  go_wp2
  refine bodyPost_ret (v := .agg #[.int .i64 5, .int .i64 2, .int .i64 r, .int .i64 63, .int .i64 1]) ?_ rfl ⟨rfl, HG.out⟩
  exact results_cell_row (fn := Tryz.f148) (p := 2) (ty := 88) (g := w.heap.size) (t := 88) (cs := #[.int .i64 5, .int .i64 2, .int .i64 r, .int .i64 63, .int .i64 1]) (fr := (0, 0)) (by kernel_rfl) _ _ (d := _) (by rfl) (heap_alloc_new w _) Tryz.underlying88 rfl (by kernel_rfl)

set_option maxHeartbeats 400000 in
theorem gaphase_any (r : Int) (w : World) : Calls Tryz.prog 125 #[.int .i64 r] w (OneOf (5, r, 1, 32, 31) w) := by
  have HG := Lib.hid (World.grownBy_alloc w (.cells #[.int .i64 5, .int .i64 r, .int .i64 1, .int .i64 32, .int .i64 31] 88) none)
  show Calls Tryz.prog 125 _ w fun e w' => e = .returned (.agg #[.int .i64 5, .int .i64 r, .int .i64 1, .int .i64 32, .int .i64 31]) ∧ w.grownBy w' none
  go_enter Tryz.func125, Tryz.ntmps125
  go_wp2
  refine bodyPost_ret (v := .agg #[.int .i64 5, .int .i64 r, .int .i64 1, .int .i64 32, .int .i64 31]) ?_ rfl ⟨rfl, HG.out⟩
  exact results_cell_row (fn := Tryz.f125) (p := 2) (ty := 88) (g := w.heap.size) (t := 88) (cs := #[.int .i64 5, .int .i64 r, .int .i64 1, .int .i64 32, .int .i64 31]) (fr := (0, 0)) (by kernel_rfl) _ _ (d := _) (by rfl) (heap_alloc_new w _) Tryz.underlying88 rfl (by kernel_rfl)

set_option maxHeartbeats 400000 in
theorem gapart_any (r : Int) (u : Int) (w : World) : Calls Tryz.prog 123 #[.int .i64 r, .int .i64 u] w (OneOf (5, r, u, 16, 16) w) := by
  have HG := Lib.hid (World.grownBy_alloc w (.cells #[.int .i64 5, .int .i64 r, .int .i64 u, .int .i64 16, .int .i64 16] 88) none)
  show Calls Tryz.prog 123 _ w fun e w' => e = .returned (.agg #[.int .i64 5, .int .i64 r, .int .i64 u, .int .i64 16, .int .i64 16]) ∧ w.grownBy w' none
  go_enter Tryz.func123, Tryz.ntmps123
  go_wp2
  refine bodyPost_ret (v := .agg #[.int .i64 5, .int .i64 r, .int .i64 u, .int .i64 16, .int .i64 16]) ?_ rfl ⟨rfl, HG.out⟩
  exact results_cell_row (fn := Tryz.f123) (p := 4) (ty := 88) (g := w.heap.size) (t := 88) (cs := #[.int .i64 5, .int .i64 r, .int .i64 u, .int .i64 16, .int .i64 16]) (fr := (0, 0)) (by kernel_rfl) _ _ (d := _) (by rfl) (heap_alloc_new w _) Tryz.underlying88 rfl (by kernel_rfl)

set_option maxHeartbeats 400000 in
theorem gawait_any  (w : World) : Calls Tryz.prog 149 #[] w (OneOf (5, 2, 1, 0, 16) w) := by
  have HG := Lib.hid (World.grownBy_alloc w (.cells #[.int .i64 5, .int .i64 2, .int .i64 1, .int .i64 0, .int .i64 16] 88) none)
  show Calls Tryz.prog 149 _ w fun e w' => e = .returned (.agg #[.int .i64 5, .int .i64 2, .int .i64 1, .int .i64 0, .int .i64 16]) ∧ w.grownBy w' none
  go_enter Tryz.func149, Tryz.ntmps149
  go_wp2
  refine bodyPost_ret (v := .agg #[.int .i64 5, .int .i64 2, .int .i64 1, .int .i64 0, .int .i64 16]) ?_ rfl ⟨rfl, HG.out⟩
  exact results_cell_row (fn := Tryz.f149) (p := 0) (ty := 88) (g := w.heap.size) (t := 88) (cs := #[.int .i64 5, .int .i64 2, .int .i64 1, .int .i64 0, .int .i64 16]) (fr := (0, 0)) (by kernel_rfl) _ _ (d := _) (by rfl) (heap_alloc_new w _) Tryz.underlying88 rfl (by kernel_rfl)

set_option maxHeartbeats 400000 in
theorem gawake_any  (w : World) : Calls Tryz.prog 128 #[] w (OneOf (15, 0, 16, -1, 0) w) := by
  have HG := Lib.hid (World.grownBy_alloc w (.cells #[.int .i64 15, .int .i64 0, .int .i64 16, .int .i64 (-1), .int .i64 0] 88) none)
  show Calls Tryz.prog 128 _ w fun e w' => e = .returned (.agg #[.int .i64 15, .int .i64 0, .int .i64 16, .int .i64 (-1), .int .i64 0]) ∧ w.grownBy w' none
  go_enter Tryz.func128, Tryz.ntmps128
  go_wp2
  refine bodyPost_ret (v := .agg #[.int .i64 15, .int .i64 0, .int .i64 16, .int .i64 (-1), .int .i64 0]) ?_ rfl ⟨rfl, HG.out⟩
  exact results_cell_row (fn := Tryz.f128) (p := 0) (ty := 88) (g := w.heap.size) (t := 88) (cs := #[.int .i64 15, .int .i64 0, .int .i64 16, .int .i64 (-1), .int .i64 0]) (fr := (0, 0)) (by kernel_rfl) _ _ (d := _) (by rfl) (heap_alloc_new w _) Tryz.underlying88 rfl (by kernel_rfl)

theorem gatell_any (r : Int) (w : World) : Calls Tryz.prog 127 #[.int .i64 r] w (OneOf (16, 3, r, 0, 0) w) := atell_any r w

def lookP (q : Int) : List In5 := [(6, 1, 0, 0, 0), (5, 2, 1, 63, 1), (11, 2, 1, q, 0)]

set_option maxHeartbeats 2000000 in
theorem galook_any (q : Int) (w : World) : Calls Tryz.prog 122 #[.int .i64 q] w (OwnOf (lookP q) w) := by
  go_enter Tryz.func122, Tryz.ntmps122
  go_wp2_with fail
  refine (gaisover_any 1 _).mono ?_
  rintro e x1 ⟨rfl, hg1⟩
  have G1 := Lib.hid hg1
  clear hg1
  have HO := Lib.hid (own_lit (w := x1) (cs := #[.int .i64 6, .int .i64 1, .int .i64 0, .int .i64 0, .int .i64 0, .int .i64 5, .int .i64 2, .int .i64 1, .int .i64 63, .int .i64 1, .int .i64 11, .int .i64 2, .int .i64 1, .int .i64 q, .int .i64 0]) (l := [(6, 1, 0, 0, 0), (5, 2, 1, 63, 1), (11, 2, 1, q, 0)]) (n := 3) rfl rfl (by decide) w.heap.size G1.out.size)
  have HG := Lib.hid (gr_then G1.out (World.grownBy_alloc x1 (.cells #[.int .i64 6, .int .i64 1, .int .i64 0, .int .i64 0, .int .i64 0, .int .i64 5, .int .i64 2, .int .i64 1, .int .i64 63, .int .i64 1, .int .i64 11, .int .i64 2, .int .i64 1, .int .i64 q, .int .i64 0] 88) none))
  go_wp2
  go_ret
  exact ⟨_, _, rfl, HO.out, HG.out⟩

def changeP (q : Int) : List In5 := [(9, 3, 0, 1, 4), (11, 3, 0, q, 0)]

set_option maxHeartbeats 2000000 in
theorem gachange_any (q : Int) (w : World) : Calls Tryz.prog 124 #[.int .i64 q] w (OwnOf (changeP q) w) := by
  go_enter Tryz.func124, Tryz.ntmps124
  have HO := Lib.hid (own_lit (w := w) (cs := #[.int .i64 9, .int .i64 3, .int .i64 0, .int .i64 1, .int .i64 4, .int .i64 11, .int .i64 3, .int .i64 0, .int .i64 q, .int .i64 0]) (l := [(9, 3, 0, 1, 4), (11, 3, 0, q, 0)]) (n := 2) rfl rfl (by decide) w.heap.size (Nat.le_refl _))
  have HG := Lib.hid (World.grownBy_alloc w (.cells #[.int .i64 9, .int .i64 3, .int .i64 0, .int .i64 1, .int .i64 4, .int .i64 11, .int .i64 3, .int .i64 0, .int .i64 q, .int .i64 0] 88) none)
  go_wp2
  go_ret
  exact ⟨_, _, rfl, HO.out, HG.out⟩

def answerP (n : Int) (q : Int) : List In5 := [(1, 2, n, 0, 0), (10, q, 0, 0, 0)]

set_option maxHeartbeats 2000000 in
theorem gaanswer_any (n : Int) (q : Int) (w : World) : Calls Tryz.prog 126 #[.int .i64 n, .int .i64 q] w (OwnOf (answerP n q) w) := by
  go_enter Tryz.func126, Tryz.ntmps126
  have HO := Lib.hid (own_lit (w := w) (cs := #[.int .i64 1, .int .i64 2, .int .i64 n, .int .i64 0, .int .i64 0, .int .i64 10, .int .i64 q, .int .i64 0, .int .i64 0, .int .i64 0]) (l := [(1, 2, n, 0, 0), (10, q, 0, 0, 0)]) (n := 2) rfl rfl (by decide) w.heap.size (Nat.le_refl _))
  have HG := Lib.hid (World.grownBy_alloc w (.cells #[.int .i64 1, .int .i64 2, .int .i64 n, .int .i64 0, .int .i64 0, .int .i64 10, .int .i64 q, .int .i64 0, .int .i64 0, .int .i64 0] 88) none)
  go_wp2
  go_ret
  exact ⟨_, _, rfl, HO.out, HG.out⟩
end Go.Proofs.YtdhlmgoodpepeaaGreatDoor

namespace Go.Proofs.YtdhlmgoodpepeaaGreatDoor
set_option maxRecDepth 100000
open Go.RowKit Go.Shelf Go.Sort
set_option linter.unusedVariables false
set_option linter.unusedSimpArgs false

def goOnP (q : Int) (s : Int) : List In5 := [(5, 3, 4, 16, 16), (11, 3, 0, wrap64 (q + 9), 0), (4, 4, 4, 3, 0), (5, 3, 1, 32, 31), (11, 3, 2147483647, wrap64 (q + 7), 0), (3, 4, 4, 4294967296, 0), (10, s, 0, 0, 0), (3, 4, 4, -9223372032559808512, 0), (10, s, 0, 0, 0), (3, 4, 4, -9223372036854775808, 0)]

set_option maxHeartbeats 2000000 in
theorem gagoon_any (q : Int) (s : Int) (w : World) : Calls Tryz.prog 150 #[.int .i64 q, .int .i64 s] w (OwnOf (goOnP q s) w) := by
  go_enter Tryz.func150, Tryz.ntmps150
  go_wp2_with fail
  refine (gapart_any 3 4 _).mono ?_
  rintro e x1 ⟨rfl, hg1⟩
  have G1 := Lib.hid hg1
  clear hg1
  go_wp2_with fail
  refine (gaphase_any 3 _).mono ?_
  rintro e x2 ⟨rfl, hg2⟩
  have G2 := Lib.hid (gr_then G1.out hg2)
  clear hg2 G1
  have HO := Lib.hid (own_lit (w := x2) (cs := #[.int .i64 5, .int .i64 3, .int .i64 4, .int .i64 16, .int .i64 16, .int .i64 11, .int .i64 3, .int .i64 0, .int .i64 (wrap64 (q + 9)), .int .i64 0, .int .i64 4, .int .i64 4, .int .i64 4, .int .i64 3, .int .i64 0, .int .i64 5, .int .i64 3, .int .i64 1, .int .i64 32, .int .i64 31, .int .i64 11, .int .i64 3, .int .i64 2147483647, .int .i64 (wrap64 (q + 7)), .int .i64 0, .int .i64 3, .int .i64 4, .int .i64 4, .int .i64 4294967296, .int .i64 0, .int .i64 10, .int .i64 s, .int .i64 0, .int .i64 0, .int .i64 0, .int .i64 3, .int .i64 4, .int .i64 4, .int .i64 (-9223372032559808512), .int .i64 0, .int .i64 10, .int .i64 s, .int .i64 0, .int .i64 0, .int .i64 0, .int .i64 3, .int .i64 4, .int .i64 4, .int .i64 (-9223372036854775808), .int .i64 0]) (l := [(5, 3, 4, 16, 16), (11, 3, 0, wrap64 (q + 9), 0), (4, 4, 4, 3, 0), (5, 3, 1, 32, 31), (11, 3, 2147483647, wrap64 (q + 7), 0), (3, 4, 4, 4294967296, 0), (10, s, 0, 0, 0), (3, 4, 4, -9223372032559808512, 0), (10, s, 0, 0, 0), (3, 4, 4, -9223372036854775808, 0)]) (n := 10) rfl rfl (by decide) w.heap.size G2.out.size)
  have HG := Lib.hid (gr_then G2.out (World.grownBy_alloc x2 (.cells #[.int .i64 5, .int .i64 3, .int .i64 4, .int .i64 16, .int .i64 16, .int .i64 11, .int .i64 3, .int .i64 0, .int .i64 (wrap64 (q + 9)), .int .i64 0, .int .i64 4, .int .i64 4, .int .i64 4, .int .i64 3, .int .i64 0, .int .i64 5, .int .i64 3, .int .i64 1, .int .i64 32, .int .i64 31, .int .i64 11, .int .i64 3, .int .i64 2147483647, .int .i64 (wrap64 (q + 7)), .int .i64 0, .int .i64 3, .int .i64 4, .int .i64 4, .int .i64 4294967296, .int .i64 0, .int .i64 10, .int .i64 s, .int .i64 0, .int .i64 0, .int .i64 0, .int .i64 3, .int .i64 4, .int .i64 4, .int .i64 (-9223372032559808512), .int .i64 0, .int .i64 10, .int .i64 s, .int .i64 0, .int .i64 0, .int .i64 0, .int .i64 3, .int .i64 4, .int .i64 4, .int .i64 (-9223372036854775808), .int .i64 0] 88) none))
  go_wp2
  go_ret
  exact ⟨_, _, rfl, HO.out, HG.out⟩
end Go.Proofs.YtdhlmgoodpepeaaGreatDoor

namespace Go.Proofs.YtdhlmgoodpepeaaGreatDoor
set_option maxRecDepth 100000
open Go.RowKit Go.Shelf Go.Sort
set_option linter.unusedVariables false
set_option linter.unusedSimpArgs false

def untilP (q : Int) : List In5 := lookP (wrap64 (q + 8)) ++ [(5, 2, 1, 32, 31), (13, 2, 5, wrap64 (q + 6), 0), (10, wrap64 (q + 9), 0, 0, 0), (14, 0, 1, 0, 0), (10, q, 0, 0, 0), (1, 2, -1, 0, 0), (16, 3, 2, 0, 0)]

set_option maxHeartbeats 2000000 in
theorem gauntil_any (q : Int) (w : World) : Calls Tryz.prog 129 #[.int .i64 q] w (OwnOf (untilP q) w) := by
  go_enter Tryz.func129, Tryz.ntmps129
  go_wp2_with fail
  refine (galook_any (wrap64 (q + 8)) _).mono ?_
  rintro e x1 ⟨A1, c1, rfl, hO1, hg1⟩
  have G1 := Lib.hid hg1
  have HO1 := Lib.hid hO1
  clear hg1 hO1
  go_wp2_with fail
  refine (gaphase_any 2 _).mono ?_
  rintro e x2 ⟨rfl, hg2⟩
  have HO1' := Lib.hid (own_gr HO1.out hg2)
  have G2 := Lib.hid (gr_then G1.out hg2)
  clear hg2 HO1 G1
  go_wp2_with fail
  refine (gatell_any 2 _).mono ?_
  rintro e x3 ⟨rfl, hg3⟩
  have HO1'' := Lib.hid (own_gr HO1'.out hg3)
  have G3 := Lib.hid (gr_then G2.out hg3)
  clear hg3 HO1' G2
  have hga := World.grownBy_alloc x3 (.cells #[.int .i64 5, .int .i64 2, .int .i64 1, .int .i64 32, .int .i64 31, .int .i64 13, .int .i64 2, .int .i64 5, .int .i64 (wrap64 (q + 6)), .int .i64 0, .int .i64 10, .int .i64 (wrap64 (q + 9)), .int .i64 0, .int .i64 0, .int .i64 0, .int .i64 14, .int .i64 0, .int .i64 1, .int .i64 0, .int .i64 0, .int .i64 10, .int .i64 q, .int .i64 0, .int .i64 0, .int .i64 0, .int .i64 1, .int .i64 2, .int .i64 (-1), .int .i64 0, .int .i64 0, .int .i64 16, .int .i64 3, .int .i64 2, .int .i64 0, .int .i64 0] 88) none
  have hI := inss_lit (w := x3) (cs := #[.int .i64 5, .int .i64 2, .int .i64 1, .int .i64 32, .int .i64 31, .int .i64 13, .int .i64 2, .int .i64 5, .int .i64 (wrap64 (q + 6)), .int .i64 0, .int .i64 10, .int .i64 (wrap64 (q + 9)), .int .i64 0, .int .i64 0, .int .i64 0, .int .i64 14, .int .i64 0, .int .i64 1, .int .i64 0, .int .i64 0, .int .i64 10, .int .i64 q, .int .i64 0, .int .i64 0, .int .i64 0, .int .i64 1, .int .i64 2, .int .i64 (-1), .int .i64 0, .int .i64 0, .int .i64 16, .int .i64 3, .int .i64 2, .int .i64 0, .int .i64 0]) (l := [(5, 2, 1, 32, 31), (13, 2, 5, wrap64 (q + 6), 0), (10, wrap64 (q + 9), 0, 0, 0), (14, 0, 1, 0, 0), (10, q, 0, 0, 0), (1, 2, -1, 0, 0), (16, 3, 2, 0, 0)]) (n := 7) rfl rfl (by decide)
  have ho := own_low (own_gr HO1''.out hga) (show w.heap.size ≤ _ from Nat.le_refl _)
  obtain ⟨v3, y, hr, hO, hg⟩ := run_appendP (c := 7) ho hI (Nat.le_of_ble_eq_true rfl) (by rw [World.size_alloc]; have := G3.out.size; omega) 82
  have hgg := (gr_then G3.out hga).andThen hg (fun k hk => .inl (ho.lt k hk).1)
  obtain ⟨A, c, rfl⟩ := slice_of_own hO
  have HRn := Lib.hid hr
  have HR := Lib.hid (And.intro hO hgg)
  clear hr hO hg hgg ho hI hga G3 HO1''
  go_wp2_with (at_builtin; refine Lib.wpList_append_run _ rfl _ _ _ _ rfl _ _ rfl rfl _ _ HRn.out ?_; clear HRn)
  go_ret
  exact ⟨_, _, rfl, HR.out.1, HR.out.2⟩
end Go.Proofs.YtdhlmgoodpepeaaGreatDoor
