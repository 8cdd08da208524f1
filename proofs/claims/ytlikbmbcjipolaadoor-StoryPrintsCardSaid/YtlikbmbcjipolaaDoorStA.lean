/-
  story: follows, Right: whether events may be.
-/
import Derived.Test.YtlikbmbcjipolaaDoorKStory
import Derived.Test.YtlikbmbcjipolaaDoorEvRow
import Derived.Test.YtlikbmbcjipolaaDoorCSmall
import Derived.BigRegion
namespace Go.Proofs.YtlikbmbcjipolaaDoor
set_option maxRecDepth 100000
open Go.RowKit Go.Sort
set_option linter.unusedVariables false
set_option linter.unusedSimpArgs false

/-- An event as a value. -/
def evSV (e : Ev4) : Value := .agg #[.int .i64 e.1, .int .i64 e.2.1, .int .i64 e.2.2.1, .int .i64 e.2.2.2]

theorem getE {l : List Ev4} {i : Nat} (h : i < l.length) : l[i] = l.getD i default := by
  rw [List.getD_eq_getElem?_getD, List.getElem?_eq_getElem h]; rfl
theorem rightS_step {ah : Int} {l : List Ev4} {i : Nat} (h : i < l.length) : rightS ah (l.take (i + 1)) ↔ rightS ah (l.take i) ∧ rightE (lastW ah (l.take i)) (l.getD i default) := by
  rw [List.take_succ_eq_append_getElem h, rightS_snoc, getE h]
theorem lastW_step {ah : Int} {l : List Ev4} {i : Nat} (h : i < l.length) : lastW ah (l.take (i + 1)) = (l.getD i default).1 := by
  rw [List.take_succ_eq_append_getElem h, lastW_snoc, getE h]
theorem rightS_no {ah : Int} {l : List Ev4} {i : Nat} (h : ¬ rightS ah (l.take i)) : ¬ rightS ah l := fun hr => by
  rw [← List.take_append_drop i l, rightS_append] at hr
  exact h hr.1

set_option maxHeartbeats 1000000 in
theorem follows_any (e : Ev4) (ah : Int) (w : World) : Calls Tryd.prog 30 #[evSV e, .int .i64 ah] w fun r w' => r = .returned (.bool (decide (rightE ah e))) ∧ Below w.heap.size w w' := by
  obtain ⟨a, b, c, d⟩ := e
  unfold evSV
  have hg := (Below.refl w.heap.size w).alloc (Nat.le_refl _) (.cells #[.int .i64 a, .int .i64 b, .int .i64 c, .int .i64 d] 62)
  have HG := Lib.hid hg
  clear hg
  by_cases h1 : ah < a
  · by_cases h2 : 1 ≤ b
    · by_cases h3 : b ≤ 3
      · by_cases h4 : 0 ≤ c
        · by_cases h5 : c < 16
          · rw [decide_eq_true (show rightE ah (a, b, c, d) from ⟨h1, h2, h3, h4, h5⟩)]
            go_enter Tryd.func30, Tryd.ntmps30
            go_wp2
            go_ret
            exact ⟨rfl, HG.out⟩
          · rw [decide_eq_false (show ¬ rightE ah (a, b, c, d) from fun h => h5 h.2.2.2.2)]
            go_enter Tryd.func30, Tryd.ntmps30
            go_wp2
            go_ret
            exact ⟨rfl, HG.out⟩
        · rw [decide_eq_false (show ¬ rightE ah (a, b, c, d) from fun h => h4 h.2.2.2.1)]
          go_enter Tryd.func30, Tryd.ntmps30
          go_wp2
          go_ret
          exact ⟨rfl, HG.out⟩
      · rw [decide_eq_false (show ¬ rightE ah (a, b, c, d) from fun h => h3 h.2.2.1)]
        go_enter Tryd.func30, Tryd.ntmps30
        go_wp2
        go_ret
        exact ⟨rfl, HG.out⟩
    · rw [decide_eq_false (show ¬ rightE ah (a, b, c, d) from fun h => h2 h.2.1)]
      go_enter Tryd.func30, Tryd.ntmps30
      go_wp2
      go_ret
      exact ⟨rfl, HG.out⟩
  · rw [decide_eq_false (show ¬ rightE ah (a, b, c, d) from fun h => h1 h.1)]
    go_enter Tryd.func30, Tryd.ntmps30
    go_wp2
    go_ret
    exact ⟨rfl, HG.out⟩

/-- Whether events may be. -/
def ToldRightE (l : List Ev4) (w : World) (e : Ending) (w' : World) : Prop := ∃ b : Bool, e = .returned (.bool b) ∧ (b = true ↔ rightS 0 l) ∧ Below w.heap.size w w'

set_option maxHeartbeats 1000000 in
theorem stRight_any (l : List Ev4) (A : Option Addr) (n c : Nat) (w : World) (hE : EvRow w A n l) (hlen : l.length = n) (hn : n ≤ 1000000) :
    Calls Tryd.prog 19 #[.slice A n c] w (ToldRightE l w) := by
  have HE := Lib.hid hE
  clear hE
  go_enter Tryd.func19, Tryd.ntmps19
  go_wp2
  go_loopw [3, 8] (fun av j wr => ∃ i : Nat, i ≤ n ∧ j = .int .i64 i ∧ av = .int .i64 (lastW 0 (l.take i)) ∧ rightS 0 (l.take i) ∧ Below w.heap.size w wr) (fun _ j _ => n - (intOf j).toNat)
  case atStart => exact ⟨0, Nat.zero_le _, rfl, rfl, trivial, Below.refl _ _⟩
  case round =>
    obtain ⟨i, hin, rfl, rfl, hr, hb⟩ := hrel
    by_cases hlt : i < n
    · have hii : (i : Int) < (n : Int) := by omega
      obtain ⟨ab, off, rfl, c1, c2, c3, c4⟩ := (HE.out.of hb) i hlt
      have hbw : ab < wr.heap.size := World.block_lt_of_cell? wr ⟨ab, off + i * 4, none⟩ c1
      have hbne : ab ≠ wr.heap.size := by omega
      have hst := rightS_step (ah := 0) (l := l) (i := i) (by omega)
      have hls := lastW_step (ah := 0) (l := l) (i := i) (by omega)
      obtain ⟨x, hx⟩ : ∃ x, l.getD i default = x := ⟨_, rfl⟩
      rw [hx] at c1 c2 c3 c4 hst hls
      obtain ⟨x1, x2, x3, x4⟩ := x
      dsimp only at c1 c2 c3 c4 hls
      have HF := Lib.hid (fun w => follows_any (x1, x2, x3, x4) (lastW 0 (l.take i)) w)
      have HB := Lib.hid hb
      have HR := Lib.hid hr
      have HST := Lib.hid hst
      have HLS := Lib.hid hls
      have hsz := hb.size
      have HN := Lib.hid (fun h => rightS_no (ah := 0) (l := l) (i := i + 1) h)
      unfold evSV at HF
      dsimp only at HF
      clear hb hr hst hls hx
      generalize lastW 0 (l.take i) = ah at *
      by_cases hE : rightE ah (x1, x2, x3, x4)
      · rw [decide_eq_true hE] at HF
        clear HN
        go_wp2_with fail
        refine (HF.out _).mono ?_
        rintro e w2 ⟨rfl, hg⟩
        have HB2 := Lib.hid ((HB.out.alloc hsz (.cells #[.int .i64 x1, .int .i64 x2, .int .i64 x3, .int .i64 x4] 62)).trans (hg.mono (HB.out.alloc hsz (.cells #[.int .i64 x1, .int .i64 x2, .int .i64 x3, .int .i64 x4] 62)).size))
        have hc0 : w2.cell? ⟨wr.heap.size, 0, none⟩ = some (.int .i64 x1) := by
          rw [cell_of_row w2 wr.heap.size 0 _ _ _ ((hg.block wr.heap.size (by simp)).trans (heap_alloc_new wr _))]; rfl
        clear hg
        go_wp2
        go_roundw
        case rel => exact ⟨i + 1, by omega, by go_num, by rw [HLS.out], HST.out.2 ⟨HR.out, hE⟩, HB2.out⟩
        case measure => simp [intOf]; omega
      · rw [decide_eq_false hE] at HF
        have HNN := Lib.hid (HN.out fun h => hE (HST.out.1 h).2)
        clear HN
        go_wp2_with fail
        refine (HF.out _).mono ?_
        rintro e w2 ⟨rfl, hg⟩
        have HB2 := Lib.hid ((HB.out.alloc hsz (.cells #[.int .i64 x1, .int .i64 x2, .int .i64 x3, .int .i64 x4] 62)).trans (hg.mono (HB.out.alloc hsz (.cells #[.int .i64 x1, .int .i64 x2, .int .i64 x3, .int .i64 x4] 62)).size))
        go_wp2
        go_ret
        exact ⟨false, rfl, ⟨(fun h => by cases h), fun h => absurd h HNN.out⟩, HB2.out⟩
    · obtain rfl : i = n := by omega
      rw [List.take_of_length_le (by omega)] at hr
      have hii : ¬ (i : Int) < (i : Int) := by omega
      go_wp2
      go_ret
      exact ⟨true, rfl, ⟨fun _ => hr, fun _ => rfl⟩, hb⟩
end Go.Proofs.YtlikbmbcjipolaaDoor
