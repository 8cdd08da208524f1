/-
  story: parseLine.
-/
import Derived.Test.YtdpknbcmjpnfgaaDoorStParse
namespace Go.Proofs.YtdpknbcmjpnfgaaDoor
set_option maxRecDepth 100000
open Go.RowKit Go.Sort
set_option linter.unusedVariables false
set_option linter.unusedSimpArgs false

theorem wordE_all {a b c d : List UInt8} {x k t v : Int} (h1 : numL a = some x) (h2 : whatL b = some k) (h3 : numL c = some t) (h4 : numL d = some v) : wordE a b c d = some (x, k, t, v) := by
  unfold wordE
  rw [h1, h2, h3, h4]
theorem wordE_no {a b c d : List UInt8} (h : numL a = none ∨ whatL b = none ∨ numL c = none ∨ numL d = none) : wordE a b c d = none := by
  unfold wordE
  rcases h with h | h | h | h
  · rw [h]
  · rw [h]; cases numL a <;> rfl
  · rw [h]; cases numL a <;> cases whatL b <;> rfl
  · rw [h]; cases numL a <;> cases whatL b <;> cases numL c <;> rfl

/-- A whole event, stored cell by cell. -/
def setE (w : World) (rb : Nat) (y : Ev4) : World :=
  (((w.setCell ⟨rb, 0, none⟩ (.int .i64 y.1)).setCell ⟨rb, 1, none⟩ (.int .i64 y.2.1)).setCell ⟨rb, 2, none⟩ (.int .i64 y.2.2.1)).setCell ⟨rb, 3, none⟩ (.int .i64 y.2.2.2)
theorem setE_row {w : World} {rb : Nat} (y : Ev4) (h : w.heap[rb]? = some (.cells #[.int .i64 0, .int .i64 0, .int .i64 0, .int .i64 0] 49 (0, 0))) :
    (setE w rb y).heap[rb]? = some (.cells #[.int .i64 y.1, .int .i64 y.2.1, .int .i64 y.2.2.1, .int .i64 y.2.2.2] 49 (0, 0)) :=
  heap_setCell_same _ rb 3 _ _ _ (heap_setCell_same _ rb 2 _ _ _ (heap_setCell_same _ rb 1 _ _ _ (heap_setCell_same _ rb 0 _ _ _ h)))
theorem setE_below {w0 w : World} {B rb : Nat} (y : Ev4) (h : Below B w0 w) (hB : B ≤ rb) : Below B w0 (setE w rb y) :=
  (((h.setCell (p := ⟨rb, 0, none⟩) hB _).setCell (p := ⟨rb, 1, none⟩) hB _).setCell (p := ⟨rb, 2, none⟩) hB _).setCell (p := ⟨rb, 3, none⟩) hB _
theorem said_result {tmps : Array Value} {w : World} {rb : Nat} {y : Ev4} {b : Bool} (h2 : tmps.getD 2 undef = .pointer (some ⟨rb, 0, none⟩)) (h3 : tmps.getD 3 undef = .bool b)
    (hr : w.heap[rb]? = some (.cells #[.int .i64 y.1, .int .i64 y.2.1, .int .i64 y.2.2.1, .int .i64 y.2.2.2] 49 (0, 0))) :
    (results Tryd.f39 tmps).run Tryd.prog w = .ok (.tuple #[evV y, .bool b]) w := by
  have c0 : w.cell? ⟨rb, 0, none⟩ = some (.int .i64 y.1) := by rw [cell_of_row w rb 0 _ _ _ hr]; rfl
  have c1 : w.cell? ⟨rb, 1, none⟩ = some (.int .i64 y.2.1) := by rw [cell_of_row w rb 1 _ _ _ hr]; rfl
  have c2 : w.cell? ⟨rb, 2, none⟩ = some (.int .i64 y.2.2.1) := by rw [cell_of_row w rb 2 _ _ _ hr]; rfl
  have c3 : w.cell? ⟨rb, 3, none⟩ = some (.int .i64 y.2.2.2) := by rw [cell_of_row w rb 3 _ _ _ hr]; rfl
  simp only [Array.getD_eq_getD_getElem?] at h2 h3
  simp [results, Tryd.results39, go_sem, h2, h3, c0, c1, c2, c3, evV]

set_option maxHeartbeats 4000000 in
theorem st_parseLine (s : List UInt8) (hs : s.length ≤ 4294967280) (w : World) (h : SR w) : Calls Tryd.prog 39 #[strV s] w (ToldSaid s w) := by
  have hba := (Below.refl w.heap.size w).alloc (Nat.le_refl _) (.cells #[.int .i64 0, .int .i64 0, .int .i64 0, .int .i64 0] 49)
  have hx0 := heap_alloc_new w (.cells #[.int .i64 0, .int .i64 0, .int .i64 0, .int .i64 0] 49)
  have hS0 := st_split s hs (w.alloc (.cells #[.int .i64 0, .int .i64 0, .int .i64 0, .int .i64 0] 49)) (h.old hba)
  obtain ⟨rb, hrb⟩ : ∃ rb, w.heap.size = rb := ⟨_, rfl⟩
  obtain ⟨w0, hw0⟩ : ∃ w0, w.alloc (.cells #[.int .i64 0, .int .i64 0, .int .i64 0, .int .i64 0] 49) = w0 := ⟨_, rfl⟩
  rw [hw0] at hba hS0 hx0
  rw [hrb] at hx0
  have hC0 := h.old hba
  have HS := Lib.hid hS0
  have HC := Lib.hid hC0
  have HBA := Lib.hid hba
  have HX0 := Lib.hid hx0
  have hlo : w.heap.size ≤ rb := by omega
  have HLO := Lib.hid hlo
  clear h hC0 hS0 hba hx0 hlo
  unfold strV at HS ⊢
  go_enter Tryd.func39, Tryd.ntmps39
  go_wp2_with fail
  refine HS.out.mono ?_
  rintro e w1 ⟨N, rfl, hb1, hlt1, hcells⟩
  clear hrb hw0
  have HB1 := Lib.hid hb1
  obtain ⟨sb, hsb⟩ : ∃ sb, w0.heap.size = sb := ⟨_, rfl⟩
  rw [hsb] at hcells hlt1 ⊢
  have key : ∀ (W : World) (y : Ev4), Below w1.heap.size w1 W → (setE W rb y).heap[rb]? = some (.cells #[.int .i64 y.1, .int .i64 y.2.1, .int .i64 y.2.2.1, .int .i64 y.2.2.2] 49 (0, 0)) ∧ Below w.heap.size w (setE W rb y) := by
    intro W y hb
    have hx : W.heap[rb]? = some (.cells #[.int .i64 0, .int .i64 0, .int .i64 0, .int .i64 0] 49 (0, 0)) := by
      have h1 := (HB1.out.block rb (lt_of_block HX0.out)).trans HX0.out
      exact (hb.block rb (lt_of_block h1)).trans h1
    have hall : Below w.heap.size w W := HBA.out.trans ((HB1.out.trans (hb.mono HB1.out.size)).mono HBA.out.size)
    exact ⟨setE_row y hx, setE_below y hall HLO.out⟩
  have rows : ∀ W, Below w1.heap.size w1 W → (W.cell? ⟨rb, 0, none⟩ = some (.int .i64 0) ∧ W.cell? ⟨rb, 1, none⟩ = some (.int .i64 0) ∧ W.cell? ⟨rb, 2, none⟩ = some (.int .i64 0) ∧ W.cell? ⟨rb, 3, none⟩ = some (.int .i64 0)) ∧ W.frozen? ⟨rb, 0, none⟩ = false ∧ W.frozen? ⟨rb, 1, none⟩ = false ∧ W.frozen? ⟨rb, 2, none⟩ = false ∧ W.frozen? ⟨rb, 3, none⟩ = false := by
    intro W hb
    have hx : W.heap[rb]? = some (.cells #[.int .i64 0, .int .i64 0, .int .i64 0, .int .i64 0] 49 (0, 0)) := by
      have h1 := (HB1.out.block rb (lt_of_block HX0.out)).trans HX0.out
      exact (hb.block rb (lt_of_block h1)).trans h1
    refine ⟨⟨?_, ?_, ?_, ?_⟩, frozen_of_row W rb 0 _ _ hx, frozen_of_row W rb 1 _ _ hx, frozen_of_row W rb 2 _ _ hx, frozen_of_row W rb 3 _ _ hx⟩
    · rw [cell_of_row W rb 0 _ _ _ hx]; rfl
    · rw [cell_of_row W rb 1 _ _ _ hx]; rfl
    · rw [cell_of_row W rb 2 _ _ _ hx]; rfl
    · rw [cell_of_row W rb 3 _ _ _ hx]; rfl
  have KEY := Lib.hid key
  have ROWS := Lib.hid rows
  clear key rows
  by_cases h4 : (wordsK 32 (min 4 (s.length + 1) - 1) s).length < 4
  · have hnone := words_few s h4
    have h4i : ((wordsK 32 (min 4 (s.length + 1) - 1) s).length : Int) < 4 := by omega
    obtain ⟨⟨c0, c1, c2, c3⟩, f0, f1, f2, f3⟩ := ROWS.out w1 (Below.refl _ _)
    clear hcells HS hb1 hsb
    generalize wordsK 32 (min 4 (s.length + 1) - 1) s = ws at *
    go_wp2
    exact bodyPost_ret (said_result (y := (0, 0, 0, 0)) (b := false) rfl rfl (KEY.out w1 (0, 0, 0, 0) (Below.refl _ _)).1) rfl ⟨(KEY.out w1 (0, 0, 0, 0) (Below.refl _ _)).2, (0, 0, 0, 0), false, rfl, .inr ⟨rfl, hnone⟩⟩
  · obtain ⟨a, b, c, d, hw, hp, la, lb, lc, ld⟩ := words_four s h4
    rw [hw] at hcells ⊢
    have hc : ∀ w', Below w1.heap.size w1 w' → w'.cell? ⟨sb, 0, none⟩ = some (strV a) ∧ w'.cell? ⟨sb, 1, none⟩ = some (strV b) ∧ w'.cell? ⟨sb, 2, none⟩ = some (strV c) ∧ w'.cell? ⟨sb, 3, none⟩ = some (strV d) := fun w' hb => by
      have k := fun j => hb.cell (p := ⟨sb, j, none⟩) hlt1
      exact ⟨(k 0).trans (hcells 0 (by simp)), (k 1).trans (hcells 1 (by simp)), (k 2).trans (hcells 2 (by simp)), (k 3).trans (hcells 3 (by simp))⟩
    have HCC := Lib.hid hc
    have HP := Lib.hid hp
    have HC1 := Lib.hid (HC.out.old HB1.out)
    have HN1 := Lib.hid (fun w h => st_number a (by omega) w h)
    have HN2 := Lib.hid (fun w h => st_named b w h)
    have HN3 := Lib.hid (fun w h => st_number c (by omega) w h)
    have HN4 := Lib.hid (fun w h => st_number d (by omega) w h)
    obtain ⟨x0, _, _, _⟩ := hc w1 (Below.refl _ _)
    clear hcells hc hp h4 hw la lb lc ld HS hb1 hsb HC
    have hlen : (List.length [a, b, c, d]) = 4 := rfl
    rw [hlen]
    clear hlen
    unfold strV at HN1 HN2 HN3 HN4 HCC x0
    go_wp2_with fail
    refine (HN1.out w1 HC1.out).mono ?_
    rintro e w2 ⟨hb2, n1, p1, rfl, h1⟩
    obtain ⟨_, x1, _, _⟩ := HCC.out w2 hb2
    have HB2 := Lib.hid hb2
    have H1 := Lib.hid h1
    clear hb2 h1 x0 HN1
    go_wp2_with fail
    refine (HN2.out w2 (HC1.out.old HB2.out).sp).mono ?_
    rintro e w3 ⟨rfl, n2, p2, rfl, h2⟩
    obtain ⟨_, _, x2, _⟩ := HCC.out w2 HB2.out
    have H2 := Lib.hid h2
    clear h2 x1 HN2
    go_wp2_with fail
    refine (HN3.out w2 (HC1.out.old HB2.out)).mono ?_
    rintro e w3 ⟨hb3, n3, p3, rfl, h3⟩
    have HB3 := Lib.hid (HB2.out.trans (hb3.mono HB2.out.size))
    obtain ⟨_, _, _, x3⟩ := HCC.out w3 HB3.out
    have H3 := Lib.hid h3
    clear hb3 h3 x2 HN3
    go_wp2_with fail
    refine (HN4.out w3 (HC1.out.old HB3.out)).mono ?_
    rintro e w4 ⟨hb4, n4, p4, rfl, h4⟩
    have HB4 := Lib.hid (HB3.out.trans (hb4.mono HB3.out.size))
    have H4 := Lib.hid h4
    obtain ⟨⟨c0, c1, c2, c3⟩, f0, f1, f2, f3⟩ := ROWS.out w4 HB4.out
    clear hb4 h4 x3 HN4
    have fin : ∀ q : Bool, ((p1 && p2 && p3 && p4) = q) → ((q = true ∧ parseE s = some (n1, n2, n3, n4)) ∨ (q = false ∧ parseE s = none)) := by
      intro q hq
      rcases H1.out with ⟨rfl, g1⟩ | ⟨rfl, g1⟩
      · rcases H2.out with ⟨rfl, g2⟩ | ⟨rfl, g2⟩
        · rcases H3.out with ⟨rfl, g3⟩ | ⟨rfl, g3⟩
          · rcases H4.out with ⟨rfl, g4⟩ | ⟨rfl, g4⟩
            · exact .inl ⟨hq.symm, by rw [HP.out]; exact wordE_all g1 g2 g3 g4⟩
            · exact .inr ⟨hq.symm, by rw [HP.out]; exact wordE_no (.inr (.inr (.inr g4)))⟩
          · exact .inr ⟨by rw [← hq]; simp, by rw [HP.out]; exact wordE_no (.inr (.inr (.inl g3)))⟩
        · exact .inr ⟨by rw [← hq]; simp, by rw [HP.out]; exact wordE_no (.inr (.inl g2))⟩
      · exact .inr ⟨by rw [← hq]; simp, by rw [HP.out]; exact wordE_no (.inl g1)⟩
    have FIN := Lib.hid fin
    clear fin H1 H2 H3 H4
    cases p1 <;> cases p2 <;> cases p3 <;> cases p4 <;>
    · go_wp2
      exact bodyPost_ret (said_result (y := (n1, n2, n3, n4)) rfl rfl (KEY.out w4 (n1, n2, n3, n4) HB4.out).1) rfl ⟨(KEY.out w4 (n1, n2, n3, n4) HB4.out).2, (n1, n2, n3, n4), _, rfl, FIN.out _ rfl⟩

end Go.Proofs.YtdpknbcmjpnfgaaDoor
