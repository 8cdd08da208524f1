/-
  slices.Equal at moves that are the same. The fact that the laws on script ask first.
-/
import Derived.Test.YtlikbmbcjipolaaDoorScD
import Derived.Test.YtlikbmbcjipolaaDoorScE
import Derived.Deep.QuietTactic
import Derived.Sort.Defs
namespace Go.Proofs.YtlikbmbcjipolaaDoor
set_option maxRecDepth 100000
open Go.RowKit Go.Sort
set_option linter.unusedVariables false
set_option linter.unusedSimpArgs false

set_option maxHeartbeats 1000000 in
theorem equalM_same (A C : Option Addr) (n c d : Nat) (l : List (Int × Bool)) (w : World) (hn : n ≤ 9223372036854775807) {B B' : Nat} (ha : Moves w B A n l) (hc : Moves w B' C n l) :
    Calls Tryd.prog 16 #[.slice A n c, .slice C n d] w fun e w' => e = .returned (.bool true) ∧ ∃ q, w' = w.drewN q := by
  have hne : ((n : Int) != (n : Int)) = false := by simp
  have HA := Lib.hid ha
  have HC := Lib.hid hc
  clear ha hc
  go_enter Tryd.func16, Tryd.ntmps16
  go_wp2
  go_loopw [5, 13] (fun i j wr => ∃ k : Nat, k ≤ n ∧ j = .int .i64 k ∧ ∃ q, wr = w.drewN q) (fun _ j _ => n - (intOf j).toNat)
  case atStart => exact ⟨0, Nat.zero_le _, rfl, 0, rfl⟩
  case round =>
    obtain ⟨k, hk, rfl, q, rfl⟩ := hrel
    by_cases hlt : k < n
    · obtain ⟨b, off, rfl, _, hx⟩ := HA.out.row (by omega)
      obtain ⟨b', off', rfl, _, hy⟩ := HC.out.row (by omega)
      obtain ⟨x1, x2⟩ := hx k hlt
      obtain ⟨y1, y2⟩ := hy k hlt
      have hkn : (k : Int) < (n : Int) := by omega
      clear HA HC hx hy
      generalize (l.getD k default).1 = z1 at *
      generalize (l.getD k default).2 = z2 at *
      have h1 : (z1 == z1) = true := by simp
      have h2 : (z2 == z2) = true := by simp
      go_wp2
      go_quiet (fail)
      go_wp2
      go_roundw
      case rel => exact ⟨k + 1, by omega, by go_num, q + nq, by simp⟩
      case measure => simp [intOf]; omega
    · have hkn : ¬ (k : Int) < (n : Int) := by omega
      go_wp2
      go_ret
      exact ⟨rfl, q, rfl⟩

def scriptedL : List (Int × Bool) := [(2, false), (1, true)]
theorem scripted_facts : kOf [1, 2, 3, 5, 225] = 2 ∧ nOf [1, 2, 3, 5, 225] = 3 ∧ rOf [1, 2, 3, 5, 225] = 3 ∧ mvsOf [1, 2, 3, 5, 225] = scriptedL := by decide
theorem scripted_bytes : bytesOf 2 3 3 scriptedL = [1, 2, 3, 2, 225] := by decide
theorem scripted_rightSc : rightSc 2 3 3 scriptedL := by
  refine ⟨by decide, by decide, by decide, by decide, by decide, by decide, fun v hv => ?_⟩
  unfold scriptedL at hv
  simp only [List.mem_cons, List.not_mem_nil, or_false] at hv
  rcases hv with rfl | rfl
  · exact ⟨by decide, by decide⟩
  · exact ⟨by decide, by decide⟩
theorem scripted_row (w : World) : Moves (w.alloc (.cells #[.int .i64 2, .bool false, .int .i64 1, .bool true] 40)) (w.alloc (.cells #[.int .i64 2, .bool false, .int .i64 1, .bool true] 40)).heap.size (some ⟨w.heap.size, 0, none⟩) 2 scriptedL := by
  have h := World.ownsRow_lit (base := w.heap.size) (e := 40) (size := 2) w #[.int .i64 2, .bool false, .int .i64 1, .bool true] 2 (Nat.le_refl _) (by decide) rfl
  exact moves_own (c := 2) (l := scriptedL) h rfl

set_option maxHeartbeats 2000000 in
theorem scripted_true (w : World) : Calls Tryd.prog 14 #[] w fun e w' => e = .returned (.bool true) ∧ Below w.heap.size w w' := by
  have HD := Lib.hid (scDecode_any [1, 2, 3, 5, 225] (by decide) w)
  obtain ⟨f1, f2, f3, f4⟩ := scripted_facts
  unfold ToldScript scriptV at HD
  rw [f1, f2, f3, f4] at HD
  unfold strV at HD
  clear f1 f2 f3 f4
  go_enter Tryd.func14, Tryd.ntmps14
  go_wp2_with fail
  refine HD.out.mono ?_
  rintro e w1 ⟨hb1, A, c, rfl, hM⟩
  have hl : scriptedL.length = 2 := rfl
  rw [hl] at hM ⊢
  have hb2 := (Below.refl w1.heap.size w1).alloc (Nat.le_refl _) (.cells #[.int .i64 2, .int .i64 3, .int .i64 3, .slice A 2 c] 24)
  have hx := heap_alloc_new w1 (.cells #[.int .i64 2, .int .i64 3, .int .i64 3, .slice A 2 c] 24)
  have hE := scEncode_any 2 3 3 scriptedL A 2 c (w1.alloc (.cells #[.int .i64 2, .int .i64 3, .int .i64 3, .slice A 2 c] 24)) (hM.old hb2) (by decide)
  obtain ⟨sb, hsb⟩ : ∃ sb, w1.heap.size = sb := ⟨_, rfl⟩
  obtain ⟨w2, hw2⟩ : ∃ w2, w1.alloc (.cells #[.int .i64 2, .int .i64 3, .int .i64 3, .slice A 2 c] 24) = w2 := ⟨_, rfl⟩
  have hM2 := hM.old hb2
  have hall := hb1.trans (hb2.mono hb1.size)
  rw [hw2] at hx hE hM2 hall
  rw [hsb] at hx
  have c0 : w2.cell? ⟨sb, 0, none⟩ = some (.int .i64 2) := by rw [cell_of_row w2 sb 0 _ _ _ hx]; rfl
  have c1 : w2.cell? ⟨sb, 1, none⟩ = some (.int .i64 3) := by rw [cell_of_row w2 sb 1 _ _ _ hx]; rfl
  have c2 : w2.cell? ⟨sb, 2, none⟩ = some (.int .i64 3) := by rw [cell_of_row w2 sb 2 _ _ _ hx]; rfl
  have c3 : w2.cell? ⟨sb, 3, none⟩ = some (.slice A 2 c) := by rw [cell_of_row w2 sb 3 _ _ _ hx]; rfl
  unfold ToldBytes scriptV at hE
  rw [scripted_bytes] at hE
  unfold strV at hE
  have HE := Lib.hid hE
  have HX := Lib.hid hx
  have HM := Lib.hid hM2
  have HB := Lib.hid hall
  clear hb1 hb2 hM hE hx hM2 hall HD hl
  go_wp2_with fail
  refine HE.out.mono ?_
  rintro e w3 ⟨hb3, ⟨rfl, _⟩ | ⟨rfl, hno⟩⟩
  · clear hw2 hsb c0 c1 c2 c3
    have hx3 := (hb3.block sb (lt_of_block HX.out)).trans HX.out
    have c0 : w3.cell? ⟨sb, 0, none⟩ = some (.int .i64 2) := by rw [cell_of_row w3 sb 0 _ _ _ hx3]; rfl
    have c1 : w3.cell? ⟨sb, 1, none⟩ = some (.int .i64 3) := by rw [cell_of_row w3 sb 1 _ _ _ hx3]; rfl
    have c2 : w3.cell? ⟨sb, 2, none⟩ = some (.int .i64 3) := by rw [cell_of_row w3 sb 2 _ _ _ hx3]; rfl
    have c3 : w3.cell? ⟨sb, 3, none⟩ = some (.slice A 2 c) := by rw [cell_of_row w3 sb 3 _ _ _ hx3]; rfl
    have hba := (Below.refl w3.heap.size w3).alloc (Nat.le_refl _) (.cells #[.int .i64 2, .bool false, .int .i64 1, .bool true] 40)
    have HQ := Lib.hid (show Calls Tryd.prog 16 #[.slice A 2 c, .slice (some ⟨w3.heap.size, 0, none⟩) 2 2] (w3.alloc (.cells #[.int .i64 2, .bool false, .int .i64 1, .bool true] 40)) _ from equalM_same A _ 2 c 2 scriptedL _ (by decide) ((HM.out.old hb3).old hba) (scripted_row w3))
    have HB3 := Lib.hid (HB.out.trans ((hb3.trans (hba.mono hb3.size)).mono HB.out.size))
    clear hb3 hx3 hba HE
    go_wp2_with fail
    refine HQ.out.mono ?_
    rintro e w4 ⟨rfl, q, rfl⟩
    go_wp2
    go_ret
    exact ⟨rfl, below_drewN HB3.out q⟩
  · exact absurd scripted_rightSc hno
end Go.Proofs.YtlikbmbcjipolaaDoor
