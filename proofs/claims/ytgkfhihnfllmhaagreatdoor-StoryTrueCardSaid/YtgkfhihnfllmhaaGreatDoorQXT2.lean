/-
  story: named, parseLine, Parse: what was said by a text. story: parseLine. story: Parse. slices.Equal at events that are the same, for seats without a machine. The fact that the laws on story ask first; what two parts are.
-/
import Derived.Test.YtgkfhihnfllmhaaGreatDoorQXT
import Derived.Shelf.Strings.SplitCore
import Derived.Test.YtgkfhihnfllmhaaGreatDoorQXR
import Derived.Lib.AppendZeros
import Derived.Test.YtgkfhihnfllmhaaGreatDoorQXE2
import Derived.Test.YtgkfhihnfllmhaaGreatDoorQXI
namespace Go.Proofs.YtgkfhihnfllmhaaGreatDoor
set_option maxRecDepth 100000
open Go.RowKit Go.Sort
set_option linter.unusedVariables false
set_option linter.unusedSimpArgs false

theorem index_say : ∀ (i : Nat), i < 3 → ∀ w : World, (Instr.index 173 (.agg #[.string ⟨(sayW 1).toArray⟩, .string ⟨(sayW 2).toArray⟩, .string ⟨(sayW 3).toArray⟩]) (.int .i64 (i : Int))).run Tryz.prog w = .ok (.string ⟨(sayW ((i : Int) + 1)).toArray⟩) w
  | 0, _ => fun _ => by kernel_rfl
  | 1, _ => fun _ => by kernel_rfl
  | 2, _ => fun _ => by kernel_rfl
  | n + 3, h => absurd h (by omega)

/-- What a name is told to be. -/
def ToldSay (s : List UInt8) (w : World) (e : Ending) (w' : World) : Prop := w = w' ∧
  ∃ k b, e = .returned (.tuple #[.int .i64 k, .bool b]) ∧ ((b = true ∧ whatL s = some k) ∨ (b = false ∧ whatL s = none))

theorem whatL_none {s : List UInt8} (h : ∀ k : Nat, k < 3 → sayW ((k : Int) + 1) ≠ s) : whatL s = none := by
  have h0 := h 0 (by decide)
  have h1 := h 1 (by decide)
  have h2 := h 2 (by decide)
  unfold whatL
  rw [if_neg (fun e => h0 e.symm), if_neg (fun e => h1 e.symm), if_neg (fun e => h2 e.symm)]

set_option maxHeartbeats 1000000 in
theorem st_named (s : List UInt8) (w : World) (h : SP w) : Calls Tryz.prog 96 #[strV s] w (ToldSay s w) := by
  have HC := Lib.hid h
  clear h
  unfold strV
  go_enter Tryz.func96, Tryz.ntmps96
  have nm0 := HC.out.name 0 (by decide)
  have nm1 := HC.out.name 1 (by decide)
  have nm2 := HC.out.name 2 (by decide)
  unfold strV at nm0 nm1 nm2
  go_wp2
  clear nm0 nm1 nm2
  have HIX := Lib.hid index_say
  generalize hF : (#[.string ⟨(sayW 1).toArray⟩, .string ⟨(sayW 2).toArray⟩, .string ⟨(sayW 3).toArray⟩] : Array Value) = F at *
  go_loopw [7] (fun j wr => ∃ i : Nat, i ≤ 3 ∧ j = .int .i64 i ∧ (∀ k : Nat, k < i → sayW ((k : Int) + 1) ≠ s) ∧ w = wr) (fun j _ => 3 - (intOf j).toNat)
  case atStart => exact ⟨0, Nat.zero_le _, rfl, (fun k hk => absurd hk (Nat.not_lt_zero _)), rfl⟩
  case round =>
    obtain ⟨i, hi, rfl, hno, rfl⟩ := hrel
    by_cases hlt : i < 3
    · have hii : (i : Int) < 3 := by omega
      have hix := HIX.out i hlt
      by_cases he : sayW ((i : Int) + 1) = s
      · have hop : whatL s = some ((i : Int) + 1) := by rw [← he]; exact whatL_say (by omega) (by omega)
        have hw : wrap64 (1 + (i : Int)) = (i : Int) + 1 := by unfold wrap64; omega
        have HW := Lib.hid hw
        have hnb : ((⟨(sayW ((i : Int) + 1)).toArray⟩ : ByteArray).toList == (⟨s.toArray⟩ : ByteArray).toList) = true := by
          rw [he]
          exact beq_self_eq_true _
        generalize (⟨(sayW ((i : Int) + 1)).toArray⟩ : ByteArray) = S at *
        generalize (⟨s.toArray⟩ : ByteArray) = T at *
        have hw2 := HW.out
        go_wp2
        go_ret2
        exact ⟨rfl, (i : Int) + 1, true, (by rw [Int.add_comm (i : Int) 1]; rfl), .inl ⟨rfl, hop⟩⟩
      · have hnb : ((⟨(sayW ((i : Int) + 1)).toArray⟩ : ByteArray).toList == (⟨s.toArray⟩ : ByteArray).toList) = false := by
          rw [Lib.toList_data, Lib.toList_data]
          simpa using he
        generalize (⟨(sayW ((i : Int) + 1)).toArray⟩ : ByteArray) = S at *
        generalize (⟨s.toArray⟩ : ByteArray) = T at *
        go_wp2
        go_roundw
        case rel => exact ⟨i + 1, by omega, by go_num, fun k hk => by
          rcases Nat.lt_or_ge k i with h | h
          · exact hno k h
          · obtain rfl : k = i := by omega
            exact he, trivial⟩
        case measure => simp [intOf]; omega
    · obtain rfl : i = 3 := by omega
      have hnone := whatL_none hno
      go_wp2
      go_ret2
      exact ⟨rfl, 0, false, rfl, .inr ⟨rfl, hnone⟩⟩

theorem st_index (x : ByteArray) (w : World) : Calls Tryz.prog 174 #[.string x, .string ⟨#[32]⟩] w fun e w' => e = .returned (.int .i64 (Lib.indexB x ⟨#[32]⟩)) ∧ w' = w := by
  have h := Tryz.strings_Index_one x 32 w
  have e : Lib.indexByte x.data.toList 32 = Lib.indexB x ⟨#[32]⟩ := by
    show _ = Lib.index x.data.toList [32]
    rw [index_cut]
    rcases cutL_cases 32 x.data.toList with ⟨hn, e⟩ | ⟨a, b, hx, hn, e⟩
    · rw [e, indexByte_no hn]; rfl
    · rw [e, hx, indexByte_at hn]; rfl
  rwa [e] at h
theorem st_count (x : ByteArray) (w : World) : Calls Tryz.prog 173 #[.string x, .string ⟨#[32]⟩] w fun e w' => e = .returned (.int .i64 (Lib.countB x ⟨#[32]⟩)) ∧ w' = w := by
  have h := Tryz.strings_Count_one x 32 w
  have e : (Lib.countByte x.data.toList 32 : Int) = Lib.countB x ⟨#[32]⟩ := by
    show _ = ((Lib.count x.data.toList [32] : Nat) : Int)
    rw [Lib.count_one]
    rfl
  rwa [e] at h
theorem st_gen (s : ByteArray) (w : World) (hs : s.size < 4294967281) : Calls Tryz.prog 134 #[.string s, .string ⟨#[32]⟩, .int .i64 0, .int .i64 4] w fun e w' =>
    e = .returned (.slice (some ⟨w.heap.size, 0, none⟩) (Lib.splitB ⟨#[32]⟩ 0 (min 4 (s.size + 1) - 1) s).length (min 4 (s.size + 1))) ∧ w' = w.alloc (.cells (Lib.cellsOf (Lib.splitB ⟨#[32]⟩ 0 (min 4 (s.size + 1) - 1) s) (min 4 (s.size + 1))) 9) :=
  Any.strings_genSplit_core Tryz.lays221 (by kernel_rfl) s ⟨#[32]⟩ 0 4 (min 4 (s.size + 1)) w hs (by decide) (Nat.zero_le _) (fun x c _ => st_index x _) (st_count s w) (by decide) (by decide) (by rw [if_neg (by decide)]; omega)
set_option maxHeartbeats 1000000 in
theorem st_splitN (s : ByteArray) (w : World) (hs : s.size < 4294967281) : Calls Tryz.prog 94 #[.string s, .string ⟨#[32]⟩, .int .i64 4] w fun e w' =>
    e = .returned (.slice (some ⟨w.heap.size, 0, none⟩) (Lib.splitB ⟨#[32]⟩ 0 (min 4 (s.size + 1) - 1) s).length (min 4 (s.size + 1))) ∧ w' = w.alloc (.cells (Lib.cellsOf (Lib.splitB ⟨#[32]⟩ 0 (min 4 (s.size + 1) - 1) s) (min 4 (s.size + 1))) 9) := by
  have HG := Lib.hid (st_gen s w hs)
  go_enter Tryz.func94, Tryz.ntmps94
  go_wp2_with fail
  refine HG.out.mono ?_
  rintro e w' ⟨rfl, rfl⟩
  go_wp2
  go_ret
  exact ⟨rfl, rfl⟩

/-- What strings.SplitN leaves: the words' block. -/
theorem st_split (s : List UInt8) (hs : s.length ≤ 4294967280) (w : World) (h : SR w) : Calls Tryz.prog 94 #[strV s, .string ⟨#[32]⟩, .int .i64 4] w fun e w' =>
    ∃ N, e = .returned (.slice (some ⟨w.heap.size, 0, none⟩) (wordsK 32 (min 4 (s.length + 1) - 1) s).length N) ∧ Below w.heap.size w w' ∧ w.heap.size < w'.heap.size ∧
      ∀ i, i < (wordsK 32 (min 4 (s.length + 1) - 1) s).length → w'.cell? ⟨w.heap.size, i, none⟩ = some (strV ((wordsK 32 (min 4 (s.length + 1) - 1) s).getD i [])) := by
  have hz : (⟨s.toArray⟩ : ByteArray).size = s.length := by simp [ByteArray.size]
  have hd : (⟨s.toArray⟩ : ByteArray).data.toList = s := by simp
  have c := st_splitN ⟨s.toArray⟩ w (by omega)
  refine c.mono ?_
  rintro e w' ⟨rfl, rfl⟩
  rw [splitB_words, hd, hz, List.length_map]
  refine ⟨_, rfl, (Below.refl _ _).alloc (Nat.le_refl _) _, by simp, fun i hi => ?_⟩
  rw [cell_of_row _ w.heap.size i _ _ _ (heap_alloc_new w _)]
  unfold Lib.cellsOf
  rw [List.getElem?_toArray, List.getElem?_append_left (by simpa using hi), List.getElem?_map, List.getElem?_map, List.getD_eq_getElem?_getD, List.getElem?_eq_getElem hi]
  rfl

/-- With fewer words a line is no event, however few it may have. -/
theorem words_few (s : List UInt8) : (wordsK 32 (min 4 (s.length + 1) - 1) s).length < 4 → parseE s = none := by
  intro h
  unfold parseE
  by_cases h3 : 3 ≤ s.length
  · rw [show min 4 (s.length + 1) - 1 = 3 by omega] at h
    split
    · rename_i a b c d e
      rw [e] at h
      exact absurd h (by simp)
    · rfl
  · split
    · rename_i a b c d e
      have := congrArg List.length (wordsK_join 32 3 s a b c d e)
      simp only [List.length_append, List.length_cons] at this
      omega
    · rfl
theorem words_four (s : List UInt8) (h : ¬ (wordsK 32 (min 4 (s.length + 1) - 1) s).length < 4) : ∃ a b c d, wordsK 32 (min 4 (s.length + 1) - 1) s = [a, b, c, d] ∧ parseE s = wordE a b c d ∧ a.length ≤ s.length ∧ b.length ≤ s.length ∧ c.length ≤ s.length ∧ d.length ≤ s.length := by
  have hle := wordsK_le 32 (min 4 (s.length + 1) - 1) s
  have h3 : min 4 (s.length + 1) - 1 = 3 := by omega
  rw [h3] at h hle ⊢
  have hsz := wordsK_size 32 3 s
  unfold parseE
  generalize wordsK 32 3 s = l at *
  match l, h, hle, hsz with
  | [a, b, c, d], _, _, hsz => exact ⟨a, b, c, d, rfl, rfl, hsz a (by simp), hsz b (by simp), hsz c (by simp), hsz d (by simp)⟩
  | [], h, _, _ => exact absurd (by decide) h
  | [_], h, _, _ => exact absurd (by simp) h
  | [_, _], h, _, _ => exact absurd (by simp) h
  | [_, _, _], h, _, _ => exact absurd (by simp) h
  | _ :: _ :: _ :: _ :: _ :: _, _, hle, _ => simp at hle

/-- What a line is told to be. -/
def ToldSaid (s : List UInt8) (w : World) (e : Ending) (w' : World) : Prop := Below w.heap.size w w' ∧
  ∃ y b, e = .returned (.tuple #[evSV y, .bool b]) ∧ ((b = true ∧ parseE s = some y) ∨ (b = false ∧ parseE s = none))
end Go.Proofs.YtgkfhihnfllmhaaGreatDoor

namespace Go.Proofs.YtgkfhihnfllmhaaGreatDoor
set_option maxRecDepth 100000
open Go.RowKit Go.Sort
set_option linter.unusedVariables false
set_option linter.unusedSimpArgs false

theorem wordE_all {a b c d : List UInt8} {x k t v : Int} (h1 : numL a = some x) (h2 : whatL b = some k) (h3 : numL c = some t) (h4 : numL d = some v) : wordE a b c d = some (x, k, t, v) := by
  unfold wordE
  rw [h1, h2, h3, h4]
theorem wordE_no {a b c d : List UInt8} (h : numL a = none ∨ whatL b = none ∨ numL c = none ∨ numL d = none) : wordE a b c d = none := by
  unfold wordE
  rcases h with h | h | h | h
  · rw [h]
  · rw [h]; cases numL a <;> rfl
  · rw [h]; cases numL a <;> cases whatL b <;> rfl
  · rw [h]; cases numL a <;> cases whatL b <;> cases numL c <;> rfl

/-- A whole event, stored cell by cell. -/
def setE (w : World) (rb : Nat) (y : Ev4) : World :=
  (((w.setCell ⟨rb, 0, none⟩ (.int .i64 y.1)).setCell ⟨rb, 1, none⟩ (.int .i64 y.2.1)).setCell ⟨rb, 2, none⟩ (.int .i64 y.2.2.1)).setCell ⟨rb, 3, none⟩ (.int .i64 y.2.2.2)
theorem setE_row {w : World} {rb : Nat} (y : Ev4) (h : w.heap[rb]? = some (.cells #[.int .i64 0, .int .i64 0, .int .i64 0, .int .i64 0] 48 (0, 0))) :
    (setE w rb y).heap[rb]? = some (.cells #[.int .i64 y.1, .int .i64 y.2.1, .int .i64 y.2.2.1, .int .i64 y.2.2.2] 48 (0, 0)) :=
  heap_setCell_same _ rb 3 _ _ _ (heap_setCell_same _ rb 2 _ _ _ (heap_setCell_same _ rb 1 _ _ _ (heap_setCell_same _ rb 0 _ _ _ h)))
theorem setE_below {w0 w : World} {B rb : Nat} (y : Ev4) (h : Below B w0 w) (hB : B ≤ rb) : Below B w0 (setE w rb y) :=
  (((h.setCell (p := ⟨rb, 0, none⟩) hB _).setCell (p := ⟨rb, 1, none⟩) hB _).setCell (p := ⟨rb, 2, none⟩) hB _).setCell (p := ⟨rb, 3, none⟩) hB _
theorem said_result {tmps : Array Value} {w : World} {rb : Nat} {y : Ev4} {b : Bool} (h2 : tmps.getD 2 undef = .pointer (some ⟨rb, 0, none⟩)) (h3 : tmps.getD 3 undef = .bool b)
    (hr : w.heap[rb]? = some (.cells #[.int .i64 y.1, .int .i64 y.2.1, .int .i64 y.2.2.1, .int .i64 y.2.2.2] 48 (0, 0))) :
    (results Tryz.f66 tmps).run Tryz.prog w = .ok (.tuple #[evSV y, .bool b]) w := by
  have c0 : w.cell? ⟨rb, 0, none⟩ = some (.int .i64 y.1) := by rw [cell_of_row w rb 0 _ _ _ hr]; rfl
  have c1 : w.cell? ⟨rb, 1, none⟩ = some (.int .i64 y.2.1) := by rw [cell_of_row w rb 1 _ _ _ hr]; rfl
  have c2 : w.cell? ⟨rb, 2, none⟩ = some (.int .i64 y.2.2.1) := by rw [cell_of_row w rb 2 _ _ _ hr]; rfl
  have c3 : w.cell? ⟨rb, 3, none⟩ = some (.int .i64 y.2.2.2) := by rw [cell_of_row w rb 3 _ _ _ hr]; rfl
  simp only [Array.getD_eq_getD_getElem?] at h2 h3
  simp [results, Tryz.results66, go_sem, h2, h3, c0, c1, c2, c3, evSV]

set_option maxHeartbeats 4000000 in
theorem st_parseLine (s : List UInt8) (hs : s.length ≤ 4294967280) (w : World) (h : SR w) : Calls Tryz.prog 66 #[strV s] w (ToldSaid s w) := by
  have hba := (Below.refl w.heap.size w).alloc (Nat.le_refl _) (.cells #[.int .i64 0, .int .i64 0, .int .i64 0, .int .i64 0] 48)
  have hx0 := heap_alloc_new w (.cells #[.int .i64 0, .int .i64 0, .int .i64 0, .int .i64 0] 48)
  have hS0 := st_split s hs (w.alloc (.cells #[.int .i64 0, .int .i64 0, .int .i64 0, .int .i64 0] 48)) (h.old hba)
  obtain ⟨rb, hrb⟩ : ∃ rb, w.heap.size = rb := ⟨_, rfl⟩
  obtain ⟨w0, hw0⟩ : ∃ w0, w.alloc (.cells #[.int .i64 0, .int .i64 0, .int .i64 0, .int .i64 0] 48) = w0 := ⟨_, rfl⟩
  rw [hw0] at hba hS0 hx0
  rw [hrb] at hx0
  have hC0 := h.old hba
  have HS := Lib.hid hS0
  have HC := Lib.hid hC0
  have HBA := Lib.hid hba
  have HX0 := Lib.hid hx0
  have hlo : w.heap.size ≤ rb := by omega
  have HLO := Lib.hid hlo
  clear h hC0 hS0 hba hx0 hlo
  unfold strV at HS ⊢
  go_enter Tryz.func66, Tryz.ntmps66
  go_wp2_with fail
  refine HS.out.mono ?_
  rintro e w1 ⟨N, rfl, hb1, hlt1, hcells⟩
  clear hrb hw0
  have HB1 := Lib.hid hb1
  obtain ⟨sb, hsb⟩ : ∃ sb, w0.heap.size = sb := ⟨_, rfl⟩
  rw [hsb] at hcells hlt1 ⊢
  have key : ∀ (W : World) (y : Ev4), Below w1.heap.size w1 W → (setE W rb y).heap[rb]? = some (.cells #[.int .i64 y.1, .int .i64 y.2.1, .int .i64 y.2.2.1, .int .i64 y.2.2.2] 48 (0, 0)) ∧ Below w.heap.size w (setE W rb y) := by
    intro W y hb
    have hx : W.heap[rb]? = some (.cells #[.int .i64 0, .int .i64 0, .int .i64 0, .int .i64 0] 48 (0, 0)) := by
      have h1 := (HB1.out.block rb (lt_of_block HX0.out)).trans HX0.out
      exact (hb.block rb (lt_of_block h1)).trans h1
    have hall : Below w.heap.size w W := HBA.out.trans ((HB1.out.trans (hb.mono HB1.out.size)).mono HBA.out.size)
    exact ⟨setE_row y hx, setE_below y hall HLO.out⟩
  have rows : ∀ W, Below w1.heap.size w1 W → (W.cell? ⟨rb, 0, none⟩ = some (.int .i64 0) ∧ W.cell? ⟨rb, 1, none⟩ = some (.int .i64 0) ∧ W.cell? ⟨rb, 2, none⟩ = some (.int .i64 0) ∧ W.cell? ⟨rb, 3, none⟩ = some (.int .i64 0)) ∧ W.frozen? ⟨rb, 0, none⟩ = false ∧ W.frozen? ⟨rb, 1, none⟩ = false ∧ W.frozen? ⟨rb, 2, none⟩ = false ∧ W.frozen? ⟨rb, 3, none⟩ = false := by
    intro W hb
    have hx : W.heap[rb]? = some (.cells #[.int .i64 0, .int .i64 0, .int .i64 0, .int .i64 0] 48 (0, 0)) := by
      have h1 := (HB1.out.block rb (lt_of_block HX0.out)).trans HX0.out
      exact (hb.block rb (lt_of_block h1)).trans h1
    refine ⟨⟨?_, ?_, ?_, ?_⟩, frozen_of_row W rb 0 _ _ hx, frozen_of_row W rb 1 _ _ hx, frozen_of_row W rb 2 _ _ hx, frozen_of_row W rb 3 _ _ hx⟩
    · rw [cell_of_row W rb 0 _ _ _ hx]; rfl
    · rw [cell_of_row W rb 1 _ _ _ hx]; rfl
    · rw [cell_of_row W rb 2 _ _ _ hx]; rfl
    · rw [cell_of_row W rb 3 _ _ _ hx]; rfl
  have KEY := Lib.hid key
  have ROWS := Lib.hid rows
  clear key rows
  by_cases h4 : (wordsK 32 (min 4 (s.length + 1) - 1) s).length < 4
  · have hnone := words_few s h4
    have h4i : ((wordsK 32 (min 4 (s.length + 1) - 1) s).length : Int) < 4 := by omega
    obtain ⟨⟨c0, c1, c2, c3⟩, f0, f1, f2, f3⟩ := ROWS.out w1 (Below.refl _ _)
    clear hcells HS hb1 hsb
    generalize wordsK 32 (min 4 (s.length + 1) - 1) s = ws at *
    go_wp2
    exact bodyPost_ret (said_result (y := (0, 0, 0, 0)) (b := false) rfl rfl (KEY.out w1 (0, 0, 0, 0) (Below.refl _ _)).1) rfl ⟨(KEY.out w1 (0, 0, 0, 0) (Below.refl _ _)).2, (0, 0, 0, 0), false, rfl, .inr ⟨rfl, hnone⟩⟩
  · obtain ⟨a, b, c, d, hw, hp, la, lb, lc, ld⟩ := words_four s h4
    rw [hw] at hcells ⊢
    have hc : ∀ w', Below w1.heap.size w1 w' → w'.cell? ⟨sb, 0, none⟩ = some (strV a) ∧ w'.cell? ⟨sb, 1, none⟩ = some (strV b) ∧ w'.cell? ⟨sb, 2, none⟩ = some (strV c) ∧ w'.cell? ⟨sb, 3, none⟩ = some (strV d) := fun w' hb => by
      have k := fun j => hb.cell (p := ⟨sb, j, none⟩) hlt1
      exact ⟨(k 0).trans (hcells 0 (by simp)), (k 1).trans (hcells 1 (by simp)), (k 2).trans (hcells 2 (by simp)), (k 3).trans (hcells 3 (by simp))⟩
    have HCC := Lib.hid hc
    have HP := Lib.hid hp
    have HC1 := Lib.hid (HC.out.old HB1.out)
    have HN1 := Lib.hid (fun w h => st_number a (by omega) w h)
    have HN2 := Lib.hid (fun w h => st_named b w h)
    have HN3 := Lib.hid (fun w h => st_number c (by omega) w h)
    have HN4 := Lib.hid (fun w h => st_number d (by omega) w h)
    obtain ⟨x0, _, _, _⟩ := hc w1 (Below.refl _ _)
    clear hcells hc hp h4 hw la lb lc ld HS hb1 hsb HC
    have hlen : (List.length [a, b, c, d]) = 4 := rfl
    rw [hlen]
    clear hlen
    unfold strV at HN1 HN2 HN3 HN4 HCC x0
    go_wp2_with fail
    refine (HN1.out w1 HC1.out).mono ?_
    rintro e w2 ⟨hb2, n1, p1, rfl, h1⟩
    obtain ⟨_, x1, _, _⟩ := HCC.out w2 hb2
    have HB2 := Lib.hid hb2
    have H1 := Lib.hid h1
    clear hb2 h1 x0 HN1
    go_wp2_with fail
    refine (HN2.out w2 (HC1.out.old HB2.out).sp).mono ?_
    rintro e w3 ⟨rfl, n2, p2, rfl, h2⟩
    obtain ⟨_, _, x2, _⟩ := HCC.out w2 HB2.out
    have H2 := Lib.hid h2
    clear h2 x1 HN2
    go_wp2_with fail
    refine (HN3.out w2 (HC1.out.old HB2.out)).mono ?_
    rintro e w3 ⟨hb3, n3, p3, rfl, h3⟩
    have HB3 := Lib.hid (HB2.out.trans (hb3.mono HB2.out.size))
    obtain ⟨_, _, _, x3⟩ := HCC.out w3 HB3.out
    have H3 := Lib.hid h3
    clear hb3 h3 x2 HN3
    go_wp2_with fail
    refine (HN4.out w3 (HC1.out.old HB3.out)).mono ?_
    rintro e w4 ⟨hb4, n4, p4, rfl, h4⟩
    have HB4 := Lib.hid (HB3.out.trans (hb4.mono HB3.out.size))
    have H4 := Lib.hid h4
    obtain ⟨⟨c0, c1, c2, c3⟩, f0, f1, f2, f3⟩ := ROWS.out w4 HB4.out
    clear hb4 h4 x3 HN4
    have fin : ∀ q : Bool, ((p1 && p2 && p3 && p4) = q) → ((q = true ∧ parseE s = some (n1, n2, n3, n4)) ∨ (q = false ∧ parseE s = none)) := by
      intro q hq
      rcases H1.out with ⟨rfl, g1⟩ | ⟨rfl, g1⟩
      · rcases H2.out with ⟨rfl, g2⟩ | ⟨rfl, g2⟩
        · rcases H3.out with ⟨rfl, g3⟩ | ⟨rfl, g3⟩
          · rcases H4.out with ⟨rfl, g4⟩ | ⟨rfl, g4⟩
            · exact .inl ⟨hq.symm, by rw [HP.out]; exact wordE_all g1 g2 g3 g4⟩
            · exact .inr ⟨hq.symm, by rw [HP.out]; exact wordE_no (.inr (.inr (.inr g4)))⟩
          · exact .inr ⟨by rw [← hq]; simp, by rw [HP.out]; exact wordE_no (.inr (.inr (.inl g3)))⟩
        · exact .inr ⟨by rw [← hq]; simp, by rw [HP.out]; exact wordE_no (.inr (.inl g2))⟩
      · exact .inr ⟨by rw [← hq]; simp, by rw [HP.out]; exact wordE_no (.inl g1)⟩
    have FIN := Lib.hid fin
    clear fin H1 H2 H3 H4
    cases p1 <;> cases p2 <;> cases p3 <;> cases p4 <;>
    · go_wp2
      exact bodyPost_ret (said_result (y := (n1, n2, n3, n4)) rfl rfl (KEY.out w4 (n1, n2, n3, n4) HB4.out).1) rfl ⟨(KEY.out w4 (n1, n2, n3, n4) HB4.out).2, (n1, n2, n3, n4), _, rfl, FIN.out _ rfl⟩

end Go.Proofs.YtgkfhihnfllmhaaGreatDoor

namespace Go.Proofs.YtgkfhihnfllmhaaGreatDoor
set_option maxRecDepth 100000
open Go.RowKit Go.Sort
set_option linter.unusedVariables false
set_option linter.unusedSimpArgs false

/-- append, told by an equation, at a step of a region that draws its order. -/
theorem step_append_eq {w w' : World} {ops : Array Oper} {o : Oper} {a : Act} {K : Act → World → Prop} {Q : Exit → Act → World → Prop} {E : Prop} (hgd : o.guard = none) (s x : Operand) {T : TypeId}
    (ho : o.op = .call { callee := .builtin .append, args := #[s, x], argTypes := #[T, T] }) {v1 v2 v : Value} (hs : a.eval s = v1) (hx : a.eval x = v2)
    (hr : (Builtin.append_ #[T, T] o.type #[v1, v2]).run Tryz.prog w = .ok v w') (h : K (a.put o.dst v) w') :
    if Region.wanted o (yielded ops a.tmps) = true then Oper.wp Tryz.prog o a w K Q else E := by
  have hw : Region.wanted o (yielded ops a.tmps) = true := by simp [Region.wanted, hgd]
  rw [if_pos hw]
  exact Lib.wp_append_run w s x _ _ ho _ _ hs hx _ _ hr h
theorem new_two (w : World) (o o2 : Obj) : ((w.alloc o).alloc o2).heap[w.heap.size + 1]? = some o2 := by
  have := heap_alloc_new (w.alloc o) o2
  rwa [World.size_alloc] at this

/-- What a text is told to be: events, or an error at a line. -/
def ToldStories (S : List UInt8) (w : World) (e : Ending) (w' : World) : Prop := Below w.heap.size w w' ∧
  ((∃ A c, e = .returned (.tuple #[.slice A (storyP S).1.length c, .nilIface]) ∧ EvRow w' A (storyP S).1.length (storyP S).1 ∧ (storyP S).2 = true) ∨
   (∃ N, e = .returned (.tuple #[.slice none 0 0, .iface 138 (.pointer (some ⟨N, 0, none⟩))]) ∧ w.heap.size ≤ N ∧ w'.heap[N]? = some (.cells #[.int .i64 3, .int .i64 ((storyP S).1.length : Nat)] 140 (0, 0)) ∧ (storyP S).2 = false))

/-- One more event; what lies elsewhere stands. -/
theorem RowE.oneK {w wr : World} {A : Option Addr} {n c : Nat} {l : List Ev4} (h : RowE w A n c l wr) (x : Ev4) (hn : n ≤ 100000) {B : Nat} (hA : ∀ g, (Value.slice A n c).ownBlock = some g → g < B) :
    ∃ A' c' w', (Builtin.append_ #[34, 34] 34 #[.slice A n c, .slice (some ⟨wr.heap.size, 0, none⟩) 1 1]).run Tryz.prog (wr.alloc (.cells #[.int .i64 x.1, .int .i64 x.2.1, .int .i64 x.2.2.1, .int .i64 x.2.2.2] 48)) = .ok (.slice A' (n + 1) c') w' ∧ RowE w A' (n + 1) c' (l ++ [x]) w' ∧ ∀ b off v, B ≤ b → wr.cell? ⟨b, off, none⟩ = some v → w'.cell? ⟨b, off, none⟩ = some v := by
  obtain ⟨i0, hi, hz0, hz1, hz2⟩ := info_parts infoEv
  have hb := h.bel.alloc h.bel.size (.cells #[.int .i64 x.1, .int .i64 x.2.1, .int .i64 x.2.2.1, .int .i64 x.2.2.2] 48)
  have hat := heap_alloc_new wr (.cells #[.int .i64 x.1, .int .i64 x.2.1, .int .i64 x.2.2.1, .int .i64 x.2.2.2] 48)
  have hnews := World.news_of_block (cs := #[.int .i64 x.1, .int .i64 x.2.1, .int .i64 x.2.2.1, .int .i64 x.2.2.2]) hat
  obtain ⟨v', w', hr, ho, hg, _⟩ := run_append_own (P := Tryz.prog) (wr.alloc (.cells #[.int .i64 x.1, .int .i64 x.2.1, .int .i64 x.2.2.1, .int .i64 x.2.2.2] 48)) w.heap.size 34 34 48 i0 (.agg #[.int .i64 0, .int .i64 0, .int .i64 0, .int .i64 0]) 4 32 Tryz.underlying34 hi hz0 hz1 hz2 rfl (by decide) (.slice A n c) n _ (h.own.alloc _) ⟨wr.heap.size, 0, none⟩ 1 1 (evC x) rfl (by simpa [evC] using hnews) (by intro u hu; simp [evC] at hu; rcases hu with rfl | rfl | rfl | rfl <;> rfl) (by unfold maxLen; omega) (by omega) hb.size
  obtain ⟨A', c', rfl⟩ : ∃ A' c', v' = .slice A' (n + 1) c' := by
    rcases ho.2 with ⟨rfl, e⟩ | ⟨g, cap, cur, rfl, _⟩
    · exact ⟨none, 0, by rw [e]⟩
    · exact ⟨_, _, rfl⟩
  refine ⟨A', c', w', hr, ⟨by rw [List.length_append, h.len]; rfl, by rw [cellsE_append, cellsE_one]; exact ho, hb.grown hg hb.size (fun k hk => (h.own.lt k hk).1)⟩, fun b off v hB hv => ?_⟩
  have hlt : b < wr.heap.size := World.block_lt_of_cell? wr ⟨b, off, none⟩ hv
  have h1 : (wr.alloc (.cells #[.int .i64 x.1, .int .i64 x.2.1, .int .i64 x.2.2.1, .int .i64 x.2.2.2] 48)).cell? ⟨b, off, none⟩ = some v := by rw [World.cell?_alloc_old _ _ _ (Nat.ne_of_lt hlt)]; exact hv
  rw [← h1]
  exact World.cell?_of_block (a := ⟨b, off, none⟩) (hg.block b (by simp; omega) (fun e => by have := hA b e.symm; omega))

def stLen : Value → Nat
  | .string s => s.size
  | _ => 0

/-- What stands at each line's beginning. -/
structure StInv (w wr : World) (S : List UInt8) (l : List Ev4) (A : Option Addr) (c : Nat) (s : List UInt8) : Prop where
  row : RowE w A l.length c l wr
  read : Read S l s

set_option maxHeartbeats 4000000 in
theorem st_parse (S : List UInt8) (hS : S.length ≤ 90000) (w : World) (h : SR w) : Calls Tryz.prog 26 #[strV S] w (ToldStories S w) := by
  have HC := Lib.hid h
  have HI := Lib.hid (show StInv w w S [] none 0 S from ⟨RowE.nil w, Read.start S⟩)
  clear h
  unfold strV
  go_enter Tryz.func26, Tryz.ntmps26
  go_wp2
  go_loopw [0, 4, 5] (fun sv pv av wr => ∃ l A c s, StInv w wr S l A c s ∧ sv = .string ⟨s.toArray⟩ ∧ pv = .slice A l.length c ∧ av = .int .i64 (lastW 0 l)) (fun sv _ _ _ => stLen sv)
  case atStart => exact ⟨[], none, 0, S, HI.out, rfl, rfl, rfl⟩
  case round =>
    obtain ⟨l, A, c, s, hJ, rfl, rfl, rfl⟩ := hrel
    clear HI
    have hsz : (⟨s.toArray⟩ : ByteArray).size = s.length := by simp [ByteArray.size]
    have hfew := hJ.read.few
    by_cases hne : s = []
    · subst hne
      have hf := hJ.read.fin
      have HR := Lib.hid (show ToldStories S w (.returned (.tuple #[.slice A l.length c, .nilIface])) wr from by
        unfold ToldStories
        rw [hf]
        exact ⟨hJ.row.bel, .inl ⟨A, c, rfl, evRow_own hJ.row.own rfl, rfl⟩⟩)
      clear hJ hf
      go_wp2
      go_ret2
      exact HR.out
    · have hpos : (0 : Int) < ((⟨s.toArray⟩ : ByteArray).size : Int) := by
        have := List.length_pos_iff.2 hne
        rw [hsz]
        omega
      have hle : (cutL 10 s).1.length ≤ s.length ∧ (cutL 10 s).2.1.length ≤ s.length := by
        rcases cutL_cases 10 s with ⟨_, e⟩ | ⟨a, b, e, _, ec⟩
        · rw [e]; simp
        · rw [ec, e]; simp; omega
      have HC1 := Lib.hid (fun w => cut_any s 10 w (by omega))
      have hbad := hJ.read.bad hne
      have hnext := fun {e} => hJ.read.next (e := e) hne
      have hless := fun h => cut_less (s := s) h
      obtain ⟨line, hline⟩ : ∃ a, (cutL 10 s).1 = a := ⟨_, rfl⟩
      obtain ⟨rest, hrest⟩ : ∃ a, (cutL 10 s).2.1 = a := ⟨_, rfl⟩
      obtain ⟨ended, hended⟩ : ∃ a, (cutL 10 s).2.2 = a := ⟨_, rfl⟩
      rw [hline, hended] at hbad
      rw [hrest, hended] at hless
      rw [hline, hrest] at hle
      have hnx : ∀ e, parseE line = some e → ended = true → rightE (lastW 0 l) e → Read S (l ++ [e]) rest := fun e h1 h2 h3 => by
        rw [← hline] at h1
        rw [← hended] at h2
        rw [← hrest]
        exact hnext h1 h2 h3
      have HC2 := Lib.hid (fun w => (by have := HC1.out w; rw [hline, hrest, hended] at this; exact this : Calls Tryz.prog 65 #[strV s, .string ⟨#[10]⟩] w fun e w' => e = .returned (.tuple #[strV line, strV rest, .bool ended]) ∧ ∃ n, w' = w.drewN n))
      have HL := Lib.hid (fun w h => st_parseLine line (by omega) w h)
      have HBAD := Lib.hid hbad
      have HNX := Lib.hid hnx
      have HLESS := Lib.hid hless
      have HJ := Lib.hid hJ
      have hlen : l.length ≤ 90000 := by omega
      clear hJ hline hrest hended HC1 hbad hnext hnx hless hle hfew
      unfold strV at HC2 HL
      have HSZ := Lib.hid hsz
      generalize hSB : (⟨s.toArray⟩ : ByteArray) = SB at *
      generalize hAH : lastW 0 l = ah at *
      go_wp2_with fail
      refine (HC2.out _).mono ?_
      rintro e w3 ⟨rfl, q, rfl⟩
      have hb3 : Below wr.heap.size wr (wr.drewN q) := below_drewN (Below.refl _ _) q
      have HB3 := Lib.hid hb3
      clear hb3 HC2
      go_wp2_with fail
      refine (HL.out _ ((HC.out.old HJ.out.row.bel).old HB3.out)).mono ?_
      rintro e w4 ⟨hb4, y, b, rfl, hy⟩
      have hb34 := HB3.out.trans (hb4.mono HB3.out.size)
      have hold : Below w.heap.size w w4 := HJ.out.row.bel.trans (hb34.mono HJ.out.row.bel.size)
      have HAB := Lib.hid (show ∀ g, (Value.slice A l.length c).ownBlock = some g → g < wr.heap.size from fun g hg => (HJ.out.row.own.lt g hg).2)
      have HEBS := Lib.hid hb34.size
      have HO4 := Lib.hid (HJ.out.row.own.kept (grown_of_old hb34) (Classical.em _))
      have HOLD := Lib.hid hold
      have HY := Lib.hid hy
      have hs4 := hold.size
      clear hb4 hb34 hold hy HL HB3
      obtain ⟨y1, y2, y3, y4⟩ := y
      unfold evSV
      have HA2 := Lib.hid (fun o1 => HOLD.out.alloc HOLD.out.size o1)
      have herr : ∀ (W : World) (N : Nat), storyP S = (l, false) → Below w.heap.size w W → w.heap.size ≤ N → W.heap[N]? = some (.cells #[.int .i64 3, .int .i64 (l.length : Nat)] 140 (0, 0)) → ToldStories S w (.returned (.tuple #[.slice none 0 0, .iface 138 (.pointer (some ⟨N, 0, none⟩))])) W := fun W N hp hb hn hh => by
        unfold ToldStories
        rw [hp]
        exact ⟨hb, .inr ⟨_, rfl, hn, hh, rfl⟩⟩
      have HERR := Lib.hid herr
      clear herr
      have HROW := Lib.hid (show ∀ W, Below (w4.alloc (.cells #[.int .i64 y1, .int .i64 y2, .int .i64 y3, .int .i64 y4] 48)).heap.size (w4.alloc (.cells #[.int .i64 y1, .int .i64 y2, .int .i64 y3, .int .i64 y4] 48)) W → RowE w A l.length c l W from fun W hb => ⟨rfl, (HO4.out.alloc _).kept (grown_of_old hb) (Classical.em _), (HA2.out _).trans (hb.mono (HA2.out _).size)⟩)
      have HEB := Lib.hid (show ∀ W, Below (w4.alloc (.cells #[.int .i64 y1, .int .i64 y2, .int .i64 y3, .int .i64 y4] 48)).heap.size (w4.alloc (.cells #[.int .i64 y1, .int .i64 y2, .int .i64 y3, .int .i64 y4] 48)) W → W.cell? ⟨w4.heap.size, 0, none⟩ = some (.int .i64 y1) ∧ W.cell? ⟨w4.heap.size, 1, none⟩ = some (.int .i64 y2) ∧ W.cell? ⟨w4.heap.size, 2, none⟩ = some (.int .i64 y3) ∧ W.cell? ⟨w4.heap.size, 3, none⟩ = some (.int .i64 y4) from fun W hb => by
        have hx := (hb.block w4.heap.size (by simp)).trans (heap_alloc_new w4 _)
        exact ⟨by rw [cell_of_row W w4.heap.size 0 _ _ _ hx]; rfl, by rw [cell_of_row W w4.heap.size 1 _ _ _ hx]; rfl, by rw [cell_of_row W w4.heap.size 2 _ _ _ hx]; rfl, by rw [cell_of_row W w4.heap.size 3 _ _ _ hx]; rfl⟩)
      have HEBL := Lib.hid (show ∀ W, Below (w4.alloc (.cells #[.int .i64 y1, .int .i64 y2, .int .i64 y3, .int .i64 y4] 48)).heap.size (w4.alloc (.cells #[.int .i64 y1, .int .i64 y2, .int .i64 y3, .int .i64 y4] 48)) W → w4.heap.size + 1 ≤ W.heap.size from fun W hb => by have := hb.size; simpa using this)
      cases ended with
      | false =>
        have HP := Lib.hid (HBAD.out (.inr (.inl rfl)))
        clear HNX HLESS HBAD HY HO4 HROW HEB HEBL HAB HEBS
        go_wp2
        go_ret2
        exact HERR.out _ _ HP.out ((HA2.out _).alloc (HA2.out _).size _) (Nat.le_trans HOLD.out.size (by simp)) (new_two _ _ _)
      | true =>
      cases b with
      | false =>
        have HP := Lib.hid (HBAD.out (.inl (by
          rcases HY.out with ⟨h, _⟩ | ⟨_, h⟩
          · cases h
          · exact h)))
        clear HNX HLESS HBAD HY HO4 HROW HEB HEBL HAB HEBS
        go_wp2
        go_ret2
        exact HERR.out _ _ HP.out ((HA2.out _).alloc (HA2.out _).size _) (Nat.le_trans HOLD.out.size (by simp)) (new_two _ _ _)
      | true =>
      have hpy : parseE line = some (y1, y2, y3, y4) := by
        rcases HY.out with ⟨_, h⟩ | ⟨h, _⟩
        · exact h
        · cases h
      have HF := Lib.hid (fun w => follows_any (y1, y2, y3, y4) ah w)
      unfold evSV at HF
      dsimp only at HF
      by_cases hr : rightE ah (y1, y2, y3, y4)
      · rw [decide_eq_true hr] at HF
        have HN := Lib.hid (HNX.out _ hpy rfl hr)
        have HLS := Lib.hid (HLESS.out rfl)
        clear HNX HLESS HBAD HY hpy hr HERR
        go_wp2_with fail
        refine (HF.out _).mono ?_
        rintro e w5 ⟨rfl, hb5⟩
        have hb5d := hb5.drew
        have hrow := HROW.out w5.drew hb5d
        have hc4 := HEB.out w5.drew hb5d
        obtain ⟨A6, c6, w6, hr6, hrow6, hk6⟩ := hrow.oneK (y1, y2, y3, y4) (by omega) HAB.out
        obtain ⟨e0, e1, e2, e3⟩ := hc4
        have HS5 := Lib.hid (show w5.drew.cell? ⟨w4.heap.size, 0, none⟩ = some (.int .i64 y1) ∧ w5.drew.cell? ⟨w4.heap.size, 1, none⟩ = some (.int .i64 y2) ∧ w5.drew.cell? ⟨w4.heap.size, 2, none⟩ = some (.int .i64 y3) ∧ w5.drew.cell? ⟨w4.heap.size, 3, none⟩ = some (.int .i64 y4) from ⟨e0, e1, e2, e3⟩)
        have hb5s := HEBL.out w5.drew hb5d
        have hlt5 : w4.heap.size < w5.drew.heap.size := by omega
        have HSA := Lib.hid (show (w5.drew.alloc (.cells #[.int .i64 y1, .int .i64 y2, .int .i64 y3, .int .i64 y4] 48)).cell? ⟨w4.heap.size, 0, none⟩ = some (.int .i64 y1) ∧ (w5.drew.alloc (.cells #[.int .i64 y1, .int .i64 y2, .int .i64 y3, .int .i64 y4] 48)).cell? ⟨w4.heap.size, 1, none⟩ = some (.int .i64 y2) ∧ (w5.drew.alloc (.cells #[.int .i64 y1, .int .i64 y2, .int .i64 y3, .int .i64 y4] 48)).cell? ⟨w4.heap.size, 2, none⟩ = some (.int .i64 y3) ∧ (w5.drew.alloc (.cells #[.int .i64 y1, .int .i64 y2, .int .i64 y3, .int .i64 y4] 48)).cell? ⟨w4.heap.size, 3, none⟩ = some (.int .i64 y4) from ⟨(World.cell?_alloc_lt _ _ ⟨w4.heap.size, 0, none⟩ hlt5).trans e0, (World.cell?_alloc_lt _ _ ⟨w4.heap.size, 1, none⟩ hlt5).trans e1, (World.cell?_alloc_lt _ _ ⟨w4.heap.size, 2, none⟩ hlt5).trans e2, (World.cell?_alloc_lt _ _ ⟨w4.heap.size, 3, none⟩ hlt5).trans e3⟩)
        have HS6 := Lib.hid (show w6.cell? ⟨w4.heap.size, 0, none⟩ = some (.int .i64 y1) ∧ w6.cell? ⟨w4.heap.size, 1, none⟩ = some (.int .i64 y2) ∧ w6.cell? ⟨w4.heap.size, 2, none⟩ = some (.int .i64 y3) ∧ w6.cell? ⟨w4.heap.size, 3, none⟩ = some (.int .i64 y4) from ⟨hk6 _ _ _ HEBS.out e0, hk6 _ _ _ HEBS.out e1, hk6 _ _ _ HEBS.out e2, hk6 _ _ _ HEBS.out e3⟩)
        have HR := Lib.hid hr6
        have HN2 := Lib.hid (And.intro (show StInv w w6 S (l ++ [(y1, y2, y3, y4)]) A6 c6 rest from ⟨by rw [List.length_append]; exact hrow6, HN.out⟩) (lastW_snoc 0 l (y1, y2, y3, y4)))
        have hne5 : w4.heap.size ≠ w5.heap.size := by have h1 : w5.drew.heap.size = w5.heap.size := rfl; omega
        clear hb5 hb5d hrow hr6 hrow6 hk6 HROW HEB HAB HN HF HEBS HEBL e0 e1 e2 e3 hlt5 hb5s
        go_wp2
        --MA
        refine region_heldH (S := (fun u => u.cell? ⟨w4.heap.size, 0, none⟩ = some (.int .i64 y1) ∧ u.cell? ⟨w4.heap.size, 1, none⟩ = some (.int .i64 y2) ∧ u.cell? ⟨w4.heap.size, 2, none⟩ = some (.int .i64 y3) ∧ u.cell? ⟨w4.heap.size, 3, none⟩ = some (.int .i64 y4))) 10 rfl (by kernel_rfl) HS5.out (fun hHeld => ?_)
        refine heldH_take (n := 9) (i := 0) (oi := _) (v := ?v0) (dst := some 42) rfl rfl rfl (by kernel_rfl) (by kernel_rfl) (by kernel_rfl) (fun _ _ _ h => h) (Or.inl ⟨by rfl, ?hy0⟩) (by assumption) ?rest0
        case hy0 => intro u hSu; (try dsimp only at hSu); go_simp; try (with_reducible rfl)
        simp only [Act.put, List.setIfInBounds_toArray, List.set_cons_zero, List.set_cons_succ]
        refine heldH_take (n := 8) (i := 1) (oi := _) (v := ?v1) (dst := some 43) rfl rfl rfl (by kernel_rfl) (by kernel_rfl) (by kernel_rfl) (fun _ _ _ h => h) (Or.inl ⟨by rfl, ?hy1⟩) (by assumption) ?rest1
        case hy1 => intro u hSu; (try dsimp only at hSu); go_simp; try (with_reducible rfl)
        simp only [Act.put, List.setIfInBounds_toArray, List.set_cons_zero, List.set_cons_succ]
        refine heldH_take (n := 7) (i := 4) (oi := _) (v := ?v4) (dst := some 46) rfl rfl rfl (by kernel_rfl) (by kernel_rfl) (by kernel_rfl) (fun _ _ _ h => h) (Or.inl ⟨by rfl, ?hy4⟩) (by assumption) ?rest4
        case hy4 => intro u hSu; (try dsimp only at hSu); go_simp; try (with_reducible rfl)
        simp only [Act.put, List.setIfInBounds_toArray, List.set_cons_zero, List.set_cons_succ]
        refine heldH_take (n := 6) (i := 5) (oi := _) (v := ?v5) (dst := some 47) rfl rfl rfl (by kernel_rfl) (by kernel_rfl) (by kernel_rfl) (fun _ _ _ h => h) (Or.inl ⟨by rfl, ?hy5⟩) (by assumption) ?rest5
        case hy5 => intro u hSu; (try dsimp only at hSu); go_simp; try (with_reducible rfl)
        simp only [Act.put, List.setIfInBounds_toArray, List.set_cons_zero, List.set_cons_succ]
        refine heldH_take (n := 5) (i := 6) (oi := _) (v := ?v6) (dst := some 48) rfl rfl rfl (by kernel_rfl) (by kernel_rfl) (by kernel_rfl) (fun _ _ _ h => h) (Or.inl ⟨by rfl, ?hy6⟩) (by assumption) ?rest6
        case hy6 => intro u hSu; (try dsimp only at hSu); go_simp; try (with_reducible rfl)
        simp only [Act.put, List.setIfInBounds_toArray, List.set_cons_zero, List.set_cons_succ]
        refine heldH_step (n := 4) (i := 2) (o := _) rfl (by kernel_rfl) rfl (fun K hK => ?_)
        have HK2 := Lib.hid hK
        clear hK
        go_simp
        refine HK2.out _ _ HSA.out (fun hHeld => ?_)
        clear HK2 K
        refine heldH_step (n := 3) (i := 3) (o := _) rfl (by kernel_rfl) rfl (fun K hK => ?_)
        have HK2 := Lib.hid hK
        clear hK
        refine step_append_eq (by rfl) (.tmp 42) (.tmp 44) (by rfl) (by rfl) (by rfl) HR.out ?_
        refine HK2.out _ _ HS6.out (fun hHeld => ?_)
        clear HK2 K
        simp only [Act.put, List.setIfInBounds_toArray, List.set_cons_zero, List.set_cons_succ]
        refine heldH_step (n := 2) (i := 7) (o := _) rfl (by kernel_rfl) rfl (fun K hK => ?_)
        have HK2 := Lib.hid hK
        clear hK
        go_simp
        refine HK2.out _ _ HS6.out (fun hHeld => ?_)
        clear HK2 K
        refine heldH_step (n := 1) (i := 8) (o := _) rfl (by kernel_rfl) rfl (fun K hK => ?_)
        have HK2 := Lib.hid hK
        clear hK
        go_simp
        refine HK2.out _ _ HS6.out (fun hHeld => ?_)
        clear HK2 K
        refine heldH_step (n := 0) (i := 9) (o := _) rfl (by kernel_rfl) rfl (fun K hK => ?_)
        have HK2 := Lib.hid hK
        clear hK
        go_simp
        refine HK2.out _ _ HS6.out (fun hHeld => ?_)
        clear HK2 K
        refine wpAnyH_done (by kernel_rfl) ?_ _
        go_wp2
        go_roundw
        case rel => exact ⟨l ++ [(y1, y2, y3, y4)], A6, c6, rest, HN2.out.1, rfl, by simp, by rw [HN2.out.2]⟩
        case measure =>
          have h1 := HLS.out
          have h2 := HSZ.out
          have h3 : (⟨rest.toArray⟩ : ByteArray).size = rest.length := by simp [ByteArray.size]
          show (⟨rest.toArray⟩ : ByteArray).size < SB.size
          omega
      · rw [decide_eq_false hr] at HF
        have HP := Lib.hid (HBAD.out (.inr (.inr fun e he => by
          rw [hpy] at he
          injection he with he
          subst he
          exact hr)))
        clear HNX HLESS HBAD HY hpy hr
        go_wp2_with fail
        refine (HF.out _).mono ?_
        rintro e w5 ⟨rfl, hb5⟩
        have HB5 := Lib.hid ((HA2.out (.cells #[.int .i64 y1, .int .i64 y2, .int .i64 y3, .int .i64 y4] 48)).trans (hb5.mono (HA2.out _).size))
        clear hb5 HF
        go_wp2
        go_ret2
        exact HERR.out _ _ HP.out (HB5.out.alloc HB5.out.size _) HB5.out.size (heap_alloc_new _ _)
end Go.Proofs.YtgkfhihnfllmhaaGreatDoor

namespace Go.Proofs.YtgkfhihnfllmhaaGreatDoor
set_option maxRecDepth 100000
open Go.RowKit Go.Sort
set_option linter.unusedVariables false
set_option linter.unusedSimpArgs false
end Go.Proofs.YtgkfhihnfllmhaaGreatDoor

namespace Go.Proofs.YtgkfhihnfllmhaaGreatDoor
set_option maxRecDepth 100000
open Go.RowKit Go.Sort
set_option linter.unusedVariables false
set_option linter.unusedSimpArgs false

def storiedE : List Ev4 := [(3, 1, 1, 2), (9, 3, 0, -1)]
def storiedS : List UInt8 := [51, 32, 99, 97, 109, 101, 32, 49, 32, 50, 10, 57, 32, 116, 111, 108, 100, 32, 48, 32, 45, 49, 10]
theorem e_itoa_small (n : Nat) (h : n < 10) : Lib.itoa (n : Int) = [UInt8.ofNat (48 + n)] := by
  unfold Lib.itoa
  rw [if_neg (by omega), Int.toNat_natCast, Lib.decDigits, dif_pos h]
theorem e_itoa_neg (n : Nat) (h : n < 10) (h0 : 0 < n) : Lib.itoa (-(n : Int)) = [45, UInt8.ofNat (48 + n)] := by
  unfold Lib.itoa
  rw [if_pos (by omega), show (-(n : Int)).natAbs = n by omega, Lib.decDigits, dif_pos h]
theorem storied_text : storyL storiedE = storiedS := by
  have z : Lib.itoa 0 = [48] := e_itoa_small 0 (by decide)
  have o : Lib.itoa 1 = [49] := e_itoa_small 1 (by decide)
  have t : Lib.itoa 2 = [50] := e_itoa_small 2 (by decide)
  have h3 : Lib.itoa 3 = [51] := e_itoa_small 3 (by decide)
  have h9 : Lib.itoa 9 = [57] := e_itoa_small 9 (by decide)
  have m1 : Lib.itoa (-1) = [45, 49] := e_itoa_neg 1 (by decide) (by decide)
  have b0 : bodyE (3, 1, 1, 2) = [51, 32, 99, 97, 109, 101, 32, 49, 32, 50] := by
    unfold bodyE
    simp only [z, o, t, h3]
    rfl
  have b1 : bodyE (9, 3, 0, -1) = [57, 32, 116, 111, 108, 100, 32, 48, 32, 45, 49] := by
    unfold bodyE
    simp only [z, h9, m1]
    rfl
  unfold storiedE
  rw [storyL_cons, storyL_cons, b0, b1]
  rfl
theorem storied_right : rightS 0 storiedE := by
  unfold storiedE
  exact ⟨⟨by decide, by decide, by decide, by decide, by decide⟩, ⟨by decide, by decide, by decide, by decide, by decide⟩, trivial⟩
theorem storied_ints : ∀ e ∈ storiedE, intE e := by
  intro e he
  unfold storiedE at he
  simp only [List.mem_cons, List.not_mem_nil, or_false] at he
  rcases he with rfl | rfl
  · unfold intE isInt; decide
  · unfold intE isInt; decide

theorem storied_row (w : World) : EvRow (w.alloc (.cells #[.int .i64 3, .int .i64 1, .int .i64 1, .int .i64 2, .int .i64 9, .int .i64 3, .int .i64 0, .int .i64 (-1)] 48)) (some ⟨w.heap.size, 0, none⟩) 2 storiedE := by
  have h := World.ownsRow_lit (base := w.heap.size) (e := 48) (size := 4) w #[.int .i64 3, .int .i64 1, .int .i64 1, .int .i64 2, .int .i64 9, .int .i64 3, .int .i64 0, .int .i64 (-1)] 2 (Nat.le_refl _) (by decide) rfl
  exact evRow_own (c := 2) (l := storiedE) h rfl

set_option maxHeartbeats 1000000 in
theorem storied_true (w : World) (h : SR w) : Calls Tryz.prog 21 #[] w fun e w' => e = .returned (.bool true) ∧ Below w.heap.size w w' := by
  have hba := (Below.refl w.heap.size w).alloc (Nat.le_refl _) (.cells #[.int .i64 3, .int .i64 1, .int .i64 1, .int .i64 2, .int .i64 9, .int .i64 3, .int .i64 0, .int .i64 (-1)] 48)
  have HP := Lib.hid (st_print storiedE _ 2 2 _ (h.sp.old hba) (storied_row w) rfl storied_ints (by decide))
  have HR := Lib.hid (storied_row w)
  have HBA := Lib.hid hba
  have HC := Lib.hid (h.old hba)
  clear h hba
  unfold ToldStory at HP
  rw [storied_text] at HP
  unfold strV storiedS at HP
  go_enter Tryz.func21, Tryz.ntmps21
  go_wp2_with fail
  refine HP.out.mono ?_
  rintro e w1 ⟨hb1, ⟨rfl, _⟩ | ⟨rfl, hno⟩⟩
  · have HQ := Lib.hid (st_parse storiedS (by decide) w1 (HC.out.old hb1))
    have hw : storyP storiedS = (storiedE, true) := by rw [← storied_text]; exact storyP_whole storied_right storied_ints
    have HR1 := Lib.hid (HR.out.of hb1)
    have HB1 := Lib.hid (HBA.out.trans (hb1.mono HBA.out.size))
    unfold ToldStories at HQ
    rw [hw] at HQ
    unfold strV storiedS at HQ
    clear hb1 HP HR hw
    go_wp2_with fail
    refine HQ.out.mono ?_
    rintro e w2 ⟨hb2, ⟨A, c, rfl, hE, _⟩ | ⟨_, _, _, _, hno⟩⟩
    · have HE := Lib.hid (equalE_same (some ⟨w.heap.size, 0, none⟩) A 2 2 c storiedE w2 (by decide) (HR1.out.of hb2) hE)
      have HB2 := Lib.hid (HB1.out.trans (hb2.mono HB1.out.size))
      clear hb2 hE HQ HR1
      have hl : storiedE.length = 2 := rfl
      rw [hl]
      go_wp2_with fail
      refine HE.out.mono ?_
      rintro e w3 ⟨rfl, q, rfl⟩
      go_wp2
      go_ret
      exact ⟨rfl, below_drewN HB2.out q⟩
    · cases hno
  · exact absurd storied_right hno

theorem EvRow.head {w : World} {A : Option Addr} {n k : Nat} {l : List Ev4} (h : EvRow w A n l) (hk : k ≤ n) : EvRow w A k (l.take k) := fun i hi => by
  have e : (l.take k).getD i default = l.getD i default := by
    rw [List.getD_eq_getElem?_getD, List.getD_eq_getElem?_getD, List.getElem?_take, if_pos hi]
  rw [e]
  exact h i (by omega)
theorem EvRow.rest {w : World} {A : Option Addr} {n k : Nat} {l : List Ev4} (h : EvRow w A n l) (hk : k ≤ n) : EvRow w (A.map fun x => x.add (k * 4)) (n - k) (l.drop k) := fun i hi => by
  obtain ⟨b, off, rfl, c1, c2, c3, c4⟩ := h (k + i) (by omega)
  have e : (l.drop k).getD i default = l.getD (k + i) default := by
    rw [List.getD_eq_getElem?_getD, List.getD_eq_getElem?_getD, List.getElem?_drop]
  have ea : (some (⟨b, off, none⟩ : Addr)).map (fun x => x.add (k * 4)) = some ⟨b, off + k * 4, none⟩ := by rw [Option.map_some, Addr.add_lit]
  rw [e, ea]
  have eo : off + (k + i) * 4 = off + k * 4 + i * 4 := by rw [Nat.add_mul]; omega
  rw [eo] at c1 c2 c3 c4
  exact ⟨b, _, rfl, c1, c2, c3, c4⟩

end Go.Proofs.YtgkfhihnfllmhaaGreatDoor
