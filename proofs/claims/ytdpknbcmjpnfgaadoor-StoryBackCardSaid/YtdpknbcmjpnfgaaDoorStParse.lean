/-
  story: named, parseLine, Parse: what was said by a text.
-/
import Derived.Test.YtdpknbcmjpnfgaaDoorStPrint
import Derived.Shelf.Strings.SplitCore
namespace Go.Proofs.YtdpknbcmjpnfgaaDoor
set_option maxRecDepth 100000
open Go.RowKit Go.Sort
set_option linter.unusedVariables false
set_option linter.unusedSimpArgs false

abbrev sayN (k : Int) : Value := .string ⟨(sayW k).toArray⟩
theorem index_say : ∀ (i : Nat), i < 3 → ∀ w : World, (Instr.index 98 (.agg #[.string ⟨(sayW 1).toArray⟩, .string ⟨(sayW 2).toArray⟩, .string ⟨(sayW 3).toArray⟩]) (.int .i64 (i : Int))).run Tryd.prog w = .ok (.string ⟨(sayW ((i : Int) + 1)).toArray⟩) w
  | 0, _ => fun _ => by kernel_rfl
  | 1, _ => fun _ => by kernel_rfl
  | 2, _ => fun _ => by kernel_rfl
  | n + 3, h => absurd h (by omega)

/-- What a name is told to be. -/
def ToldSay (s : List UInt8) (w : World) (e : Ending) (w' : World) : Prop := w = w' ∧
  ∃ k b, e = .returned (.tuple #[.int .i64 k, .bool b]) ∧ ((b = true ∧ whatL s = some k) ∨ (b = false ∧ whatL s = none))

theorem whatL_none {s : List UInt8} (h : ∀ k : Nat, k < 3 → sayW ((k : Int) + 1) ≠ s) : whatL s = none := by
  have h0 := h 0 (by decide)
  have h1 := h 1 (by decide)
  have h2 := h 2 (by decide)
  unfold whatL
  rw [if_neg (fun e => h0 e.symm), if_neg (fun e => h1 e.symm), if_neg (fun e => h2 e.symm)]

set_option maxHeartbeats 1000000 in
theorem st_named (s : List UInt8) (w : World) (h : SP w) : Calls Tryd.prog 51 #[strV s] w (ToldSay s w) := by
  have HC := Lib.hid h
  clear h
  unfold strV
  go_enter Tryd.func51, Tryd.ntmps51
  have nm0 := HC.out.name 0 (by decide)
  have nm1 := HC.out.name 1 (by decide)
  have nm2 := HC.out.name 2 (by decide)
  unfold strV at nm0 nm1 nm2
  go_wp2
  clear nm0 nm1 nm2
  have HIX := Lib.hid index_say
  generalize hF : (#[.string ⟨(sayW 1).toArray⟩, .string ⟨(sayW 2).toArray⟩, .string ⟨(sayW 3).toArray⟩] : Array Value) = F at *
  go_loopw [7] (fun j wr => ∃ i : Nat, i ≤ 3 ∧ j = .int .i64 i ∧ (∀ k : Nat, k < i → sayW ((k : Int) + 1) ≠ s) ∧ w = wr) (fun j _ => 3 - (intOf j).toNat)
  case atStart => exact ⟨0, Nat.zero_le _, rfl, (fun k hk => absurd hk (Nat.not_lt_zero _)), rfl⟩
  case round =>
    obtain ⟨i, hi, rfl, hno, rfl⟩ := hrel
    by_cases hlt : i < 3
    · have hii : (i : Int) < 3 := by omega
      have hix := HIX.out i hlt
      by_cases he : sayW ((i : Int) + 1) = s
      · have hop : whatL s = some ((i : Int) + 1) := by rw [← he]; exact whatL_say (by omega) (by omega)
        have hw : wrap64 (1 + (i : Int)) = (i : Int) + 1 := by unfold wrap64; omega
        have HW := Lib.hid hw
        have hnb : ((⟨(sayW ((i : Int) + 1)).toArray⟩ : ByteArray).toList == (⟨s.toArray⟩ : ByteArray).toList) = true := by
          rw [he]
          exact beq_self_eq_true _
        generalize (⟨(sayW ((i : Int) + 1)).toArray⟩ : ByteArray) = S at *
        generalize (⟨s.toArray⟩ : ByteArray) = T at *
        have hw2 := HW.out
        go_wp2
        go_ret2
        exact ⟨rfl, (i : Int) + 1, true, (by rw [Int.add_comm (i : Int) 1]; rfl), .inl ⟨rfl, hop⟩⟩
      · have hnb : ((⟨(sayW ((i : Int) + 1)).toArray⟩ : ByteArray).toList == (⟨s.toArray⟩ : ByteArray).toList) = false := by
          rw [Lib.toList_data, Lib.toList_data]
          simpa using he
        generalize (⟨(sayW ((i : Int) + 1)).toArray⟩ : ByteArray) = S at *
        generalize (⟨s.toArray⟩ : ByteArray) = T at *
        go_wp2
        go_roundw
        case rel => exact ⟨i + 1, by omega, by go_num, fun k hk => by
          rcases Nat.lt_or_ge k i with h | h
          · exact hno k h
          · obtain rfl : k = i := by omega
            exact he, trivial⟩
        case measure => simp [intOf]; omega
    · obtain rfl : i = 3 := by omega
      have hnone := whatL_none hno
      go_wp2
      go_ret2
      exact ⟨rfl, 0, false, rfl, .inr ⟨rfl, hnone⟩⟩

theorem st_index (x : ByteArray) (w : World) : Calls Tryd.prog 42 #[.string x, .string ⟨#[32]⟩] w fun e w' => e = .returned (.int .i64 (Lib.indexB x ⟨#[32]⟩)) ∧ w' = w := by
  have h := Tryd.strings_Index_one x 32 w
  have e : Lib.indexByte x.data.toList 32 = Lib.indexB x ⟨#[32]⟩ := by
    show _ = Lib.index x.data.toList [32]
    rw [index_cut]
    rcases cutL_cases 32 x.data.toList with ⟨hn, e⟩ | ⟨a, b, hx, hn, e⟩
    · rw [e, indexByte_no hn]; rfl
    · rw [e, hx, indexByte_at hn]; rfl
  rwa [e] at h
theorem st_count (x : ByteArray) (w : World) : Calls Tryd.prog 26 #[.string x, .string ⟨#[32]⟩] w fun e w' => e = .returned (.int .i64 (Lib.countB x ⟨#[32]⟩)) ∧ w' = w := by
  have h := Tryd.strings_Count_one x 32 w
  have e : (Lib.countByte x.data.toList 32 : Int) = Lib.countB x ⟨#[32]⟩ := by
    show _ = ((Lib.count x.data.toList [32] : Nat) : Int)
    rw [Lib.count_one]
    rfl
  rwa [e] at h
theorem st_gen (s : ByteArray) (w : World) (hs : s.size < 4294967281) : Calls Tryd.prog 57 #[.string s, .string ⟨#[32]⟩, .int .i64 0, .int .i64 4] w fun e w' =>
    e = .returned (.slice (some ⟨w.heap.size, 0, none⟩) (Lib.splitB ⟨#[32]⟩ 0 (min 4 (s.size + 1) - 1) s).length (min 4 (s.size + 1))) ∧ w' = w.alloc (.cells (Lib.cellsOf (Lib.splitB ⟨#[32]⟩ 0 (min 4 (s.size + 1) - 1) s) (min 4 (s.size + 1))) 9) :=
  Any.strings_genSplit_core Tryd.lays221 (by kernel_rfl) s ⟨#[32]⟩ 0 4 (min 4 (s.size + 1)) w hs (by decide) (Nat.zero_le _) (fun x c _ => st_index x _) (st_count s w) (by decide) (by decide) (by rw [if_neg (by decide)]; omega)
set_option maxHeartbeats 1000000 in
theorem st_splitN (s : ByteArray) (w : World) (hs : s.size < 4294967281) : Calls Tryd.prog 49 #[.string s, .string ⟨#[32]⟩, .int .i64 4] w fun e w' =>
    e = .returned (.slice (some ⟨w.heap.size, 0, none⟩) (Lib.splitB ⟨#[32]⟩ 0 (min 4 (s.size + 1) - 1) s).length (min 4 (s.size + 1))) ∧ w' = w.alloc (.cells (Lib.cellsOf (Lib.splitB ⟨#[32]⟩ 0 (min 4 (s.size + 1) - 1) s) (min 4 (s.size + 1))) 9) := by
  have HG := Lib.hid (st_gen s w hs)
  go_enter Tryd.func49, Tryd.ntmps49
  go_wp2_with fail
  refine HG.out.mono ?_
  rintro e w' ⟨rfl, rfl⟩
  go_wp2
  go_ret
  exact ⟨rfl, rfl⟩

/-- What strings.SplitN leaves: the words' block. -/
theorem st_split (s : List UInt8) (hs : s.length ≤ 4294967280) (w : World) (h : SR w) : Calls Tryd.prog 49 #[strV s, .string ⟨#[32]⟩, .int .i64 4] w fun e w' =>
    ∃ N, e = .returned (.slice (some ⟨w.heap.size, 0, none⟩) (wordsK 32 (min 4 (s.length + 1) - 1) s).length N) ∧ Below w.heap.size w w' ∧ w.heap.size < w'.heap.size ∧
      ∀ i, i < (wordsK 32 (min 4 (s.length + 1) - 1) s).length → w'.cell? ⟨w.heap.size, i, none⟩ = some (strV ((wordsK 32 (min 4 (s.length + 1) - 1) s).getD i [])) := by
  have hz : (⟨s.toArray⟩ : ByteArray).size = s.length := by simp [ByteArray.size]
  have hd : (⟨s.toArray⟩ : ByteArray).data.toList = s := by simp
  have c := st_splitN ⟨s.toArray⟩ w (by omega)
  refine c.mono ?_
  rintro e w' ⟨rfl, rfl⟩
  rw [splitB_words, hd, hz, List.length_map]
  refine ⟨_, rfl, (Below.refl _ _).alloc (Nat.le_refl _) _, by simp, fun i hi => ?_⟩
  rw [cell_of_row _ w.heap.size i _ _ _ (heap_alloc_new w _)]
  unfold Lib.cellsOf
  rw [List.getElem?_toArray, List.getElem?_append_left (by simpa using hi), List.getElem?_map, List.getElem?_map, List.getD_eq_getElem?_getD, List.getElem?_eq_getElem hi]
  rfl

/-- With fewer words a line is no event, however few it may have. -/
theorem words_few (s : List UInt8) : (wordsK 32 (min 4 (s.length + 1) - 1) s).length < 4 → parseE s = none := by
  intro h
  unfold parseE
  by_cases h3 : 3 ≤ s.length
  · rw [show min 4 (s.length + 1) - 1 = 3 by omega] at h
    split
    · rename_i a b c d e
      rw [e] at h
      exact absurd h (by simp)
    · rfl
  · split
    · rename_i a b c d e
      have := congrArg List.length (wordsK_join 32 3 s a b c d e)
      simp only [List.length_append, List.length_cons] at this
      omega
    · rfl
theorem words_four (s : List UInt8) (h : ¬ (wordsK 32 (min 4 (s.length + 1) - 1) s).length < 4) : ∃ a b c d, wordsK 32 (min 4 (s.length + 1) - 1) s = [a, b, c, d] ∧ parseE s = wordE a b c d ∧ a.length ≤ s.length ∧ b.length ≤ s.length ∧ c.length ≤ s.length ∧ d.length ≤ s.length := by
  have hle := wordsK_le 32 (min 4 (s.length + 1) - 1) s
  have h3 : min 4 (s.length + 1) - 1 = 3 := by omega
  rw [h3] at h hle ⊢
  have hsz := wordsK_size 32 3 s
  unfold parseE
  generalize wordsK 32 3 s = l at *
  match l, h, hle, hsz with
  | [a, b, c, d], _, _, hsz => exact ⟨a, b, c, d, rfl, rfl, hsz a (by simp), hsz b (by simp), hsz c (by simp), hsz d (by simp)⟩
  | [], h, _, _ => exact absurd (by decide) h
  | [_], h, _, _ => exact absurd (by simp) h
  | [_, _], h, _, _ => exact absurd (by simp) h
  | [_, _, _], h, _, _ => exact absurd (by simp) h
  | _ :: _ :: _ :: _ :: _ :: _, _, hle, _ => simp at hle

/-- What a line is told to be. -/
def ToldSaid (s : List UInt8) (w : World) (e : Ending) (w' : World) : Prop := Below w.heap.size w w' ∧
  ∃ y b, e = .returned (.tuple #[evV y, .bool b]) ∧ ((b = true ∧ parseE s = some y) ∨ (b = false ∧ parseE s = none))
end Go.Proofs.YtdpknbcmjpnfgaaDoor
