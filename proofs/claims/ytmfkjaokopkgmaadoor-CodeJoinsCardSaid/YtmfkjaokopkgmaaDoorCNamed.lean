/-
  named: the Op of a name.
-/
import Derived.Test.YtmfkjaokopkgmaaDoorCCut
import Derived.Deep.MidRow
namespace Go.Proofs.YtmfkjaokopkgmaaDoor
set_option maxRecDepth 100000
open Go.RowKit Go.Sort

def ToldOp (s : List UInt8) (w : World) (e : Ending) (w' : World) : Prop := Below w.heap.size w w' ∧
  ((∃ op : Nat, namedL s = some op ∧ e = .returned (.tuple #[.int .i64 op, .bool true])) ∨ (namedL s = none ∧ e = .returned (.tuple #[.int .i64 0, .bool false])))

/-- One form out of the table. -/
def formV (i : Nat) : Value := .agg #[strV (nameOf i), .int .i64 ((kindsOf i).getD 0 0 : Nat), .int .i64 ((kindsOf i).getD 1 0 : Nat), .int .i64 ((kindsOf i).getD 2 0 : Nat), .int .i64 ((kindsOf i).getD 3 0 : Nat)]

theorem index_form : ∀ (i : Nat), i < 17 → ∀ w : World, (Instr.index 70 (.agg formCells.toList.toArray) (.int .i64 (i : Int))).run Tryd.prog w = .ok (formV i) w
  | 0, _ => fun _ => by kernel_rfl
  | 1, _ => fun _ => by kernel_rfl
  | 2, _ => fun _ => by kernel_rfl
  | 3, _ => fun _ => by kernel_rfl
  | 4, _ => fun _ => by kernel_rfl
  | 5, _ => fun _ => by kernel_rfl
  | 6, _ => fun _ => by kernel_rfl
  | 7, _ => fun _ => by kernel_rfl
  | 8, _ => fun _ => by kernel_rfl
  | 9, _ => fun _ => by kernel_rfl
  | 10, _ => fun _ => by kernel_rfl
  | 11, _ => fun _ => by kernel_rfl
  | 12, _ => fun _ => by kernel_rfl
  | 13, _ => fun _ => by kernel_rfl
  | 14, _ => fun _ => by kernel_rfl
  | 15, _ => fun _ => by kernel_rfl
  | 16, _ => fun _ => by kernel_rfl
  | n + 17, h => absurd h (by omega)

set_option maxHeartbeats 1000000 in
theorem named_any (s : List UInt8) (w : World) (h : CW w) : Calls Tryd.prog 32 #[strV s] w (ToldOp s w) := by
  have HC := Lib.hid h
  clear h
  unfold strV
  go_enter Tryd.func32, Tryd.ntmps32
  go_wp2
  refine wp_load_mid 70 (.global 0) rfl 0 0 rfl formCells.toList _ ?hc Tryd.underlying70 rfl (by kernel_rfl) ?_
  case hc =>
    intro j v hv
    rw [World.var?_cell g_forms HC.out.forms]
    simpa using hv
  generalize hF : formCells.toList.toArray = F
  go_wp2
  go_loopw [7] (fun j wr => ∃ i : Nat, i ≤ 17 ∧ j = .int .i64 i ∧ (∀ k, k < i → nameOf k ≠ s) ∧ Below w.heap.size w wr) (fun j _ => 17 - (intOf j).toNat)
  case atStart => exact ⟨0, Nat.zero_le _, rfl, (fun k hk => absurd hk (Nat.not_lt_zero _)), Below.refl _ _⟩
  case round =>
    obtain ⟨i, hi, rfl, hno, hb⟩ := hrel
    by_cases hlt : i < 17
    · have hii : (i : Int) < 17 := by omega
      have hix := index_form i hlt
      rw [hF] at hix
      unfold formV strV at hix
      have hg := World.grownBy_alloc wr (.cells #[.string ⟨(nameOf i).toArray⟩, .int .i64 ((kindsOf i).getD 0 0 : Nat), .int .i64 ((kindsOf i).getD 1 0 : Nat), .int .i64 ((kindsOf i).getD 2 0 : Nat), .int .i64 ((kindsOf i).getD 3 0 : Nat)] 69) none
      have hb1 := hb.grown hg hb.size (by intro k hk; cases hk)
      by_cases he : nameOf i = s
      · have hop : namedL s = some i := by rw [← he]; exact namedL_name i hlt
        have hnb : ((⟨(nameOf i).toArray⟩ : ByteArray).toList == (⟨s.toArray⟩ : ByteArray).toList) = true := by
          rw [he]
          exact beq_self_eq_true _
        generalize (⟨(nameOf i).toArray⟩ : ByteArray) = S at *
        generalize (⟨s.toArray⟩ : ByteArray) = T at *
        go_wp2
        go_ret2
        exact ⟨hb1, .inl ⟨i, hop, rfl⟩⟩
      · have hnb : ((⟨(nameOf i).toArray⟩ : ByteArray).toList == (⟨s.toArray⟩ : ByteArray).toList) = false := by
          rw [Lib.toList_data, Lib.toList_data]
          simpa using he
        generalize (⟨(nameOf i).toArray⟩ : ByteArray) = S at *
        generalize (⟨s.toArray⟩ : ByteArray) = T at *
        go_wp2
        go_roundw
        case rel => exact ⟨i + 1, by omega, by go_num, fun k hk => by
          rcases Nat.lt_or_ge k i with h | h
          · exact hno k h
          · obtain rfl : k = i := by omega
            exact he, hb1⟩
        case measure => simp [intOf]; omega
    · obtain rfl : i = 17 := by omega
      have hnone : namedL s = none := by
        unfold namedL
        rw [List.find?_eq_none]
        intro k hk
        simpa using hno k (List.mem_range.1 hk)
      go_wp2
      go_ret2
      exact ⟨hb, .inr ⟨hnone, rfl⟩⟩
end Go.Proofs.YtmfkjaokopkgmaaDoor
