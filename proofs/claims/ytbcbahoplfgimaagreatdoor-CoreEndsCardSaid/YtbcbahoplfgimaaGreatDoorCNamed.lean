/-
  strings.Cut at a text of one byte; what a word is as a number. named: the Op of a name.
-/
import Derived.Test.YtbcbahoplfgimaaGreatDoorCWorld
import Derived.Lib.CutLaws
import Derived.BigRegion
import Derived.Deep.MidRow
namespace Go.Proofs.YtbcbahoplfgimaaGreatDoor
set_option maxRecDepth 100000
open Go.RowKit Go.Sort

/-- A text of bytes. -/
def strV (l : List UInt8) : Value := .string ⟨l.toArray⟩

theorem indexByte_no {c : UInt8} : ∀ {s : List UInt8}, c ∉ s → Lib.indexByte s c = -1
  | [], _ => rfl
  | b :: l, h => by
    have hb : (b == c) = false := by simpa using fun e => h (by simp [e])
    have hl : c ∉ l := fun e => h (by simp [e])
    rw [Lib.indexByte, hb, indexByte_no hl]
    rfl

theorem indexByte_at {c : UInt8} : ∀ {a b : List UInt8}, c ∉ a → Lib.indexByte (a ++ c :: b) c = (a.length : Int)
  | [], b, _ => by simp [Lib.indexByte]
  | x :: a, b, h => by
    have hx : (x == c) = false := by simpa using fun e => h (by simp [e])
    have ha : c ∉ a := fun e => h (by simp [e])
    rw [List.cons_append, Lib.indexByte, hx, indexByte_at ha]
    have : ((a.length : Int) == -1) = false := by simp
    simp [this]

set_option maxHeartbeats 1000000 in
theorem scut_any (s : List UInt8) (c : UInt8) (w : World) (hs : s.length ≤ 4294967280) :
    Calls Tryz.prog 66 #[strV s, .string ⟨#[c]⟩] w fun e w' => e = .returned (.tuple #[strV (cutL c s).1, strV (cutL c s).2.1, .bool (cutL c s).2.2]) ∧ ∃ n, w' = w.drewN n := by
  unfold strV
  have hI := Tryz.stringslite_Index_one ⟨s.toArray⟩ c w
  rcases cutL_cases c s with ⟨hn, e⟩ | ⟨a, b, rfl, hn, e⟩
  · rw [e]
    rw [show Lib.indexByte (⟨s.toArray⟩ : ByteArray).data.toList c = -1 by simpa using indexByte_no hn] at hI
    have HI := Lib.hid hI
    clear hI
    go_enter Tryz.func66, Tryz.ntmps66
    go_wp2_with fail
    refine HI.out.mono ?_
    rintro e w' ⟨rfl, rfl⟩
    go_wp2
    go_ret3
    exact ⟨rfl, 0, rfl⟩
  · rw [e]
    rw [show Lib.indexByte (⟨(a ++ c :: b).toArray⟩ : ByteArray).data.toList c = (a.length : Int) by simpa using indexByte_at hn] at hI
    have HI := Lib.hid hI
    have hsz : (⟨(a ++ c :: b).toArray⟩ : ByteArray).size = a.length + (b.length + 1) := by simp [ByteArray.size]
    have x1 : (⟨(a ++ c :: b).toArray⟩ : ByteArray).extract 0 a.length = ⟨a.toArray⟩ := by
      rw [Lib.extract_eq]
      simp
    have x2 : (⟨(a ++ c :: b).toArray⟩ : ByteArray).extract (a.length + 1) (⟨(a ++ c :: b).toArray⟩ : ByteArray).size = ⟨b.toArray⟩ := by
      rw [Lib.extract_eq, hsz]
      simp
      exact List.take_of_length_le (by omega)
    rw [hsz] at x2
    have c1 : (0 : Int) ≤ (a.length : Int) := by omega
    have c2 : (a.length : Int) ≤ ((⟨(a ++ c :: b).toArray⟩ : ByteArray).size : Int) := by rw [hsz]; omega
    have c3 : (0 : Int) ≤ (a.length : Int) + 1 := by omega
    have c4 : (a.length : Int) + 1 ≤ ((⟨(a ++ c :: b).toArray⟩ : ByteArray).size : Int) := by rw [hsz]; omega
    have hw : wrap64 ((a.length : Int) + 1) = (a.length : Int) + 1 := by
      have : (a ++ c :: b).length = a.length + (b.length + 1) := by simp
      unfold wrap64
      omega
    generalize (⟨(a ++ c :: b).toArray⟩ : ByteArray) = S at *
    clear hI
    go_enter Tryz.func66, Tryz.ntmps66
    go_wp2_with fail
    refine HI.out.mono ?_
    rintro e w' ⟨rfl, rfl⟩
    go_wp2
    go_region
    all_goals
      go_wp2
      go_ret3
      exact ⟨rfl, 1, rfl⟩

theorem cut_any (s : List UInt8) (c : UInt8) (w : World) (hs : s.length ≤ 4294967280) :
    Calls Tryz.prog 50 #[strV s, .string ⟨#[c]⟩] w fun e w' => e = .returned (.tuple #[strV (cutL c s).1, strV (cutL c s).2.1, .bool (cutL c s).2.2]) ∧ ∃ n, w' = w.drewN n := by
  have HI := Lib.hid (scut_any s c w hs)
  unfold strV at HI ⊢
  go_enter Tryz.func50, Tryz.ntmps50
  go_wp2_with fail
  refine HI.out.mono ?_
  rintro e w' ⟨rfl, n, rfl⟩
  go_wp2
  go_ret3
  exact ⟨rfl, n, rfl⟩

theorem old_bytes {w w' : World} (h : w' = w ∨ ∃ t, w' = Lib.bytesWorld w 5 t) : Below w.heap.size w w' := by
  rcases h with rfl | ⟨t, rfl⟩
  · exact Below.refl _ _
  · exact Lib.below_freeze ((Below.refl w.heap.size w).drew.alloc (Nat.le_refl _) _) (p := ⟨w.heap.size, _, none⟩) (Nat.le_refl _) _

theorem old_grow {w w' : World} (h : ∃ k os, w' = grow (w.drewN k) os) : Below w.heap.size w w' := by
  obtain ⟨k, os, rfl⟩ := h
  exact below_drewN (Below.refl _ _) k |>.trans ⟨rfl, rfl, rfl, by simp [grow], fun i hi => by
    show ((w.drewN k).heap ++ os)[i]? = _
    rw [Array.getElem?_append_left (by simpa using hi)]⟩

theorem itoa_any (n : Int) (hn : isInt n) (w : World) (h : CW w) : Calls Tryz.prog 85 #[.int .i64 n] w fun e w' => e = .returned (strV (Lib.itoa n)) ∧ Below w.heap.size w w' :=
  (Tryz.strconv_Itoa n hn.1 hn.2 w h.pow).mono fun _ _ ⟨he, hg⟩ => ⟨he, old_grow hg⟩

/-- What Atoi tells: a number and no error, or an error. -/
def ToldNum (s : List UInt8) (w : World) (e : Ending) (w' : World) : Prop := Below w.heap.size w w' ∧
  ((∃ n, Lib.atoiAll s = .ok n ∧ e = .returned (.tuple #[.int .i64 n, .nilIface])) ∨ ((∀ n, Lib.atoiAll s ≠ .ok n) ∧ ∃ n N, e = .returned (.tuple #[.int .i64 n, .iface 181 (.pointer (some ⟨N, 0, none⟩))])))

theorem atoi_any (s : List UInt8) (hs : s.length ≤ 4294967280) (w : World) (h : CW w) : Calls Tryz.prog 84 #[strV s] w (ToldNum s w) := by
  have hd : (⟨s.toArray⟩ : ByteArray).data.toList = s := by simp
  have hz : (⟨s.toArray⟩ : ByteArray).size = s.length := by simp [ByteArray.size]
  obtain ⟨t1, p1, hes⟩ := h.es
  obtain ⟨t2, p2, her⟩ := h.er
  rcases hr : Lib.atoiAll s with v | _ | _
  · exact (Tryz.strconv_Atoi_ok ⟨s.toArray⟩ (by omega) v (by rw [hd]; exact hr) w).mono fun _ _ ⟨he, hw⟩ => ⟨old_bytes hw, .inl ⟨v, hr, he⟩⟩
  · exact (Tryz.strconv_Atoi_syntax ⟨s.toArray⟩ (by omega) (by rw [hd, hr]; intro v hv; cases hv) (by rw [hd, hr]; intro hv; cases hv) _ w hes (.inr ⟨_, _, rfl⟩)).mono fun _ _ ⟨N, he, _, _, hb⟩ => ⟨hb, .inr ⟨(fun n hn => by rw [hr] at hn; cases hn), _, N, he⟩⟩
  · exact (Tryz.strconv_Atoi_range ⟨s.toArray⟩ (by omega) (by rw [hd]; exact hr) _ w her (.inr ⟨_, _, rfl⟩)).mono fun _ _ ⟨N, he, _, _, hb⟩ => ⟨hb, .inr ⟨(fun n hn => by rw [hr] at hn; cases hn), _, N, he⟩⟩

/-- What a word is told to be. -/
def ToldWord (s : List UInt8) (w : World) (e : Ending) (w' : World) : Prop := Below w.heap.size w w' ∧ ∃ m b, e = .returned (.tuple #[.int .i64 m, .bool b]) ∧ ((b = true ∧ numL s = some m) ∨ (b = false ∧ numL s = none))

set_option maxHeartbeats 1000000 in
theorem parseNumber_any (s : List UInt8) (hs : s.length ≤ 4294967280) (w : World) (h : CW w) : Calls Tryz.prog 68 #[strV s] w (ToldWord s w) := by
  have HA := Lib.hid (atoi_any s hs w h)
  have HC := Lib.hid h
  clear h
  unfold strV at HA ⊢
  go_enter Tryz.func68, Tryz.ntmps68
  go_wp2_with fail
  refine HA.out.mono ?_
  rintro e w1 ⟨hb, ⟨n, hn, rfl⟩ | ⟨hn, n, N, rfl⟩⟩
  · have HI := Lib.hid (itoa_any n (atoiAll_int hn) w1 (HC.out.old hb))
    by_cases he : Lib.itoa n = s
    · have hN : numL s = some n := by unfold numL; rw [hn]; simp [he]
      go_wp2_with fail
      refine HI.out.mono ?_
      rintro e w2 ⟨rfl, hb2⟩
      unfold strV
      rw [he]
      go_wp2
      go_ret2
      exact ⟨hb.trans (hb2.mono hb.size), n, true, rfl, .inl ⟨rfl, hN⟩⟩
    · have hN : numL s = none := by unfold numL; rw [hn]; simp [he]
      have hnb : ((⟨(Lib.itoa n).toArray⟩ : ByteArray).toList == (⟨s.toArray⟩ : ByteArray).toList) = false := by
        rw [Lib.toList_data, Lib.toList_data]
        simpa using he
      go_wp2_with fail
      refine HI.out.mono ?_
      rintro e w2 ⟨rfl, hb2⟩
      unfold strV
      generalize (⟨(Lib.itoa n).toArray⟩ : ByteArray) = S at *
      generalize (⟨s.toArray⟩ : ByteArray) = T at *
      go_wp2
      go_ret2
      exact ⟨hb.trans (hb2.mono hb.size), 0, false, rfl, .inr ⟨rfl, hN⟩⟩
  · have hN : numL s = none := by
      unfold numL
      rcases hr : Lib.atoiAll s with v | _ | _
      · exact absurd hr (hn v)
      all_goals rfl
    go_wp2
    go_ret2
    exact ⟨hb, 0, false, rfl, .inr ⟨rfl, hN⟩⟩
end Go.Proofs.YtbcbahoplfgimaaGreatDoor

namespace Go.Proofs.YtbcbahoplfgimaaGreatDoor
set_option maxRecDepth 100000
open Go.RowKit Go.Sort

def ToldOp (s : List UInt8) (w : World) (e : Ending) (w' : World) : Prop := Below w.heap.size w w' ∧
  ((∃ op : Nat, namedL s = some op ∧ e = .returned (.tuple #[.int .i64 op, .bool true])) ∨ (namedL s = none ∧ e = .returned (.tuple #[.int .i64 0, .bool false])))

/-- One form out of the table. -/
def formV (i : Nat) : Value := .agg #[strV (nameOf i), .int .i64 ((kindsOf i).getD 0 0 : Nat), .int .i64 ((kindsOf i).getD 1 0 : Nat), .int .i64 ((kindsOf i).getD 2 0 : Nat), .int .i64 ((kindsOf i).getD 3 0 : Nat)]

theorem index_form : ∀ (i : Nat), i < 17 → ∀ w : World, (Instr.index 136 (.agg formCells.toList.toArray) (.int .i64 (i : Int))).run Tryz.prog w = .ok (formV i) w
  | 0, _ => fun _ => by kernel_rfl
  | 1, _ => fun _ => by kernel_rfl
  | 2, _ => fun _ => by kernel_rfl
  | 3, _ => fun _ => by kernel_rfl
  | 4, _ => fun _ => by kernel_rfl
  | 5, _ => fun _ => by kernel_rfl
  | 6, _ => fun _ => by kernel_rfl
  | 7, _ => fun _ => by kernel_rfl
  | 8, _ => fun _ => by kernel_rfl
  | 9, _ => fun _ => by kernel_rfl
  | 10, _ => fun _ => by kernel_rfl
  | 11, _ => fun _ => by kernel_rfl
  | 12, _ => fun _ => by kernel_rfl
  | 13, _ => fun _ => by kernel_rfl
  | 14, _ => fun _ => by kernel_rfl
  | 15, _ => fun _ => by kernel_rfl
  | 16, _ => fun _ => by kernel_rfl
  | n + 17, h => absurd h (by omega)

set_option maxHeartbeats 1000000 in
theorem named_any (s : List UInt8) (w : World) (h : CW w) : Calls Tryz.prog 67 #[strV s] w (ToldOp s w) := by
  have HC := Lib.hid h
  clear h
  unfold strV
  go_enter Tryz.func67, Tryz.ntmps67
  go_wp2
  refine wp_load_mid 136 (.global 1) rfl 1 0 rfl formCells.toList _ ?hc Tryz.underlying136 rfl (by kernel_rfl) ?_
  case hc =>
    intro j v hv
    rw [World.var?_cell g_forms HC.out.forms]
    simpa using hv
  generalize hF : formCells.toList.toArray = F
  go_wp2
  go_loopw [7] (fun j wr => ∃ i : Nat, i ≤ 17 ∧ j = .int .i64 i ∧ (∀ k, k < i → nameOf k ≠ s) ∧ Below w.heap.size w wr) (fun j _ => 17 - (intOf j).toNat)
  case atStart => exact ⟨0, Nat.zero_le _, rfl, (fun k hk => absurd hk (Nat.not_lt_zero _)), Below.refl _ _⟩
  case round =>
    obtain ⟨i, hi, rfl, hno, hb⟩ := hrel
    by_cases hlt : i < 17
    · have hii : (i : Int) < 17 := by omega
      have hix := index_form i hlt
      rw [hF] at hix
      unfold formV strV at hix
      have hg := World.grownBy_alloc wr (.cells #[.string ⟨(nameOf i).toArray⟩, .int .i64 ((kindsOf i).getD 0 0 : Nat), .int .i64 ((kindsOf i).getD 1 0 : Nat), .int .i64 ((kindsOf i).getD 2 0 : Nat), .int .i64 ((kindsOf i).getD 3 0 : Nat)] 135) none
      have hb1 := hb.grown hg hb.size (by intro k hk; cases hk)
      by_cases he : nameOf i = s
      · have hop : namedL s = some i := by rw [← he]; exact namedL_name i hlt
        have hnb : ((⟨(nameOf i).toArray⟩ : ByteArray).toList == (⟨s.toArray⟩ : ByteArray).toList) = true := by
          rw [he]
          exact beq_self_eq_true _
        generalize (⟨(nameOf i).toArray⟩ : ByteArray) = S at *
        generalize (⟨s.toArray⟩ : ByteArray) = T at *
        go_wp2
        go_ret2
        exact ⟨hb1, .inl ⟨i, hop, rfl⟩⟩
      · have hnb : ((⟨(nameOf i).toArray⟩ : ByteArray).toList == (⟨s.toArray⟩ : ByteArray).toList) = false := by
          rw [Lib.toList_data, Lib.toList_data]
          simpa using he
        generalize (⟨(nameOf i).toArray⟩ : ByteArray) = S at *
        generalize (⟨s.toArray⟩ : ByteArray) = T at *
        go_wp2
        go_roundw
        case rel => exact ⟨i + 1, by omega, by go_num, fun k hk => by
          rcases Nat.lt_or_ge k i with h | h
          · exact hno k h
          · obtain rfl : k = i := by omega
            exact he, hb1⟩
        case measure => simp [intOf]; omega
    · obtain rfl : i = 17 := by omega
      have hnone : namedL s = none := by
        unfold namedL
        rw [List.find?_eq_none]
        intro k hk
        simpa using hno k (List.mem_range.1 hk)
      go_wp2
      go_ret2
      exact ⟨hb, .inr ⟨hnone, rfl⟩⟩
end Go.Proofs.YtbcbahoplfgimaaGreatDoor
