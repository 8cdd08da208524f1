/-
  strings.Cut at a text of one byte; which worlds the library's functions leave. A text that is written piece by piece: copyCheck, WriteString, WriteByte at a builder of the call's own; which blocks stand.
-/
import Derived.Test.YtgkfhihnfllmhaaGreatDoorQXB
import Derived.Test.YtgkfhihnfllmhaaGreatDoorShelf
import Derived.Test.YtgkfhihnfllmhaaGreatDoorQXA
import Derived.WalkSmall
import Derived.Lib.CutLaws
import Derived.BigRegion
import Derived.Deep.MidRow
import Derived.Lib.Builder
import Derived.Lib.AppendStr
import Derived.Lib.OthersKept
import Derived.Laws.Externs
namespace Go.Proofs.YtgkfhihnfllmhaaGreatDoor
set_option maxRecDepth 100000
open Go.RowKit Go.Sort

/-- A text of bytes. -/
def strV (l : List UInt8) : Value := .string ⟨l.toArray⟩

theorem indexByte_no {c : UInt8} : ∀ {s : List UInt8}, c ∉ s → Lib.indexByte s c = -1
  | [], _ => rfl
  | b :: l, h => by
    have hb : (b == c) = false := by simpa using fun e => h (by simp [e])
    have hl : c ∉ l := fun e => h (by simp [e])
    rw [Lib.indexByte, hb, indexByte_no hl]
    rfl

theorem indexByte_at {c : UInt8} : ∀ {a b : List UInt8}, c ∉ a → Lib.indexByte (a ++ c :: b) c = (a.length : Int)
  | [], b, _ => by simp [Lib.indexByte]
  | x :: a, b, h => by
    have hx : (x == c) = false := by simpa using fun e => h (by simp [e])
    have ha : c ∉ a := fun e => h (by simp [e])
    rw [List.cons_append, Lib.indexByte, hx, indexByte_at ha]
    have : ((a.length : Int) == -1) = false := by simp
    simp [this]

set_option maxHeartbeats 1000000 in
theorem scut_any (s : List UInt8) (c : UInt8) (w : World) (hs : s.length ≤ 4294967280) :
    Calls Tryz.prog 93 #[strV s, .string ⟨#[c]⟩] w fun e w' => e = .returned (.tuple #[strV (cutL c s).1, strV (cutL c s).2.1, .bool (cutL c s).2.2]) ∧ ∃ n, w' = w.drewN n := by
  unfold strV
  have hI := Tryz.stringslite_Index_one ⟨s.toArray⟩ c w
  rcases cutL_cases c s with ⟨hn, e⟩ | ⟨a, b, rfl, hn, e⟩
  · rw [e]
    rw [show Lib.indexByte (⟨s.toArray⟩ : ByteArray).data.toList c = -1 by simpa using indexByte_no hn] at hI
    have HI := Lib.hid hI
    clear hI
    go_enter Tryz.func93, Tryz.ntmps93
    go_wp2_with fail
    refine HI.out.mono ?_
    rintro e w' ⟨rfl, rfl⟩
    go_wp2
    go_ret3
    exact ⟨rfl, 0, rfl⟩
  · rw [e]
    rw [show Lib.indexByte (⟨(a ++ c :: b).toArray⟩ : ByteArray).data.toList c = (a.length : Int) by simpa using indexByte_at hn] at hI
    have HI := Lib.hid hI
    have hsz : (⟨(a ++ c :: b).toArray⟩ : ByteArray).size = a.length + (b.length + 1) := by simp [ByteArray.size]
    have x1 : (⟨(a ++ c :: b).toArray⟩ : ByteArray).extract 0 a.length = ⟨a.toArray⟩ := by
      rw [Lib.extract_eq]
      simp
    have x2 : (⟨(a ++ c :: b).toArray⟩ : ByteArray).extract (a.length + 1) (⟨(a ++ c :: b).toArray⟩ : ByteArray).size = ⟨b.toArray⟩ := by
      rw [Lib.extract_eq, hsz]
      simp
      exact List.take_of_length_le (by omega)
    rw [hsz] at x2
    have c1 : (0 : Int) ≤ (a.length : Int) := by omega
    have c2 : (a.length : Int) ≤ ((⟨(a ++ c :: b).toArray⟩ : ByteArray).size : Int) := by rw [hsz]; omega
    have c3 : (0 : Int) ≤ (a.length : Int) + 1 := by omega
    have c4 : (a.length : Int) + 1 ≤ ((⟨(a ++ c :: b).toArray⟩ : ByteArray).size : Int) := by rw [hsz]; omega
    have hw : wrap64 ((a.length : Int) + 1) = (a.length : Int) + 1 := by
      have : (a ++ c :: b).length = a.length + (b.length + 1) := by simp
      unfold wrap64
      omega
    generalize (⟨(a ++ c :: b).toArray⟩ : ByteArray) = S at *
    clear hI
    go_enter Tryz.func93, Tryz.ntmps93
    go_wp2_with fail
    refine HI.out.mono ?_
    rintro e w' ⟨rfl, rfl⟩
    go_wp2
    go_region
    all_goals
      go_wp2
      go_ret3
      exact ⟨rfl, 1, rfl⟩

theorem cut_any (s : List UInt8) (c : UInt8) (w : World) (hs : s.length ≤ 4294967280) :
    Calls Tryz.prog 65 #[strV s, .string ⟨#[c]⟩] w fun e w' => e = .returned (.tuple #[strV (cutL c s).1, strV (cutL c s).2.1, .bool (cutL c s).2.2]) ∧ ∃ n, w' = w.drewN n := by
  have HI := Lib.hid (scut_any s c w hs)
  unfold strV at HI ⊢
  go_enter Tryz.func65, Tryz.ntmps65
  go_wp2_with fail
  refine HI.out.mono ?_
  rintro e w' ⟨rfl, n, rfl⟩
  go_wp2
  go_ret3
  exact ⟨rfl, n, rfl⟩

theorem old_bytes {w w' : World} (h : w' = w ∨ ∃ t, w' = Lib.bytesWorld w 5 t) : Below w.heap.size w w' := by
  rcases h with rfl | ⟨t, rfl⟩
  · exact Below.refl _ _
  · exact Lib.below_freeze ((Below.refl w.heap.size w).drew.alloc (Nat.le_refl _) _) (p := ⟨w.heap.size, _, none⟩) (Nat.le_refl _) _

theorem old_grow {w w' : World} (h : ∃ k os, w' = grow (w.drewN k) os) : Below w.heap.size w w' := by
  obtain ⟨k, os, rfl⟩ := h
  exact below_drewN (Below.refl _ _) k |>.trans ⟨rfl, rfl, rfl, by simp [grow], fun i hi => by
    show ((w.drewN k).heap ++ os)[i]? = _
    rw [Array.getElem?_append_left (by simpa using hi)]⟩
end Go.Proofs.YtgkfhihnfllmhaaGreatDoor

namespace Go.Proofs.YtgkfhihnfllmhaaGreatDoor
set_option maxRecDepth 100000
open Go.RowKit Go.Sort

theorem sizeBuilder : (Tryz.prog.info? 130).map (·.size) = some 2 := by kernel_rfl
theorem liesBuilder : liesAt Tryz.prog Tryz.prog.depth 130 (2 / Tryz.prog.cellsOf 130) 0 130 1 = true := by kernel_rfl
theorem infoByte : (Tryz.prog.info? 5).map (fun i => (i.zero, i.size, i.bytes)) = some (some (.int .u8 0), 1, 1) := by kernel_rfl

/-- What a call that writes to builder b comes to, of all else. -/
def Wrote (B b : Nat) (w w' : World) : Prop := Below B w w' ∧ Lib.OthersKept 5 (some b) w w'

theorem Wrote.refl (B b : Nat) (w : World) : Wrote B b w w := ⟨Below.refl _ _, Lib.OthersKept.refl _ _ _⟩
theorem Wrote.trans {B b : Nat} {w1 w2 w3 : World} (h : Wrote B b w1 w2) (k : Wrote B b w2 w3) : Wrote B b w1 w3 := ⟨h.1.trans k.1, h.2.trans k.2⟩

theorem copyCheck_used (b : Nat) (w : World) (h0 : w.cell? ⟨b, 0, none⟩ = some (.pointer (some ⟨b, 0, none⟩))) :
    Calls Tryz.prog 115 #[.pointer (some ⟨b, 0, none⟩)] w fun e w' => e = .returned (.tuple #[]) ∧ w' = w := by
  obtain ⟨j, hj, _⟩ := Option.map_eq_some_iff.1 sizeBuilder
  go_enter Tryz.func115, Tryz.ntmps115
  go_wp2
  rw [Lib.run_neq_ptr_same w _ Tryz.underlying128 hj]
  go_wp2
  go_end0
  exact ⟨rfl, rfl⟩

theorem copyCheck_fresh (b : Nat) (w : World) (h0 : w.cell? ⟨b, 0, none⟩ = some (.pointer none)) (hsh : w.shape? b = some (130, 2)) (hfz : w.frozen? ⟨b, 0, none⟩ = false) :
    Calls Tryz.prog 115 #[.pointer (some ⟨b, 0, none⟩)] w fun e w' => e = .returned (.tuple #[]) ∧ w' = w.setCell ⟨b, 0, none⟩ (.pointer (some ⟨b, 0, none⟩)) := by
  obtain ⟨j, hj, hjs⟩ := Option.map_eq_some_iff.1 sizeBuilder
  go_enter Tryz.func115, Tryz.ntmps115
  go_wp2
  rw [Lib.run_to_unsafe w ⟨b, 0, none⟩ Tryz.underlying128 Tryz.underlying197 hj (by rw [hjs]; decide) hsh (Nat.zero_lt_succ 1)]
  simp only [Result.andThen]
  rw [Oper.upon_value]
  go_wp2
  rw [run_callFunc_extern Tryz.func153 (by kernel_rfl) (by kernel_rfl) (by kernel_rfl) (e := Extern.AbiNoEscape.same) (by kernel_rfl)]
  rw [Lib.run_noEscape]
  simp only [Result.andThen]
  rw [Oper.upon_value]
  go_wp2
  rw [Lib.run_from_unsafe w ⟨b, 0, none⟩ Tryz.underlying197 Tryz.underlying128 hj hsh liesBuilder]
  simp only [Result.andThen]
  rw [Oper.upon_value]
  go_wp2
  go_end0
  exact ⟨rfl, rfl⟩

theorem copyCheck_any (B b : Nat) (bs : List Value) (w : World) (h : Lib.IsBuilder 130 5 B b bs w) :
    Calls Tryz.prog 115 #[.pointer (some ⟨b, 0, none⟩)] w fun e w' => e = .returned (.tuple #[]) ∧ Lib.BuilderAt 130 5 B b (.pointer (some ⟨b, 0, none⟩)) bs w' ∧ Wrote B b w w' := by
  rcases h with h | h
  · refine (copyCheck_fresh b w h.cell0 h.shape h.frozen0).mono ?_
    rintro e w' ⟨rfl, rfl⟩
    exact ⟨rfl, h.used _, (Below.refl B w).setCell (p := ⟨b, 0, none⟩) h.1 _, (Lib.OthersKept.refl _ _ w).setCell ⟨b, 0, none⟩ rfl _⟩
  · refine (copyCheck_used b w h.cell0).mono ?_
    rintro e w' ⟨rfl, rfl⟩
    exact ⟨rfl, h, Wrote.refl _ _ _⟩

theorem row_kind {w : World} {B e sz : Nat} {v : Value} {n : Nat} {xs : List Value} (h : w.ownsRow B e sz v n xs) : ∀ g, v.ownBlock = some g → ∃ c fz, w.heap[g]? = some (.cells c e fz) := by
  intro g hg
  rcases h.2 with ⟨rfl, _⟩ | ⟨g', cap, cur, rfl, _, hh, _⟩
  · simp [Value.ownBlock] at hg
  · obtain rfl : g' = g := by simpa [Value.ownBlock] using hg
    exact ⟨_, _, hh⟩

/-- A builder that holds the bytes l. -/
def TB (B b : Nat) (l : List UInt8) (w : World) : Prop := Lib.IsBuilder 130 5 B b (Lib.byteCells l) w

def Written (B b : Nat) (l : List UInt8) (w : World) (v : Value) (e : Ending) (w' : World) : Prop := e = .returned v ∧ TB B b l w' ∧ Wrote B b w w'

set_option maxHeartbeats 1000000 in
theorem writeByte_any (B b : Nat) (l : List UInt8) (c : UInt8) (w : World) (h : TB B b l w) (hlen : l.length ≤ 1000000) (hBw : B ≤ w.heap.size) :
    Calls Tryz.prog 81 #[.pointer (some ⟨b, 0, none⟩), .int .u8 (c.toNat : Int)] w (Written B b (l ++ [c]) w .nilIface) := by
  obtain ⟨i0, hi, hz0, hz1, hz2⟩ := info_parts infoByte
  have HC := Lib.hid (copyCheck_any B b _ w h)
  have hbl := Lib.byteCells_length l
  clear h
  go_enter Tryz.func81, Tryz.ntmps81
  go_wp2_with fail
  refine HC.out.mono ?_
  rintro e w1 ⟨rfl, ⟨hB, v, hbk, hown, hne⟩, hw1⟩
  have c0 : w1.cell? ⟨b, 0, none⟩ = some (.pointer (some ⟨b, 0, none⟩)) := by rw [Lib.cell_of_heap hbk]; rfl
  have c1 : w1.cell? ⟨b, 1, none⟩ = some v := by rw [Lib.cell_of_heap hbk]; rfl
  have hs1 := hw1.1.size
  have HW1 := Lib.hid hw1
  have HBK := Lib.hid hbk
  have HO := Lib.hid hown
  have HNE := Lib.hid hne
  have HO2 := Lib.hid (hown.alloc (.cells #[.int .u8 (c.toNat : Int)] 5))
  have HNW := Lib.hid (World.news_of_block (cs := #[.int .u8 (c.toNat : Int)]) (heap_alloc_new w1 (.cells #[.int .u8 (c.toNat : Int)] 5)))
  have HOC := Lib.hid (show ∀ u ∈ [Value.int .u8 (c.toNat : Int)], u.oneCell' = true from fun u hu => by rw [List.mem_singleton.1 hu]; rfl)
  clear hw1 hbk hown hne HC
  go_wp2_with (at_builtin; refine wpList_append_own _ rfl _ _ 105 rfl B 5 i0 (.int .u8 0) 1 1 Tryz.underlying105 hi hz0 hz1 hz2 rfl (by decide) _ _ _ rfl HO2.out ⟨w1.heap.size, 0, none⟩ 1 1 [.int .u8 (c.toNat : Int)] rfl rfl ?c1 HOC.out ?c3 ?c4 ?c5 ?_)
  case c1 => exact HNW.out
  case c3 => unfold maxLen; omega
  case c4 => omega
  case c5 => simp; omega
  intro v' w2 hown' hgrow _
  have hlt : b < w1.heap.size := Lib.BuilderAt.lt ⟨hB, v, HBK.out, HO.out, HNE.out⟩
  have hb2 : w2.heap[b]? = some (.cells #[.pointer (some ⟨b, 0, none⟩), v] 130 (0, 0)) := by
    rw [hgrow.block b (by simp; omega) (fun e => HNE.out e.symm), Lib.alloc_old w1 _ b hlt]
    exact HBK.out
  have d0 : w2.cell? ⟨b, 0, none⟩ = some (.pointer (some ⟨b, 0, none⟩)) := by rw [Lib.cell_of_heap hb2]; rfl
  have d1 : w2.cell? ⟨b, 1, none⟩ = some v := by rw [Lib.cell_of_heap hb2]; rfl
  have f1 : w2.frozen? ⟨b, 1, none⟩ = false := Lib.frozen_of_heap hb2 1
  obtain ⟨A', cap, rfl⟩ := own_form hown'
  have hown3 : w2.ownsRow B 5 1 (.slice A' (l.length + 1) cap) (Lib.byteCells (l ++ [c])).length (Lib.byteCells (l ++ [c])) := by
    rw [Lib.byteCells_append, List.length_append, Lib.byteCells_length, Lib.byteCells_length]
    exact hown'
  have HP := Lib.hid (Lib.BuilderAt.put (T := 130) (e := 5) hB hb2 hown3 (by decide))
  have HW := Lib.hid (show Wrote B b w (w2.setCell ⟨b, 1, none⟩ (.slice A' (l.length + 1) cap)) from
    ⟨((HW1.out.1.alloc (by omega) _).grown hgrow (by simp; omega) (fun k hk => (HO.out.lt k hk).1)).setCell (p := ⟨b, 1, none⟩) hB _,
     ((HW1.out.2.alloc _).grown hgrow (row_kind HO2.out)).setCell ⟨b, 1, none⟩ rfl _⟩)
  clear hown' hgrow hown3 hb2 HO2 HO HBK HW1
  go_wp2
  go_ret
  exact ⟨rfl, .inr HP.out, HW.out⟩

set_option maxHeartbeats 1000000 in
theorem writeString_any (B b : Nat) (l s : List UInt8) (w : World) (h : TB B b l w) (hlen : l.length + s.length ≤ 1000000) (hBw : B ≤ w.heap.size) :
    Calls Tryz.prog 91 #[.pointer (some ⟨b, 0, none⟩), strV s] w (Written B b (l ++ s) w (.tuple #[.int .i64 s.length, .nilIface])) := by
  obtain ⟨i0, hi, hz0, hz1, hz2⟩ := info_parts infoByte
  have HC := Lib.hid (copyCheck_any B b _ w h)
  have hbl := Lib.byteCells_length l
  have hsz : (⟨s.toArray⟩ : ByteArray).size = s.length := by simp [ByteArray.size]
  have hsc : Lib.strCells (⟨s.toArray⟩ : ByteArray) = Lib.byteCells s := by simp [Lib.strCells, Lib.byteCells]
  have HSC := Lib.hid hsc
  clear h hsc
  unfold strV
  generalize (⟨s.toArray⟩ : ByteArray) = S at *
  go_enter Tryz.func91, Tryz.ntmps91
  go_wp2_with fail
  refine HC.out.mono ?_
  rintro e w1 ⟨rfl, ⟨hB, v, hbk, hown, hne⟩, hw1⟩
  have c0 : w1.cell? ⟨b, 0, none⟩ = some (.pointer (some ⟨b, 0, none⟩)) := by rw [Lib.cell_of_heap hbk]; rfl
  have c1 : w1.cell? ⟨b, 1, none⟩ = some v := by rw [Lib.cell_of_heap hbk]; rfl
  have hs1 := hw1.1.size
  have HW1 := Lib.hid hw1
  have HBK := Lib.hid hbk
  have HO := Lib.hid hown
  have HNE := Lib.hid hne
  clear hw1 hbk hown hne HC
  go_wp2_with (at_builtin; refine Lib.wpList_append_own_string _ rfl _ _ 105 9 rfl B 5 i0 Tryz.underlying105 Tryz.underlying9 hi hz0 hz1 hz2 _ _ _ rfl HO.out S rfl ?c3 ?c4 ?c5 ?_)
  case c3 => unfold maxLen; omega
  case c4 => omega
  case c5 => omega
  intro v' w2 hown' hgrow _
  have hlt : b < w1.heap.size := Lib.BuilderAt.lt ⟨hB, v, HBK.out, HO.out, HNE.out⟩
  have hb2 : w2.heap[b]? = some (.cells #[.pointer (some ⟨b, 0, none⟩), v] 130 (0, 0)) := by
    rw [hgrow.block b hlt (fun e => HNE.out e.symm)]
    exact HBK.out
  have d0 : w2.cell? ⟨b, 0, none⟩ = some (.pointer (some ⟨b, 0, none⟩)) := by rw [Lib.cell_of_heap hb2]; rfl
  have d1 : w2.cell? ⟨b, 1, none⟩ = some v := by rw [Lib.cell_of_heap hb2]; rfl
  have f1 : w2.frozen? ⟨b, 1, none⟩ = false := Lib.frozen_of_heap hb2 1
  obtain ⟨A', cap, rfl⟩ := own_form hown'
  have hown3 : w2.ownsRow B 5 1 (.slice A' (l.length + s.length) cap) (Lib.byteCells (l ++ s)).length (Lib.byteCells (l ++ s)) := by
    rw [Lib.byteCells_append, List.length_append, Lib.byteCells_length, Lib.byteCells_length, ← HSC.out]
    exact hown'
  have HP := Lib.hid (Lib.BuilderAt.put (T := 130) (e := 5) hB hb2 hown3 (by decide))
  have HW := Lib.hid (show Wrote B b w (w2.setCell ⟨b, 1, none⟩ (.slice A' (l.length + s.length) cap)) from
    ⟨(HW1.out.1.grown hgrow (by omega) (fun k hk => (HO.out.lt k hk).1)).setCell (p := ⟨b, 1, none⟩) hB _,
     (HW1.out.2.grown hgrow (row_kind HO.out)).setCell ⟨b, 1, none⟩ rfl _⟩)
  clear hown' hgrow hown3 hb2 HO HBK HW1
  go_wp2
  go_ret2
  exact ⟨rfl, .inr HP.out, HW.out⟩
end Go.Proofs.YtgkfhihnfllmhaaGreatDoor
