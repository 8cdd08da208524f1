/-
  strings.Cut at a text of one byte; which worlds the library's functions leave.
-/
import Derived.Test.YtdpknbcmjpnfgaaDoorCPure
import Derived.Test.YtdpknbcmjpnfgaaDoorShelf
import Derived.Test.YtdpknbcmjpnfgaaDoorBase
import Derived.WalkSmall
import Derived.Lib.CutLaws
import Derived.BigRegion
import Derived.Deep.MidRow
namespace Go.Proofs.YtdpknbcmjpnfgaaDoor
set_option maxRecDepth 100000
open Go.RowKit Go.Sort

/-- A text of bytes. -/
def strV (l : List UInt8) : Value := .string ⟨l.toArray⟩

theorem indexByte_no {c : UInt8} : ∀ {s : List UInt8}, c ∉ s → Lib.indexByte s c = -1
  | [], _ => rfl
  | b :: l, h => by
    have hb : (b == c) = false := by simpa using fun e => h (by simp [e])
    have hl : c ∉ l := fun e => h (by simp [e])
    rw [Lib.indexByte, hb, indexByte_no hl]
    rfl

theorem indexByte_at {c : UInt8} : ∀ {a b : List UInt8}, c ∉ a → Lib.indexByte (a ++ c :: b) c = (a.length : Int)
  | [], b, _ => by simp [Lib.indexByte]
  | x :: a, b, h => by
    have hx : (x == c) = false := by simpa using fun e => h (by simp [e])
    have ha : c ∉ a := fun e => h (by simp [e])
    rw [List.cons_append, Lib.indexByte, hx, indexByte_at ha]
    have : ((a.length : Int) == -1) = false := by simp
    simp [this]

set_option maxHeartbeats 1000000 in
theorem scut_any (s : List UInt8) (c : UInt8) (w : World) (hs : s.length ≤ 4294967280) :
    Calls Tryd.prog 48 #[strV s, .string ⟨#[c]⟩] w fun e w' => e = .returned (.tuple #[strV (cutL c s).1, strV (cutL c s).2.1, .bool (cutL c s).2.2]) ∧ ∃ n, w' = w.drewN n := by
  unfold strV
  have hI := Tryd.stringslite_Index_one ⟨s.toArray⟩ c w
  rcases cutL_cases c s with ⟨hn, e⟩ | ⟨a, b, rfl, hn, e⟩
  · rw [e]
    rw [show Lib.indexByte (⟨s.toArray⟩ : ByteArray).data.toList c = -1 by simpa using indexByte_no hn] at hI
    have HI := Lib.hid hI
    clear hI
    go_enter Tryd.func48, Tryd.ntmps48
    go_wp2_with fail
    refine HI.out.mono ?_
    rintro e w' ⟨rfl, rfl⟩
    go_wp2
    go_ret3
    exact ⟨rfl, 0, rfl⟩
  · rw [e]
    rw [show Lib.indexByte (⟨(a ++ c :: b).toArray⟩ : ByteArray).data.toList c = (a.length : Int) by simpa using indexByte_at hn] at hI
    have HI := Lib.hid hI
    have hsz : (⟨(a ++ c :: b).toArray⟩ : ByteArray).size = a.length + (b.length + 1) := by simp [ByteArray.size]
    have x1 : (⟨(a ++ c :: b).toArray⟩ : ByteArray).extract 0 a.length = ⟨a.toArray⟩ := by
      rw [Lib.extract_eq]
      simp
    have x2 : (⟨(a ++ c :: b).toArray⟩ : ByteArray).extract (a.length + 1) (⟨(a ++ c :: b).toArray⟩ : ByteArray).size = ⟨b.toArray⟩ := by
      rw [Lib.extract_eq, hsz]
      simp
      exact List.take_of_length_le (by omega)
    rw [hsz] at x2
    have c1 : (0 : Int) ≤ (a.length : Int) := by omega
    have c2 : (a.length : Int) ≤ ((⟨(a ++ c :: b).toArray⟩ : ByteArray).size : Int) := by rw [hsz]; omega
    have c3 : (0 : Int) ≤ (a.length : Int) + 1 := by omega
    have c4 : (a.length : Int) + 1 ≤ ((⟨(a ++ c :: b).toArray⟩ : ByteArray).size : Int) := by rw [hsz]; omega
    have hw : wrap64 ((a.length : Int) + 1) = (a.length : Int) + 1 := by
      have : (a ++ c :: b).length = a.length + (b.length + 1) := by simp
      unfold wrap64
      omega
    generalize (⟨(a ++ c :: b).toArray⟩ : ByteArray) = S at *
    clear hI
    go_enter Tryd.func48, Tryd.ntmps48
    go_wp2_with fail
    refine HI.out.mono ?_
    rintro e w' ⟨rfl, rfl⟩
    go_wp2
    go_region
    all_goals
      go_wp2
      go_ret3
      exact ⟨rfl, 1, rfl⟩

theorem cut_any (s : List UInt8) (c : UInt8) (w : World) (hs : s.length ≤ 4294967280) :
    Calls Tryd.prog 38 #[strV s, .string ⟨#[c]⟩] w fun e w' => e = .returned (.tuple #[strV (cutL c s).1, strV (cutL c s).2.1, .bool (cutL c s).2.2]) ∧ ∃ n, w' = w.drewN n := by
  have HI := Lib.hid (scut_any s c w hs)
  unfold strV at HI ⊢
  go_enter Tryd.func38, Tryd.ntmps38
  go_wp2_with fail
  refine HI.out.mono ?_
  rintro e w' ⟨rfl, n, rfl⟩
  go_wp2
  go_ret3
  exact ⟨rfl, n, rfl⟩

theorem old_bytes {w w' : World} (h : w' = w ∨ ∃ t, w' = Lib.bytesWorld w 5 t) : Below w.heap.size w w' := by
  rcases h with rfl | ⟨t, rfl⟩
  · exact Below.refl _ _
  · exact Lib.below_freeze ((Below.refl w.heap.size w).drew.alloc (Nat.le_refl _) _) (p := ⟨w.heap.size, _, none⟩) (Nat.le_refl _) _

theorem old_grow {w w' : World} (h : ∃ k os, w' = grow (w.drewN k) os) : Below w.heap.size w w' := by
  obtain ⟨k, os, rfl⟩ := h
  exact below_drewN (Below.refl _ _) k |>.trans ⟨rfl, rfl, rfl, by simp [grow], fun i hi => by
    show ((w.drewN k).heap ++ os)[i]? = _
    rw [Array.getElem?_append_left (by simpa using hi)]⟩
end Go.Proofs.YtdpknbcmjpnfgaaDoor
