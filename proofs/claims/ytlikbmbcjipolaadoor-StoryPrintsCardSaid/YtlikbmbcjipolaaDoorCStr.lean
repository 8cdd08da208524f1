/-
  strings.Cut at a text of one byte; which worlds the library's functions leave.
-/
import Derived.Test.YtlikbmbcjipolaaDoorCPure
import Derived.Test.YtlikbmbcjipolaaDoorShelf
import Derived.Test.YtlikbmbcjipolaaDoorBase
import Derived.WalkSmall
import Derived.Lib.CutLaws
import Derived.Lib.ConvBytes
import Derived.BigRegion
import Derived.Deep.MidRow
namespace Go.Proofs.YtlikbmbcjipolaaDoor
set_option maxRecDepth 100000
open Go.RowKit Go.Sort

/-- A text of bytes. -/
def strV (l : List UInt8) : Value := .string ⟨l.toArray⟩

theorem indexByte_no {c : UInt8} : ∀ {s : List UInt8}, c ∉ s → Lib.indexByte s c = -1
  | [], _ => rfl
  | b :: l, h => by
    have hb : (b == c) = false := by simpa using fun e => h (by simp [e])
    have hl : c ∉ l := fun e => h (by simp [e])
    rw [Lib.indexByte, hb, indexByte_no hl]
    rfl

theorem indexByte_at {c : UInt8} : ∀ {a b : List UInt8}, c ∉ a → Lib.indexByte (a ++ c :: b) c = (a.length : Int)
  | [], b, _ => by simp [Lib.indexByte]
  | x :: a, b, h => by
    have hx : (x == c) = false := by simpa using fun e => h (by simp [e])
    have ha : c ∉ a := fun e => h (by simp [e])
    rw [List.cons_append, Lib.indexByte, hx, indexByte_at ha]
    have : ((a.length : Int) == -1) = false := by simp
    simp [this]

theorem old_bytes {w w' : World} (h : w' = w ∨ ∃ t, w' = Lib.bytesWorld w 5 t) : Below w.heap.size w w' := by
  rcases h with rfl | ⟨t, rfl⟩
  · exact Below.refl _ _
  · exact Lib.below_freeze ((Below.refl w.heap.size w).drew.alloc (Nat.le_refl _) _) (p := ⟨w.heap.size, _, none⟩) (Nat.le_refl _) _

theorem old_grow {w w' : World} (h : ∃ k os, w' = grow (w.drewN k) os) : Below w.heap.size w w' := by
  obtain ⟨k, os, rfl⟩ := h
  exact below_drewN (Below.refl _ _) k |>.trans ⟨rfl, rfl, rfl, by simp [grow], fun i hi => by
    show ((w.drewN k).heap ++ os)[i]? = _
    rw [Array.getElem?_append_left (by simpa using hi)]⟩
end Go.Proofs.YtlikbmbcjipolaaDoor
