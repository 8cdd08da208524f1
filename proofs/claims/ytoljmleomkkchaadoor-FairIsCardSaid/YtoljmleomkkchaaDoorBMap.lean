/-
  Sets of ints: maps from int to bool, as functions.
-/
import Derived.Test.YtoljmleomkkchaaDoorLotG
import Derived.Test.YtoljmleomkkchaaDoorIMap
namespace Go.Proofs.YtoljmleomkkchaaDoor
set_option maxRecDepth 100000
open Go.RowKit Go.Shelf
open Go.WideShapes

theorem plainElem_bool_back {P : Program} {e : TypeId} (he : P.underlying e = some .bool) {v : Value} {z : DataW Unit × List MemPlace} (h : plainElem P e v = some z) : ∃ x, v = .bool x ∧ z = (.lit (.bool x), []) := by
  unfold plainElem at h
  rw [he] at h
  cases v <;> simp at h
  exact ⟨_, rfl, h.symm⟩
/-- Block b is a set of at most m ints: those of which f says so. -/
def BM (te : TypeId) (w : World) (b m : Nat) (f : Int → Bool) : Prop :=
  ∃ D : DataW Unit, w.ownsMap Tryd.prog 3 (plainElem Tryd.prog te) b m D ∧ ∀ a : Int, (Lit.int .i64 a).wf = true → D.atKey (.int .i64 a) (.lit (.bool false)) = .lit (.bool (f a))
section
variable {te : TypeId} {w w' : World} {b m : Nat} {f : Int → Bool}
theorem BM.made (te : TypeId) (w : World) : BM te (w.alloc (.map #[] 0)) w.heap.size 0 fun _ => false :=
  ⟨_, World.ownsMap_made w Tryd.prog 3 _, fun _ _ => rfl⟩
theorem BM.kept (h : BM te w b m f) {row : Option Nat} (hg : w.grownBy w' row) (hne : some b ≠ row) : BM te w' b m f := by
  obtain ⟨D, hD, hf⟩ := h
  exact ⟨D, hD.kept hg hne, hf⟩
theorem BM.lt (h : BM te w b m f) : b < w.heap.size := by
  obtain ⟨D, hD, _⟩ := h
  exact hD.lt
theorem BM.look (h : BM te w b m f) {t : TypeId} (ht : Tryd.prog.underlying t = some (.map 3 te)) (he : Tryd.prog.underlying te = some .bool) (hz : (zeroValue te).run Tryd.prog w = .ok (.bool false) w) (a : Int) (ha : (Lit.int .i64 a).wf = true) :
    (Instr.lookup t (.map (some b)) (.int .i64 a) false).run Tryd.prog w = .ok (.bool (f a)) w := by
  obtain ⟨D, hD, hf⟩ := h
  obtain ⟨v, ps, hrun, hv⟩ := hD.lookup keyedInt ht hz (plainElem_bool he false) (Maps.keyOf_int_mk Tryd.underlying3 ha)
  obtain ⟨x, rfl, hx⟩ := plainElem_bool_back he hv
  rw [hrun]
  simp only [Prod.mk.injEq] at hx
  rw [hf a ha] at hx
  have : f a = x := by
    have h1 := hx.1
    injection h1 with h1
    injection h1
  rw [this]
def setAt (f : Int → Bool) (a : Int) : Int → Bool := fun x => if x = a then true else f x
theorem BM.put (h : BM te w b m f) {t : TypeId} (ht : Tryd.prog.underlying t = some (.map 3 te)) (he : Tryd.prog.underlying te = some .bool) (hm : m < maxLen) (a : Int) (ha : (Lit.int .i64 a).wf = true) :
    ∃ w', (Instr.mapUpdate t (.map (some b)) (.int .i64 a) (.bool true)).run Tryd.prog w = .ok () w' ∧ BM te w' b (m + 1) (setAt f a) ∧ w.grownBy w' (some b) := by
  obtain ⟨D, hD, hf⟩ := h
  obtain ⟨w', hrun, hD', hg⟩ := hD.update keyedInt ht hm (Maps.keyOf_int_mk Tryd.underlying3 ha) (plainElem_bool he true)
  refine ⟨w', hrun, ⟨_, hD', fun x hx => ?_⟩, hg⟩
  have hk := keyedInt.key (Maps.keyOf_int_mk Tryd.underlying3 ha)
  by_cases e : x = a
  · subst e
    rw [Maps.atKey_put_same hD.isMap hk]
    simp [setAt]
  · rw [Maps.atKey_put_other (lit_ne e), hf x hx]
    simp [setAt, e]
end
end Go.Proofs.YtoljmleomkkchaaDoor
