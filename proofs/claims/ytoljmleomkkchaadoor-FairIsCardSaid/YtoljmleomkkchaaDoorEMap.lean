/-
  Sets of ints with how many there are: maps from int to bool, exactly.
-/
import Derived.Test.YtoljmleomkkchaaDoorBMap
import Derived.Maps.Views
import Derived.Maps.OwnSet
namespace Go.Proofs.YtoljmleomkkchaaDoor
set_option maxRecDepth 100000
open Go.RowKit Go.Shelf
open Go.WideShapes

/-- Block b is a set of just m ints: those of which f says so. -/
def EM (te : TypeId) (w : World) (b m : Nat) (f : Int → Bool) : Prop :=
  ∃ D : DataW Unit, w.ownsMap Tryd.prog 3 (plainElem Tryd.prog te) b m D ∧ Maps.Tidy D ∧ Maps.size D = m ∧ ∀ a : Int, (Lit.int .i64 a).wf = true → Maps.has D (.int .i64 a) = f a
section
variable {te : TypeId} {w w' : World} {b m : Nat} {f : Int → Bool}
theorem EM.made (te : TypeId) (w : World) : EM te (w.alloc (.map #[] 0)) w.heap.size 0 fun _ => false :=
  ⟨_, World.ownsMap_made w Tryd.prog 3 _, Maps.tidy_empty, rfl, fun _ _ => rfl⟩
theorem EM.kept (h : EM te w b m f) {row : Option Nat} (hg : w.grownBy w' row) (hne : some b ≠ row) : EM te w' b m f := by
  obtain ⟨D, hD, hf⟩ := h
  exact ⟨D, hD.kept hg hne, hf⟩
theorem EM.lt (h : EM te w b m f) : b < w.heap.size := by
  obtain ⟨D, hD, _⟩ := h
  exact hD.lt
theorem EM.len (h : EM te w b m f) {t : TypeId} (ht : Tryd.prog.underlying t = some (.map 3 te)) (ty : TypeId) : (Builtin.len_ #[t] ty #[.map (some b)]).run Tryd.prog w = .ok (.int .i64 (m : Nat)) w := by
  obtain ⟨D, hD, _, hs, _⟩ := h
  have := hD.len ht ty
  rw [hs] at this
  exact this
theorem EM.put (h : EM te w b m f) {t : TypeId} (ht : Tryd.prog.underlying t = some (.map 3 te)) (he : Tryd.prog.underlying te = some .bool) (hm : m < maxLen) (a : Int) (ha : (Lit.int .i64 a).wf = true) (hn : f a = false) :
    ∃ w', (Instr.mapUpdate t (.map (some b)) (.int .i64 a) (.bool true)).run Tryd.prog w = .ok () w' ∧ EM te w' b (m + 1) (setAt f a) ∧ w.grownBy w' (some b) := by
  obtain ⟨D, hD, hT, hs, hf⟩ := h
  have hK := Maps.keyOf_int_mk Tryd.underlying3 ha
  obtain ⟨w', hrun, hD', hg⟩ := hD.update keyedInt ht hm hK (plainElem_bool he true)
  have hk := keyedInt.key hK
  refine ⟨w', hrun, ⟨_, hD', hT.put hk _, ?_, fun x hx => ?_⟩, hg⟩
  · rw [Maps.size_put hT, hf a ha, hn, hs]
    simp
  · by_cases e : x = a
    · subst e
      rw [Maps.has_put_same hD.isMap hk]
      simp [setAt]
    · rw [Maps.has_put_other (lit_ne e), hf x hx]
      simp [setAt, e]
end
end Go.Proofs.YtoljmleomkkchaaDoor
