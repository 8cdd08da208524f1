/-
  Maps from int to integers, as functions.
-/
import Derived.Test.YtoljmleomkkchaaDoorLotG
import Derived.Maps.RangeWalk
import Derived.Maps.OwnRows
namespace Go.Proofs.YtoljmleomkkchaaDoor
set_option maxRecDepth 100000
open Go.RowKit Go.Shelf
open Go.WideShapes

theorem keyedInt : Maps.Keyed Tryd.prog 3 := Maps.int_keyed Tryd.underlying3

/-- Block b is a map of at most m entries; it holds what f says. -/
def IM (q : IntKind) (te : TypeId) (w : World) (b m : Nat) (f : Int → Option Int) : Prop :=
  ∃ D : DataW Unit, w.ownsMap Tryd.prog 3 (plainElem Tryd.prog te) b m D ∧ ∀ a : Int, (Lit.int .i64 a).wf = true →
    Maps.has D (.int .i64 a) = (f a).isSome ∧ ∀ c, f a = some c → ∀ z, D.atKey (.int .i64 a) z = .lit (.int q c)

section
variable {q : IntKind} {te : TypeId} {w w' : World} {b m : Nat} {f : Int → Option Int}

theorem IM.lt (h : IM q te w b m f) : b < w.heap.size := by
  obtain ⟨D, hD, _⟩ := h
  exact hD.lt

theorem IM.made (q : IntKind) (te : TypeId) (w : World) : IM q te (w.alloc (.map #[] 0)) w.heap.size 0 fun _ => none :=
  ⟨_, World.ownsMap_made w Tryd.prog 3 _, fun a _ => ⟨rfl, fun c h => by cases h⟩⟩

theorem IM.kept (h : IM q te w b m f) {row : Option Nat} (hg : w.grownBy w' row) (hne : some b ≠ row) : IM q te w' b m f := by
  obtain ⟨D, hD, hf⟩ := h
  exact ⟨D, hD.kept hg hne, hf⟩

theorem IM.block (h : IM q te w b m f) (hb : w'.heap[b]? = w.heap[b]?) : IM q te w' b m f := by
  obtain ⟨D, ⟨es, clock, h1, h2⟩, hf⟩ := h
  exact ⟨D, ⟨es, clock, hb.trans h1, h2⟩, hf⟩

theorem IM.mono (h : IM q te w b m f) {m' : Nat} (hm : m ≤ m') : IM q te w b m' f := by
  obtain ⟨D, hD, hf⟩ := h
  exact ⟨D, hD.mono hm, hf⟩

/-- Reading at a key. -/
theorem IM.look (h : IM q te w b m f) {t : TypeId} (ht : Tryd.prog.underlying t = some (.map 3 te)) (he : Tryd.prog.underlying te = some (.int q)) (hz : (zeroValue te).run Tryd.prog w = .ok (.int q 0) w) (a : Int) (ha : (Lit.int .i64 a).wf = true) :
    (Instr.lookup t (.map (some b)) (.int .i64 a) false).run Tryd.prog w = .ok (.int q ((f a).getD 0)) w := by
  obtain ⟨D, hD, hf⟩ := h
  obtain ⟨c, hrun, hat, _⟩ := hD.lookup_int keyedInt ht he hz (Maps.keyOf_int_mk Tryd.underlying3 ha)
  rw [hrun]
  obtain ⟨h1, h2⟩ := hf a ha
  cases hfa : f a with
  | some c' =>
    rw [h2 c' hfa] at hat
    injection hat with hat
    injection hat with _ hat
    rw [hat]
    rfl
  | none =>
    rw [hfa] at h1
    rw [Maps.atKey_of_not_has (by simpa using h1)] at hat
    injection hat with hat
    injection hat with _ hat
    rw [← hat]
    rfl

def putAt (f : Int → Option Int) (a c : Int) : Int → Option Int := fun x => if x = a then some c else f x
def dropAt (f : Int → Option Int) (a : Int) : Int → Option Int := fun x => if x = a then none else f x

theorem lit_ne {a x : Int} (h : ¬ x = a) : (Lit.int .i64 x) ≠ .int .i64 a := by
  intro e
  injection e with _ e
  exact h e

/-- Writing at a key. -/
theorem IM.put (h : IM q te w b m f) {t : TypeId} (ht : Tryd.prog.underlying t = some (.map 3 te)) (he : Tryd.prog.underlying te = some (.int q)) (hm : m < maxLen) (a c : Int) (ha : (Lit.int .i64 a).wf = true) (hc : (Lit.int q c).wf = true) :
    ∃ w', (Instr.mapUpdate t (.map (some b)) (.int .i64 a) (.int q c)).run Tryd.prog w = .ok () w' ∧ IM q te w' b (m + 1) (putAt f a c) ∧ w.grownBy w' (some b) := by
  obtain ⟨D, hD, hf⟩ := h
  obtain ⟨w', hrun, hD', hg⟩ := hD.update keyedInt ht hm (Maps.keyOf_int_mk Tryd.underlying3 ha) (plainElem_int he hc)
  refine ⟨w', hrun, ⟨_, hD', fun x hx => ?_⟩, hg⟩
  have hk := keyedInt.key (Maps.keyOf_int_mk Tryd.underlying3 ha)
  by_cases e : x = a
  · subst e
    refine ⟨?_, fun c' hc' z => ?_⟩
    · rw [Maps.has_put_same hD.isMap hk]
      simp [putAt]
    · simp only [putAt, if_true, Option.some.injEq] at hc'
      rw [Maps.atKey_put_same hD.isMap hk, hc']
  · obtain ⟨h1, h2⟩ := hf x hx
    refine ⟨?_, fun c' hc' z => ?_⟩
    · rw [Maps.has_put_other (lit_ne e), h1]
      simp [putAt, e]
    · simp only [putAt, if_neg e] at hc'
      rw [Maps.atKey_put_other (lit_ne e)]
      exact h2 c' hc' z

/-- Deleting a key. -/
theorem IM.del (h : IM q te w b m f) {t : TypeId} (ht : Tryd.prog.underlying t = some (.map 3 te)) (ty : TypeId) (a : Int) (ha : (Lit.int .i64 a).wf = true) :
    ∃ w', (Builtin.delete_ #[t, 3] ty #[.map (some b), .int .i64 a]).run Tryd.prog w = .ok (.tuple #[]) w' ∧ IM q te w' b m (dropAt f a) ∧ w.grownBy w' (some b) := by
  obtain ⟨D, hD, hf⟩ := h
  obtain ⟨w', hrun, hD', hg⟩ := hD.drop keyedInt ht (Maps.keyOf_int_mk Tryd.underlying3 ha) ty
  refine ⟨w', hrun, ⟨_, hD', fun x hx => ?_⟩, hg.grown⟩
  by_cases e : x = a
  · subst e
    refine ⟨?_, fun c' hc' z => ?_⟩
    · rw [Maps.has_del_same]
      simp [dropAt]
    · simp [dropAt] at hc'
  · obtain ⟨h1, h2⟩ := hf x hx
    refine ⟨?_, fun c' hc' z => ?_⟩
    · rw [Maps.has_del_other (lit_ne e), h1]
      simp [dropAt, e]
    · simp only [dropAt, if_neg e] at hc'
      rw [Maps.atKey_del_other (lit_ne e)]
      exact h2 c' hc' z
end
end Go.Proofs.YtoljmleomkkchaaDoor
