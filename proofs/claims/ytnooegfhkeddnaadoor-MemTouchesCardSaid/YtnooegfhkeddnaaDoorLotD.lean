/-
  Lots: stores of many cells; slices.Delete of one sleeper; waking one for nothing (Poke).
-/
import Derived.Test.YtnooegfhkeddnaaDoorLotC
import Derived.Deep.RegionLaw
namespace Go.Proofs.YtnooegfhkeddnaaDoor
set_option maxRecDepth 100000
open Go.RowKit Go.Shelf

/-- An array with the values vs from place o on. -/
def laid : Array Value → Nat → List Value → Array Value
  | cur, _, [] => cur
  | cur, o, v :: r => laid (cur.setIfInBounds o v) (o + 1) r

theorem laid_size (cur : Array Value) (o : Nat) (vs : List Value) : (laid cur o vs).size = cur.size := by
  induction vs generalizing cur o with
  | nil => rfl
  | cons v r ih => rw [laid, ih, Array.size_setIfInBounds]

theorem laid_at (cur : Array Value) (o : Nat) (vs : List Value) (i : Nat) (hfit : o + vs.length ≤ cur.size) : (laid cur o vs)[i]? = if o ≤ i ∧ i < o + vs.length then vs[i - o]? else cur[i]? := by
  induction vs generalizing cur o with
  | nil =>
    rw [laid, if_neg (by simp)]
  | cons v r ih =>
    simp only [List.length_cons] at hfit
    rw [laid, ih _ _ (by rw [Array.size_setIfInBounds]; omega), Array.getElem?_setIfInBounds]
    simp only [List.length_cons]
    by_cases h1 : o + 1 ≤ i ∧ i < o + 1 + r.length
    · rw [if_pos h1, if_pos (by omega), show i - o = (i - (o + 1)) + 1 from by omega, List.getElem?_cons_succ]
    · rw [if_neg h1]
      by_cases h2 : o = i
      · subst h2
        rw [if_pos rfl, if_pos (by omega), if_pos (by omega), Nat.sub_self]
        rfl
      · rw [if_neg h2, if_neg (by omega)]

theorem heap_setCells (g : Nat) (t : TypeId) (vs : List Value) : ∀ (o : Nat) (w : World) (cur : Array Value), w.heap[g]? = some (.cells cur t (0, 0)) →
    (w.setCells g o vs).heap[g]? = some (.cells (laid cur o vs) t (0, 0)) ∧ w.grownBy (w.setCells g o vs) (some g) := by
  induction vs with
  | nil => intro o w cur h; exact ⟨h, World.grownBy.refl w _⟩
  | cons v r ih =>
    intro o w cur h
    obtain ⟨h1, h2⟩ := ih (o + 1) (w.setCell ⟨g, o, none⟩ v) (cur.setIfInBounds o v) (heap_setCell_same w g o cur t v h)
    have h0 : w.grownBy (w.setCell ⟨g, o, none⟩ v) (some g) := ⟨rfl, rfl, rfl, by simp, fun k _ hk => heap_setCell_other w ⟨g, o, none⟩ k v (fun e => hk (by simp [e]))⟩
    exact ⟨h1, h0.andThen h2 (fun j hj => .inr hj)⟩

theorem toList_take_ext {a : Array Value} {xs : List Value} {n : Nat} (hn : xs.length = n) (h : ∀ i, i < n → a[i]? = xs[i]?) : a.toList.take n = xs := by
  apply List.ext_getElem?
  intro i
  rw [List.getElem?_take]
  by_cases hi : i < n
  · rw [if_pos hi, Array.getElem?_toList]
    exact h i hi
  · rw [if_neg hi, List.getElem?_eq_none (by omega)]

/-- The parts of a row that owns sleepers. -/
theorem own_parts {w : World} {B g cap : Nat} {l : List (Int × Int)} (h : w.ownsRow B 87 2 (.slice (some ⟨g, 0, none⟩) l.length cap) l.length (cells2 l)) :
    ∃ cur, w.heap[g]? = some (.cells cur 87 (0, 0)) ∧ B ≤ g ∧ l.length ≤ cap ∧ cap ≤ maxLen ∧ cur.size = cap * 2 ∧ ∀ i, i < l.length * 2 → cur[i]? = (cells2 l)[i]? := by
  rcases h.2 with ⟨e, _⟩ | ⟨g', cap', cur, e, hb, hh, h1, h2, h3, h4⟩
  · simp at e
  · simp only [Value.slice.injEq, Option.some.injEq, Addr.mk.injEq, and_true, true_and] at e
    obtain ⟨rfl, rfl⟩ := e
    refine ⟨cur, hh, hb, h1, h2, h3, fun i hi => ?_⟩
    rw [← h4, List.getElem?_take, if_pos hi, Array.getElem?_toList]

theorem own_of_parts {w : World} {B g cap n : Nat} {cur : Array Value} {l : List (Int × Int)} (hn : l.length = n) (hh : w.heap[g]? = some (.cells cur 87 (0, 0))) (hb : B ≤ g) (h1 : l.length ≤ cap) (h2 : cap ≤ maxLen) (h3 : cur.size = cap * 2) (h : ∀ i, i < l.length * 2 → cur[i]? = (cells2 l)[i]?) :
    w.ownsRow B 87 2 (.slice (some ⟨g, 0, none⟩) n cap) l.length (cells2 l) := by
  subst hn
  exact ⟨cells2_length l, .inr ⟨g, cap, cur, rfl, hb, hh, h1, h2, h3, toList_take_ext (cells2_length l) h⟩⟩

/-- 'clear' on a slice of sleepers. -/
theorem run_clear2 (w : World) (ty : TypeId) (b o n c : Nat) (hc : ∀ j, j < n * 2 → (w.cell? ⟨b, o + j, none⟩).isSome = true) (hf : ∀ j, j < n * 2 → w.frozen? ⟨b, o + j, none⟩ = false) :
    (Builtin.clear_ #[80] ty #[.slice (some ⟨b, o, none⟩) n c]).run Tryd.prog w = .ok (.tuple #[]) (w.setCells b o (Builtin.zeroCells #[.int .i64 0, .int .i64 0] n).toList) := by
  have hz : ∀ w, (zeroValue 87).run Tryd.prog w = .ok (.agg #[.int .i64 0, .int .i64 0]) w := fun w => by kernel_rfl
  have hl : (Builtin.zeroCells #[Value.int .i64 0, .int .i64 0] n).toList.length = n * 2 := by simp [Builtin.zeroCells]
  have h1 : ∀ v ∈ (Builtin.zeroCells #[Value.int .i64 0, .int .i64 0] n).toList, v.oneCell' = true := by
    intro v hv
    simp [Builtin.zeroCells] at hv
    obtain ⟨i, _, rfl⟩ := hv
    rcases Nat.mod_two_eq_zero_or_one i with e | e <;> simp [e] <;> rfl
  rcases n with _ | m
  · simp [Builtin.clear_, run_underlying Tryd.underlying80, Builtin.zeroCells, World.setCells]
  · have hst := run_storeCells_cells (P := Tryd.prog) b o _ 0 w (by rw [hl]; simpa using hc) (by rw [hl]; simpa using hf) h1
    simp only [Nat.add_zero] at hst
    simp [Builtin.clear_, run_underlying Tryd.underlying80, hz, Value.cells, hst]
end Go.Proofs.YtnooegfhkeddnaaDoor
