/-
  The reference's ScriptEncode.
-/
import Derived.Test.YtlikbmbcjipolaaDoorRScA
import Derived.Test.YtlikbmbcjipolaaDoorScE
import Derived.Test.YtlikbmbcjipolaaDoorORowI
import Derived.MapKept
import Derived.Carry
namespace Go.Proofs.YtlikbmbcjipolaaDoor
set_option maxRecDepth 100000
open Go.RowKit Go.Sort
set_option linter.unusedVariables false
set_option linter.unusedSimpArgs false

/-- What a script is told to be as bytes, by the reference. -/
def RToldBytes (k n r : Int) (l : List (Int × Bool)) (w : World) (e : Ending) (w' : World) : Prop := Below w.heap.size w w' ∧
  ((e = .returned (.tuple #[strV (bytesOf k n r l), .int .i64 0]) ∧ rightSc k n r l) ∨ (e = .returned (.tuple #[strV [], .int .i64 1]) ∧ ¬ rightSc k n r l))
def addOf (p : Bool) : Int := if p then 224 else 0
def numOf (v : Int × Bool) : Int := v.1 + addOf v.2
def numsOf (k n r : Int) (l : List (Int × Bool)) : List Int := [k - 1, n - 1, r] ++ l.map numOf
theorem nums_bytes {k n r : Int} {l : List (Int × Bool)} (h : rightSc k n r l) : bytesOf k n r l = (numsOf k n r l).map (fun z => UInt8.ofNat z.toNat) ∧ ∀ z ∈ numsOf k n r l, 0 ≤ z ∧ z < 256 := by
  obtain ⟨h1, h2, h3, h4, h5, h6, h7⟩ := h
  refine ⟨?_, fun z hz => ?_⟩
  · unfold bytesOf numsOf headOf
    rw [List.map_append, List.map_map]
    refine congrArg (_ ++ ·) (List.map_congr_left fun v hv => ?_)
    have := h7 v hv
    show byteOf v = UInt8.ofNat (numOf v).toNat
    unfold byteOf numOf addOf
    refine congrArg _ ?_
    split <;> omega
  · rcases List.mem_append.1 hz with hz | hz
    · simp only [List.mem_cons, List.not_mem_nil, or_false] at hz
      rcases hz with rfl | rfl | rfl <;> omega
    · obtain ⟨v, hv, rfl⟩ := List.mem_map.1 hz
      have := h7 v hv
      unfold numOf addOf
      split <;> omega
theorem nums_take (k n r : Int) (l : List (Int × Bool)) (i : Nat) (h : i < l.length) : numsOf k n r (l.take (i + 1)) = numsOf k n r (l.take i) ++ [(l.getD i default).1 + addOf (l.getD i default).2] := by
  unfold numsOf
  rw [List.take_succ_eq_append_getElem h, List.map_append, getM h, List.append_assoc]; rfl
theorem numsOf_len (k n r : Int) (l : List (Int × Bool)) : (numsOf k n r l).length = 3 + l.length := by unfold numsOf; simp; omega
theorem rsc_cat (a b : List UInt8) : (⟨a.toArray⟩ : ByteArray) ++ ⟨b.toArray⟩ = ⟨(a ++ b).toArray⟩ := by
  apply ByteArray.ext
  rw [ByteArray.data_append]
  simp
theorem RowB.keep {w wr wd : World} {A : Option Addr} {n c : Nat} {l : List Int} (h : RowB w A n c l wr) (hb : Below wr.heap.size wr wd) : RowB w A n c l wd :=
  ⟨h.len, h.own.kept (grown_of_below hb) (Classical.em _), h.bel.trans (hb.mono h.bel.size)⟩
/-- The two entries of the literal. -/
theorem lit_map (w : World) : ∃ wb wc wd, (Instr.makeMap 46 none).run Tryd.prog w = .ok (.map (some w.heap.size)) wb ∧
    (Instr.mapUpdate 46 (.map (some w.heap.size)) (.bool true) (.int .i64 224)).run Tryd.prog wb = .ok () wc ∧
    (Instr.mapUpdate 46 (.map (some w.heap.size)) (.bool false) (.int .i64 0)).run Tryd.prog wc = .ok () wd ∧
    (∀ p : Bool, (Instr.lookup 46 (.map (some w.heap.size)) (.bool p) false).run Tryd.prog wd = .ok (.int .i64 (addOf p)) wd) ∧ Below w.heap.size w wd := by
  have hb0 : (w.alloc (.map #[] 0)).heap[w.heap.size]? = some (.map #[] 0) := heap_alloc_new w _
  have hk : ∀ b, MapKept.IsKey .bool (.bool b) := fun b => by simp [MapKept.IsKey]
  have hc : ∀ (b : Bool) (v : World), (Instr.checkKey false 10000 4 (.bool b)).run Tryd.prog v = .ok () v := fun b v => MapKept.run_checkKey (d := .bool) Tryd.underlying4 (hk b) false 9999
  obtain ⟨wb, hwb⟩ : ∃ wb, w.alloc (.map #[] 0) = wb := ⟨_, rfl⟩
  rw [hwb] at hb0
  have hbel : Below w.heap.size w wb := by rw [← hwb]; exact (Below.refl w.heap.size w).alloc (Nat.le_refl _) _
  have h1 : (Instr.mapUpdate 46 (.map (some w.heap.size)) (.bool true) (.int .i64 224)).run Tryd.prog wb = .ok () { wb with heap := wb.heap.setIfInBounds w.heap.size (.map #[{ key := .bool true, val := .int .i64 224, born := 0 }] 1) } := by
    have hf : Instr.findNow .bool (.bool true) ([] : List MapEntry) 0 = some none := rfl
    simp [Instr.mapUpdate, run_underlying Tryd.underlying46, MapKept.run_getObj_map hb0, hc, MapKept.run_findKey Tryd.underlying4 hf, MapKept.run_setObj_map _ hb0, Result.andThen]
  obtain ⟨wc, hwc⟩ : ∃ wc : World, { wb with heap := wb.heap.setIfInBounds w.heap.size (.map #[{ key := .bool true, val := .int .i64 224, born := 0 }] 1) } = wc := ⟨_, rfl⟩
  have hs1 := MapKept.heap_set (o' := .map #[{ key := .bool true, val := .int .i64 224, born := 0 }] 1) hb0
  have hb1 : wc.heap[w.heap.size]? = some (.map #[{ key := .bool true, val := .int .i64 224, born := 0 }] 1) := by rw [← hwc]; exact hs1.1
  have hbel1 : Below w.heap.size w wc := by
    refine ⟨by rw [← hwc]; exact hbel.os, by rw [← hwc]; exact hbel.tape, by rw [← hwc]; exact hbel.output, by rw [← hwc]; simpa using hbel.size, fun j hj => ?_⟩
    rw [← hwc]
    exact (hs1.2 j (by omega)).trans (hbel.block j hj)
  rw [hwc] at h1
  have h2 : (Instr.mapUpdate 46 (.map (some w.heap.size)) (.bool false) (.int .i64 0)).run Tryd.prog wc = .ok () { wc with heap := wc.heap.setIfInBounds w.heap.size (.map #[{ key := .bool true, val := .int .i64 224, born := 0 }, { key := .bool false, val := .int .i64 0, born := 1 }] 2) } := by
    have hf : Instr.findNow .bool (.bool false) [{ key := .bool true, val := .int .i64 224, born := 0 }] 0 = some none := rfl
    simp [Instr.mapUpdate, run_underlying Tryd.underlying46, MapKept.run_getObj_map hb1, hc, MapKept.run_findKey Tryd.underlying4 hf, MapKept.run_setObj_map _ hb1, Result.andThen]
  obtain ⟨wd, hwd⟩ : ∃ wd : World, { wc with heap := wc.heap.setIfInBounds w.heap.size (.map #[{ key := .bool true, val := .int .i64 224, born := 0 }, { key := .bool false, val := .int .i64 0, born := 1 }] 2) } = wd := ⟨_, rfl⟩
  have hs2 := MapKept.heap_set (o' := .map #[{ key := .bool true, val := .int .i64 224, born := 0 }, { key := .bool false, val := .int .i64 0, born := 1 }] 2) hb1
  have hb2 : wd.heap[w.heap.size]? = some (.map #[{ key := .bool true, val := .int .i64 224, born := 0 }, { key := .bool false, val := .int .i64 0, born := 1 }] 2) := by rw [← hwd]; exact hs2.1
  have hbel2 : Below w.heap.size w wd := by
    refine ⟨by rw [← hwd]; exact hbel1.os, by rw [← hwd]; exact hbel1.tape, by rw [← hwd]; exact hbel1.output, by rw [← hwd]; simpa using hbel1.size, fun j hj => ?_⟩
    rw [← hwd]
    exact (hs2.2 j (by omega)).trans (hbel1.block j hj)
  rw [hwd] at h2
  refine ⟨wb, wc, wd, by rw [← hwb]; rfl, h1, h2, fun p => ?_, hbel2⟩
  have hf : Instr.findNow .bool (.bool p) [{ key := .bool true, val := .int .i64 224, born := 0 }, { key := .bool false, val := .int .i64 0, born := 1 }] 0 = some (some (if p then 0 else 1, .int .i64 (addOf p))) := by cases p <;> rfl
  simp [Instr.lookup, run_underlying Tryd.underlying46, MapKept.run_getObj_map hb2, hc, MapKept.run_findKey Tryd.underlying4 hf, Result.andThen]
end Go.Proofs.YtlikbmbcjipolaaDoor
