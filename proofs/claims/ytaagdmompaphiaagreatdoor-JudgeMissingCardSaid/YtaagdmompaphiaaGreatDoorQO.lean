/-
  Maps from int to integers, as functions. WHAT MAY BE SAID MAY BE CUT OFF. Check, where it is known whether it is right. A row of the call's own events that grows. slices.Clone at rows of events. slices.Delete of one event. A drawn region, operation by operation, by the library's laws of what is held: with the slot that is written named.
-/
import Derived.Test.YtaagdmompaphiaaGreatDoorQA
import Derived.Maps.RangeWalk
import Derived.Maps.OwnRows
import Derived.Test.YtaagdmompaphiaaGreatDoorQM2
import Derived.Test.YtaagdmompaphiaaGreatDoorQE2
import Derived.Test.YtaagdmompaphiaaGreatDoorQJ2
import Derived.OrdersHeld
import Derived.Deep.RegionHeld
namespace Go.Proofs.YtaagdmompaphiaaGreatDoor
set_option maxRecDepth 100000
open Go.RowKit Go.Shelf
open Go.WideShapes

theorem keyedInt : Maps.Keyed Tryz.prog 3 := Maps.int_keyed Tryz.underlying3

/-- Block b is a map of at most m entries; it holds what f says. -/
def IM (q : IntKind) (te : TypeId) (w : World) (b m : Nat) (f : Int → Option Int) : Prop :=
  ∃ D : DataW Unit, w.ownsMap Tryz.prog 3 (plainElem Tryz.prog te) b m D ∧ ∀ a : Int, (Lit.int .i64 a).wf = true →
    Maps.has D (.int .i64 a) = (f a).isSome ∧ ∀ c, f a = some c → ∀ z, D.atKey (.int .i64 a) z = .lit (.int q c)

section
variable {q : IntKind} {te : TypeId} {w w' : World} {b m : Nat} {f : Int → Option Int}

theorem IM.lt (h : IM q te w b m f) : b < w.heap.size := by
  obtain ⟨D, hD, _⟩ := h
  exact hD.lt

theorem IM.made (q : IntKind) (te : TypeId) (w : World) : IM q te (w.alloc (.map #[] 0)) w.heap.size 0 fun _ => none :=
  ⟨_, World.ownsMap_made w Tryz.prog 3 _, fun a _ => ⟨rfl, fun c h => by cases h⟩⟩

theorem IM.kept (h : IM q te w b m f) {row : Option Nat} (hg : w.grownBy w' row) (hne : some b ≠ row) : IM q te w' b m f := by
  obtain ⟨D, hD, hf⟩ := h
  exact ⟨D, hD.kept hg hne, hf⟩

theorem IM.block (h : IM q te w b m f) (hb : w'.heap[b]? = w.heap[b]?) : IM q te w' b m f := by
  obtain ⟨D, ⟨es, clock, h1, h2⟩, hf⟩ := h
  exact ⟨D, ⟨es, clock, hb.trans h1, h2⟩, hf⟩

theorem IM.mono (h : IM q te w b m f) {m' : Nat} (hm : m ≤ m') : IM q te w b m' f := by
  obtain ⟨D, hD, hf⟩ := h
  exact ⟨D, hD.mono hm, hf⟩

/-- Reading at a key. -/
theorem IM.look (h : IM q te w b m f) {t : TypeId} (ht : Tryz.prog.underlying t = some (.map 3 te)) (he : Tryz.prog.underlying te = some (.int q)) (hz : (zeroValue te).run Tryz.prog w = .ok (.int q 0) w) (a : Int) (ha : (Lit.int .i64 a).wf = true) :
    (Instr.lookup t (.map (some b)) (.int .i64 a) false).run Tryz.prog w = .ok (.int q ((f a).getD 0)) w := by
  obtain ⟨D, hD, hf⟩ := h
  obtain ⟨c, hrun, hat, _⟩ := hD.lookup_int keyedInt ht he hz (Maps.keyOf_int_mk Tryz.underlying3 ha)
  rw [hrun]
  obtain ⟨h1, h2⟩ := hf a ha
  cases hfa : f a with
  | some c' =>
    rw [h2 c' hfa] at hat
    injection hat with hat
    injection hat with _ hat
    rw [hat]
    rfl
  | none =>
    rw [hfa] at h1
    rw [Maps.atKey_of_not_has (by simpa using h1)] at hat
    injection hat with hat
    injection hat with _ hat
    rw [← hat]
    rfl

def putAt (f : Int → Option Int) (a c : Int) : Int → Option Int := fun x => if x = a then some c else f x
theorem lit_ne {a x : Int} (h : ¬ x = a) : (Lit.int .i64 x) ≠ .int .i64 a := by
  intro e
  injection e with _ e
  exact h e

/-- Writing at a key. -/
theorem IM.put (h : IM q te w b m f) {t : TypeId} (ht : Tryz.prog.underlying t = some (.map 3 te)) (he : Tryz.prog.underlying te = some (.int q)) (hm : m < maxLen) (a c : Int) (ha : (Lit.int .i64 a).wf = true) (hc : (Lit.int q c).wf = true) :
    ∃ w', (Instr.mapUpdate t (.map (some b)) (.int .i64 a) (.int q c)).run Tryz.prog w = .ok () w' ∧ IM q te w' b (m + 1) (putAt f a c) ∧ w.grownBy w' (some b) := by
  obtain ⟨D, hD, hf⟩ := h
  obtain ⟨w', hrun, hD', hg⟩ := hD.update keyedInt ht hm (Maps.keyOf_int_mk Tryz.underlying3 ha) (plainElem_int he hc)
  refine ⟨w', hrun, ⟨_, hD', fun x hx => ?_⟩, hg⟩
  have hk := keyedInt.key (Maps.keyOf_int_mk Tryz.underlying3 ha)
  by_cases e : x = a
  · subst e
    refine ⟨?_, fun c' hc' z => ?_⟩
    · rw [Maps.has_put_same hD.isMap hk]
      simp [putAt]
    · simp only [putAt, if_true, Option.some.injEq] at hc'
      rw [Maps.atKey_put_same hD.isMap hk, hc']
  · obtain ⟨h1, h2⟩ := hf x hx
    refine ⟨?_, fun c' hc' z => ?_⟩
    · rw [Maps.has_put_other (lit_ne e), h1]
      simp [putAt, e]
    · simp only [putAt, if_neg e] at hc'
      rw [Maps.atKey_put_other (lit_ne e)]
      exact h2 c' hc' z

end
end Go.Proofs.YtaagdmompaphiaaGreatDoor

namespace Go.Proofs.YtaagdmompaphiaaGreatDoor
set_option maxRecDepth 100000
open Go.RowKit
set_option linter.unusedVariables false
set_option linter.unusedSimpArgs false

end Go.Proofs.YtaagdmompaphiaaGreatDoor

namespace Go.Proofs.YtaagdmompaphiaaGreatDoor
set_option maxRecDepth 100000
open Go.RowKit
set_option linter.unusedVariables false
set_option linter.unusedSimpArgs false

theorem infoEv : (Tryz.prog.info? 53).map (fun i => (i.zero, i.size, i.bytes)) = some (some (.agg #[.int .i64 0, .int .i64 0, .int .i64 0, .int .i64 0]), 4, 32) := by kernel_rfl
/-- A row of the call's own events, so far. -/
structure RowE (w : World) (A : Option Addr) (n c : Nat) (l : List Ev4) (wr : World) : Prop where
  len : l.length = n
  own : wr.ownsRow w.heap.size 53 4 (.slice A n c) n (cellsE l)
  bel : Below w.heap.size w wr
theorem RowE.nil (w : World) : RowE w none 0 0 [] w := ⟨rfl, World.ownsRow_nil _ _ _ _, Below.refl _ _⟩
theorem RowE.alloc {w wr : World} {A : Option Addr} {n c : Nat} {l : List Ev4} (h : RowE w A n c l wr) (o : Obj) : RowE w A n c l (wr.alloc o) := ⟨h.len, h.own.alloc o, h.bel.alloc h.bel.size o⟩
theorem RowE.one {w wr : World} {A : Option Addr} {n c : Nat} {l : List Ev4} (h : RowE w A n c l wr) (x : Ev4) (hn : n ≤ 100000) :
    ∃ A' c' w', (Builtin.append_ #[49, 49] 49 #[.slice A n c, .slice (some ⟨wr.heap.size, 0, none⟩) 1 1]).run Tryz.prog (wr.alloc (.cells #[.int .i64 x.1, .int .i64 x.2.1, .int .i64 x.2.2.1, .int .i64 x.2.2.2] 53)) = .ok (.slice A' (n + 1) c') w' ∧ RowE w A' (n + 1) c' (l ++ [x]) w' := by
  obtain ⟨i0, hi, hz0, hz1, hz2⟩ := info_parts infoEv
  have hb := h.bel.alloc h.bel.size (.cells #[.int .i64 x.1, .int .i64 x.2.1, .int .i64 x.2.2.1, .int .i64 x.2.2.2] 53)
  have hat := heap_alloc_new wr (.cells #[.int .i64 x.1, .int .i64 x.2.1, .int .i64 x.2.2.1, .int .i64 x.2.2.2] 53)
  have hnews := World.news_of_block (cs := #[.int .i64 x.1, .int .i64 x.2.1, .int .i64 x.2.2.1, .int .i64 x.2.2.2]) hat
  obtain ⟨v', w', hr, ho, hg, _⟩ := run_append_own (P := Tryz.prog) (wr.alloc (.cells #[.int .i64 x.1, .int .i64 x.2.1, .int .i64 x.2.2.1, .int .i64 x.2.2.2] 53)) w.heap.size 49 49 53 i0 (.agg #[.int .i64 0, .int .i64 0, .int .i64 0, .int .i64 0]) 4 32 Tryz.underlying49 hi hz0 hz1 hz2 rfl (by decide) (.slice A n c) n _ (h.own.alloc _) ⟨wr.heap.size, 0, none⟩ 1 1 (evC x) rfl (by simpa [evC] using hnews) (by intro u hu; simp [evC] at hu; rcases hu with rfl | rfl | rfl | rfl <;> rfl) (by unfold maxLen; omega) (by omega) hb.size
  obtain ⟨A', c', rfl⟩ : ∃ A' c', v' = .slice A' (n + 1) c' := by
    rcases ho.2 with ⟨rfl, e⟩ | ⟨g, cap, cur, rfl, _⟩
    · exact ⟨none, 0, by rw [e]⟩
    · exact ⟨_, _, rfl⟩
  exact ⟨A', c', w', hr, by rw [List.length_append, h.len]; rfl, by rw [cellsE_append, cellsE_one]; exact ho, hb.grown hg hb.size (fun k hk => (h.own.lt k hk).1)⟩
end Go.Proofs.YtaagdmompaphiaaGreatDoor

namespace Go.Proofs.YtaagdmompaphiaaGreatDoor
set_option maxRecDepth 100000
open Go.RowKit
set_option linter.unusedVariables false
set_option linter.unusedSimpArgs false

theorem news_of_events {w : World} {ad : Addr} {n : Nat} {l : List Ev4} (h : EvRow w (some ad) n l) (hl : l.length = n) : ∀ j u, (cellsE l)[j]? = some u → w.cell? (ad.add j) = some u := by
  intro j u hu
  have hj : j < (cellsE l).length := (List.getElem?_eq_some_iff.1 hu).1
  rw [cellsE_len] at hj
  obtain ⟨b, off, e, c0, c1, c2, c3⟩ := h (j / 4) (by omega)
  obtain rfl : ad = ⟨b, off, none⟩ := by injection e
  have ha : (⟨b, off, none⟩ : Addr).add j = ⟨b, off + j, none⟩ := by unfold Addr.add; split <;> simp_all
  rw [ha]
  have hat := fun q (hq : q < 4) => cellsE_at l (j / 4) q (by omega) hq
  have hr : j % 4 = 0 ∨ j % 4 = 1 ∨ j % 4 = 2 ∨ j % 4 = 3 := by omega
  rcases hr with hr | hr | hr | hr
  · have := hat 0 (by decide)
    rw [show j / 4 * 4 + 0 = j by omega, hu] at this
    rw [show off + j = off + j / 4 * 4 by omega, c0, this]; rfl
  · have := hat 1 (by decide)
    rw [show j / 4 * 4 + 1 = j by omega, hu] at this
    rw [show off + j = off + j / 4 * 4 + 1 by omega, c1, this]; rfl
  · have := hat 2 (by decide)
    rw [show j / 4 * 4 + 2 = j by omega, hu] at this
    rw [show off + j = off + j / 4 * 4 + 2 by omega, c2, this]; rfl
  · have := hat 3 (by decide)
    rw [show j / 4 * 4 + 3 = j by omega, hu] at this
    rw [show off + j = off + j / 4 * 4 + 3 by omega, c3, this]; rfl
theorem oneCellEv {l : List Ev4} : ∀ u ∈ cellsE l, u.oneCell' = true := by
  intro u hu
  unfold cellsE at hu
  obtain ⟨x, _, hx⟩ := List.mem_flatMap.1 hu
  simp [evC] at hx
  rcases hx with rfl | rfl | rfl | rfl <;> rfl
set_option maxHeartbeats 1000000 in
theorem cloneEv_any {w : World} (ad : Addr) (n c : Nat) (l : List Ev4) (h : EvRow w (some ad) n l) (hl : l.length = n) (hn : n ≤ 20000) :
    Calls Tryz.prog 23 #[.slice (some ad) n c] w fun e w' => ∃ v', e = .returned v' ∧ w'.ownsRow w.heap.size 53 4 v' n (cellsE l) ∧ w.grownBy w' none := by
  have hq := fun (w : World) => Lib.run_eql_slice_nil (P := Tryz.prog) w 49 53 (some ad) n c 0 0 Tryz.underlying49
  have hnews := news_of_events h hl
  obtain ⟨i0, hi, hz0, hz1, hz2⟩ := info_parts infoEv
  have H5 := Lib.hid (oneCellEv (l := l))
  have H2 := Lib.hid (show (cellsE l).length = n * 4 by rw [cellsE_len, hl])
  clear h
  go_enter Tryz.func23, Tryz.ntmps23
  have hown0 := World.ownsRow_made (base := w.heap.size) (e := 53) (size := 4) w #[] 0 (Nat.le_refl _) (by decide) rfl
  have hnews' : ∀ j u, (cellsE l)[j]? = some u → (w.alloc (.cells #[] 53)).cell? (ad.add j) = some u := fun j u hu => Lib.cell?_alloc_some _ (hnews j u hu)
  have H0 := Lib.hid hown0
  have H1 := Lib.hid hnews'
  clear hown0 hnews' hnews hl
  go_wp2_with (at_builtin; refine wpList_append_own _ rfl (.tmp 5) (.tmp 6) 49 rfl w.heap.size 53 i0 (Value.agg #[.int .i64 0, .int .i64 0, .int .i64 0, .int .i64 0]) 4 32 Tryz.underlying49 hi hz0 hz1 hz2 rfl (by decide) _ 0 [] rfl H0.out ad n c (cellsE l) rfl ?c1 H1.out ?c2 ?c3 ?c4 ?c5 ?_)
  case c1 => exact H2.out
  case c2 => exact H5.out
  case c3 => unfold maxLen; omega
  case c4 => omega
  case c5 => simp
  intro v' w1 hown1 hg1 _
  have hg := (World.grownBy_alloc w (.cells #[] 53) none).andThen hg1 (by intro j hj; simp only [Value.ownBlock, Option.some.injEq] at hj; omega)
  have H3 := Lib.hid hown1
  have H4 := Lib.hid hg1
  clear hown1 hg1 H0 H1
  go_wp2
  go_ret
  exact ⟨v', rfl, by simpa using H3.out, hg⟩
end Go.Proofs.YtaagdmompaphiaaGreatDoor

namespace Go.Proofs.YtaagdmompaphiaaGreatDoor
set_option maxRecDepth 100000
open Go.RowKit Go.Shelf
set_option linter.unusedVariables false
set_option linter.unusedSimpArgs false

theorem cellsE_drop (l : List Ev4) (k : Nat) : (cellsE l).drop (k * 4) = cellsE (l.drop k) := by
  have h := congrArg cellsE (List.take_append_drop k l)
  rw [cellsE_append] at h
  by_cases hk : k ≤ l.length
  · rw [← h, List.drop_append_of_le_length (by rw [cellsE_len, List.length_take, Nat.min_eq_left hk]; exact Nat.le_refl _), List.drop_eq_nil_of_le (by rw [cellsE_len, List.length_take, Nat.min_eq_left hk]; exact Nat.le_refl _)]
    rfl
  · rw [List.drop_eq_nil_of_le (by rw [cellsE_len]; omega), List.drop_eq_nil_of_le (by omega)]
    rfl
theorem cellsE_take (l : List Ev4) (k : Nat) : (cellsE l).take (k * 4) = cellsE (l.take k) := by
  have h := congrArg cellsE (List.take_append_drop k l)
  rw [cellsE_append] at h
  by_cases hk : k ≤ l.length
  · rw [← h, List.take_append_of_le_length (by rw [cellsE_len, List.length_take, Nat.min_eq_left hk]; exact Nat.le_refl _), List.take_of_length_le (by rw [cellsE_len, List.length_take, Nat.min_eq_left hk]; exact Nat.le_refl _)]
  · rw [List.take_of_length_le (by rw [cellsE_len]; omega), List.take_of_length_le (by omega)]
theorem oneEv (l : List Ev4) : ∀ u ∈ cellsE l, u.oneCell' = true := oneCellEv

/-- The parts of a row that owns sleepers. -/
theorem own_partsEv {w : World} {B g cap : Nat} {l : List Ev4} (h : w.ownsRow B 53 4 (.slice (some ⟨g, 0, none⟩) l.length cap) l.length (cellsE l)) :
    ∃ cur, w.heap[g]? = some (.cells cur 53 (0, 0)) ∧ B ≤ g ∧ l.length ≤ cap ∧ cap ≤ maxLen ∧ cur.size = cap * 4 ∧ ∀ i, i < l.length * 4 → cur[i]? = (cellsE l)[i]? := by
  rcases h.2 with ⟨e, _⟩ | ⟨g', cap', cur, e, hb, hh, h1, h2, h3, h4⟩
  · simp at e
  · simp only [Value.slice.injEq, Option.some.injEq, Addr.mk.injEq, and_true, true_and] at e
    obtain ⟨rfl, rfl⟩ := e
    refine ⟨cur, hh, hb, h1, h2, h3, fun i hi => ?_⟩
    rw [← h4, List.getElem?_take, if_pos hi, Array.getElem?_toList]

theorem own_of_partsEv {w : World} {B g cap n : Nat} {cur : Array Value} {l : List Ev4} (hn : l.length = n) (hh : w.heap[g]? = some (.cells cur 53 (0, 0))) (hb : B ≤ g) (h1 : l.length ≤ cap) (h2 : cap ≤ maxLen) (h3 : cur.size = cap * 4) (h : ∀ i, i < l.length * 4 → cur[i]? = (cellsE l)[i]?) :
    w.ownsRow B 53 4 (.slice (some ⟨g, 0, none⟩) n cap) l.length (cellsE l) := by
  subst hn
  exact ⟨cellsE_len l, .inr ⟨g, cap, cur, rfl, hb, hh, h1, h2, h3, toList_take_ext (cellsE_len l) h⟩⟩

/-- 'clear' on a slice of sleepers. -/
theorem run_clearEv (w : World) (ty : TypeId) (b o n c : Nat) (hc : ∀ j, j < n * 4 → (w.cell? ⟨b, o + j, none⟩).isSome = true) (hf : ∀ j, j < n * 4 → w.frozen? ⟨b, o + j, none⟩ = false) :
    (Builtin.clear_ #[49] ty #[.slice (some ⟨b, o, none⟩) n c]).run Tryz.prog w = .ok (.tuple #[]) (w.setCells b o (Builtin.zeroCells #[.int .i64 0, .int .i64 0, .int .i64 0, .int .i64 0] n).toList) := by
  have hz : ∀ w, (zeroValue 53).run Tryz.prog w = .ok (.agg #[.int .i64 0, .int .i64 0, .int .i64 0, .int .i64 0]) w := fun w => by kernel_rfl
  have hl : (Builtin.zeroCells #[Value.int .i64 0, .int .i64 0, .int .i64 0, .int .i64 0] n).toList.length = n * 4 := by simp [Builtin.zeroCells]
  have h1 : ∀ v ∈ (Builtin.zeroCells #[Value.int .i64 0, .int .i64 0, .int .i64 0, .int .i64 0] n).toList, v.oneCell' = true := by
    intro v hv
    simp [Builtin.zeroCells] at hv
    obtain ⟨i, _, rfl⟩ := hv
    have : i % 4 = 0 ∨ i % 4 = 1 ∨ i % 4 = 2 ∨ i % 4 = 3 := by omega
    rcases this with e | e | e | e <;> simp [e] <;> rfl
  rcases n with _ | m
  · simp [Builtin.clear_, run_underlying Tryz.underlying49, Builtin.zeroCells, World.setCells]
  · have hst := run_storeCells_cells (P := Tryz.prog) b o _ 0 w (by rw [hl]; simpa using hc) (by rw [hl]; simpa using hf) h1
    simp only [Nat.add_zero] at hst
    simp [Builtin.clear_, run_underlying Tryz.underlying49, hz, Value.cells, hst]
/-- What cutting a row to the sleepers r comes to. -/
def CutEv (B g cap : Nat) (r : List Ev4) (w : World) (e : Ending) (w' : World) : Prop :=
  e = .returned (.slice (some ⟨g, 0, none⟩) r.length cap) ∧ w'.ownsRow B 53 4 (.slice (some ⟨g, 0, none⟩) r.length cap) r.length (cellsE r) ∧ w.grownBy w' (some g)

set_option maxHeartbeats 1000000 in
theorem deleteEv_any {w : World} {B g cap : Nat} {l : List Ev4} (hown : w.ownsRow B 53 4 (.slice (some ⟨g, 0, none⟩) l.length cap) l.length (cellsE l)) (k : Nat) (hk : k < l.length) :
    Calls Tryz.prog 22 #[.slice (some ⟨g, 0, none⟩) l.length cap, .int .i64 k, .int .i64 ((k : Int) + 1)] w (CutEv B g cap (l.eraseIdx k) w) := by
  obtain ⟨cur, hh, hb, hlc, hcm, hcs, hat⟩ := own_partsEv hown
  obtain ⟨i0, hi, hz0, hz1, hz2⟩ := info_parts infoEv
  obtain ⟨n, hn⟩ : ∃ n, l.length = n := ⟨_, rfl⟩
  rw [hn] at hk hlc hat ⊢
  unfold maxLen at hcm
  have hkk : ((k : Int) == (k : Int) + 1) = false := by simp; omega
  have hkn : (k : Int) + 1 ≤ (n : Int) := by omega
  have hnc : (n : Int) ≤ (cap : Int) := by omega
  have HN := Lib.hid hn
  have HAT := Lib.hid hat
  have HH := Lib.hid hh
  obtain ⟨news, hnews⟩ : ∃ news, news = cellsE (l.drop (k + 1)) := ⟨_, rfl⟩
  have hnl : news.length = (n - (k + 1)) * 4 := by rw [hnews, cellsE_len, List.length_drop, hn]
  obtain ⟨A, hA, hsrc⟩ : ∃ A : Addr, (if cap = k + 1 then some (⟨g, 0, none⟩ : Addr) else some ⟨g, (k + 1) * 4, none⟩) = some A ∧ Hid (∀ t u, news[t]? = some u → w.drew.cell? (A.add t) = some u) := by
    by_cases h : cap = k + 1
    · refine ⟨⟨g, 0, none⟩, by simp [h], fun t u hu => ?_⟩
      rw [List.length_eq_zero_iff.1 (show news.length = 0 by omega)] at hu
      simp at hu
    · refine ⟨⟨g, (k + 1) * 4, none⟩, by simp [h], fun t u hu => ?_⟩
      have ht : t < (n - (k + 1)) * 4 := by
        have := (List.getElem?_eq_some_iff.1 hu).1
        omega
      have ha : (⟨g, (k + 1) * 4, none⟩ : Addr).add t = ⟨g, (k + 1) * 4 + t, none⟩ := by unfold Addr.add; split <;> simp_all
      rw [ha]
      show w.cell? _ = _
      rw [cell_of_row w g _ cur _ _ hh, hat _ (by omega), ← hu, hnews, ← cellsE_drop, List.getElem?_drop]
  have s1 : Hid (news.length = (n - (k + 1)) * 4) := hnl
  have s2 : Hid (∀ u ∈ news, u.oneCell' = true) := by rw [hnews]; exact oneEv _
  have s3 : Hid (∀ t, t < news.length → (w.drew.cell? ⟨g, 0 + k * 4 + t, none⟩).isSome = true ∧ w.drew.frozen? ⟨g, 0 + k * 4 + t, none⟩ = false) := by
    intro t ht
    refine ⟨?_, ?_⟩
    · show (w.cell? _).isSome = true
      rw [cell_of_row w g _ cur _ _ hh, Array.getElem?_eq_getElem (by omega)]
      rfl
    · show w.frozen? _ = false
      exact frozen_of_row w g _ cur _ hh
  have hset := heap_setCells g 53 news (0 + k * 4) w.drew cur hh
  obtain ⟨W1, hW1⟩ : ∃ W1, W1 = w.drew.setCells g (0 + k * 4) news := ⟨_, rfl⟩
  rw [← hW1] at hset
  obtain ⟨hset1, hset2⟩ := hset
  have hsz := laid_size cur (0 + k * 4) news
  have hcl := fun ty => run_clearEv W1 ty g ((n - 1) * 4) 1 (cap - (n - 1)) (fun j hj => by
    rw [cell_of_row W1 g _ _ _ _ hset1, Array.getElem?_eq_getElem (by omega)]
    rfl) (fun j _ => frozen_of_row W1 g _ _ _ hset1)
  have hset' := heap_setCells g 53 (Builtin.zeroCells #[.int .i64 0, .int .i64 0, .int .i64 0, .int .i64 0] 1).toList ((n - 1) * 4) W1 _ hset1
  have hend : (W1.setCells g ((n - 1) * 4) (Builtin.zeroCells #[.int .i64 0, .int .i64 0, .int .i64 0, .int .i64 0] 1).toList).ownsRow B 53 4 (.slice (some ⟨g, 0, none⟩) (n - 1) cap) (l.eraseIdx k).length (cellsE (l.eraseIdx k)) := by
    have hel : (l.eraseIdx k).length = n - 1 := by rw [List.length_eraseIdx, if_pos (by omega), hn]
    refine own_of_partsEv hel hset'.1 hb (by omega) (by unfold maxLen; omega) (by rw [laid_size, hsz, hcs]) (fun i hi => ?_)
    have hz : (Builtin.zeroCells #[Value.int .i64 0, .int .i64 0, .int .i64 0, .int .i64 0] 1).toList.length = 4 := by simp [Builtin.zeroCells]
    rw [laid_at _ _ _ _ (by rw [hz, hsz, hcs]; omega), if_neg (by omega), laid_at _ _ _ _ (by rw [hnl, hcs]; omega), List.eraseIdx_eq_take_drop_succ, cellsE_append]
    by_cases h1 : i < k * 4
    · rw [if_neg (by omega), hat _ (by omega), List.getElem?_append_left (by rw [cellsE_len, List.length_take]; omega), ← cellsE_take, List.getElem?_take, if_pos h1]
    · rw [if_pos (by omega), List.getElem?_append_right (by rw [cellsE_len, List.length_take]; omega), hnews, cellsE_len, List.length_take]
      congr 1
      omega
  have hgrow : w.grownBy (W1.setCells g ((n - 1) * 4) (Builtin.zeroCells #[.int .i64 0, .int .i64 0, .int .i64 0, .int .i64 0] 1).toList) (some g) := by
    have h0 : w.grownBy w.drew (some g) := ⟨rfl, rfl, rfl, Nat.le_refl _, fun _ _ _ => rfl⟩
    exact (h0.andThen hset2 (fun j hj => .inr hj)).andThen hset'.2 (fun j hj => .inr hj)
  have hel : (l.eraseIdx k).length = n - 1 := by rw [List.length_eraseIdx, if_pos (by omega), hn]
  have X := Lib.hid hend
  have Y := Lib.hid hgrow
  have Z := Lib.hid hel
  have hW : Hid (W1 = w.drew.setCells g (0 + k * 4) news) := hW1
  have hkc : k ≤ cap := by omega
  have hk1c : k + 1 ≤ cap := by omega
  have hk0 : (0 : Int) ≤ (k : Int) + 1 := by omega
  have hd : k + (n - (k + 1)) = n - 1 := by omega
  have hd2 : n - (n - 1) = 1 := by omega
  have hd3 : n - 1 ≤ n := by omega
  have hd4 : n - 1 ≤ cap := by omega
  clear hn hat hh hown hend hgrow hset' hset1 hset2 hW1 hnews hnl hel HAT HH hsz hcs
  go_enter Tryz.func22, Tryz.ntmps22
  go_wp2_with fail
  go_region_law (refine step_append_room rfl (.tmp 22) (.tmp 25) 49 rfl 53 i0 4 Tryz.underlying49 hi hz1 g 0 k cap (by simp [Act.eval, Act.put]) A (n - (k + 1)) (cap - (k + 1)) news (by simp [Act.eval, Act.put]) s1.out hsrc.out s2.out (by omega) s3.out ?_; rw [← hW.out])
  go_wp2
  go_ret
  unfold CutEv
  have x := X.out
  rw [Z.out] at x ⊢
  exact ⟨rfl, x, Y.out⟩
end Go.Proofs.YtaagdmompaphiaaGreatDoor

namespace Go.Proofs.YtaagdmompaphiaaGreatDoor
set_option maxRecDepth 100000
open Go.RowKit

section
variable {P : Program} {ops : Array Oper} {Q : Exit → Act → World → Prop} {md : Region.Mode} {S : World → Prop}

theorem heldH_take {i : Nat} {oi : Oper} {v : Value} {n N : Nat} {listed : Array Bool} {a : Act} {w : World} {dst : Option Tmp} (hN : N = n + 1) (hi : ops[i]? = some oi) (hd : oi.dst = dst)
    (hs : Region.noSelect ops = true) (hf : Region.free md ops listed i = true) (hr : (Region.ready md ops listed).contains i = true)
    (hQ : ∀ c a w, Q (.panic c) (a.put dst v) w → Q (.panic c) a w) (hy : YieldsIf P ops S oi v a) (hS : S w)
    (h : wpAnyH P md ops Q S n (listed.setIfInBounds i true) (a.put dst v) w) : wpAnyH P md ops Q S N listed a w := by
  subst hN hd
  exact wpAnyH_take hi hs hf hr hQ hy hS h
theorem heldH_step {i : Nat} {o : Oper} {n N : Nat} {listed : Array Bool} {a : Act} {w : World} (hN : N = n + 1) (hr : Region.ready md ops listed = [i]) (ho : ops[i]? = some o)
    (h : ∀ K : Act → World → Prop, (∀ a w, S w → (S w → wpAnyH P md ops Q S n (listed.setIfInBounds i true) a w) → K a w) → if Region.wanted o (yielded ops a.tmps) = true then Oper.wp P o a w K Q else K (a.put o.dst undef) w) : wpAnyH P md ops Q S N listed a w := by
  subst hN
  refine wpAnyH_all hr (by simp) fun j hj => ?_
  obtain rfl := List.mem_singleton.1 hj
  exact wpOp_step ho (fun K hK => h K (fun a w hS hW => hK a w ⟨hS, hW hS⟩))
theorem region_heldH {id : Nat} {a : Act} {w : World} (N : Nat) (hN : ops.size = N) (hm : P.follows .mixedOrders = true) (hS : S w.drew)
    (h : S w.drew → wpAnyH P .any ops Q S N (Array.replicate N false) a w.drew) : (Code.region id ops true).wp P Q a w := by
  subst hN
  exact wp_region_held_drew hm hS h
end
end Go.Proofs.YtaagdmompaphiaaGreatDoor
