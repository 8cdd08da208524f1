/-
  Maps from int to integers, as functions. Maps from int to functions, as functions. Programs that are put together: slices.Concat of programs
-/
import Derived.Test.YtkhaeabbbhfloaaDoorQA
import Derived.Maps.RangeWalk
import Derived.Maps.OwnRows
import Derived.Maps.OwnSet
import Derived.Test.YtkhaeabbbhfloaaDoorQL
import Derived.Lib.AppendZerosOnto
import Derived.Lib.AppendZeros
namespace Go.Proofs.YtkhaeabbbhfloaaDoor
set_option maxRecDepth 100000
open Go.RowKit Go.Shelf
open Go.WideShapes

theorem keyedInt : Maps.Keyed Tryd.prog 3 := Maps.int_keyed Tryd.underlying3

/-- Block b is a map of at most m entries; it holds what f says. -/
def IM (q : IntKind) (te : TypeId) (w : World) (b m : Nat) (f : Int → Option Int) : Prop :=
  ∃ D : DataW Unit, w.ownsMap Tryd.prog 3 (plainElem Tryd.prog te) b m D ∧ ∀ a : Int, (Lit.int .i64 a).wf = true →
    Maps.has D (.int .i64 a) = (f a).isSome ∧ ∀ c, f a = some c → ∀ z, D.atKey (.int .i64 a) z = .lit (.int q c)

section
variable {q : IntKind} {te : TypeId} {w w' : World} {b m : Nat} {f : Int → Option Int}

theorem IM.lt (h : IM q te w b m f) : b < w.heap.size := by
  obtain ⟨D, hD, _⟩ := h
  exact hD.lt

theorem IM.made (q : IntKind) (te : TypeId) (w : World) : IM q te (w.alloc (.map #[] 0)) w.heap.size 0 fun _ => none :=
  ⟨_, World.ownsMap_made w Tryd.prog 3 _, fun a _ => ⟨rfl, fun c h => by cases h⟩⟩

theorem IM.kept (h : IM q te w b m f) {row : Option Nat} (hg : w.grownBy w' row) (hne : some b ≠ row) : IM q te w' b m f := by
  obtain ⟨D, hD, hf⟩ := h
  exact ⟨D, hD.kept hg hne, hf⟩

theorem IM.block (h : IM q te w b m f) (hb : w'.heap[b]? = w.heap[b]?) : IM q te w' b m f := by
  obtain ⟨D, ⟨es, clock, h1, h2⟩, hf⟩ := h
  exact ⟨D, ⟨es, clock, hb.trans h1, h2⟩, hf⟩

theorem IM.mono (h : IM q te w b m f) {m' : Nat} (hm : m ≤ m') : IM q te w b m' f := by
  obtain ⟨D, hD, hf⟩ := h
  exact ⟨D, hD.mono hm, hf⟩

/-- Reading at a key. -/
theorem IM.look (h : IM q te w b m f) {t : TypeId} (ht : Tryd.prog.underlying t = some (.map 3 te)) (he : Tryd.prog.underlying te = some (.int q)) (hz : (zeroValue te).run Tryd.prog w = .ok (.int q 0) w) (a : Int) (ha : (Lit.int .i64 a).wf = true) :
    (Instr.lookup t (.map (some b)) (.int .i64 a) false).run Tryd.prog w = .ok (.int q ((f a).getD 0)) w := by
  obtain ⟨D, hD, hf⟩ := h
  obtain ⟨c, hrun, hat, _⟩ := hD.lookup_int keyedInt ht he hz (Maps.keyOf_int_mk Tryd.underlying3 ha)
  rw [hrun]
  obtain ⟨h1, h2⟩ := hf a ha
  cases hfa : f a with
  | some c' =>
    rw [h2 c' hfa] at hat
    injection hat with hat
    injection hat with _ hat
    rw [hat]
    rfl
  | none =>
    rw [hfa] at h1
    rw [Maps.atKey_of_not_has (by simpa using h1)] at hat
    injection hat with hat
    injection hat with _ hat
    rw [← hat]
    rfl

def putAt (f : Int → Option Int) (a c : Int) : Int → Option Int := fun x => if x = a then some c else f x
theorem lit_ne {a x : Int} (h : ¬ x = a) : (Lit.int .i64 x) ≠ .int .i64 a := by
  intro e
  injection e with _ e
  exact h e

/-- Writing at a key. -/
theorem IM.put (h : IM q te w b m f) {t : TypeId} (ht : Tryd.prog.underlying t = some (.map 3 te)) (he : Tryd.prog.underlying te = some (.int q)) (hm : m < maxLen) (a c : Int) (ha : (Lit.int .i64 a).wf = true) (hc : (Lit.int q c).wf = true) :
    ∃ w', (Instr.mapUpdate t (.map (some b)) (.int .i64 a) (.int q c)).run Tryd.prog w = .ok () w' ∧ IM q te w' b (m + 1) (putAt f a c) ∧ w.grownBy w' (some b) := by
  obtain ⟨D, hD, hf⟩ := h
  obtain ⟨w', hrun, hD', hg⟩ := hD.update keyedInt ht hm (Maps.keyOf_int_mk Tryd.underlying3 ha) (plainElem_int he hc)
  refine ⟨w', hrun, ⟨_, hD', fun x hx => ?_⟩, hg⟩
  have hk := keyedInt.key (Maps.keyOf_int_mk Tryd.underlying3 ha)
  by_cases e : x = a
  · subst e
    refine ⟨?_, fun c' hc' z => ?_⟩
    · rw [Maps.has_put_same hD.isMap hk]
      simp [putAt]
    · simp only [putAt, if_true, Option.some.injEq] at hc'
      rw [Maps.atKey_put_same hD.isMap hk, hc']
  · obtain ⟨h1, h2⟩ := hf x hx
    refine ⟨?_, fun c' hc' z => ?_⟩
    · rw [Maps.has_put_other (lit_ne e), h1]
      simp [putAt, e]
    · simp only [putAt, if_neg e] at hc'
      rw [Maps.atKey_put_other (lit_ne e)]
      exact h2 c' hc' z

end
end Go.Proofs.YtkhaeabbbhfloaaDoor

namespace Go.Proofs.YtkhaeabbbhfloaaDoor
set_option maxRecDepth 100000
open Go.RowKit Go.Shelf
open Go.WideShapes

/-- How a function's value reads, where nothing is bound to it. -/
def funElem (v : Value) : Option (DataW Unit × List MemPlace) :=
  match v with
  | .func (.func f) a b => if a.size = 0 ∧ b.size = 0 then some (.lit (.int .i64 (f : Int)), []) else none
  | .nilFunc => some (.lit (.bool false), [])
  | _ => none
theorem funElem_mk (f : Nat) : funElem (.func (.func f) #[] #[]) = some (.lit (.int .i64 (f : Int)), []) := rfl
theorem funElem_inv {v : Value} {f : Nat} {ps : List MemPlace} (h : funElem v = some (.lit (.int .i64 (f : Int)), ps)) : v = .func (.func f) #[] #[] := by
  unfold funElem at h
  split at h
  · next g a b =>
    split at h
    · next hs =>
      have h1 : (DataW.lit (.int .i64 (g : Int)) : DataW Unit) = .lit (.int .i64 (f : Int)) := congrArg (fun x => x.1) (Option.some.inj h)
      have : g = f := Int.ofNat.inj (by simpa using h1)
      subst this
      rw [Array.eq_empty_of_size_eq_zero hs.1, Array.eq_empty_of_size_eq_zero hs.2]
    · cases h
  · simp at h
  · cases h

/-- Block b is a map of at most m entries to functions; it holds what f says. -/
def FM (w : World) (b m : Nat) (f : Int → Option Nat) : Prop :=
  ∃ D : DataW Unit, w.ownsMap Tryd.prog 3 funElem b m D ∧ ∀ a : Int, (Lit.int .i64 a).wf = true →
    Maps.has D (.int .i64 a) = (f a).isSome ∧ ∀ c, f a = some c → ∀ z, D.atKey (.int .i64 a) z = .lit (.int .i64 (c : Int))
def putF (f : Int → Option Nat) (a : Int) (c : Nat) : Int → Option Nat := fun x => if x = a then some c else f x

section
variable {w w' : World} {b m : Nat} {f : Int → Option Nat}
theorem FM.lt (h : FM w b m f) : b < w.heap.size := by
  obtain ⟨D, hD, _⟩ := h
  exact hD.lt
theorem FM.made (w : World) : FM (w.alloc (.map #[] 0)) w.heap.size 0 fun _ => none :=
  ⟨_, World.ownsMap_made w Tryd.prog 3 _, fun a _ => ⟨rfl, fun c h => by cases h⟩⟩
theorem FM.block (h : FM w b m f) (hb : w'.heap[b]? = w.heap[b]?) : FM w' b m f := by
  obtain ⟨D, ⟨es, clock, h1, h2⟩, hf⟩ := h
  exact ⟨D, ⟨es, clock, hb.trans h1, h2⟩, hf⟩
theorem FM.look (h : FM w b m f) (a : Int) (ha : (Lit.int .i64 a).wf = true) (c : Nat) (hc : f a = some c) :
    (Instr.lookup 92 (.map (some b)) (.int .i64 a) true).run Tryd.prog w = .ok (.tuple #[.func (.func c) #[] #[], .bool true]) w := by
  obtain ⟨D, hD, hf⟩ := h
  have hz : (zeroValue 91).run Tryd.prog w = .ok .nilFunc w := by first | exact zeroValue_of_info w (by kernel_rfl) | rfl
  obtain ⟨v, ps, hrun, hv⟩ := hD.look_ok keyedInt Tryd.underlying92 hz (zd := .lit (.bool false)) (zp := []) rfl (Maps.keyOf_int_mk Tryd.underlying3 ha)
  obtain ⟨h1, h2⟩ := hf a ha
  rw [h2 c hc] at hv
  rw [hrun, h1, hc, funElem_inv hv]
  rfl
theorem FM.put (h : FM w b m f) (hm : m < maxLen) (a : Int) (c : Nat) (ha : (Lit.int .i64 a).wf = true) :
    ∃ w', (Instr.mapUpdate 92 (.map (some b)) (.int .i64 a) (.func (.func c) #[] #[])).run Tryd.prog w = .ok () w' ∧ FM w' b (m + 1) (putF f a c) ∧ w.grownBy w' (some b) := by
  obtain ⟨D, hD, hf⟩ := h
  obtain ⟨w', hrun, hD', hg⟩ := hD.update keyedInt Tryd.underlying92 hm (Maps.keyOf_int_mk Tryd.underlying3 ha) (funElem_mk c)
  refine ⟨w', hrun, ⟨_, hD', fun x hx => ?_⟩, hg⟩
  have hk := keyedInt.key (Maps.keyOf_int_mk Tryd.underlying3 ha)
  by_cases e : x = a
  · subst e
    refine ⟨?_, fun c' hc' z => ?_⟩
    · rw [Maps.has_put_same hD.isMap hk]
      simp [putF]
    · simp only [putF, if_true, Option.some.injEq] at hc'
      rw [Maps.atKey_put_same hD.isMap hk, hc']
  · obtain ⟨h1, h2⟩ := hf x hx
    refine ⟨?_, fun c' hc' z => ?_⟩
    · rw [Maps.has_put_other (lit_ne e), h1]
      simp [putF, e]
    · simp only [putF, if_neg e] at hc'
      rw [Maps.atKey_put_other (lit_ne e)]
      exact h2 c' hc' z
end
end Go.Proofs.YtkhaeabbbhfloaaDoor

namespace Go.Proofs.YtkhaeabbbhfloaaDoor
set_option maxRecDepth 100000
open Go.RowKit Go.Shelf Go.Sort
set_option linter.unusedVariables false
set_option linter.unusedSimpArgs false

def RoomyT (w : World) (e : Ending) (w' : World) : Prop := ∃ v, e = .returned v ∧ w'.ownsRow w.heap.size 89 5 v 0 [] ∧ w.grownBy w' none
set_option maxHeartbeats 1000000 in
theorem growT_nil {w : World} (n : Nat) (hn : n ≤ 1000) : Calls Tryd.prog 84 #[.slice none 0 0, .int .i64 n] w (RoomyT w) := by
  have h1 : ¬ (n : Int) < 0 := by omega
  rcases Nat.eq_zero_or_pos n with rfl | hpos
  · go_enter Tryd.func84, Tryd.ntmps84
    go_wp2
    go_ret
    exact ⟨_, rfl, World.ownsRow_nil _ _ _ _, World.grownBy.refl _ _⟩
  · obtain ⟨i0, hi, hz0, hz1, hz2⟩ := info_parts infoIns
    have hold : (Builtin.firstCells i0.size 0 (.slice none 0 0)).run Tryd.prog w.drew = .ok ([] : List Value).toArray w.drew := run_firstCells_none w.drew i0.size 0 0 0
    have hpi : (0 : Int) < (n : Int) := by omega
    have hrz := fun ty => Lib.run_append_grow_zeros (P := Tryd.prog) w 61 3 ty 89 i0 (.agg #[.int .i64 0, .int .i64 0, .int .i64 0, .int .i64 0, .int .i64 0]) .i64 .i64 Tryd.underlying61 Tryd.underlying3 hi hz0 none 0 0 [] hold n hpos (by omega) (by omega) (by omega) (by rw [hz2]; omega) (growslice_fits (by omega) (by rw [hz2]; omega))
    simp only [Nat.zero_add] at hrz
    obtain ⟨G, hG⟩ : ∃ G, grownCap w n 0 89 = G := ⟨_, rfl⟩
    have hGn : n ≤ G := by rw [← hG]; exact grownCap_ge w _ _ _
    have hG63 : G ≤ maxLen := by rw [← hG]; exact grownCap_le_maxLen w n 0 89 (by unfold maxLen; omega)
    rw [hG] at hrz
    obtain ⟨C, hC⟩ : ∃ C, (([] : List Value).toArray ++ Builtin.zeroCells (Value.agg #[.int .i64 0, .int .i64 0, .int .i64 0, .int .i64 0, .int .i64 0]).cells n ++ Builtin.zeroCells (Value.agg #[.int .i64 0, .int .i64 0, .int .i64 0, .int .i64 0, .int .i64 0]).cells (G - n)) = C := ⟨_, rfl⟩
    have hCs : C.size = G * 5 := by
      rw [← hC]
      simp [Builtin.zeroCells, Value.cells]
      omega
    rw [hC] at hrz
    have hown := World.ownsRow_made (base := w.heap.size) (e := 89) (size := 5) w.drew C G (Nat.le_refl _) hG63 hCs
    have hgr : w.grownBy (w.drew.alloc (.cells C 89)) none := (show w.grownBy w.drew none from ⟨rfl, rfl, rfl, Nat.le_refl _, fun _ _ _ => rfl⟩).andThen (World.grownBy_alloc _ _ none) (by intro j hj; cases hj)
    have HO := Lib.hid hown
    have HG := Lib.hid hgr
    have HR := Lib.hid hrz
    have hG63' : G ≤ 9223372036854775807 := by unfold maxLen at hG63; omega
    clear hrz hown hgr hG hC hold hG63 hi hz0 hz1 hz2
    go_enter Tryd.func84, Tryd.ntmps84
    go_wp2_with (at_builtin; refine Lib.wpList_append_run _ rfl _ _ _ _ rfl _ _ rfl rfl _ _ (HR.out _) ?_)
    go_ret
    exact ⟨_, rfl, HO.out, HG.out⟩

/-- Programs that lie one behind the other in a row of rows. -/
def RowsN (w : World) (b : Nat) (ls : List (List In5)) : Prop := ∀ i, i < ls.length → ∃ A c, w.cell? ⟨b, i, none⟩ = some (.slice A (ls.getD i []).length c) ∧ Inss w w.heap.size A (ls.getD i []).length (ls.getD i []) ∧ b < w.heap.size
theorem RowsN.grow {w w' : World} {b : Nat} {ls : List (List In5)} (h : RowsN w b ls) (hg : w.grownBy w' none) : RowsN w' b ls := fun i hi => by
  obtain ⟨A, c, h1, h2, h3⟩ := h i hi
  exact ⟨A, c, (World.cell?_of_block (a := ⟨b, i, none⟩) (hg.block b h3 (by simp))).trans h1, h2.old ⟨hg.os, hg.tape, hg.output, hg.size, fun k hk => hg.block k hk (by simp)⟩, by have := hg.size; omega⟩
def lenN (ls : List (List In5)) (k : Nat) : Nat := ((ls.take k).flatten).length
theorem lenN_succ (ls : List (List In5)) (k : Nat) (hk : k < ls.length) : (ls.take (k + 1)).flatten = (ls.take k).flatten ++ ls.getD k [] ∧ lenN ls (k + 1) = lenN ls k + (ls.getD k []).length := by
  have e : ls.take (k + 1) = ls.take k ++ [ls.getD k []] := by
    rw [List.take_add_one, List.getD_eq_getElem?_getD, List.getElem?_eq_getElem hk]
    rfl
  have e2 : (ls.take (k + 1)).flatten = (ls.take k).flatten ++ ls.getD k [] := by rw [e]; simp
  exact ⟨e2, by unfold lenN; rw [e2, List.length_append]⟩
theorem lenN_le (ls : List (List In5)) (k : Nat) : lenN ls k ≤ ls.flatten.length := by
  have e : ls.flatten = (ls.take k).flatten ++ (ls.drop k).flatten := by rw [← List.flatten_append, List.take_append_drop]
  unfold lenN
  rw [e, List.length_append]
  omega
structure JoinN (w : World) (ls : List (List In5)) (v : Value) (k : Nat) (wr : World) : Prop where
  own : wr.ownsRow w.heap.size 89 5 v (lenN ls k) (cells5 ((ls.take k).flatten))
  grown : w.grownBy wr none
theorem Inss.gr {w w' : World} {A : Option Addr} {n : Nat} {l : List In5} (h : Inss w w.heap.size A n l) (hg : w.grownBy w' none) : Inss w' w'.heap.size A n l := h.old ⟨hg.os, hg.tape, hg.output, hg.size, fun k hk => hg.block k hk (by simp)⟩
/-- What a piece comes to: a row of one's own. -/
def OwnOf (l : List In5) (w : World) (e : Ending) (w' : World) : Prop := ∃ A c, e = .returned (.slice A l.length c) ∧ w'.ownsRow w.heap.size 89 5 (.slice A l.length c) l.length (cells5 l) ∧ w.grownBy w' none
def OneOf (r : In5) (w : World) (e : Ending) (w' : World) : Prop := e = .returned (.agg #[.int .i64 r.1, .int .i64 r.2.1, .int .i64 r.2.2.1, .int .i64 r.2.2.2.1, .int .i64 r.2.2.2.2]) ∧ w.grownBy w' none
theorem lit_gr {w w' : World} {cs : Array Value} (hg : (w.alloc (.cells cs 89)).grownBy w' none) (l : List In5) (n : Nat) (hcs : cs.toList = cells5 l) (hl : l.length = n) (hn : n ≤ 1000) : Inss w' w'.heap.size (some ⟨w.heap.size, 0, none⟩) n l := (inss_lit hcs hl hn).gr hg
theorem gr_al {w w' : World} {o : Obj} (hg : (w.alloc o).grownBy w' none) : w.grownBy w' none := (World.grownBy_alloc w o none).andThen hg (fun k hk => by cases hk)
theorem gr_then {w w' w'' : World} (h1 : w.grownBy w' none) (h2 : w'.grownBy w'' none) : w.grownBy w'' none := h1.andThen h2 (fun k hk => by cases hk)
theorem own_gr {w w' : World} {B n : Nat} {v : Value} {xs : List Value} (h : w.ownsRow B 89 5 v n xs) (hg : w.grownBy w' none) : w'.ownsRow B 89 5 v n xs := by
  refine h.kept hg ?_
  cases e : v.ownBlock with
  | none => exact .inl rfl
  | some k => exact .inr (by simp)
set_option maxHeartbeats 2000000 in
theorem concatO_any {w : World} (b m : Nat) (ls : List (List In5)) (hm : ls.length = m) (hm100 : m ≤ 100) (hR : RowsN w b ls) (h1000 : ls.flatten.length ≤ 1000) :
    Calls Tryd.prog 64 #[.slice (some ⟨b, 0, none⟩) m m] w (OwnOf ls.flatten w) := by
  have HR := Lib.hid hR
  have HN := Lib.hid hm
  have HL := Lib.hid (fun k => lenN_le ls k)
  have H1 := Lib.hid h1000
  have HZ := Lib.hid (show lenN ls 0 = 0 from rfl)
  clear hR hm h1000
  go_enter Tryd.func64, Tryd.ntmps64
  go_wp2
  go_loop [3, 11] (fun s j => ∃ k : Nat, k ≤ m ∧ j = .int .i64 k ∧ s = .int .i64 (lenN ls k : Nat)) (fun _ j => m - (intOf j).toNat)
  case atStart => exact ⟨0, Nat.zero_le _, rfl, by rw [HZ.out]; rfl⟩
  case round =>
    obtain ⟨k, hk, rfl, rfl⟩ := hrel
    by_cases hlt : k < m
    · have hkn : (k : Int) < (m : Int) := by omega
      obtain ⟨A, c, hcell, _, _⟩ := HR.out k (by rw [HN.out]; exact hlt)
      obtain ⟨e1, e2⟩ := lenN_succ ls k (by rw [HN.out]; exact hlt)
      have h3 := HL.out (k + 1)
      have h4 := H1.out
      rw [e2] at h3
      have E2 := Lib.hid e2
      generalize (ls.getD k []).length = z at *
      obtain ⟨q, hq⟩ : ∃ q, lenN ls k = q := ⟨_, rfl⟩
      rw [hq] at h3
      have HQ := Lib.hid hq
      rw [hq]
      have hq1 : wrap64 ((q : Int) + (z : Int)) = ((q + z : Nat) : Int) := by unfold wrap64; omega
      have hq2 : ¬ ((q + z : Nat) : Int) < 0 := by omega
      clear e1 e2 hq h3 h4
      go_wp2
      go_round
      case rel => exact ⟨k + 1, by omega, by go_num, by rw [E2.out, HQ.out]; go_num⟩
      case measure => simp [intOf]; omega
    · have hkn : ¬ (k : Int) < (m : Int) := by omega
      obtain rfl : k = m := by omega
      have h3 := HL.out k
      have h4 := H1.out
      have hfl : (ls.take k).flatten = ls.flatten := by rw [List.take_of_length_le (by rw [HN.out]; exact Nat.le_refl _)]
      have HFl := Lib.hid (show lenN ls k = ls.flatten.length ∧ (ls.take k).flatten = ls.flatten from ⟨by unfold lenN; rw [hfl], hfl⟩)
      have HGr := Lib.hid (growT_nil (w := w) (lenN ls k) (by omega))
      clear h3 h4 hfl
      generalize hgz : lenN ls k = gz at HGr
      clear hgz
      go_wp2_with fail
      refine HGr.out.mono ?_
      rintro e w1 ⟨v1, rfl, hown1, hg1⟩
      have HJ := Lib.hid (show JoinN w ls v1 0 w1 from ⟨by simpa [lenN, cells5] using hown1, hg1⟩)
      clear hown1 hg1 HGr
      go_wp2
      go_loopw [6, 27] (fun v j wr => ∃ i : Nat, i ≤ k ∧ j = .int .i64 i ∧ JoinN w ls v i wr) (fun _ j _ => k - (intOf j).toNat)
      case atStart => exact ⟨0, by omega, rfl, HJ.out⟩
      case round =>
        obtain ⟨i, hi, rfl, hJ⟩ := hrel
        by_cases hlt2 : i < k
        · have hkn2 : (i : Int) < (k : Int) := by omega
          obtain ⟨A, c, hcell, hin, _⟩ := (HR.out.grow hJ.grown) i (by rw [HN.out]; exact hlt2)
          obtain ⟨e1, e2⟩ := lenN_succ ls i (by rw [HN.out]; exact hlt2)
          have h3 := HL.out (i + 1)
          have h4 := H1.out
          obtain ⟨Av, cv, hv⟩ := slice_of_own hJ.own
          subst hv
          obtain ⟨v3, w3, hr3, ho3, hg3⟩ := run_appendP (c := c) hJ.own hin (by omega) hJ.grown.size 61
          rw [← e1, ← e2] at ho3
          have HJ3 := Lib.hid (show JoinN w ls v3 (i + 1) w3 from ⟨ho3, hJ.grown.andThen hg3 (fun k hk => .inl (hJ.own.lt k hk).1)⟩)
          have HR3 := Lib.hid hr3
          clear hr3 ho3 hg3 hin e1 e2 h3 h4 hJ HJ
          go_wp2_with (at_builtin; refine Lib.wpList_append_run _ rfl _ _ _ _ rfl _ _ rfl rfl _ _ HR3.out ?_; clear HR3)
          go_roundw
          case rel => exact ⟨i + 1, by omega, by go_num, HJ3.out⟩
          case measure => simp [intOf]; omega
        · have hkn2 : ¬ (i : Int) < (k : Int) := by omega
          obtain rfl : i = k := by omega
          obtain ⟨Av, cv, hv⟩ := slice_of_own hJ.own
          subst hv
          have ho := hJ.own
          rw [HFl.out.1, HFl.out.2] at ho
          have HI := Lib.hid ho
          have HG := Lib.hid hJ.grown
          have HF1 := Lib.hid HFl.out.1
          clear ho hJ HJ
          go_wp2
          go_ret
          rw [HF1.out]
          exact ⟨Av, cv, rfl, HI.out, HG.out⟩
/-- Pieces one behind the other. -/
theorem concat_of {W : World} {vs : Array Value} {b : Nat} (hb : W.heap.size = b) (ls : List (List In5)) (n : Nat) (hn : ls.length = n) (hv : vs.size = n) (h : ∀ i, i < ls.length → ∃ A c, vs[i]? = some (.slice A (ls.getD i []).length c) ∧ Inss W W.heap.size A (ls.getD i []).length (ls.getD i [])) (h100 : n ≤ 100) (h1000 : ls.flatten.length ≤ 1000) :
    Calls Tryd.prog 64 #[.slice (some ⟨b, 0, none⟩) n n] (W.alloc (.cells vs 61)) (fun e w' => ∃ A c, e = .returned (.slice A ls.flatten.length c) ∧ w'.ownsRow W.heap.size 89 5 (.slice A ls.flatten.length c) ls.flatten.length (cells5 ls.flatten) ∧ W.grownBy w' none) := by
  subst hb
  have hga := World.grownBy_alloc W (.cells vs 61) none
  have hat := heap_alloc_new W (.cells vs 61)
  refine (concatO_any (w := W.alloc (.cells vs 61)) W.heap.size n ls hn h100 (fun i hi => ?_) h1000).mono ?_
  · obtain ⟨A, c, h1, h2⟩ := h i hi
    exact ⟨A, c, (cell_of_row _ _ i _ _ _ hat).trans h1, h2.gr hga, by rw [World.size_alloc]; omega⟩
  · rintro e w' ⟨A, c, rfl, hO, hg⟩
    exact ⟨A, c, rfl, own_low hO (by rw [World.size_alloc]; omega), gr_then hga hg⟩
end Go.Proofs.YtkhaeabbbhfloaaDoor
