/-
  New: a machine is made. The laws' helpers: fits, and the machine behind moves. The laws' helper: the machine behind moves. A slice of events that reads as a list. slices.Equal at acts and at events that are the same. gone: the fact that the laws ask first. What is asked of a machine at a place.
-/
import Derived.Test.YtkhaeabbbhfloaaDoorQD5
import Derived.Test.YtkhaeabbbhfloaaDoorQE
import Derived.OwnWalk
import Derived.Test.YtkhaeabbbhfloaaDoorQB2
import Derived.Test.YtkhaeabbbhfloaaDoorQA
namespace Go.Proofs.YtkhaeabbbhfloaaDoor
set_option maxRecDepth 100000
open Go.RowKit Go.Shelf Go.Sort
set_option linter.unusedVariables false
set_option linter.unusedSimpArgs false

def thr0 : List Value := [.slice none 0 0, .int .i64 0, .bool false, .int .u64 0, .int .u64 0, .int .u64 0, .int .u64 0, .int .u64 0, .int .u64 0, .int .u64 0, .int .u64 0]
theorem infoThread : (Tryd.prog.info? 76).map (fun i => (i.zero, i.size, i.bytes)) = some (some (.agg thr0.toArray), 11, 104) := by kernel_rfl

/-- The threads' row as it is made. -/
theorem made_thr {n : Nat} {xs : List Value} (h : xs = (madeCells (Value.agg thr0.toArray).cells (n * 11)).toList) (k : Nat) (hk : k < n) : ThrAt xs k (.slice none 0 0) 0 false (List.replicate 8 0) := by
  have hat : ∀ j, j < 11 → xs[k * 11 + j]? = some (thr0.getD j default) := by
    intro j hj
    have hz : (Value.agg thr0.toArray).cells = thr0.toArray := rfl
    rw [h, hz]
    unfold madeCells
    rw [Array.toList_map, List.getElem?_map, Array.toList_range, List.getElem?_range (by omega)]
    have hm : (k * 11 + j) % thr0.toArray.size = j := by
      show (k * 11 + j) % 11 = j
      omega
    simp only [Option.map_some, hm]
    match j, hj with
    | 0, _ | 1, _ | 2, _ | 3, _ | 4, _ | 5, _ | 6, _ | 7, _ | 8, _ | 9, _ | 10, _ => rfl
  refine ⟨hat 0 (by decide), ⟨0, hat 1 (by decide), fun _ => rfl⟩, hat 2 (by decide), fun j hj => ?_⟩
  rw [show k * 11 + 3 + j = k * 11 + (3 + j) by omega, hat (3 + j) (by omega)]
  match j, hj with
  | 0, _ | 1, _ | 2, _ | 3, _ | 4, _ | 5, _ | 6, _ | 7, _ => rfl

/-- A machine that is being made: k programs are looked at and copied. -/
structure Making (w : World) (ps : List (List Ins5)) (n : Nat) (cells : List Int) (tb mb lb : Nat) (mv lv : Value) (k : Nat) (wr : World) : Prop where
  below : Below w.heap.size w wr
  cw : CW wr
  mem : Mem wr w.heap.size mb mv cells
  lot : Lot wr w.heap.size lb n lv []
  thr : ∃ (pv : Nat → Value) (xs : List Value), wr.ownsRow w.heap.size 76 11 (.slice (some ⟨tb, 0, none⟩) n n) n xs ∧ (∀ j, j < n → ThrAt xs j (pv j) 0 false (List.replicate 8 0)) ∧
    ∀ j, j < k → wr.ownsRow w.heap.size 89 5 (pv j) (ps.getD j []).length (cells5 (ps.getD j []))
  lt : tb < wr.heap.size
  big : 1 ≤ w.heap.size

theorem keeps_below {w w' : World} {C : Nat} (h : Below C w w') (hC : w.heap.size ≤ C) : Keeps (fun _ => False) w w' :=
  ⟨h.os, h.tape, h.output, h.size, fun k hk _ => h.block k (by omega)⟩

theorem Making.grow {w wr w' : World} {ps : List (List Ins5)} {n : Nat} {cells : List Int} {tb mb lb : Nat} {mv lv : Value} {k : Nat} (h : Making w ps n cells tb mb lb mv lv k wr) (hb : Below wr.heap.size wr w') : Making w ps n cells tb mb lb mv lv k w' := by
  have hk := keeps_below hb (Nat.le_refl _)
  obtain ⟨pv, xs, h1, h2, h3⟩ := h.thr
  exact ⟨h.below.trans (hb.mono h.below.size), h.cw.old hb, h.mem.tags hk .none (by simp) (by simp), h.lot.tags hk .none (by simp) (by simp),
    ⟨pv, xs, own_tags h1 hk .none (by simp), h2, fun j hj => own_tags (h3 j hj) hk .none (by simp)⟩, Nat.lt_of_lt_of_le h.lt hb.size, h.big⟩

theorem own_low {w : World} {base base' e sz n : Nat} {v : Value} {xs : List Value} (h : w.ownsRow base e sz v n xs) (hb : base' ≤ base) : w.ownsRow base' e sz v n xs := by
  refine ⟨h.1, ?_⟩
  rcases h.2 with hn | ⟨g, cap, cur, e, h1, rest⟩
  · exact .inl hn
  · exact .inr ⟨g, cap, cur, e, Nat.le_trans hb h1, rest⟩
theorem Making.put {w wr : World} {ps : List (List Ins5)} {n : Nat} {cells : List Int} {tb mb lb : Nat} {mv lv : Value} {k : Nat} (h : Making w ps n cells tb mb lb mv lv k wr) (hk : k < n) {base : Nat} {v : Value} (hb : w.heap.size ≤ base)
    (ho : wr.ownsRow base 89 5 v (ps.getD k []).length (cells5 (ps.getD k []))) : Making w ps n cells tb mb lb mv lv (k + 1) (wr.setCell ⟨tb, k * 11, none⟩ v) := by
  obtain ⟨pv, xs, h1, h2, h3⟩ := h.thr
  have htb : w.heap.size ≤ tb := (h1.lt tb rfl).1
  have hkp := keeps_setCell wr ⟨tb, k * 11, none⟩ v
  have ht : Tagged wr (fun k => k = tb) [76] := by
    have := tagged_row h1
    simpa [Value.ownBlock] using this
  obtain ⟨h4, _⟩ := h1.stored (k * 11) v
  have hl := h1.1
  have hbel : Below w.heap.size wr (wr.setCell ⟨tb, k * 11, none⟩ v) := (Below.refl _ _).setCell htb v
  refine ⟨h.below.trans hbel, h.cw.below hbel h.big, h.mem.tags hkp ht (by decide) (by decide), h.lot.tags hkp ht (by decide) (by decide), ⟨fun j => if j = k then v else pv j, xs.set (k * 11) v, h4, fun j hj => ?_, fun j hj => ?_⟩, by rw [size_setCell]; exact h.lt, h.big⟩
  · have hx := h2 j hj
    by_cases e : j = k
    · subst e
      dsimp only
      rw [if_pos rfl]
      obtain ⟨z, hz, hz2⟩ := hx.at_
      exact ⟨set_at_eq xs _ (by omega), ⟨z, by rw [set_at_ne xs _ (by omega)]; exact hz, hz2⟩, by rw [set_at_ne xs _ (by omega)]; exact hx.ended, fun i hi => by rw [set_at_ne xs _ (by omega)]; exact hx.regs i hi⟩
    · dsimp only
      rw [if_neg e]
      exact hx.other v (by omega)
  · dsimp only
    by_cases e : j = k
    · subst e
      rw [if_pos rfl]
      exact own_low (own_tags ho hkp ht (by decide)) hb
    · rw [if_neg e]
      exact own_tags (h3 j (by omega)) hkp ht (by decide)

theorem Making.look {w wr : World} {ps : List (List Ins5)} {n : Nat} {cells : List Int} {tb mb lb : Nat} {mv lv : Value} {k j : Nat} (h : Making w ps n cells tb mb lb mv lv k wr) (hj : j < n) :
    (∃ u, wr.cell? ⟨tb, j * 11, none⟩ = some u) ∧ wr.frozen? ⟨tb, j * 11, none⟩ = false := by
  obtain ⟨pv, xs, h1, h2, h3⟩ := h.thr
  exact ⟨⟨_, (h1.cellAt _ (by omega)).trans (h2 j hj).prog⟩, h1.frozenAt _⟩

/-- Behind it all. -/
theorem Making.core {w wr : World} {ps : List (List Ins5)} {cells : List Int} {tb mb lb : Nat} {mv lv : Value} (h : Making w ps ps.length cells tb mb lb mv lv ps.length wr) :
    ∃ S X, X.c = wr.heap.size ∧ Core (wr.alloc (.cells #[.pointer (some ⟨mb, 0, none⟩), .pointer (some ⟨lb, 0, none⟩), .slice (some ⟨tb, 0, none⟩) ps.length ps.length, .slice none 0 0, .slice none 0 0, .int .i64 0] 73)) w.heap.size S X (newM ps cells) ∧ Below w.heap.size w (wr.alloc (.cells #[.pointer (some ⟨mb, 0, none⟩), .pointer (some ⟨lb, 0, none⟩), .slice (some ⟨tb, 0, none⟩) ps.length ps.length, .slice none 0 0, .slice none 0 0, .int .i64 0] 73)) := by
  obtain ⟨pv, xs, h1, h2, h3⟩ := h.thr
  have hsz := h.below.size
  have hkp : Keeps (fun _ => False) wr (wr.alloc (.cells #[.pointer (some ⟨mb, 0, none⟩), .pointer (some ⟨lb, 0, none⟩), .slice (some ⟨tb, 0, none⟩) ps.length ps.length, .slice none 0 0, .slice none 0 0, .int .i64 0] 73)) := keeps_below ((Below.refl wr.heap.size wr).alloc (Nat.le_refl _) _) (Nat.le_refl _)
  have hM := h.mem.tags hkp .none (by simp) (by simp)
  have hL := h.lot.tags hkp .none (by simp) (by simp)
  have hT := own_tags h1 hkp .none (by simp)
  have hP := fun j hj => own_tags (h3 j hj) hkp .none (by simp)
  have hs1 : (wr.alloc (.cells #[.pointer (some ⟨mb, 0, none⟩), .pointer (some ⟨lb, 0, none⟩), .slice (some ⟨tb, 0, none⟩) ps.length ps.length, .slice none 0 0, .slice none 0 0, .int .i64 0] 73)).heap.size = wr.heap.size + 1 := by simp
  have hat := heap_alloc_new wr (.cells #[.pointer (some ⟨mb, 0, none⟩), .pointer (some ⟨lb, 0, none⟩), .slice (some ⟨tb, 0, none⟩) ps.length ps.length, .slice none 0 0, .slice none 0 0, .int .i64 0] 73)
  have hbel := h.below.alloc hsz (.cells #[.pointer (some ⟨mb, 0, none⟩), .pointer (some ⟨lb, 0, none⟩), .slice (some ⟨tb, 0, none⟩) ps.length ps.length, .slice none 0 0, .slice none 0 0, .int .i64 0] 73)
  generalize wr.alloc _ = w1 at *
  have hlt : ∀ {g : Nat} {cur : Array Value} {t : TypeId} {f : Nat × Nat}, w1.heap[g]? = some (.cells cur t f) → g < w1.heap.size := fun h => lt_of_block h
  refine ⟨fun k => w.heap.size ≤ k ∧ k < w1.heap.size, ⟨wr.heap.size, mb, lb, mv, lv, .slice (some ⟨tb, 0, none⟩) ps.length ps.length, .slice none 0 0, .slice none 0 0, pv⟩, rfl, ⟨hat, hM, ?_, ⟨xs, ?_, fun k hk => ?_⟩, ?_, World.ownsRow_nil _ _ _ _, World.ownsRow_nil _ _ _ _, ⟨hsz, by show wr.heap.size < _; omega⟩, ⟨hM.lo, hlt hM.at_⟩, ⟨hL.lo, hlt hL.at_⟩, ?_, fun k hk g hg => (hP k hk).lt g hg, fun k hk => hk⟩, hbel⟩
  · exact hL
  · exact hT
  · have hk : k < ps.length := hk
    have e1 : (newM ps cells).at_.getD k 0 = 0 := by
      show (ps.map fun _ => (0 : Int)).getD k 0 = 0
      rw [List.getD_eq_getElem?_getD, List.getElem?_map]
      cases ps[k]? <;> rfl
    have e2 : (newM ps cells).ended.getD k false = false := by
      show (ps.map fun _ => false).getD k false = false
      rw [List.getD_eq_getElem?_getD, List.getElem?_map]
      cases ps[k]? <;> rfl
    have e3 : (newM ps cells).regs.getD k [] = List.replicate 8 0 := by
      show (ps.map fun _ => List.replicate 8 (0 : Int)).getD k [] = _
      rw [List.getD_eq_getElem?_getD, List.getElem?_map, List.getElem?_eq_getElem hk]
      rfl
    rw [e1, e2, e3]
    exact h2 k hk
  · exact hP
  · rintro v (rfl | rfl | rfl | rfl | rfl) g hg
    · exact hM.own.lt g hg
    · exact hL.own.lt g hg
    · exact hT.lt g hg
    · simp [Value.ownBlock] at hg
    · simp [Value.ownBlock] at hg

theorem making_zero {w w1 w2 w3 : World} {ps : List (List Ins5)} {n : Nat} {cells : List Int} {mb lb : Nat} {mv lv : Value} (hbig : 1 ≤ w.heap.size) (hw : CW w) (hM : Mem w1 w.heap.size mb mv cells) (hg1 : w.grownBy w1 none) (hL : Lot w2 w1.heap.size lb n lv []) (hg2 : w1.grownBy w2 none)
    (hown : w3.ownsRow w.heap.size 76 11 (.slice (some ⟨w2.heap.size, 0, none⟩) n n) n (madeCells thr0.toArray (n * 11)).toList) (hg3 : w2.grownBy w3 none) : Making w ps n cells w2.heap.size mb lb mv lv 0 w3 := by
  have k2 : Keeps (fun _ => False) w1 w2 := Keeps.of_grown hg2 (by intro k hk; cases hk)
  have k3 : Keeps (fun _ => False) w2 w3 := Keeps.of_grown hg3 (by intro k hk; cases hk)
  have b1 : Below w.heap.size w w1 := (Below.refl _ _).grown hg1 (Nat.le_refl _) (by intro k hk; cases hk)
  have b2 := b1.grown hg2 b1.size (by intro k hk; cases hk)
  have b3 := b2.grown hg3 b2.size (by intro k hk; cases hk)
  exact ⟨b3, hw.below b3 hbig, (hM.tags k2 .none (by simp) (by simp)).tags k3 .none (by simp) (by simp), Lot.tags ⟨hL.at_, own_low hL.own b1.size, Nat.le_trans b1.size hL.lo⟩ k3 .none (by simp) (by simp),
    ⟨fun _ => .slice none 0 0, _, hown, fun j hj => made_thr rfl j hj, fun j hj => absurd hj (Nat.not_lt_zero _)⟩, (hown.lt _ rfl).2, hbig⟩

theorem prog_at {w wr : World} {A : Option Addr} {n : Nat} {ps : List (List Ins5)} (h : Progs w w.heap.size A n ps) (hb : Below w.heap.size w wr) {k : Nat} (hk : k < n) :
    ∃ b off, A = some ⟨b, off, none⟩ ∧ b < w.heap.size ∧ ∃ Ai ci, wr.cell? ⟨b, off + k, none⟩ = some (.slice Ai (ps.getD k []).length ci) ∧ Inss wr wr.heap.size Ai (ps.getD k []).length (ps.getD k []) := by
  obtain ⟨b, off, e, hlt, hx⟩ := h.row (by omega)
  obtain ⟨Ai, ci, h1, h2⟩ := hx k hk
  exact ⟨b, off, e, hlt, Ai, ci, (World.cell?_of_block (a := ⟨b, off + k, none⟩) (hb.block b hlt)).trans h1, h2.keep hb.size (fun p hp => World.cell?_of_block (a := p) (hb.block _ hp))⟩

set_option maxHeartbeats 2000000 in
theorem knew_ok {w : World} (hw : CW w) (A C : Option Addr) (n c nc cc : Nat) (ps : List (List Ins5)) (cells : List Int) (hp : Progs w w.heap.size A n ps) (hc : Ints .u64 w w.heap.size C nc cells) (h16 : n ≤ 16) (hn3 : nc ≤ 300) (hr : ∀ i, i < n → RightL (ps.getD i []) nc) :
    Calls Tryd.prog 24 #[.slice A n c, .slice C nc cc] w fun e w' => ∃ S X, e = .returned (.tuple #[.pointer (some ⟨X.c, 0, none⟩), .nilIface]) ∧ Core w' w.heap.size S X (newM ps cells) ∧ Below w.heap.size w w' := by
  have HO := Lib.hid (of_ok C nc cc cells hc hn3)
  have HP := Lib.hid (fun w1 : World => pnew_ok (w := w1) (n : Int) (by omega) (by omega))
  have h16' : ¬ (16 : Int) < (n : Int) := by omega
  have HW := Lib.hid hw
  have HPs := Lib.hid hp
  have HR := Lib.hid hr
  have hwbig := hw.big
  have HI := Lib.hid infoThread
  clear hw hp hc hr
  go_enter Tryd.func24, Tryd.ntmps24
  go_wp2_with fail
  refine HO.out.mono ?_
  rintro e w1 ⟨mb, mv, rfl, hM, hg1⟩
  have HM := Lib.hid hM
  have HG1 := Lib.hid hg1
  clear hM hg1 HO
  go_wp2_with fail
  refine (HP.out w1).mono ?_
  rintro e w2 ⟨lb, lv, rfl, hL, hg2⟩
  have HL := Lib.hid hL
  have HG2 := Lib.hid hg2
  clear hL hg2 HP
  obtain ⟨i0, hi, hz0, hz1, hz2⟩ := info_parts HI.out
  clear HI
  go_wp2_with (at_make; refine wpList_make_full _ rfl _ _ 71 rfl w.heap.size 76 i0 (.agg thr0.toArray) 11 Tryd.underlying71 hi hz0 hz1 _ _ _ _ n rfl rfl rfl rfl ?b1 ?b2 ?b3 ?_)
  case b1 => rw [hz2]; omega
  case b2 => simp [maxLen]; omega
  case b3 => exact Nat.le_trans HG1.out.size HG2.out.size
  intro w3 hown hg3
  have HK := Lib.hid (making_zero (ps := ps) hwbig HW.out HM.out HG1.out HL.out HG2.out hown hg3)
  clear HW HM HG1 HL HG2 hown hg3 hi hz0 hz1 hz2
  obtain ⟨tb, htb⟩ : ∃ tb, w2.heap.size = tb := ⟨_, rfl⟩
  rw [htb] at HK ⊢
  clear htb
  go_wp2
  go_loopw [39] (fun j wr => ∃ k : Nat, k ≤ n ∧ j = .int .i64 k ∧ Making w ps n cells tb mb lb mv lv k wr) (fun j _ => n - (intOf j).toNat)
  case atStart => exact ⟨0, Nat.zero_le _, rfl, HK.out⟩
  case round =>
    obtain ⟨k, hk, rfl, hm⟩ := hrel
    by_cases hlt : k < n
    · have hkn : (k : Int) < (n : Int) := by omega
      obtain ⟨b, off, hA, hcell, Ai, ci, hc, hI⟩ := prog_at HPs.out hm.below hlt
      subst hA
      have HRI := Lib.hid (right_any (ps.getD k []) Ai (ps.getD k []).length ci nc wr hm.cw hI)
      have HRO := Lib.hid (HR.out k hlt)
      have HM := Lib.hid hm
      have HI2 := Lib.hid hI
      have HCL := Lib.hid (fun (w1 : World) (hI1 : Inss w1 wr.heap.size Ai (ps.getD k []).length (ps.getD k [])) => cloneN_any Ai (ps.getD k []).length ci (ps.getD k []) hI1 (by have := (HR.out k hlt).2.2.2.1; omega))
      obtain ⟨x, hx⟩ : ∃ x, ps.getD k [] = x := ⟨_, rfl⟩
      have HX := Lib.hid hx
      rw [hx] at HRI HRO HI2 HCL hc
      obtain ⟨nx, hnx⟩ : ∃ q, x.length = q := ⟨_, rfl⟩
      have HNX := Lib.hid hnx
      rw [hnx] at HRI HI2 HCL hc
      clear hm hI hx hnx
      go_wp2_with fail
      refine HRI.out.mono ?_
      rintro e w4 ⟨hb4, ⟨rfl, -⟩ | ⟨t, p, rfl, hno⟩⟩
      · have HM4 := Lib.hid (HM.out.grow hb4)
        have HI4 := Lib.hid (HI2.out.keep (Nat.le_refl _) (fun p hp => World.cell?_of_block (a := p) (hb4.block _ hp)))
        clear hb4 HRI HRO HM HI2 hc hcell
        go_wp2_with fail
        refine (HCL.out w4 HI4.out).mono ?_
        rintro e w5 ⟨v, rfl, hown, hg5⟩
        have HM5 := Lib.hid (HM4.out.grow ((Below.refl w4.heap.size w4).grown hg5 (Nat.le_refl _) (by intro k hk; cases hk)))
        have hle := HM4.out.below.size
        have HP5 := Lib.hid (HM5.out.put hlt (base := w4.heap.size) (v := v) hle (by rw [HX.out, HNX.out]; exact hown))
        obtain ⟨⟨uo, h5a⟩, h5b⟩ := HM5.out.look hlt
        obtain ⟨A', c', rfl⟩ := slice_of_own hown
        clear hown hg5 HM5 HM4 HI4 HCL hle
        go_wp2
        go_roundw
        case rel => exact ⟨k + 1, by omega, by go_num, HP5.out⟩
        case measure => simp [intOf]; omega
      · exact absurd HRO.out hno
    · have hkn : ¬ (k : Int) < (n : Int) := by omega
      have hl := HPs.out.len
      have hkk : k = n := by omega
      subst hkk
      subst hl
      obtain ⟨S, X, hX, hC, hB⟩ := hm.core
      have HC := Lib.hid hC
      have HBB := Lib.hid hB
      clear hm hC hB
      go_wp2
      go_ret2
      exact ⟨S, X, by rw [hX]; rfl, HC.out, HBB.out⟩
end Go.Proofs.YtkhaeabbbhfloaaDoor

namespace Go.Proofs.YtkhaeabbbhfloaaDoor
set_option maxRecDepth 100000
open Go.RowKit Go.Shelf Go.Sort
set_option linter.unusedVariables false
set_option linter.unusedSimpArgs false

/-- What fits says yes to. -/
def Fit (ps : List (List Ins5)) (nc : Nat) : Prop := ps.length ≤ 16 ∧ nc ≤ 100 ∧ ∀ i, i < ps.length → RightL (ps.getD i []) nc

end Go.Proofs.YtkhaeabbbhfloaaDoor

namespace Go.Proofs.YtkhaeabbbhfloaaDoor
set_option maxRecDepth 100000
open Go.RowKit Go.Shelf Go.Sort
set_option linter.unusedVariables false
set_option linter.unusedSimpArgs false

/-- A row of moves. -/
structure Moves (w : World) (B : Nat) (A : Option Addr) (n : Nat) (l : List (Int × Bool)) : Prop where
  len : l.length = n
  row : 0 < n → ∃ b off, A = some ⟨b, off, none⟩ ∧ b < B ∧ ∀ i, i < n → w.cell? ⟨b, off + i * 2, none⟩ = some (.int .i64 (l.getD i default).1) ∧ w.cell? ⟨b, off + i * 2 + 1, none⟩ = some (.bool (l.getD i default).2)
theorem Moves.below {w w' : World} {B n : Nat} {A : Option Addr} {l : List (Int × Bool)} (h : Moves w B A n l) (hb : Below B w w') : Moves w' B A n l :=
  ⟨h.len, fun h0 => by
    obtain ⟨b, off, e, hlt, hx⟩ := h.row h0
    exact ⟨b, off, e, hlt, fun i hi => ⟨(World.cell?_of_block (a := ⟨b, off + i * 2, none⟩) (hb.block b hlt)).trans (hx i hi).1, (World.cell?_of_block (a := ⟨b, off + i * 2 + 1, none⟩) (hb.block b hlt)).trans (hx i hi).2⟩⟩⟩

theorem below_of_keeps {w w' : World} {B : Nat} {S : Nat → Prop} (hk : Keeps S w w') (hs : ∀ k, S k → B ≤ k) (hB : B ≤ w.heap.size) : Below B w w' :=
  ⟨hk.os, hk.tape, hk.output, hk.size, fun k hlt => hk.block k (by omega) (fun h => by have := hs k h; omega)⟩

theorem behind_take (l : List (Int × Bool)) (m : Mach) (k : Nat) (hk : k < l.length) : behindM 20000 m (l.take (k + 1)) = moveM 20000 (behindM 20000 m (l.take k)) (l.getD k default) := by
  have e : l.take (k + 1) = l.take k ++ [l.getD k default] := by
    rw [List.take_add_one, List.getD_eq_getElem?_getD]
    cases hx : l[k]? with
    | none => rw [List.getElem?_eq_none_iff] at hx; omega
    | some v => rfl
  rw [e]
  unfold behindM
  rw [List.foldl_append]
  rfl
theorem MBig.move {cells0 : List Int} {m : Mach} (h : MBig cells0 m) (v : Int × Bool) : MBig cells0 (moveM 20000 m v) := by
  unfold moveM
  split
  · exact h.poke _
  · exact h.step _
theorem MBig.behind {cells0 : List Int} : ∀ (l : List (Int × Bool)) {m : Mach}, MBig cells0 m → MBig cells0 (behindM 20000 m l)
  | [], m, h => h
  | v :: l, m, h => MBig.behind l (h.move v)
theorem newM_big {ps : List (List Ins5)} {cells : List Int} (hf : Fit ps cells.length) (hc : ∀ v ∈ cells, okU v) : MBig cells (newM ps cells) :=
  ⟨newM_ok _ _ hc hf.2.2, hf.1, Nat.zero_le _, Nat.zero_le _, Nat.zero_le _⟩

/-- The machine at a place, in a world behind. -/
def At (w : World) (c : Nat) (m : Mach) (wr : World) : Prop := ∃ S X, X.c = c ∧ Core wr w.heap.size S X m ∧ Below w.heap.size w wr

theorem At.moved {w wr w' : World} {c : Nat} {m' : Mach} {S : Nat → Prop} {X : KB} {m : Mach} (hX : X.c = c) (hC : Core wr w.heap.size S X m) (hb : Below w.heap.size w wr) (h : Moved wr w.heap.size S X m' w') : At w c m' w' := by
  obtain ⟨S', X', e1, e2, hC2, hS, hK⟩ := h
  exact ⟨S', X', e1.trans hX, hC2, hb.trans (below_of_keeps hK (fun k hs => (hC.slo k hs).1) hb.size)⟩

theorem At.grow {w wr w' : World} {c : Nat} {m : Mach} (h : At w c m wr) (hg : wr.grownBy w' none) : At w c m w' := by
  obtain ⟨S, X, e, hC, hB⟩ := h
  exact ⟨S, X, e, hC.grow hg, hB.grown hg hB.size (by intro k hk; cases hk)⟩

/-- One move. -/
theorem kmove_any {w wr : World} {c : Nat} {cells0 : List Int} {m : Mach} (h : At w c m wr) (hb : MBig cells0 m) (v : Int × Bool) :
    if v.2 then Calls Tryd.prog 26 #[.pointer (some ⟨c, 0, none⟩), .int .i64 v.1] wr fun e w' => e = .returned (errV (pokeM m v.1).1) ∧ At w c (moveM 20000 m v) w'
    else Calls Tryd.prog 19 #[.pointer (some ⟨c, 0, none⟩), .int .i64 v.1] wr fun e w' => e = .returned (errV (stepM 20000 m v.1).1) ∧ At w c (moveM 20000 m v) w' := by
  obtain ⟨S, X, rfl, hC, hB⟩ := h
  obtain ⟨t, b⟩ := v
  cases b
  · exact (kstep_any hC hB.size hb t).mono fun e w' ⟨he, hm⟩ => ⟨he, At.moved rfl hC hB hm⟩
  · exact (kpoke_any hC hB.size hb t).mono fun e w' ⟨he, hm⟩ => ⟨he, At.moved rfl hC hB hm⟩

theorem moves_at {w wr : World} {c nm : Nat} {m : Mach} {D : Option Addr} {l : List (Int × Bool)} (h : Moves w w.heap.size D nm l) (hm : At w c m wr) {k : Nat} (hk : k < nm) :
    ∃ g off, D = some ⟨g, off, none⟩ ∧ wr.cell? ⟨g, off + k * 2, none⟩ = some (.int .i64 (l.getD k default).1) ∧ wr.cell? ⟨g, off + k * 2 + 1, none⟩ = some (.bool (l.getD k default).2) := by
  obtain ⟨S, X, _, _, hB⟩ := hm
  obtain ⟨g, off, e, _, hx⟩ := (h.below hB).row (by omega)
  exact ⟨g, off, e, hx k hk⟩

end Go.Proofs.YtkhaeabbbhfloaaDoor

namespace Go.Proofs.YtkhaeabbbhfloaaDoor
set_option maxRecDepth 100000
open Go.RowKit
set_option linter.unusedVariables false

def EvRow (w : World) (A : Option Addr) (n : Nat) (l : List Ev4) : Prop := ∀ i, i < n → ∃ b off, A = some ⟨b, off, none⟩ ∧
  w.cell? ⟨b, off + i * 4, none⟩ = some (.int .i64 (l.getD i default).1) ∧ w.cell? ⟨b, off + i * 4 + 1, none⟩ = some (.int .i64 (l.getD i default).2.1) ∧ w.cell? ⟨b, off + i * 4 + 2, none⟩ = some (.int .i64 (l.getD i default).2.2.1) ∧ w.cell? ⟨b, off + i * 4 + 3, none⟩ = some (.int .i64 (l.getD i default).2.2.2)
theorem EvRow.of {w w' : World} {A : Option Addr} {n : Nat} {l : List Ev4} (h : EvRow w A n l) (hb : Below w.heap.size w w') : EvRow w' A n l := fun i hi => by
  obtain ⟨b, off, e, x1, x2, x3, x4⟩ := h i hi
  have hlt := World.block_lt_of_cell? w ⟨b, off + i * 4, none⟩ x1
  have k := fun j => World.cell?_of_block (a := ⟨b, j, none⟩) (hb.block b hlt)
  exact ⟨b, off, e, (k _).trans x1, (k _).trans x2, (k _).trans x3, (k _).trans x4⟩
end Go.Proofs.YtkhaeabbbhfloaaDoor

namespace Go.Proofs.YtkhaeabbbhfloaaDoor
set_option maxRecDepth 100000
open Go.RowKit Go.Shelf Go.Sort
set_option linter.unusedVariables false
set_option linter.unusedSimpArgs false

def ActRow (w : World) (A : Option Addr) (n : Nat) (l : List Act6) : Prop := ∀ i, i < n → ∃ b off, A = some ⟨b, off, none⟩ ∧
  w.cell? ⟨b, off + i * 6, none⟩ = some (.int .i64 (l.getD i default).1) ∧ w.cell? ⟨b, off + i * 6 + 1, none⟩ = some (.int .i64 (l.getD i default).2.1) ∧ w.cell? ⟨b, off + i * 6 + 2, none⟩ = some (.int .i64 (l.getD i default).2.2.1) ∧ w.cell? ⟨b, off + i * 6 + 3, none⟩ = some (.int .i64 (l.getD i default).2.2.2.1) ∧ w.cell? ⟨b, off + i * 6 + 4, none⟩ = some (.int .u64 (l.getD i default).2.2.2.2.1) ∧ w.cell? ⟨b, off + i * 6 + 5, none⟩ = some (.int .u64 (l.getD i default).2.2.2.2.2)

theorem cellsE_at (l : List Ev4) (i j : Nat) (hi : i < l.length) (hj : j < 4) : (cellsE l)[i * 4 + j]? = (evC (l.getD i default))[j]? := by
  induction l generalizing i with
  | nil => cases hi
  | cons x l ih =>
    rw [show x :: l = [x] ++ l from rfl, cellsE_append, cellsE_one]
    have hl : (evC x).length = 4 := rfl
    cases i with
    | zero => rw [List.getElem?_append_left (by omega)]; simp
    | succ i =>
      rw [List.getElem?_append_right (by omega), hl, show (i + 1) * 4 + j - 4 = i * 4 + j by omega, ih i (by simpa using hi)]
      simp
theorem cellsA_at (l : List Act6) (i j : Nat) (hi : i < l.length) (hj : j < 6) : (cellsA l)[i * 6 + j]? = (actC (l.getD i default))[j]? := by
  induction l generalizing i with
  | nil => cases hi
  | cons x l ih =>
    rw [show x :: l = [x] ++ l from rfl, cellsA_append, cellsA_one]
    have hl : (actC x).length = 6 := rfl
    cases i with
    | zero => rw [List.getElem?_append_left (by omega)]; simp
    | succ i =>
      rw [List.getElem?_append_right (by omega), hl, show (i + 1) * 6 + j - 6 = i * 6 + j by omega, ih i (by simpa using hi)]
      simp

theorem evRow_own {w : World} {B : Nat} {A : Option Addr} {n c : Nat} {l : List Ev4} (h : w.ownsRow B 79 4 (.slice A n c) n (cellsE l)) (hl : l.length = n) : EvRow w A n l := by
  intro i hi
  obtain ⟨g, cap, hv, hb, hlt⟩ := h.form (by omega)
  obtain ⟨rfl, rfl⟩ : A = some ⟨g, 0, none⟩ ∧ c = cap := by injection hv with h1 _ h3; exact ⟨h1, h3⟩
  have hat := fun j (hj : j < 4) => (h.cellAt (i * 4 + j) (by omega)).trans (cellsE_at l i j (by omega) hj)
  refine ⟨g, 0, rfl, ?_, ?_, ?_, ?_⟩
  all_goals simp only [Nat.zero_add]
  · exact hat 0 (by decide)
  · exact hat 1 (by decide)
  · exact hat 2 (by decide)
  · exact hat 3 (by decide)
theorem actRow_own {w : World} {B : Nat} {A : Option Addr} {n c : Nat} {l : List Act6} (h : w.ownsRow B 36 6 (.slice A n c) n (cellsA l)) (hl : l.length = n) : ActRow w A n l := by
  intro i hi
  obtain ⟨g, cap, hv, hb, hlt⟩ := h.form (by omega)
  obtain ⟨rfl, rfl⟩ : A = some ⟨g, 0, none⟩ ∧ c = cap := by injection hv with h1 _ h3; exact ⟨h1, h3⟩
  have hat := fun j (hj : j < 6) => (h.cellAt (i * 6 + j) (by omega)).trans (cellsA_at l i j (by omega) hj)
  refine ⟨g, 0, rfl, ?_, ?_, ?_, ?_, ?_, ?_⟩
  all_goals simp only [Nat.zero_add]
  · exact hat 0 (by decide)
  · exact hat 1 (by decide)
  · exact hat 2 (by decide)
  · exact hat 3 (by decide)
  · exact hat 4 (by decide)
  · exact hat 5 (by decide)
end Go.Proofs.YtkhaeabbbhfloaaDoor

namespace Go.Proofs.YtkhaeabbbhfloaaDoor
set_option maxRecDepth 100000
open Go.RowKit Go.Shelf Go.Sort
set_option linter.unusedVariables false
set_option linter.unusedSimpArgs false

/-- Four blocks, one behind the other. -/
theorem four_made (w : World) (o1 o2 o3 o4 : Obj) :
    ((((w.alloc o1).alloc o2).alloc o3).alloc o4).heap.size = w.heap.size + 1 + 1 + 1 + 1 ∧
    ((((w.alloc o1).alloc o2).alloc o3).alloc o4).heap[w.heap.size]? = some o1 ∧ ((((w.alloc o1).alloc o2).alloc o3).alloc o4).heap[w.heap.size + 1]? = some o2 ∧
    ((((w.alloc o1).alloc o2).alloc o3).alloc o4).heap[w.heap.size + 1 + 1]? = some o3 ∧ ((((w.alloc o1).alloc o2).alloc o3).alloc o4).heap[w.heap.size + 1 + 1 + 1]? = some o4 ∧
    Below w.heap.size w ((((w.alloc o1).alloc o2).alloc o3).alloc o4) := by
  have hs : ∀ (w : World) (o : Obj), (w.alloc o).heap.size = w.heap.size + 1 := fun w o => by simp
  have hn : ∀ (w : World) (o : Obj), (w.alloc o).heap[w.heap.size]? = some o := fun w o => by
    show (w.heap.push o)[w.heap.size]? = _
    simp
  refine ⟨by rw [hs, hs, hs, hs], ?_, ?_, ?_, ?_, ((((Below.refl _ _).alloc (Nat.le_refl _) _).alloc (by rw [hs]; omega) _).alloc (by rw [hs, hs]; omega) _).alloc (by rw [hs, hs, hs]; omega) _⟩
  · rw [Below.heap_alloc _ _ _ (by rw [hs, hs, hs]; omega), Below.heap_alloc _ _ _ (by rw [hs, hs]; omega), Below.heap_alloc _ _ _ (by rw [hs]; omega)]
    exact hn w o1
  · rw [Below.heap_alloc _ _ _ (by rw [hs, hs, hs]; omega), Below.heap_alloc _ _ _ (by rw [hs, hs]; omega)]
    have := hn (w.alloc o1) o2
    rwa [hs] at this
  · rw [Below.heap_alloc _ _ _ (by rw [hs, hs, hs]; omega)]
    have := hn ((w.alloc o1).alloc o2) o3
    rwa [hs, hs] at this
  · have := hn (((w.alloc o1).alloc o2).alloc o3) o4
    rwa [hs, hs, hs] at this

theorem cell_in {w : World} {b : Nat} {cur : Array Value} {t : TypeId} (h : w.heap[b]? = some (.cells cur t)) (j : Nat) : w.cell? ⟨b, j, none⟩ = cur[j]? := by
  simp [World.cell?, h]

theorem Core.lower {w : World} {B B' : Nat} {S : Nat → Prop} {X : KB} {m : Mach} (h : Core w B S X m) (hb : B' ≤ B) : Core w B' S X m := by
  obtain ⟨xs, h1, h2⟩ := h.thr
  exact ⟨h.at_, ⟨h.mem.at_, own_low h.mem.own hb, Nat.le_trans hb h.mem.lo⟩, ⟨h.lot.at_, own_low h.lot.own hb, Nat.le_trans hb h.lot.lo⟩, ⟨xs, own_low h1 hb, h2⟩, fun k hk => own_low (h.prog k hk) hb, own_low h.acts hb, own_low h.events hb, h.sc, h.sm, h.sl, h.sv, h.sp, fun k hs => ⟨Nat.le_trans hb (h.slo k hs).1, (h.slo k hs).2⟩⟩

end Go.Proofs.YtkhaeabbbhfloaaDoor

namespace Go.Proofs.YtkhaeabbbhfloaaDoor
set_option maxRecDepth 100000
open Go.RowKit Go.Shelf Go.Sort
set_option linter.unusedVariables false
set_option linter.unusedSimpArgs false

section
variable {w wr : World} {c : Nat} {cells0 : List Int} {m : Mach}

theorem At.size (h : At w c m wr) : w.heap.size ≤ wr.heap.size := by
  obtain ⟨S, X, _, _, hB⟩ := h
  exact hB.size
theorem At.bel (h : At w c m wr) : Below w.heap.size w wr := by
  obtain ⟨S, X, _, _, hB⟩ := h
  exact hB

theorem at_step (h : At w c m wr) (hb : MBig cells0 m) (t : Int) :
    Calls Tryd.prog 19 #[.pointer (some ⟨c, 0, none⟩), .int .i64 t] wr fun e w' => e = .returned (errV (stepM 20000 m t).1) ∧ At w c (stepM 20000 m t).2 w' := by
  obtain ⟨S, X, rfl, hC, hB⟩ := h
  exact (kstep_any hC hB.size hb t).mono fun e w' ⟨he, hm⟩ => ⟨he, At.moved rfl hC hB hm⟩
theorem at_ends (h : At w c m wr) (hn : m.progs.length ≤ 16) :
    Calls Tryd.prog 15 #[.pointer (some ⟨c, 0, none⟩)] wr fun e w' => e = .returned (.tuple #[.bool (endsM m).1, .bool (endsM m).2]) ∧ wr.grownBy w' none := by
  obtain ⟨S, X, rfl, hC, hB⟩ := h
  exact ends_any hC hn
theorem at_acts (h : At w c m wr) (hn : m.acts.length ≤ 20000) :
    Calls Tryd.prog 14 #[.pointer (some ⟨c, 0, none⟩)] wr fun e w' => ∃ A cap, e = .returned (.slice A m.acts.length cap) ∧ w'.ownsRow wr.heap.size 36 6 (.slice A m.acts.length cap) m.acts.length (cellsA m.acts) ∧ wr.grownBy w' none := by
  obtain ⟨S, X, rfl, hC, hB⟩ := h
  refine (acts_any hC hn).mono ?_
  rintro e w' ⟨v, he, ho, hg⟩
  obtain ⟨A, cap, rfl⟩ := slice_of_own ho
  exact ⟨A, cap, he, ho, hg⟩
theorem at_events (h : At w c m wr) (hn : m.events.length ≤ 20000) :
    Calls Tryd.prog 18 #[.pointer (some ⟨c, 0, none⟩)] wr fun e w' => ∃ A cap, e = .returned (.slice A m.events.length cap) ∧ w'.ownsRow wr.heap.size 79 4 (.slice A m.events.length cap) m.events.length (cellsE m.events) ∧ wr.grownBy w' none := by
  obtain ⟨S, X, rfl, hC, hB⟩ := h
  refine (events_any hC hn).mono ?_
  rintro e w' ⟨v, he, ho, hg⟩
  obtain ⟨A, cap, rfl⟩ := slice_of_own ho
  exact ⟨A, cap, he, ho, hg⟩
theorem at_cells (h : At w c m wr) (hn : m.cells.length ≤ 300) :
    Calls Tryd.prog 17 #[.pointer (some ⟨c, 0, none⟩)] wr fun e w' => ∃ A cap, e = .returned (.slice A m.cells.length cap) ∧ w'.ownsRow wr.heap.size 30 1 (.slice A m.cells.length cap) m.cells.length (m.cells.map (Value.int .u64)) ∧ wr.grownBy w' none := by
  obtain ⟨S, X, rfl, hC, hB⟩ := h
  refine (kcells_any hC hn).mono ?_
  rintro e w' ⟨v, he, ho, hg⟩
  obtain ⟨A, cap, rfl⟩ := slice_of_own ho
  exact ⟨A, cap, he, ho, hg⟩
end

theorem Moves.old {w w' : World} {n : Nat} {A : Option Addr} {l : List (Int × Bool)} (h : Moves w w.heap.size A n l) (hb : Below w.heap.size w w') : Moves w' w'.heap.size A n l :=
  ⟨h.len, fun h0 => by
    obtain ⟨b, off, e, hlt, hx⟩ := (h.below hb).row h0
    exact ⟨b, off, e, Nat.lt_of_lt_of_le hlt hb.size, hx⟩⟩
theorem Progs.old {w w' : World} {n : Nat} {A : Option Addr} {ps : List (List In5)} (h : Progs w w.heap.size A n ps) (hb : Below w.heap.size w w') : Progs w' w'.heap.size A n ps :=
  h.keep hb.size (fun p hp => World.cell?_of_block (a := p) (hb.block _ hp))
theorem Ints.old {k : IntKind} {w w' : World} {n : Nat} {A : Option Addr} {l : List Int} (h : Ints k w w.heap.size A n l) (hb : Below w.heap.size w w') : Ints k w' w'.heap.size A n l :=
  h.keep hb.size (fun p hp => World.cell?_of_block (a := p) (hb.block _ hp))
theorem At.old {w w1 wr : World} {c : Nat} {m : Mach} (h : At w1 c m wr) (hb : Below w.heap.size w w1) : At w c m wr := by
  obtain ⟨S, X, e, hC, hB⟩ := h
  exact ⟨S, X, e, hC.lower hb.size, hb.trans (hB.mono hb.size)⟩
end Go.Proofs.YtkhaeabbbhfloaaDoor
