/-
  WHO COMES FIRST IS NO MATTER: of what is right, two neighbours of two threads that both come, or both go, may change places.
-/
import Derived.Test.YtoljmleomkkchaaDoorLJudgeCut
import Derived.Test.YtoljmleomkkchaaDoorRowE
import Derived.Test.YtoljmleomkkchaaDoorHeldH
namespace Go.Proofs.YtoljmleomkkchaaDoor
set_option maxRecDepth 100000
open Go.RowKit
set_option linter.unusedVariables false
set_option linter.unusedSimpArgs false

theorem news_of_events {w : World} {ad : Addr} {n : Nat} {l : List Ev4} (h : EvRow w (some ad) n l) (hl : l.length = n) : ∀ j u, (cellsE l)[j]? = some u → w.cell? (ad.add j) = some u := by
  intro j u hu
  have hj : j < (cellsE l).length := (List.getElem?_eq_some_iff.1 hu).1
  rw [cellsE_len] at hj
  obtain ⟨b, off, e, c0, c1, c2, c3⟩ := h (j / 4) (by omega)
  obtain rfl : ad = ⟨b, off, none⟩ := by injection e
  have ha : (⟨b, off, none⟩ : Addr).add j = ⟨b, off + j, none⟩ := by unfold Addr.add; split <;> simp_all
  rw [ha]
  have hat := fun q (hq : q < 4) => cellsE_at l (j / 4) q (by omega) hq
  have hr : j % 4 = 0 ∨ j % 4 = 1 ∨ j % 4 = 2 ∨ j % 4 = 3 := by omega
  rcases hr with hr | hr | hr | hr
  · have := hat 0 (by decide)
    rw [show j / 4 * 4 + 0 = j by omega, hu] at this
    rw [show off + j = off + j / 4 * 4 by omega, c0, this]; rfl
  · have := hat 1 (by decide)
    rw [show j / 4 * 4 + 1 = j by omega, hu] at this
    rw [show off + j = off + j / 4 * 4 + 1 by omega, c1, this]; rfl
  · have := hat 2 (by decide)
    rw [show j / 4 * 4 + 2 = j by omega, hu] at this
    rw [show off + j = off + j / 4 * 4 + 2 by omega, c2, this]; rfl
  · have := hat 3 (by decide)
    rw [show j / 4 * 4 + 3 = j by omega, hu] at this
    rw [show off + j = off + j / 4 * 4 + 3 by omega, c3, this]; rfl
theorem oneCellEv {l : List Ev4} : ∀ u ∈ cellsE l, u.oneCell' = true := by
  intro u hu
  unfold cellsE at hu
  obtain ⟨x, _, hx⟩ := List.mem_flatMap.1 hu
  simp [evC] at hx
  rcases hx with rfl | rfl | rfl | rfl <;> rfl
set_option maxHeartbeats 1000000 in
theorem cloneEv_any {w : World} (ad : Addr) (n c : Nat) (l : List Ev4) (h : EvRow w (some ad) n l) (hl : l.length = n) (hn : n ≤ 20000) :
    Calls Tryd.prog 16 #[.slice (some ad) n c] w fun e w' => ∃ v', e = .returned v' ∧ w'.ownsRow w.heap.size 42 4 v' n (cellsE l) ∧ w.grownBy w' none := by
  have hq := fun (w : World) => Lib.run_eql_slice_nil (P := Tryd.prog) w 22 42 (some ad) n c 0 0 Tryd.underlying22
  have hnews := news_of_events h hl
  obtain ⟨i0, hi, hz0, hz1, hz2⟩ := info_parts infoEv
  have H5 := Lib.hid (oneCellEv (l := l))
  have H2 := Lib.hid (show (cellsE l).length = n * 4 by rw [cellsE_len, hl])
  clear h
  go_enter Tryd.func16, Tryd.ntmps16
  have hown0 := World.ownsRow_made (base := w.heap.size) (e := 42) (size := 4) w #[] 0 (Nat.le_refl _) (by decide) rfl
  have hnews' : ∀ j u, (cellsE l)[j]? = some u → (w.alloc (.cells #[] 42)).cell? (ad.add j) = some u := fun j u hu => Lib.cell?_alloc_some _ (hnews j u hu)
  have H0 := Lib.hid hown0
  have H1 := Lib.hid hnews'
  clear hown0 hnews' hnews hl
  go_wp2_with (at_builtin; refine wpList_append_own _ rfl (.tmp 5) (.tmp 6) 22 rfl w.heap.size 42 i0 (Value.agg #[.int .i64 0, .int .i64 0, .int .i64 0, .int .i64 0]) 4 32 Tryd.underlying22 hi hz0 hz1 hz2 rfl (by decide) _ 0 [] rfl H0.out ad n c (cellsE l) rfl ?c1 H1.out ?c2 ?c3 ?c4 ?c5 ?_)
  case c1 => exact H2.out
  case c2 => exact H5.out
  case c3 => unfold maxLen; omega
  case c4 => omega
  case c5 => simp
  intro v' w1 hown1 hg1 _
  have hg := (World.grownBy_alloc w (.cells #[] 42) none).andThen hg1 (by intro j hj; simp only [Value.ownBlock, Option.some.injEq] at hj; omega)
  have H3 := Lib.hid hown1
  have H4 := Lib.hid hg1
  clear hown1 hg1 H0 H1
  go_wp2
  go_ret
  exact ⟨v', rfl, by simpa using H3.out, hg⟩
/-- Four cells of a block are written. -/
def set4 (C : Array Value) (a : Nat) (v0 v1 v2 v3 : Value) : Array Value := (((C.setIfInBounds a v0).setIfInBounds (a + 1) v1).setIfInBounds (a + 2) v2).setIfInBounds (a + 3) v3
theorem set4_size (C : Array Value) (a : Nat) (v0 v1 v2 v3 : Value) : (set4 C a v0 v1 v2 v3).size = C.size := by unfold set4; simp
theorem set4_out {C : Array Value} {a k : Nat} {v0 v1 v2 v3 : Value} (h : k < a ∨ a + 3 < k) : (set4 C a v0 v1 v2 v3)[k]? = C[k]? := by
  unfold set4
  rw [Array.getElem?_setIfInBounds_ne (by omega), Array.getElem?_setIfInBounds_ne (by omega), Array.getElem?_setIfInBounds_ne (by omega), Array.getElem?_setIfInBounds_ne (by omega)]
theorem set4_in {C : Array Value} {a : Nat} {v0 v1 v2 v3 : Value} (h : a + 3 < C.size) : (set4 C a v0 v1 v2 v3)[a]? = some v0 ∧ (set4 C a v0 v1 v2 v3)[a + 1]? = some v1 ∧ (set4 C a v0 v1 v2 v3)[a + 2]? = some v2 ∧ (set4 C a v0 v1 v2 v3)[a + 3]? = some v3 := by
  unfold set4
  refine ⟨?_, ?_, ?_, ?_⟩
  · rw [Array.getElem?_setIfInBounds_ne (by omega), Array.getElem?_setIfInBounds_ne (by omega), Array.getElem?_setIfInBounds_ne (by omega), Array.getElem?_setIfInBounds_self_of_lt (by omega)]
  · rw [Array.getElem?_setIfInBounds_ne (by omega), Array.getElem?_setIfInBounds_ne (by omega), Array.getElem?_setIfInBounds_self_of_lt (by simp; omega)]
  · rw [Array.getElem?_setIfInBounds_ne (by omega), Array.getElem?_setIfInBounds_self_of_lt (by simp; omega)]
  · rw [Array.getElem?_setIfInBounds_self_of_lt (by simp; omega)]
theorem st_ok {w : World} {g : Nat} {C : Array Value} {t : TypeId} (h : w.heap[g]? = some (.cells C t (0, 0))) {k : Nat} (hk : k < C.size) : (∃ v, w.cell? ⟨g, k, none⟩ = some v) ∧ w.frozen? ⟨g, k, none⟩ = false := by
  refine ⟨⟨C[k], ?_⟩, frozen_of_row w g k _ _ h⟩
  rw [cell_of_row w g k _ _ _ h, Array.getElem?_eq_getElem hk]
theorem st_four {w : World} {g : Nat} {C : Array Value} {t : TypeId} (h : w.heap[g]? = some (.cells C t (0, 0))) (a : Nat) (v0 v1 v2 v3 : Value) : ((((w.setCell ⟨g, a, none⟩ v0).setCell ⟨g, a + 1, none⟩ v1).setCell ⟨g, a + 2, none⟩ v2).setCell ⟨g, a + 3, none⟩ v3).heap[g]? = some (.cells (set4 C a v0 v1 v2 v3) t (0, 0)) :=
  heap_setCell_same _ _ _ _ _ _ (heap_setCell_same _ _ _ _ _ _ (heap_setCell_same _ _ _ _ _ _ (heap_setCell_same w g a _ _ _ h)))
theorem st_below {w w' : World} {B g : Nat} (hb : Below B w w') (hg : B ≤ g) (a : Nat) (v0 v1 v2 v3 : Value) : Below B w ((((w'.setCell ⟨g, a, none⟩ v0).setCell ⟨g, a + 1, none⟩ v1).setCell ⟨g, a + 2, none⟩ v2).setCell ⟨g, a + 3, none⟩ v3) :=
  below_setI (below_setI (below_setI (below_setI hb hg) hg) hg) hg
theorem st_far {w : World} {g b k : Nat} (h : g ≠ b) (a : Nat) (v0 v1 v2 v3 : Value) : ((((w.setCell ⟨g, a, none⟩ v0).setCell ⟨g, a + 1, none⟩ v1).setCell ⟨g, a + 2, none⟩ v2).setCell ⟨g, a + 3, none⟩ v3).cell? ⟨b, k, none⟩ = w.cell? ⟨b, k, none⟩ := by
  rw [World.cell?_setCell_far _ _ _ _ h, World.cell?_setCell_far _ _ _ _ h, World.cell?_setCell_far _ _ _ _ h, World.cell?_setCell_far _ _ _ _ h]
theorem own_block {w : World} {B g n c sz : Nat} {e : TypeId} {xs : List Value} (h : w.ownsRow B e sz (.slice (some ⟨g, 0, none⟩) n c) n xs) : ∃ C, w.heap[g]? = some (.cells C e (0, 0)) ∧ n * sz ≤ C.size ∧ ∀ k, k < n * sz → C[k]? = xs[k]? := by
  obtain ⟨h1, h2⟩ := h
  rcases h2 with ⟨h2, _⟩ | ⟨g', cap, cur, hv, _, hh, hn, _, hs, ht⟩
  · cases h2
  · injection hv with hv _ _
    injection hv with hv
    injection hv with hv
    subst hv
    have hle : n * sz ≤ cap * sz := Nat.mul_le_mul_right _ hn
    refine ⟨cur, hh, by omega, fun k hk => ?_⟩
    rw [← ht, List.getElem?_take, if_pos hk, Array.getElem?_toList]
theorem swap_parts {l : List Ev4} {p : Nat} (h : p + 1 < l.length) : ∃ a b, l = a ++ l.getD p default :: l.getD (p + 1) default :: b ∧ a.length = p := by
  refine ⟨l.take p, l.drop (p + 2), ?_, by rw [List.length_take]; omega⟩
  have h1 : l.getD p default = l[p] := by rw [List.getD_eq_getElem?_getD, List.getElem?_eq_getElem (by omega)]; rfl
  have h2 : l.getD (p + 1) default = l[p + 1] := by rw [List.getD_eq_getElem?_getD, List.getElem?_eq_getElem h]; rfl
  rw [h1, h2, List.getElem_cons_drop h, List.getElem_cons_drop (by omega : p < l.length), List.take_append_drop]
/-- Two neighbours changed places. -/
def swapL (l : List Ev4) (p : Nat) : List Ev4 := (l.set (p + 1) (l.getD p default)).set p (l.getD (p + 1) default)
theorem swapL_len (l : List Ev4) (p : Nat) : (swapL l p).length = l.length := by unfold swapL; rw [List.length_set, List.length_set]
theorem swapL_is {a b : List Ev4} {x y : Ev4} : swapL (a ++ x :: y :: b) a.length = a ++ y :: x :: b := by
  unfold swapL
  have e1 : (a ++ x :: y :: b).getD a.length default = x := by rw [List.getD_eq_getElem?_getD, List.getElem?_append_right (Nat.le_refl _), Nat.sub_self]; rfl
  have e2 : (a ++ x :: y :: b).getD (a.length + 1) default = y := by rw [List.getD_eq_getElem?_getD, List.getElem?_append_right (by omega), show a.length + 1 - a.length = 1 by omega]; rfl
  rw [e1, e2, List.set_append_right _ _ (by omega), show a.length + 1 - a.length = 1 by omega, List.set_append_right _ _ (Nat.le_refl _), Nat.sub_self]
  rfl
theorem swapL_at (l : List Ev4) (p i : Nat) (hp : p + 1 < l.length) (hi : i < l.length) : (swapL l p).getD i default = if i = p then l.getD (p + 1) default else if i = p + 1 then l.getD p default else l.getD i default := by
  unfold swapL
  rw [List.getD_eq_getElem?_getD, List.getElem?_set]
  by_cases e1 : p = i
  · rw [if_pos e1, if_pos (by rw [List.length_set]; omega), if_pos e1.symm]; rfl
  · rw [if_neg e1, if_neg (Ne.symm e1), List.getElem?_set]
    by_cases e2 : p + 1 = i
    · rw [if_pos e2, if_pos (by omega), if_pos e2.symm]; rfl
    · rw [if_neg e2, if_neg (Ne.symm e2), List.getD_eq_getElem?_getD]
theorem judge_swapped {l : List Ev4} {n p : Nat} (h : judgeP n [] l = none) (hp : p + 1 < l.length) (ht : (l.getD p default).2.2.1 ≠ (l.getD (p + 1) default).2.2.1) (hw : (l.getD p default).2.1 = (l.getD (p + 1) default).2.1) : judgeP n [] (swapL l p) = none := by
  obtain ⟨a, b, e, ha⟩ := swap_parts hp
  rw [judge_ok] at h ⊢
  generalize l.getD p default = x at *
  generalize l.getD (p + 1) default = y at *
  subst e
  rw [← ha, swapL_is]
  exact judge_swap h ht hw
def setEv (C : Array Value) (a : Nat) (x : Ev4) : Array Value := set4 C a (.int .i64 x.1) (.int .i64 x.2.1) (.int .i64 x.2.2.1) (.int .i64 x.2.2.2)
theorem setEv_in {C : Array Value} {a : Nat} {x : Ev4} (h : a + 3 < C.size) {j : Nat} (hj : j < 4) : (setEv C a x)[a + j]? = (evC x)[j]? := by
  obtain ⟨h0, h1, h2, h3⟩ := set4_in (v0 := .int .i64 x.1) (v1 := .int .i64 x.2.1) (v2 := .int .i64 x.2.2.1) (v3 := .int .i64 x.2.2.2) h
  match j, hj with
  | 0, _ => exact h0
  | 1, _ => exact h1
  | 2, _ => exact h2
  | 3, _ => exact h3
theorem swap_row {C : Array Value} {l : List Ev4} {p : Nat} (hC : ∀ k, k < l.length * 4 → C[k]? = (cellsE l)[k]?) (hs : l.length * 4 ≤ C.size) (hp : p + 1 < l.length) {i j : Nat} (hi : i < l.length) (hj : j < 4) :
    (setEv (setEv C ((p + 1) * 4) (l.getD p default)) (p * 4) (l.getD (p + 1) default))[i * 4 + j]? = (evC ((swapL l p).getD i default))[j]? := by
  rw [swapL_at l p i hp hi]
  by_cases e1 : i = p
  · subst e1
    rw [if_pos rfl, setEv_in (by unfold setEv; rw [set4_size]; omega) hj]
  · rw [if_neg e1]
    have h1 : (setEv (setEv C ((p + 1) * 4) (l.getD p default)) (p * 4) (l.getD (p + 1) default))[i * 4 + j]? = (setEv C ((p + 1) * 4) (l.getD p default))[i * 4 + j]? := set4_out (by omega)
    rw [h1]
    by_cases e2 : i = p + 1
    · rw [if_pos e2, e2, setEv_in (by omega) hj]
    · rw [if_neg e2]
      have h2 : (setEv C ((p + 1) * 4) (l.getD p default))[i * 4 + j]? = C[i * 4 + j]? := set4_out (by omega)
      rw [h2, hC _ (by omega), cellsE_at l i j hi hj]
theorem evRow_block {w : World} {g n : Nat} {C : Array Value} {t : TypeId} {l : List Ev4} (h : w.heap[g]? = some (.cells C t (0, 0))) (hc : ∀ i j, i < n → j < 4 → C[i * 4 + j]? = (evC (l.getD i default))[j]?) : EvRow w (some ⟨g, 0, none⟩) n l := fun i hi => by
  have hat := fun j (hj : j < 4) => (cell_of_row w g (i * 4 + j) _ _ _ h).trans (hc i j hi hj)
  refine ⟨g, 0, rfl, ?_, ?_, ?_, ?_⟩
  all_goals simp only [Nat.zero_add]
  · exact hat 0 (by decide)
  · exact hat 1 (by decide)
  · exact hat 2 (by decide)
  · exact hat 3 (by decide)
set_option maxHeartbeats 4000000 in
theorem judgeSwaps_any {w : World} (hg : ErrVar w) (A : Option Addr) (len cap : Nat) (l : List Ev4) (hl : l.length = len) (hE : EvRow w A len l) (hc : len ≤ cap) (n at_ : Int) :
    Calls Tryd.prog 5 #[.slice A len cap, .int .i64 n, .int .i64 at_] w fun e w' => e = .returned (.bool true) ∧ Below w.heap.size w w' := by
  have HJ := Lib.hid (judged_any hg)
  obtain ⟨m, m1, m16, hm, hp16⟩ := pick16 n
  have HP := Lib.hid hp16
  have HE := Lib.hid hE
  have hmw : wrap64 (1 + pickI n 16) = (m : Int) := by rw [hm]; unfold wrap64; omega
  have HMW := Lib.hid hmw
  clear hg hp16 hE hm hmw
  generalize pickI n 16 = z at *
  go_enter Tryd.func5, Tryd.ntmps5
  go_wp2_with fail
  refine HJ.out.mono ?_
  rintro e w1 ⟨rfl, hb1⟩
  have HB := Lib.hid hb1
  clear hb1 HJ
  by_cases h2 : len < 2
  · have h2' : (len : Int) < 2 := by omega
    go_wp2
    go_ret
    exact ⟨rfl, HB.out⟩
  have h2' : ¬ (len : Int) < 2 := by omega
  by_cases h9 : 100 < len
  · have h9' : (100 : Int) < (len : Int) := by omega
    go_wp2
    go_ret
    exact ⟨rfl, HB.out⟩
  have h9' : ¬ (100 : Int) < (len : Int) := by omega
  obtain ⟨p, hp, hpu⟩ := pickN at_ (len - 1) (by omega) (by omega)
  have HPU := Lib.hid (fun w => by have := hpu w; rwa [show ((len - 1 : Nat) : Int) = (len : Int) - 1 by omega] at this)
  have HE1 := Lib.hid (HE.out.of HB.out)
  have HPl := Lib.hid (show p + 1 < len ∧ 2 ≤ len ∧ len ≤ 100 by omega)
  clear hpu HE h2 h9 hp
  go_wp2_with fail
  refine (HP.out _).mono ?_
  rintro e w2 ⟨rfl, rfl⟩
  go_wp2_with fail
  --MA
  refine (HPU.out _).mono ?_
  rintro e w2 ⟨rfl, rfl⟩
  rw [HMW.out]
  clear HP HPU
  have hp98 := HPl.out
  obtain ⟨q, hq⟩ : ∃ q : Nat, q = p + 1 := ⟨_, rfl⟩
  have HQ := Lib.hid hq
  have HW1 := Lib.hid (show wrap64 (1 + (p : Int)) = (q : Int) by unfold wrap64; omega)
  have HW2 := Lib.hid (show wrap64 ((q : Int) - 1) = (p : Int) by unfold wrap64; omega)
  have HI2 := Lib.hid (show IntKind.i64.wrap ((q : Int) - 1) = (p : Int) by simp [IntKind.wrap, IntKind.signed, IntKind.bits]; omega)
  have hqb : (q : Int) < (len : Int) := by omega
  have hpb : (p : Int) < (len : Int) := by omega
  have hw1 := HW1.out
  clear hq hp98
  have HQ1 := Lib.hid (show (1 + (p : Int)) = (q : Int) by have := HQ.out; omega)
  obtain ⟨b, off, hA, -⟩ := HE1.out p (by have := HPl.out; omega)
  subst hA
  have HCell := Lib.hid (fun (x : World) (hx : w1.grownBy x none) => show (x.cell? ⟨b, off + q * 4 + 1, none⟩ = some (.int .i64 (l.getD q default).2.1) ∧ x.cell? ⟨b, off + q * 4 + 2, none⟩ = some (.int .i64 (l.getD q default).2.2.1)) ∧ x.cell? ⟨b, off + p * 4 + 1, none⟩ = some (.int .i64 (l.getD p default).2.1) ∧ x.cell? ⟨b, off + p * 4 + 2, none⟩ = some (.int .i64 (l.getD p default).2.2.1) by
    obtain ⟨b1, off1, e1, _, c1, c2, _⟩ := (HE1.out.grow hx) q (by have := HPl.out; have := HQ.out; omega)
    obtain ⟨b2, off2, e2, _, c3, c4, _⟩ := (HE1.out.grow hx) p (by have := HPl.out; omega)
    obtain ⟨rfl, rfl⟩ : b = b1 ∧ off = off1 := by injection e1 with e1; injection e1 with h1 h2; exact ⟨h1, h2⟩
    obtain ⟨rfl, rfl⟩ : b = b2 ∧ off = off2 := by injection e2 with e2; injection e2 with h1 h2; exact ⟨h1, h2⟩
    exact ⟨⟨c1, c2⟩, c3, c4⟩)
  by_cases hw : judgeP m [] l = none
  · have HA := Lib.hid (fun x (hx : w1.grownBy x none) => (jcheck_yes (some ⟨b, off, none⟩) len cap m l hl (by have := HPl.out; omega) (HE1.out.grow hx) m1 m16 hw).mono (R' := fun e w' => e = .returned .nilIface ∧ w1.grownBy w' none) fun e w' ⟨he, h⟩ => ⟨he, hx.andThen h (by intro k hk; cases hk)⟩)
    have HW0 := Lib.hid hw
    clear hw
    go_wp2_with fail
    rw [HQ1.out]
    by_cases ht : (l.getD q default).2.2.1 = (l.getD p default).2.2.1
    · have HCt := Lib.hid (fun x hx => by have := HCell.out x hx; rwa [ht] at this)
      have hi2 := HI2.out
      have hw2 := HW2.out
      have htt : ((l.getD p default).2.2.1 == (l.getD p default).2.2.1) = true := by simp
      generalize (l.getD p default).2.2.1 = tp at *
      generalize (l.getD p default).2.1 = wp at *
      generalize (l.getD q default).2.1 = wq at *
      clear ht HCell
      --MT
      refine region_heldH (S := (fun u => (u.cell? ⟨b, off + q * 4 + 1, none⟩ = some (.int .i64 wq) ∧ u.cell? ⟨b, off + q * 4 + 2, none⟩ = some (.int .i64 tp)) ∧ u.cell? ⟨b, off + p * 4 + 1, none⟩ = some (.int .i64 wp) ∧ u.cell? ⟨b, off + p * 4 + 2, none⟩ = some (.int .i64 tp))) 32 rfl (by kernel_rfl) (HCt.out _ (grown_dJ (World.grownBy.refl _ none))) (fun hHeld => ?_)
      refine heldH_take (n := 31) (i := 0) (oi := _) (v := ?va0) (dst := some 27) rfl rfl rfl (by kernel_rfl) (by kernel_rfl) (by kernel_rfl) (fun _ _ _ h => h) (Or.inl ⟨by rfl, ?hya0⟩) (by assumption) ?resta0
      case hya0 => intro u hSu; (try dsimp only at hSu); go_simp; try (with_reducible rfl)
      simp only [Act.put, List.setIfInBounds_toArray, List.set_cons_zero, List.set_cons_succ]
      refine heldH_take (n := 30) (i := 1) (oi := _) (v := ?va1) (dst := some 28) rfl rfl rfl (by kernel_rfl) (by kernel_rfl) (by kernel_rfl) (fun _ _ _ h => h) (Or.inl ⟨by rfl, ?hya1⟩) (by assumption) ?resta1
      case hya1 => intro u hSu; (try dsimp only at hSu); go_simp; try (with_reducible rfl)
      simp only [Act.put, List.setIfInBounds_toArray, List.set_cons_zero, List.set_cons_succ]
      refine heldH_step (n := 29) (i := 2) (o := _) rfl (by kernel_rfl) rfl (fun K hK => ?_)
      have HK2 := Lib.hid hK
      clear hK
      go_simp
      refine (HA.out _ (by repeat (first | assumption | exact World.grownBy.refl _ none | refine grown_dJ ?_ | refine grown_aJ ?_ _))).mono ?_
      rintro e x1 ⟨rfl, hg1⟩
      go_simp
      refine HK2.out _ _ (HCt.out x1 hg1) (fun hHeld => ?_)
      clear HK2 K
      refine heldH_take (n := 28) (i := 3) (oi := _) (v := ?va3) (dst := some 30) rfl rfl rfl (by kernel_rfl) (by kernel_rfl) (by kernel_rfl) (fun _ _ _ h => h) (Or.inl ⟨by rfl, ?hya3⟩) (by assumption) ?resta3
      case hya3 => intro u hSu; (try dsimp only at hSu); go_simp; try (with_reducible rfl)
      simp only [Act.put, List.setIfInBounds_toArray, List.set_cons_zero, List.set_cons_succ]
      refine heldH_take (n := 27) (i := 4) (oi := _) (v := ?va4) (dst := some 31) rfl rfl rfl (by kernel_rfl) (by kernel_rfl) (by kernel_rfl) (fun _ _ _ h => h) (Or.inl ⟨by rfl, ?hya4⟩) (by assumption) ?resta4
      case hya4 => intro u hSu; (try dsimp only at hSu); go_simp; try (with_reducible rfl)
      simp only [Act.put, List.setIfInBounds_toArray, List.set_cons_zero, List.set_cons_succ]
      refine heldH_take (n := 26) (i := 5) (oi := _) (v := ?va5) (dst := some 32) rfl rfl rfl (by kernel_rfl) (by kernel_rfl) (by kernel_rfl) (fun _ _ _ h => h) (Or.inl ⟨by rfl, ?hya5⟩) (by assumption) ?resta5
      case hya5 => intro u hSu; (try dsimp only at hSu); go_simp; try (with_reducible rfl)
      simp only [Act.put, List.setIfInBounds_toArray, List.set_cons_zero, List.set_cons_succ]
      refine heldH_take (n := 25) (i := 6) (oi := _) (v := ?va6) (dst := some 33) rfl rfl rfl (by kernel_rfl) (by kernel_rfl) (by kernel_rfl) (fun _ _ _ h => h) (Or.inl ⟨by rfl, ?hya6⟩) (by assumption) ?resta6
      case hya6 => intro u hSu; (try dsimp only at hSu); go_simp; try (with_reducible rfl)
      simp only [Act.put, List.setIfInBounds_toArray, List.set_cons_zero, List.set_cons_succ]
      refine heldH_take (n := 24) (i := 7) (oi := _) (v := ?va7) (dst := some 34) rfl rfl rfl (by kernel_rfl) (by kernel_rfl) (by kernel_rfl) (fun _ _ _ h => h) (Or.inl ⟨by rfl, ?hya7⟩) (by assumption) ?resta7
      case hya7 => intro u hSu; (try dsimp only at hSu); go_simp; try (with_reducible rfl)
      simp only [Act.put, List.setIfInBounds_toArray, List.set_cons_zero, List.set_cons_succ]
      refine heldH_take (n := 23) (i := 8) (oi := _) (v := ?va8) (dst := some 35) rfl rfl rfl (by kernel_rfl) (by kernel_rfl) (by kernel_rfl) (fun _ _ _ h => h) (Or.inl ⟨by rfl, ?hya8⟩) (by assumption) ?resta8
      case hya8 => intro u hSu; (try dsimp only at hSu); go_simp; try (with_reducible rfl)
      simp only [Act.put, List.setIfInBounds_toArray, List.set_cons_zero, List.set_cons_succ]
      refine heldH_take (n := 22) (i := 9) (oi := _) (v := ?va9) (dst := some 36) rfl rfl rfl (by kernel_rfl) (by kernel_rfl) (by kernel_rfl) (fun _ _ _ h => h) (Or.inl ⟨by rfl, ?hya9⟩) (by assumption) ?resta9
      case hya9 => intro u hSu; (try dsimp only at hSu); go_simp; try (with_reducible rfl)
      simp only [Act.put, List.setIfInBounds_toArray, List.set_cons_zero, List.set_cons_succ]
      refine heldH_take (n := 21) (i := 10) (oi := _) (v := ?va10) (dst := some 37) rfl rfl rfl (by kernel_rfl) (by kernel_rfl) (by kernel_rfl) (fun _ _ _ h => h) (Or.inl ⟨by rfl, ?hya10⟩) (by assumption) ?resta10
      case hya10 => intro u hSu; (try dsimp only at hSu); go_simp; try (with_reducible rfl)
      simp only [Act.put, List.setIfInBounds_toArray, List.set_cons_zero, List.set_cons_succ]
      refine heldH_take (n := 20) (i := 11) (oi := _) (v := ?va11) (dst := some 38) rfl rfl rfl (by kernel_rfl) (by kernel_rfl) (by kernel_rfl) (fun _ _ _ h => h) (Or.inl ⟨by rfl, ?hya11⟩) (by assumption) ?resta11
      case hya11 => intro u hSu; (try dsimp only at hSu); go_simp; try (with_reducible rfl)
      simp only [Act.put, List.setIfInBounds_toArray, List.set_cons_zero, List.set_cons_succ]
      refine heldH_take (n := 19) (i := 12) (oi := _) (v := ?va12) (dst := some 39) rfl rfl rfl (by kernel_rfl) (by kernel_rfl) (by kernel_rfl) (fun _ _ _ h => h) (Or.inl ⟨by rfl, ?hya12⟩) (by assumption) ?resta12
      case hya12 => intro u hSu; (try dsimp only at hSu); go_simp; try (with_reducible rfl)
      simp only [Act.put, List.setIfInBounds_toArray, List.set_cons_zero, List.set_cons_succ]
      refine heldH_take (n := 18) (i := 13) (oi := _) (v := ?va13) (dst := some 40) rfl rfl rfl (by kernel_rfl) (by kernel_rfl) (by kernel_rfl) (fun _ _ _ h => h) (Or.inl ⟨by rfl, ?hya13⟩) (by assumption) ?resta13
      case hya13 => intro u hSu; (try dsimp only at hSu); go_simp; try (with_reducible rfl)
      simp only [Act.put, List.setIfInBounds_toArray, List.set_cons_zero, List.set_cons_succ]
      refine heldH_take (n := 17) (i := 14) (oi := _) (v := ?va14) (dst := some 41) rfl rfl rfl (by kernel_rfl) (by kernel_rfl) (by kernel_rfl) (fun _ _ _ h => h) (Or.inl ⟨by rfl, ?hya14⟩) (by assumption) ?resta14
      case hya14 => intro u hSu; (try dsimp only at hSu); go_simp; try (with_reducible rfl)
      simp only [Act.put, List.setIfInBounds_toArray, List.set_cons_zero, List.set_cons_succ]
      refine heldH_take (n := 16) (i := 15) (oi := _) (v := ?va15) (dst := some 42) rfl rfl rfl (by kernel_rfl) (by kernel_rfl) (by kernel_rfl) (fun _ _ _ h => h) (Or.inl ⟨by rfl, ?hya15⟩) (by assumption) ?resta15
      case hya15 => intro u hSu; (try dsimp only at hSu); go_simp; try (with_reducible rfl)
      simp only [Act.put, List.setIfInBounds_toArray, List.set_cons_zero, List.set_cons_succ]
      refine heldH_take (n := 15) (i := 16) (oi := _) (v := ?va16) (dst := some 43) rfl rfl rfl (by kernel_rfl) (by kernel_rfl) (by kernel_rfl) (fun _ _ _ h => h) (Or.inl ⟨by rfl, ?hya16⟩) (by assumption) ?resta16
      case hya16 => intro u hSu; (try dsimp only at hSu); go_simp; try (with_reducible rfl)
      simp only [Act.put, List.setIfInBounds_toArray, List.set_cons_zero, List.set_cons_succ]
      refine heldH_take (n := 14) (i := 17) (oi := _) (v := ?va17) (dst := some 44) rfl rfl rfl (by kernel_rfl) (by kernel_rfl) (by kernel_rfl) (fun _ _ _ h => h) (Or.inl ⟨by rfl, ?hya17⟩) (by assumption) ?resta17
      case hya17 => intro u hSu; (try dsimp only at hSu); go_simp; try (with_reducible rfl)
      simp only [Act.put, List.setIfInBounds_toArray, List.set_cons_zero, List.set_cons_succ]
      refine heldH_take (n := 13) (i := 18) (oi := _) (v := ?va18) (dst := some 45) rfl rfl rfl (by kernel_rfl) (by kernel_rfl) (by kernel_rfl) (fun _ _ _ h => h) (Or.inl ⟨by rfl, ?hya18⟩) (by assumption) ?resta18
      case hya18 => intro u hSu; (try dsimp only at hSu); go_simp; try (with_reducible rfl)
      simp only [Act.put, List.setIfInBounds_toArray, List.set_cons_zero, List.set_cons_succ]
      refine heldH_take (n := 12) (i := 19) (oi := _) (v := undef) (dst := some 46) rfl rfl rfl (by kernel_rfl) (by kernel_rfl) (by kernel_rfl) (fun _ _ _ h => h) (Or.inr ⟨by rfl, rfl⟩) (by assumption) ?resta19
      simp only [Act.put, List.setIfInBounds_toArray, List.set_cons_zero, List.set_cons_succ]
      refine heldH_take (n := 11) (i := 20) (oi := _) (v := undef) (dst := some 47) rfl rfl rfl (by kernel_rfl) (by kernel_rfl) (by kernel_rfl) (fun _ _ _ h => h) (Or.inr ⟨by rfl, rfl⟩) (by assumption) ?resta20
      simp only [Act.put, List.setIfInBounds_toArray, List.set_cons_zero, List.set_cons_succ]
      refine heldH_take (n := 10) (i := 21) (oi := _) (v := undef) (dst := some 48) rfl rfl rfl (by kernel_rfl) (by kernel_rfl) (by kernel_rfl) (fun _ _ _ h => h) (Or.inr ⟨by rfl, rfl⟩) (by assumption) ?resta21
      simp only [Act.put, List.setIfInBounds_toArray, List.set_cons_zero, List.set_cons_succ]
      refine heldH_take (n := 9) (i := 22) (oi := _) (v := undef) (dst := some 49) rfl rfl rfl (by kernel_rfl) (by kernel_rfl) (by kernel_rfl) (fun _ _ _ h => h) (Or.inr ⟨by rfl, rfl⟩) (by assumption) ?resta22
      simp only [Act.put, List.setIfInBounds_toArray, List.set_cons_zero, List.set_cons_succ]
      refine heldH_take (n := 8) (i := 23) (oi := _) (v := undef) (dst := some 50) rfl rfl rfl (by kernel_rfl) (by kernel_rfl) (by kernel_rfl) (fun _ _ _ h => h) (Or.inr ⟨by rfl, rfl⟩) (by assumption) ?resta23
      simp only [Act.put, List.setIfInBounds_toArray, List.set_cons_zero, List.set_cons_succ]
      refine heldH_take (n := 7) (i := 24) (oi := _) (v := undef) (dst := some 51) rfl rfl rfl (by kernel_rfl) (by kernel_rfl) (by kernel_rfl) (fun _ _ _ h => h) (Or.inr ⟨by rfl, rfl⟩) (by assumption) ?resta24
      simp only [Act.put, List.setIfInBounds_toArray, List.set_cons_zero, List.set_cons_succ]
      refine heldH_take (n := 6) (i := 25) (oi := _) (v := undef) (dst := some 52) rfl rfl rfl (by kernel_rfl) (by kernel_rfl) (by kernel_rfl) (fun _ _ _ h => h) (Or.inr ⟨by rfl, rfl⟩) (by assumption) ?resta25
      simp only [Act.put, List.setIfInBounds_toArray, List.set_cons_zero, List.set_cons_succ]
      refine heldH_take (n := 5) (i := 26) (oi := _) (v := undef) (dst := some 53) rfl rfl rfl (by kernel_rfl) (by kernel_rfl) (by kernel_rfl) (fun _ _ _ h => h) (Or.inr ⟨by rfl, rfl⟩) (by assumption) ?resta26
      simp only [Act.put, List.setIfInBounds_toArray, List.set_cons_zero, List.set_cons_succ]
      refine heldH_take (n := 4) (i := 27) (oi := _) (v := undef) (dst := some 54) rfl rfl rfl (by kernel_rfl) (by kernel_rfl) (by kernel_rfl) (fun _ _ _ h => h) (Or.inr ⟨by rfl, rfl⟩) (by assumption) ?resta27
      simp only [Act.put, List.setIfInBounds_toArray, List.set_cons_zero, List.set_cons_succ]
      refine heldH_take (n := 3) (i := 28) (oi := _) (v := undef) (dst := some 55) rfl rfl rfl (by kernel_rfl) (by kernel_rfl) (by kernel_rfl) (fun _ _ _ h => h) (Or.inr ⟨by rfl, rfl⟩) (by assumption) ?resta28
      simp only [Act.put, List.setIfInBounds_toArray, List.set_cons_zero, List.set_cons_succ]
      refine heldH_take (n := 2) (i := 29) (oi := _) (v := undef) (dst := some 56) rfl rfl rfl (by kernel_rfl) (by kernel_rfl) (by kernel_rfl) (fun _ _ _ h => h) (Or.inr ⟨by rfl, rfl⟩) (by assumption) ?resta29
      simp only [Act.put, List.setIfInBounds_toArray, List.set_cons_zero, List.set_cons_succ]
      refine heldH_take (n := 1) (i := 30) (oi := _) (v := undef) (dst := some 57) rfl rfl rfl (by kernel_rfl) (by kernel_rfl) (by kernel_rfl) (fun _ _ _ h => h) (Or.inr ⟨by rfl, rfl⟩) (by assumption) ?resta30
      simp only [Act.put, List.setIfInBounds_toArray, List.set_cons_zero, List.set_cons_succ]
      refine heldH_take (n := 0) (i := 31) (oi := _) (v := ?va31) (dst := some 58) rfl rfl rfl (by kernel_rfl) (by kernel_rfl) (by kernel_rfl) (fun _ _ _ h => h) (Or.inl ⟨by rfl, ?hya31⟩) (by assumption) ?resta31
      case hya31 => intro u hSu; (try dsimp only at hSu); go_simp; try (with_reducible rfl)
      simp only [Act.put, List.setIfInBounds_toArray, List.set_cons_zero, List.set_cons_succ]
      refine wpAnyH_done (by kernel_rfl) ?_ _
      have HFF := Lib.hid (HB.out.grown hg1 HB.out.size (by intro k hk; cases hk))
      clear hg1 HA hHeld
      go_wp2
      go_ret
      exact ⟨rfl, HFF.out⟩
    · have HT := Lib.hid ht
      by_cases hw3 : (l.getD q default).2.1 = (l.getD p default).2.1
      · have HCt := Lib.hid (fun x hx => by have := HCell.out x hx; rwa [hw3] at this)
        have HW3 := Lib.hid hw3
        have HQx := Lib.hid (show ∀ x : World, w1.grownBy x none → EvRow x (some ⟨b, off, none⟩) len l from fun x hx => HE1.out.grow hx)
        have hi2 := HI2.out
        have hw2 := HW2.out
        have htt : ((l.getD q default).2.2.1 == (l.getD p default).2.2.1) = false := by simpa using ht
        have hww : ((l.getD p default).2.1 != (l.getD p default).2.1) = false := by simp
        obtain ⟨tp, htp⟩ : ∃ tp, (l.getD p default).2.2.1 = tp := ⟨_, rfl⟩
        obtain ⟨tq, htq⟩ : ∃ tq, (l.getD q default).2.2.1 = tq := ⟨_, rfl⟩
        obtain ⟨wp, hwp⟩ : ∃ wp, (l.getD p default).2.1 = wp := ⟨_, rfl⟩
        rw [htp, htq] at htt
        rw [hwp] at hww
        rw [htp, htq, hwp] at HCt
        clear ht hw3 HCell htp htq hwp
        refine region_heldH (S := (fun u => (u.cell? ⟨b, off + q * 4 + 1, none⟩ = some (.int .i64 wp) ∧ u.cell? ⟨b, off + q * 4 + 2, none⟩ = some (.int .i64 tq)) ∧ u.cell? ⟨b, off + p * 4 + 1, none⟩ = some (.int .i64 wp) ∧ u.cell? ⟨b, off + p * 4 + 2, none⟩ = some (.int .i64 tp))) 32 rfl (by kernel_rfl) (HCt.out _ (grown_dJ (World.grownBy.refl _ none))) (fun hHeld => ?_)
        refine heldH_take (n := 31) (i := 0) (oi := _) (v := ?vb0) (dst := some 27) rfl rfl rfl (by kernel_rfl) (by kernel_rfl) (by kernel_rfl) (fun _ _ _ h => h) (Or.inl ⟨by rfl, ?hyb0⟩) (by assumption) ?restb0
        case hyb0 => intro u hSu; (try dsimp only at hSu); go_simp; try (with_reducible rfl)
        simp only [Act.put, List.setIfInBounds_toArray, List.set_cons_zero, List.set_cons_succ]
        refine heldH_take (n := 30) (i := 1) (oi := _) (v := ?vb1) (dst := some 28) rfl rfl rfl (by kernel_rfl) (by kernel_rfl) (by kernel_rfl) (fun _ _ _ h => h) (Or.inl ⟨by rfl, ?hyb1⟩) (by assumption) ?restb1
        case hyb1 => intro u hSu; (try dsimp only at hSu); go_simp; try (with_reducible rfl)
        simp only [Act.put, List.setIfInBounds_toArray, List.set_cons_zero, List.set_cons_succ]
        refine heldH_step (n := 29) (i := 2) (o := _) rfl (by kernel_rfl) rfl (fun K hK => ?_)
        have HK2 := Lib.hid hK
        clear hK
        go_simp
        refine (HA.out _ (by repeat (first | assumption | exact World.grownBy.refl _ none | refine grown_dJ ?_ | refine grown_aJ ?_ _))).mono ?_
        rintro e x1 ⟨rfl, hg1⟩
        go_simp
        refine HK2.out _ _ (HCt.out x1 hg1) (fun hHeld => ?_)
        clear HK2 K
        refine heldH_take (n := 28) (i := 3) (oi := _) (v := ?vb3) (dst := some 30) rfl rfl rfl (by kernel_rfl) (by kernel_rfl) (by kernel_rfl) (fun _ _ _ h => h) (Or.inl ⟨by rfl, ?hyb3⟩) (by assumption) ?restb3
        case hyb3 => intro u hSu; (try dsimp only at hSu); go_simp; try (with_reducible rfl)
        simp only [Act.put, List.setIfInBounds_toArray, List.set_cons_zero, List.set_cons_succ]
        refine heldH_take (n := 27) (i := 4) (oi := _) (v := ?vb4) (dst := some 31) rfl rfl rfl (by kernel_rfl) (by kernel_rfl) (by kernel_rfl) (fun _ _ _ h => h) (Or.inl ⟨by rfl, ?hyb4⟩) (by assumption) ?restb4
        case hyb4 => intro u hSu; (try dsimp only at hSu); go_simp; try (with_reducible rfl)
        simp only [Act.put, List.setIfInBounds_toArray, List.set_cons_zero, List.set_cons_succ]
        refine heldH_take (n := 26) (i := 5) (oi := _) (v := ?vb5) (dst := some 32) rfl rfl rfl (by kernel_rfl) (by kernel_rfl) (by kernel_rfl) (fun _ _ _ h => h) (Or.inl ⟨by rfl, ?hyb5⟩) (by assumption) ?restb5
        case hyb5 => intro u hSu; (try dsimp only at hSu); go_simp; try (with_reducible rfl)
        simp only [Act.put, List.setIfInBounds_toArray, List.set_cons_zero, List.set_cons_succ]
        refine heldH_take (n := 25) (i := 6) (oi := _) (v := ?vb6) (dst := some 33) rfl rfl rfl (by kernel_rfl) (by kernel_rfl) (by kernel_rfl) (fun _ _ _ h => h) (Or.inl ⟨by rfl, ?hyb6⟩) (by assumption) ?restb6
        case hyb6 => intro u hSu; (try dsimp only at hSu); go_simp; try (with_reducible rfl)
        simp only [Act.put, List.setIfInBounds_toArray, List.set_cons_zero, List.set_cons_succ]
        refine heldH_take (n := 24) (i := 7) (oi := _) (v := ?vb7) (dst := some 34) rfl rfl rfl (by kernel_rfl) (by kernel_rfl) (by kernel_rfl) (fun _ _ _ h => h) (Or.inl ⟨by rfl, ?hyb7⟩) (by assumption) ?restb7
        case hyb7 => intro u hSu; (try dsimp only at hSu); go_simp; try (with_reducible rfl)
        simp only [Act.put, List.setIfInBounds_toArray, List.set_cons_zero, List.set_cons_succ]
        refine heldH_take (n := 23) (i := 8) (oi := _) (v := ?vb8) (dst := some 35) rfl rfl rfl (by kernel_rfl) (by kernel_rfl) (by kernel_rfl) (fun _ _ _ h => h) (Or.inl ⟨by rfl, ?hyb8⟩) (by assumption) ?restb8
        case hyb8 => intro u hSu; (try dsimp only at hSu); go_simp; try (with_reducible rfl)
        simp only [Act.put, List.setIfInBounds_toArray, List.set_cons_zero, List.set_cons_succ]
        refine heldH_take (n := 22) (i := 9) (oi := _) (v := ?vb9) (dst := some 36) rfl rfl rfl (by kernel_rfl) (by kernel_rfl) (by kernel_rfl) (fun _ _ _ h => h) (Or.inl ⟨by rfl, ?hyb9⟩) (by assumption) ?restb9
        case hyb9 => intro u hSu; (try dsimp only at hSu); go_simp; try (with_reducible rfl)
        simp only [Act.put, List.setIfInBounds_toArray, List.set_cons_zero, List.set_cons_succ]
        refine heldH_take (n := 21) (i := 10) (oi := _) (v := ?vb10) (dst := some 37) rfl rfl rfl (by kernel_rfl) (by kernel_rfl) (by kernel_rfl) (fun _ _ _ h => h) (Or.inl ⟨by rfl, ?hyb10⟩) (by assumption) ?restb10
        case hyb10 => intro u hSu; (try dsimp only at hSu); go_simp; try (with_reducible rfl)
        simp only [Act.put, List.setIfInBounds_toArray, List.set_cons_zero, List.set_cons_succ]
        refine heldH_take (n := 20) (i := 11) (oi := _) (v := ?vb11) (dst := some 38) rfl rfl rfl (by kernel_rfl) (by kernel_rfl) (by kernel_rfl) (fun _ _ _ h => h) (Or.inl ⟨by rfl, ?hyb11⟩) (by assumption) ?restb11
        case hyb11 => intro u hSu; (try dsimp only at hSu); go_simp; try (with_reducible rfl)
        simp only [Act.put, List.setIfInBounds_toArray, List.set_cons_zero, List.set_cons_succ]
        refine heldH_take (n := 19) (i := 12) (oi := _) (v := ?vb12) (dst := some 39) rfl rfl rfl (by kernel_rfl) (by kernel_rfl) (by kernel_rfl) (fun _ _ _ h => h) (Or.inl ⟨by rfl, ?hyb12⟩) (by assumption) ?restb12
        case hyb12 => intro u hSu; (try dsimp only at hSu); go_simp; try (with_reducible rfl)
        simp only [Act.put, List.setIfInBounds_toArray, List.set_cons_zero, List.set_cons_succ]
        refine heldH_take (n := 18) (i := 13) (oi := _) (v := ?vb13) (dst := some 40) rfl rfl rfl (by kernel_rfl) (by kernel_rfl) (by kernel_rfl) (fun _ _ _ h => h) (Or.inl ⟨by rfl, ?hyb13⟩) (by assumption) ?restb13
        case hyb13 => intro u hSu; (try dsimp only at hSu); go_simp; try (with_reducible rfl)
        simp only [Act.put, List.setIfInBounds_toArray, List.set_cons_zero, List.set_cons_succ]
        refine heldH_take (n := 17) (i := 14) (oi := _) (v := ?vb14) (dst := some 41) rfl rfl rfl (by kernel_rfl) (by kernel_rfl) (by kernel_rfl) (fun _ _ _ h => h) (Or.inl ⟨by rfl, ?hyb14⟩) (by assumption) ?restb14
        case hyb14 => intro u hSu; (try dsimp only at hSu); go_simp; try (with_reducible rfl)
        simp only [Act.put, List.setIfInBounds_toArray, List.set_cons_zero, List.set_cons_succ]
        refine heldH_take (n := 16) (i := 15) (oi := _) (v := ?vb15) (dst := some 42) rfl rfl rfl (by kernel_rfl) (by kernel_rfl) (by kernel_rfl) (fun _ _ _ h => h) (Or.inl ⟨by rfl, ?hyb15⟩) (by assumption) ?restb15
        case hyb15 => intro u hSu; (try dsimp only at hSu); go_simp; try (with_reducible rfl)
        simp only [Act.put, List.setIfInBounds_toArray, List.set_cons_zero, List.set_cons_succ]
        refine heldH_take (n := 15) (i := 16) (oi := _) (v := ?vb16) (dst := some 43) rfl rfl rfl (by kernel_rfl) (by kernel_rfl) (by kernel_rfl) (fun _ _ _ h => h) (Or.inl ⟨by rfl, ?hyb16⟩) (by assumption) ?restb16
        case hyb16 => intro u hSu; (try dsimp only at hSu); go_simp; try (with_reducible rfl)
        simp only [Act.put, List.setIfInBounds_toArray, List.set_cons_zero, List.set_cons_succ]
        refine heldH_take (n := 14) (i := 17) (oi := _) (v := ?vb17) (dst := some 44) rfl rfl rfl (by kernel_rfl) (by kernel_rfl) (by kernel_rfl) (fun _ _ _ h => h) (Or.inl ⟨by rfl, ?hyb17⟩) (by assumption) ?restb17
        case hyb17 => intro u hSu; (try dsimp only at hSu); go_simp; try (with_reducible rfl)
        simp only [Act.put, List.setIfInBounds_toArray, List.set_cons_zero, List.set_cons_succ]
        refine heldH_take (n := 13) (i := 18) (oi := _) (v := ?vb18) (dst := some 45) rfl rfl rfl (by kernel_rfl) (by kernel_rfl) (by kernel_rfl) (fun _ _ _ h => h) (Or.inl ⟨by rfl, ?hyb18⟩) (by assumption) ?restb18
        case hyb18 => intro u hSu; (try dsimp only at hSu); go_simp; try (with_reducible rfl)
        simp only [Act.put, List.setIfInBounds_toArray, List.set_cons_zero, List.set_cons_succ]
        refine heldH_take (n := 12) (i := 19) (oi := _) (v := ?vb19) (dst := some 46) rfl rfl rfl (by kernel_rfl) (by kernel_rfl) (by kernel_rfl) (fun _ _ _ h => h) (Or.inl ⟨by rfl, ?hyb19⟩) (by assumption) ?restb19
        case hyb19 => intro u hSu; (try dsimp only at hSu); go_simp; try (with_reducible rfl)
        simp only [Act.put, List.setIfInBounds_toArray, List.set_cons_zero, List.set_cons_succ]
        refine heldH_take (n := 11) (i := 20) (oi := _) (v := ?vb20) (dst := some 47) rfl rfl rfl (by kernel_rfl) (by kernel_rfl) (by kernel_rfl) (fun _ _ _ h => h) (Or.inl ⟨by rfl, ?hyb20⟩) (by assumption) ?restb20
        case hyb20 => intro u hSu; (try dsimp only at hSu); go_simp; try (with_reducible rfl)
        simp only [Act.put, List.setIfInBounds_toArray, List.set_cons_zero, List.set_cons_succ]
        refine heldH_take (n := 10) (i := 21) (oi := _) (v := ?vb21) (dst := some 48) rfl rfl rfl (by kernel_rfl) (by kernel_rfl) (by kernel_rfl) (fun _ _ _ h => h) (Or.inl ⟨by rfl, ?hyb21⟩) (by assumption) ?restb21
        case hyb21 => intro u hSu; (try dsimp only at hSu); go_simp; try (with_reducible rfl)
        simp only [Act.put, List.setIfInBounds_toArray, List.set_cons_zero, List.set_cons_succ]
        refine heldH_take (n := 9) (i := 22) (oi := _) (v := ?vb22) (dst := some 49) rfl rfl rfl (by kernel_rfl) (by kernel_rfl) (by kernel_rfl) (fun _ _ _ h => h) (Or.inl ⟨by rfl, ?hyb22⟩) (by assumption) ?restb22
        case hyb22 => intro u hSu; (try dsimp only at hSu); go_simp; try (with_reducible rfl)
        simp only [Act.put, List.setIfInBounds_toArray, List.set_cons_zero, List.set_cons_succ]
        refine heldH_take (n := 8) (i := 23) (oi := _) (v := ?vb23) (dst := some 50) rfl rfl rfl (by kernel_rfl) (by kernel_rfl) (by kernel_rfl) (fun _ _ _ h => h) (Or.inl ⟨by rfl, ?hyb23⟩) (by assumption) ?restb23
        case hyb23 => intro u hSu; (try dsimp only at hSu); go_simp; try (with_reducible rfl)
        simp only [Act.put, List.setIfInBounds_toArray, List.set_cons_zero, List.set_cons_succ]
        refine heldH_take (n := 7) (i := 24) (oi := _) (v := ?vb24) (dst := some 51) rfl rfl rfl (by kernel_rfl) (by kernel_rfl) (by kernel_rfl) (fun _ _ _ h => h) (Or.inl ⟨by rfl, ?hyb24⟩) (by assumption) ?restb24
        case hyb24 => intro u hSu; (try dsimp only at hSu); go_simp; try (with_reducible rfl)
        simp only [Act.put, List.setIfInBounds_toArray, List.set_cons_zero, List.set_cons_succ]
        refine heldH_take (n := 6) (i := 25) (oi := _) (v := ?vb25) (dst := some 52) rfl rfl rfl (by kernel_rfl) (by kernel_rfl) (by kernel_rfl) (fun _ _ _ h => h) (Or.inl ⟨by rfl, ?hyb25⟩) (by assumption) ?restb25
        case hyb25 => intro u hSu; (try dsimp only at hSu); go_simp; try (with_reducible rfl)
        simp only [Act.put, List.setIfInBounds_toArray, List.set_cons_zero, List.set_cons_succ]
        refine heldH_take (n := 5) (i := 26) (oi := _) (v := ?vb26) (dst := some 53) rfl rfl rfl (by kernel_rfl) (by kernel_rfl) (by kernel_rfl) (fun _ _ _ h => h) (Or.inl ⟨by rfl, ?hyb26⟩) (by assumption) ?restb26
        case hyb26 => intro u hSu; (try dsimp only at hSu); go_simp; try (with_reducible rfl)
        simp only [Act.put, List.setIfInBounds_toArray, List.set_cons_zero, List.set_cons_succ]
        refine heldH_take (n := 4) (i := 27) (oi := _) (v := ?vb27) (dst := some 54) rfl rfl rfl (by kernel_rfl) (by kernel_rfl) (by kernel_rfl) (fun _ _ _ h => h) (Or.inl ⟨by rfl, ?hyb27⟩) (by assumption) ?restb27
        case hyb27 => intro u hSu; (try dsimp only at hSu); go_simp; try (with_reducible rfl)
        simp only [Act.put, List.setIfInBounds_toArray, List.set_cons_zero, List.set_cons_succ]
        refine heldH_take (n := 3) (i := 28) (oi := _) (v := ?vb28) (dst := some 55) rfl rfl rfl (by kernel_rfl) (by kernel_rfl) (by kernel_rfl) (fun _ _ _ h => h) (Or.inl ⟨by rfl, ?hyb28⟩) (by assumption) ?restb28
        case hyb28 => intro u hSu; (try dsimp only at hSu); go_simp; try (with_reducible rfl)
        simp only [Act.put, List.setIfInBounds_toArray, List.set_cons_zero, List.set_cons_succ]
        refine heldH_take (n := 2) (i := 29) (oi := _) (v := ?vb29) (dst := some 56) rfl rfl rfl (by kernel_rfl) (by kernel_rfl) (by kernel_rfl) (fun _ _ _ h => h) (Or.inl ⟨by rfl, ?hyb29⟩) (by assumption) ?restb29
        case hyb29 => intro u hSu; (try dsimp only at hSu); go_simp; try (with_reducible rfl)
        simp only [Act.put, List.setIfInBounds_toArray, List.set_cons_zero, List.set_cons_succ]
        refine heldH_take (n := 1) (i := 30) (oi := _) (v := ?vb30) (dst := some 57) rfl rfl rfl (by kernel_rfl) (by kernel_rfl) (by kernel_rfl) (fun _ _ _ h => h) (Or.inl ⟨by rfl, ?hyb30⟩) (by assumption) ?restb30
        case hyb30 => intro u hSu; (try dsimp only at hSu); go_simp; try (with_reducible rfl)
        simp only [Act.put, List.setIfInBounds_toArray, List.set_cons_zero, List.set_cons_succ]
        refine heldH_take (n := 0) (i := 31) (oi := _) (v := ?vb31) (dst := some 58) rfl rfl rfl (by kernel_rfl) (by kernel_rfl) (by kernel_rfl) (fun _ _ _ h => h) (Or.inl ⟨by rfl, ?hyb31⟩) (by assumption) ?restb31
        case hyb31 => intro u hSu; (try dsimp only at hSu); go_simp; try (with_reducible rfl)
        simp only [Act.put, List.setIfInBounds_toArray, List.set_cons_zero, List.set_cons_succ]
        refine wpAnyH_done (by kernel_rfl) ?_ _
        clear hHeld HA htt hww
        have HG1 := Lib.hid hg1
        have HBx1 := Lib.hid (HB.out.grown hg1 HB.out.size (by intro k hk; cases hk))
        have HE2 := Lib.hid (HQx.out x1 hg1)
        have HB2 := Lib.hid (HB.out.grown hg1 HB.out.size (by intro k hk; cases hk))
        clear hg1
        go_wp2_with fail
        refine (cloneEv_any ⟨b, off, none⟩ len cap l HE2.out hl (by have := HPl.out; omega)).mono ?_
        rintro e x2 ⟨v2, rfl, ho2, hg2⟩
        obtain ⟨g, c2, rfl, hgb, hglt⟩ := ho2.form (by have := HPl.out; omega)
        have HO2 := Lib.hid ho2
        have HE3 := Lib.hid (HE2.out.grow hg2)
        have HB3 := Lib.hid (HB2.out.grown hg2 HB2.out.size (by intro k hk; cases hk))
        clear ho2 hg2 HE2 HB2
        go_wp2_with fail
        --MC
        have hbg : b < x1.heap.size := by
          obtain ⟨b3, off3, e3, c3, _⟩ := (HQx.out x1 HG1.out) 0 (by have := HPl.out; omega)
          obtain ⟨rfl, rfl⟩ : b = b3 ∧ off = off3 := by injection e3 with e3; injection e3 with h1 h2; exact ⟨h1, h2⟩
          exact World.block_lt_of_cell? x1 _ c3
        have HNb := Lib.hid (show g ≠ b by omega)
        have HGw := Lib.hid (show w.heap.size ≤ g by have := HBx1.out.size; omega)
        obtain ⟨b1, off1, e1, p0, p1, p2, p3⟩ := HE3.out p (by have := HPl.out; omega)
        obtain ⟨rfl, rfl⟩ : b = b1 ∧ off = off1 := by injection e1 with e1; injection e1 with h1 h2; exact ⟨h1, h2⟩
        obtain ⟨b2, off2, e2, q0, q1, q2, q3⟩ := HE3.out q (by have := HPl.out; have := HQ.out; omega)
        obtain ⟨rfl, rfl⟩ : b = b2 ∧ off = off2 := by injection e2 with e2; injection e2 with h1 h2; exact ⟨h1, h2⟩
        obtain ⟨xp, hxp⟩ : ∃ xp, l.getD p default = xp := ⟨_, rfl⟩
        obtain ⟨xq, hxq⟩ : ∃ xq, l.getD q default = xq := ⟨_, rfl⟩
        rw [hxp] at p0 p1 p2 p3
        rw [hxq] at q0 q1 q2 q3
        obtain ⟨xp0, xp1, xp2, xp3⟩ := xp
        obtain ⟨xq0, xq1, xq2, xq3⟩ := xq
        dsimp only at p0 p1 p2 p3 q0 q1 q2 q3
        have HX := Lib.hid (And.intro hxp hxq)
        have HS8 := Lib.hid (show (x2.cell? ⟨b, off + p * 4, none⟩ = some (.int .i64 xp0) ∧ x2.cell? ⟨b, off + p * 4 + 1, none⟩ = some (.int .i64 xp1) ∧ x2.cell? ⟨b, off + p * 4 + 2, none⟩ = some (.int .i64 xp2) ∧ x2.cell? ⟨b, off + p * 4 + 3, none⟩ = some (.int .i64 xp3)) ∧ x2.cell? ⟨b, off + q * 4, none⟩ = some (.int .i64 xq0) ∧ x2.cell? ⟨b, off + q * 4 + 1, none⟩ = some (.int .i64 xq1) ∧ x2.cell? ⟨b, off + q * 4 + 2, none⟩ = some (.int .i64 xq2) ∧ x2.cell? ⟨b, off + q * 4 + 3, none⟩ = some (.int .i64 xq3) from ⟨⟨p0, p1, p2, p3⟩, q0, q1, q2, q3⟩)
        clear p0 p1 p2 p3 q0 q1 q2 q3 hxp hxq e1 e2 hgb hbg
        have hi2 := HI2.out
        have hw2 := HW2.out
        obtain ⟨C, hC, hCs, hCk⟩ := own_block HO2.out
        have HCk := Lib.hid hCk
        have HC := Lib.hid hC
        have HSz := Lib.hid hCs
        obtain ⟨⟨s0, a0⟩, b0⟩ := st_ok hC (k := q * 4) (by have := HPl.out; have := HQ.out; omega)
        obtain ⟨⟨s1, a1⟩, b1⟩ := st_ok hC (k := q * 4 + 1) (by have := HPl.out; have := HQ.out; omega)
        obtain ⟨⟨s2, a2⟩, b2⟩ := st_ok hC (k := q * 4 + 2) (by have := HPl.out; have := HQ.out; omega)
        obtain ⟨⟨s3, a3⟩, b3⟩ := st_ok hC (k := q * 4 + 3) (by have := HPl.out; have := HQ.out; omega)
        clear hC hCs hCk
        refine region_heldH (S := (fun u => (u.cell? ⟨b, off + p * 4, none⟩ = some (.int .i64 xp0) ∧ u.cell? ⟨b, off + p * 4 + 1, none⟩ = some (.int .i64 xp1) ∧ u.cell? ⟨b, off + p * 4 + 2, none⟩ = some (.int .i64 xp2) ∧ u.cell? ⟨b, off + p * 4 + 3, none⟩ = some (.int .i64 xp3)) ∧ u.cell? ⟨b, off + q * 4, none⟩ = some (.int .i64 xq0) ∧ u.cell? ⟨b, off + q * 4 + 1, none⟩ = some (.int .i64 xq1) ∧ u.cell? ⟨b, off + q * 4 + 2, none⟩ = some (.int .i64 xq2) ∧ u.cell? ⟨b, off + q * 4 + 3, none⟩ = some (.int .i64 xq3))) 18 rfl (by kernel_rfl) HS8.out (fun hHeld => ?_)
        refine heldH_take (n := 17) (i := 0) (oi := _) (v := ?ve0) (dst := some 61) rfl rfl rfl (by kernel_rfl) (by kernel_rfl) (by kernel_rfl) (fun _ _ _ h => h) (Or.inl ⟨by rfl, ?hye0⟩) (by assumption) ?reste0
        case hye0 => intro u hSu; (try dsimp only at hSu); go_simp; try (with_reducible rfl)
        simp only [Act.put, List.setIfInBounds_toArray, List.set_cons_zero, List.set_cons_succ]
        refine heldH_take (n := 16) (i := 1) (oi := _) (v := ?ve1) (dst := some 62) rfl rfl rfl (by kernel_rfl) (by kernel_rfl) (by kernel_rfl) (fun _ _ _ h => h) (Or.inl ⟨by rfl, ?hye1⟩) (by assumption) ?reste1
        case hye1 => intro u hSu; (try dsimp only at hSu); go_simp; try (with_reducible rfl)
        simp only [Act.put, List.setIfInBounds_toArray, List.set_cons_zero, List.set_cons_succ]
        refine heldH_take (n := 15) (i := 2) (oi := _) (v := ?ve2) (dst := some 63) rfl rfl rfl (by kernel_rfl) (by kernel_rfl) (by kernel_rfl) (fun _ _ _ h => h) (Or.inl ⟨by rfl, ?hye2⟩) (by assumption) ?reste2
        case hye2 => intro u hSu; (try dsimp only at hSu); go_simp; try (with_reducible rfl)
        simp only [Act.put, List.setIfInBounds_toArray, List.set_cons_zero, List.set_cons_succ]
        refine heldH_take (n := 14) (i := 3) (oi := _) (v := ?ve3) (dst := some 64) rfl rfl rfl (by kernel_rfl) (by kernel_rfl) (by kernel_rfl) (fun _ _ _ h => h) (Or.inl ⟨by rfl, ?hye3⟩) (by assumption) ?reste3
        case hye3 => intro u hSu; (try dsimp only at hSu); go_simp; try (with_reducible rfl)
        simp only [Act.put, List.setIfInBounds_toArray, List.set_cons_zero, List.set_cons_succ]
        refine heldH_take (n := 13) (i := 4) (oi := _) (v := ?ve4) (dst := some 65) rfl rfl rfl (by kernel_rfl) (by kernel_rfl) (by kernel_rfl) (fun _ _ _ h => h) (Or.inl ⟨by rfl, ?hye4⟩) (by assumption) ?reste4
        case hye4 => intro u hSu; (try dsimp only at hSu); go_simp; try (with_reducible rfl)
        simp only [Act.put, List.setIfInBounds_toArray, List.set_cons_zero, List.set_cons_succ]
        refine heldH_take (n := 12) (i := 5) (oi := _) (v := ?ve5) (dst := some 66) rfl rfl rfl (by kernel_rfl) (by kernel_rfl) (by kernel_rfl) (fun _ _ _ h => h) (Or.inl ⟨by rfl, ?hye5⟩) (by assumption) ?reste5
        case hye5 => intro u hSu; (try dsimp only at hSu); go_simp; try (with_reducible rfl)
        simp only [Act.put, List.setIfInBounds_toArray, List.set_cons_zero, List.set_cons_succ]
        refine heldH_take (n := 11) (i := 6) (oi := _) (v := ?ve6) (dst := some 67) rfl rfl rfl (by kernel_rfl) (by kernel_rfl) (by kernel_rfl) (fun _ _ _ h => h) (Or.inl ⟨by rfl, ?hye6⟩) (by assumption) ?reste6
        case hye6 => intro u hSu; (try dsimp only at hSu); go_simp; try (with_reducible rfl)
        simp only [Act.put, List.setIfInBounds_toArray, List.set_cons_zero, List.set_cons_succ]
        refine heldH_take (n := 10) (i := 7) (oi := _) (v := ?ve7) (dst := some 68) rfl rfl rfl (by kernel_rfl) (by kernel_rfl) (by kernel_rfl) (fun _ _ _ h => h) (Or.inl ⟨by rfl, ?hye7⟩) (by assumption) ?reste7
        case hye7 => intro u hSu; (try dsimp only at hSu); go_simp; try (with_reducible rfl)
        simp only [Act.put, List.setIfInBounds_toArray, List.set_cons_zero, List.set_cons_succ]
        refine heldH_take (n := 9) (i := 8) (oi := _) (v := ?ve8) (dst := some 69) rfl rfl rfl (by kernel_rfl) (by kernel_rfl) (by kernel_rfl) (fun _ _ _ h => h) (Or.inl ⟨by rfl, ?hye8⟩) (by assumption) ?reste8
        case hye8 => intro u hSu; (try dsimp only at hSu); go_simp; try (with_reducible rfl)
        simp only [Act.put, List.setIfInBounds_toArray, List.set_cons_zero, List.set_cons_succ]
        refine heldH_take (n := 8) (i := 9) (oi := _) (v := ?ve9) (dst := some 70) rfl rfl rfl (by kernel_rfl) (by kernel_rfl) (by kernel_rfl) (fun _ _ _ h => h) (Or.inl ⟨by rfl, ?hye9⟩) (by assumption) ?reste9
        case hye9 => intro u hSu; (try dsimp only at hSu); go_simp; try (with_reducible rfl)
        simp only [Act.put, List.setIfInBounds_toArray, List.set_cons_zero, List.set_cons_succ]
        refine heldH_take (n := 7) (i := 10) (oi := _) (v := ?ve10) (dst := some 71) rfl rfl rfl (by kernel_rfl) (by kernel_rfl) (by kernel_rfl) (fun _ _ _ h => h) (Or.inl ⟨by rfl, ?hye10⟩) (by assumption) ?reste10
        case hye10 => intro u hSu; (try dsimp only at hSu); go_simp; try (with_reducible rfl)
        simp only [Act.put, List.setIfInBounds_toArray, List.set_cons_zero, List.set_cons_succ]
        refine heldH_take (n := 6) (i := 11) (oi := _) (v := ?ve11) (dst := some 72) rfl rfl rfl (by kernel_rfl) (by kernel_rfl) (by kernel_rfl) (fun _ _ _ h => h) (Or.inl ⟨by rfl, ?hye11⟩) (by assumption) ?reste11
        case hye11 => intro u hSu; (try dsimp only at hSu); go_simp; try (with_reducible rfl)
        simp only [Act.put, List.setIfInBounds_toArray, List.set_cons_zero, List.set_cons_succ]
        refine heldH_take (n := 5) (i := 12) (oi := _) (v := ?ve12) (dst := some 73) rfl rfl rfl (by kernel_rfl) (by kernel_rfl) (by kernel_rfl) (fun _ _ _ h => h) (Or.inl ⟨by rfl, ?hye12⟩) (by assumption) ?reste12
        case hye12 => intro u hSu; (try dsimp only at hSu); go_simp; try (with_reducible rfl)
        simp only [Act.put, List.setIfInBounds_toArray, List.set_cons_zero, List.set_cons_succ]
        refine heldH_take (n := 4) (i := 13) (oi := _) (v := ?ve13) (dst := some 74) rfl rfl rfl (by kernel_rfl) (by kernel_rfl) (by kernel_rfl) (fun _ _ _ h => h) (Or.inl ⟨by rfl, ?hye13⟩) (by assumption) ?reste13
        case hye13 => intro u hSu; (try dsimp only at hSu); go_simp; try (with_reducible rfl)
        simp only [Act.put, List.setIfInBounds_toArray, List.set_cons_zero, List.set_cons_succ]
        refine heldH_take (n := 3) (i := 14) (oi := _) (v := ?ve14) (dst := some 75) rfl rfl rfl (by kernel_rfl) (by kernel_rfl) (by kernel_rfl) (fun _ _ _ h => h) (Or.inl ⟨by rfl, ?hye14⟩) (by assumption) ?reste14
        case hye14 => intro u hSu; (try dsimp only at hSu); go_simp; try (with_reducible rfl)
        simp only [Act.put, List.setIfInBounds_toArray, List.set_cons_zero, List.set_cons_succ]
        refine heldH_step (n := 2) (i := 15) (o := _) rfl (by kernel_rfl) rfl (fun K hK => ?_)
        have HK2 := Lib.hid hK
        clear hK
        go_simp
        have HC1 := Lib.hid (st_four HC.out (q * 4) (.int .i64 xp0) (.int .i64 xp1) (.int .i64 xp2) (.int .i64 xp3))
        have HBl1 := Lib.hid (st_below (HB3.out) (HGw.out) (q * 4) (.int .i64 xp0) (.int .i64 xp1) (.int .i64 xp2) (.int .i64 xp3))
        have HFar := Lib.hid (fun k => st_far (w := x2) (k := k) HNb.out (q * 4) (.int .i64 xp0) (.int .i64 xp1) (.int .i64 xp2) (.int .i64 xp3))
        clear b0 b1 b2 b3
        generalize ((((x2.setCell ⟨g, q * 4, none⟩ (.int .i64 xp0)).setCell ⟨g, q * 4 + 1, none⟩ (.int .i64 xp1)).setCell ⟨g, q * 4 + 2, none⟩ (.int .i64 xp2)).setCell ⟨g, q * 4 + 3, none⟩ (.int .i64 xp3)) = W1 at *
        have HS1 := Lib.hid (show (fun u => (u.cell? ⟨b, off + p * 4, none⟩ = some (.int .i64 xp0) ∧ u.cell? ⟨b, off + p * 4 + 1, none⟩ = some (.int .i64 xp1) ∧ u.cell? ⟨b, off + p * 4 + 2, none⟩ = some (.int .i64 xp2) ∧ u.cell? ⟨b, off + p * 4 + 3, none⟩ = some (.int .i64 xp3)) ∧ u.cell? ⟨b, off + q * 4, none⟩ = some (.int .i64 xq0) ∧ u.cell? ⟨b, off + q * 4 + 1, none⟩ = some (.int .i64 xq1) ∧ u.cell? ⟨b, off + q * 4 + 2, none⟩ = some (.int .i64 xq2) ∧ u.cell? ⟨b, off + q * 4 + 3, none⟩ = some (.int .i64 xq3)) W1 from ⟨⟨(HFar.out _).trans HS8.out.1.1, (HFar.out _).trans HS8.out.1.2.1, (HFar.out _).trans HS8.out.1.2.2.1, (HFar.out _).trans HS8.out.1.2.2.2⟩, (HFar.out _).trans HS8.out.2.1, (HFar.out _).trans HS8.out.2.2.1, (HFar.out _).trans HS8.out.2.2.2.1, (HFar.out _).trans HS8.out.2.2.2.2⟩)
        refine HK2.out _ _ HS1.out (fun hHeld => ?_)
        clear HK2 K a0 a1 a2 a3
        refine heldH_take (n := 1) (i := 16) (oi := _) (v := ?ve16) (dst := some 76) rfl rfl rfl (by kernel_rfl) (by kernel_rfl) (by kernel_rfl) (fun _ _ _ h => h) (Or.inl ⟨by rfl, ?hye16⟩) (by assumption) ?reste16
        case hye16 => intro u hSu; (try dsimp only at hSu); go_simp; try (with_reducible rfl)
        simp only [Act.put, List.setIfInBounds_toArray, List.set_cons_zero, List.set_cons_succ]
        obtain ⟨⟨s4, a4⟩, b4⟩ := st_ok HC1.out (k := p * 4) (by rw [set4_size]; have := HSz.out; have := HPl.out; omega)
        obtain ⟨⟨s5, a5⟩, b5⟩ := st_ok HC1.out (k := p * 4 + 1) (by rw [set4_size]; have := HSz.out; have := HPl.out; omega)
        obtain ⟨⟨s6, a6⟩, b6⟩ := st_ok HC1.out (k := p * 4 + 2) (by rw [set4_size]; have := HSz.out; have := HPl.out; omega)
        obtain ⟨⟨s7, a7⟩, b7⟩ := st_ok HC1.out (k := p * 4 + 3) (by rw [set4_size]; have := HSz.out; have := HPl.out; omega)
        refine heldH_step (n := 0) (i := 17) (o := _) rfl (by kernel_rfl) rfl (fun K hK => ?_)
        have HK2 := Lib.hid hK
        clear hK
        go_simp
        have HC2 := Lib.hid (st_four HC1.out (p * 4) (.int .i64 xq0) (.int .i64 xq1) (.int .i64 xq2) (.int .i64 xq3))
        have HBl2 := Lib.hid (st_below (HBl1.out) (HGw.out) (p * 4) (.int .i64 xq0) (.int .i64 xq1) (.int .i64 xq2) (.int .i64 xq3))
        have HFar2 := Lib.hid (fun k => st_far (w := W1) (k := k) HNb.out (p * 4) (.int .i64 xq0) (.int .i64 xq1) (.int .i64 xq2) (.int .i64 xq3))
        clear b4 b5 b6 b7 a4 a5 a6 a7
        generalize ((((W1.setCell ⟨g, p * 4, none⟩ (.int .i64 xq0)).setCell ⟨g, p * 4 + 1, none⟩ (.int .i64 xq1)).setCell ⟨g, p * 4 + 2, none⟩ (.int .i64 xq2)).setCell ⟨g, p * 4 + 3, none⟩ (.int .i64 xq3)) = W2 at *
        have HS2 := Lib.hid (show (fun u => (u.cell? ⟨b, off + p * 4, none⟩ = some (.int .i64 xp0) ∧ u.cell? ⟨b, off + p * 4 + 1, none⟩ = some (.int .i64 xp1) ∧ u.cell? ⟨b, off + p * 4 + 2, none⟩ = some (.int .i64 xp2) ∧ u.cell? ⟨b, off + p * 4 + 3, none⟩ = some (.int .i64 xp3)) ∧ u.cell? ⟨b, off + q * 4, none⟩ = some (.int .i64 xq0) ∧ u.cell? ⟨b, off + q * 4 + 1, none⟩ = some (.int .i64 xq1) ∧ u.cell? ⟨b, off + q * 4 + 2, none⟩ = some (.int .i64 xq2) ∧ u.cell? ⟨b, off + q * 4 + 3, none⟩ = some (.int .i64 xq3)) W2 from ⟨⟨(HFar2.out _).trans HS1.out.1.1, (HFar2.out _).trans HS1.out.1.2.1, (HFar2.out _).trans HS1.out.1.2.2.1, (HFar2.out _).trans HS1.out.1.2.2.2⟩, (HFar2.out _).trans HS1.out.2.1, (HFar2.out _).trans HS1.out.2.2.1, (HFar2.out _).trans HS1.out.2.2.2.1, (HFar2.out _).trans HS1.out.2.2.2.2⟩)
        refine HK2.out _ _ HS2.out (fun hHeld => ?_)
        clear HK2 K
        refine wpAnyH_done (by kernel_rfl) ?_ _
        clear hHeld
        have hlq : q = p + 1 := HQ.out
        have HRow := Lib.hid (show EvRow W2 (some ⟨g, 0, none⟩) len (swapL l p) from evRow_block HC2.out fun i j hi hj => by
          have hx := HX.out
          have := swap_row (C := C) (l := l) (p := p) (by rw [hl]; exact HCk.out) (by rw [hl]; exact HSz.out) (by rw [hl]; exact HPl.out.1) (i := i) (j := j) (by rw [hl]; exact hi) hj
          rw [← hlq, hx.1, hx.2] at this
          exact this)
        have hjw := judge_swapped (p := p) HW0.out (by rw [hl]; exact HPl.out.1) (by rw [← hlq]; exact fun e => HT.out e.symm) (by rw [← hlq]; exact HW3.out.symm)
        have HA2 := Lib.hid (fun x (hx : W2.grownBy x none) => jcheck_yes (some ⟨g, 0, none⟩) len c2 m (swapL l p) (by rw [swapL_len]; exact hl) (by have := HPl.out; omega) (HRow.out.grow hx) m1 m16 hjw)
        clear hjw hlq HRow HX HC2 HC1 HFar HFar2 HS1 HS2 HCk HC HSz hi2 hw2
        go_wp2_with fail
        --ME
        refine (HA2.out _ (grown_dJ (World.grownBy.refl _ none))).mono ?_
        rintro e x5 ⟨rfl, hg5⟩
        have HFF := Lib.hid (HBl2.out.grown (show W2.grownBy x5 none from (grown_dJ (World.grownBy.refl _ none)).andThen hg5 (by intro k hk; cases hk)) HBl2.out.size (by intro k hk; cases hk))
        clear hg5 HA2 HBl2
        go_wp2
        go_ret
        exact ⟨rfl, HFF.out⟩
      · have htt : ((l.getD q default).2.2.1 == (l.getD p default).2.2.1) = false := by simpa using ht
        have hww : ((l.getD q default).2.1 != (l.getD p default).2.1) = true := by simpa using hw3
        have hi2 := HI2.out
        have hw2 := HW2.out
        clear hw3 HT ht
        generalize (l.getD p default).2.2.1 = tp at *
        generalize (l.getD q default).2.2.1 = tq at *
        generalize (l.getD p default).2.1 = wp at *
        generalize (l.getD q default).2.1 = wq at *
        refine region_heldH (S := (fun u => (u.cell? ⟨b, off + q * 4 + 1, none⟩ = some (.int .i64 wq) ∧ u.cell? ⟨b, off + q * 4 + 2, none⟩ = some (.int .i64 tq)) ∧ u.cell? ⟨b, off + p * 4 + 1, none⟩ = some (.int .i64 wp) ∧ u.cell? ⟨b, off + p * 4 + 2, none⟩ = some (.int .i64 tp))) 32 rfl (by kernel_rfl) (HCell.out _ (grown_dJ (World.grownBy.refl _ none))) (fun hHeld => ?_)
        refine heldH_take (n := 31) (i := 0) (oi := _) (v := ?vc0) (dst := some 27) rfl rfl rfl (by kernel_rfl) (by kernel_rfl) (by kernel_rfl) (fun _ _ _ h => h) (Or.inl ⟨by rfl, ?hyc0⟩) (by assumption) ?restc0
        case hyc0 => intro u hSu; (try dsimp only at hSu); go_simp; try (with_reducible rfl)
        simp only [Act.put, List.setIfInBounds_toArray, List.set_cons_zero, List.set_cons_succ]
        refine heldH_take (n := 30) (i := 1) (oi := _) (v := ?vc1) (dst := some 28) rfl rfl rfl (by kernel_rfl) (by kernel_rfl) (by kernel_rfl) (fun _ _ _ h => h) (Or.inl ⟨by rfl, ?hyc1⟩) (by assumption) ?restc1
        case hyc1 => intro u hSu; (try dsimp only at hSu); go_simp; try (with_reducible rfl)
        simp only [Act.put, List.setIfInBounds_toArray, List.set_cons_zero, List.set_cons_succ]
        refine heldH_step (n := 29) (i := 2) (o := _) rfl (by kernel_rfl) rfl (fun K hK => ?_)
        have HK2 := Lib.hid hK
        clear hK
        go_simp
        refine (HA.out _ (by repeat (first | assumption | exact World.grownBy.refl _ none | refine grown_dJ ?_ | refine grown_aJ ?_ _))).mono ?_
        rintro e x1 ⟨rfl, hg1⟩
        go_simp
        refine HK2.out _ _ (HCell.out x1 hg1) (fun hHeld => ?_)
        clear HK2 K
        refine heldH_take (n := 28) (i := 3) (oi := _) (v := ?vc3) (dst := some 30) rfl rfl rfl (by kernel_rfl) (by kernel_rfl) (by kernel_rfl) (fun _ _ _ h => h) (Or.inl ⟨by rfl, ?hyc3⟩) (by assumption) ?restc3
        case hyc3 => intro u hSu; (try dsimp only at hSu); go_simp; try (with_reducible rfl)
        simp only [Act.put, List.setIfInBounds_toArray, List.set_cons_zero, List.set_cons_succ]
        refine heldH_take (n := 27) (i := 4) (oi := _) (v := ?vc4) (dst := some 31) rfl rfl rfl (by kernel_rfl) (by kernel_rfl) (by kernel_rfl) (fun _ _ _ h => h) (Or.inl ⟨by rfl, ?hyc4⟩) (by assumption) ?restc4
        case hyc4 => intro u hSu; (try dsimp only at hSu); go_simp; try (with_reducible rfl)
        simp only [Act.put, List.setIfInBounds_toArray, List.set_cons_zero, List.set_cons_succ]
        refine heldH_take (n := 26) (i := 5) (oi := _) (v := ?vc5) (dst := some 32) rfl rfl rfl (by kernel_rfl) (by kernel_rfl) (by kernel_rfl) (fun _ _ _ h => h) (Or.inl ⟨by rfl, ?hyc5⟩) (by assumption) ?restc5
        case hyc5 => intro u hSu; (try dsimp only at hSu); go_simp; try (with_reducible rfl)
        simp only [Act.put, List.setIfInBounds_toArray, List.set_cons_zero, List.set_cons_succ]
        refine heldH_take (n := 25) (i := 6) (oi := _) (v := ?vc6) (dst := some 33) rfl rfl rfl (by kernel_rfl) (by kernel_rfl) (by kernel_rfl) (fun _ _ _ h => h) (Or.inl ⟨by rfl, ?hyc6⟩) (by assumption) ?restc6
        case hyc6 => intro u hSu; (try dsimp only at hSu); go_simp; try (with_reducible rfl)
        simp only [Act.put, List.setIfInBounds_toArray, List.set_cons_zero, List.set_cons_succ]
        refine heldH_take (n := 24) (i := 7) (oi := _) (v := ?vc7) (dst := some 34) rfl rfl rfl (by kernel_rfl) (by kernel_rfl) (by kernel_rfl) (fun _ _ _ h => h) (Or.inl ⟨by rfl, ?hyc7⟩) (by assumption) ?restc7
        case hyc7 => intro u hSu; (try dsimp only at hSu); go_simp; try (with_reducible rfl)
        simp only [Act.put, List.setIfInBounds_toArray, List.set_cons_zero, List.set_cons_succ]
        refine heldH_take (n := 23) (i := 8) (oi := _) (v := ?vc8) (dst := some 35) rfl rfl rfl (by kernel_rfl) (by kernel_rfl) (by kernel_rfl) (fun _ _ _ h => h) (Or.inl ⟨by rfl, ?hyc8⟩) (by assumption) ?restc8
        case hyc8 => intro u hSu; (try dsimp only at hSu); go_simp; try (with_reducible rfl)
        simp only [Act.put, List.setIfInBounds_toArray, List.set_cons_zero, List.set_cons_succ]
        refine heldH_take (n := 22) (i := 9) (oi := _) (v := ?vc9) (dst := some 36) rfl rfl rfl (by kernel_rfl) (by kernel_rfl) (by kernel_rfl) (fun _ _ _ h => h) (Or.inl ⟨by rfl, ?hyc9⟩) (by assumption) ?restc9
        case hyc9 => intro u hSu; (try dsimp only at hSu); go_simp; try (with_reducible rfl)
        simp only [Act.put, List.setIfInBounds_toArray, List.set_cons_zero, List.set_cons_succ]
        refine heldH_take (n := 21) (i := 10) (oi := _) (v := ?vc10) (dst := some 37) rfl rfl rfl (by kernel_rfl) (by kernel_rfl) (by kernel_rfl) (fun _ _ _ h => h) (Or.inl ⟨by rfl, ?hyc10⟩) (by assumption) ?restc10
        case hyc10 => intro u hSu; (try dsimp only at hSu); go_simp; try (with_reducible rfl)
        simp only [Act.put, List.setIfInBounds_toArray, List.set_cons_zero, List.set_cons_succ]
        refine heldH_take (n := 20) (i := 11) (oi := _) (v := ?vc11) (dst := some 38) rfl rfl rfl (by kernel_rfl) (by kernel_rfl) (by kernel_rfl) (fun _ _ _ h => h) (Or.inl ⟨by rfl, ?hyc11⟩) (by assumption) ?restc11
        case hyc11 => intro u hSu; (try dsimp only at hSu); go_simp; try (with_reducible rfl)
        simp only [Act.put, List.setIfInBounds_toArray, List.set_cons_zero, List.set_cons_succ]
        refine heldH_take (n := 19) (i := 12) (oi := _) (v := ?vc12) (dst := some 39) rfl rfl rfl (by kernel_rfl) (by kernel_rfl) (by kernel_rfl) (fun _ _ _ h => h) (Or.inl ⟨by rfl, ?hyc12⟩) (by assumption) ?restc12
        case hyc12 => intro u hSu; (try dsimp only at hSu); go_simp; try (with_reducible rfl)
        simp only [Act.put, List.setIfInBounds_toArray, List.set_cons_zero, List.set_cons_succ]
        refine heldH_take (n := 18) (i := 13) (oi := _) (v := ?vc13) (dst := some 40) rfl rfl rfl (by kernel_rfl) (by kernel_rfl) (by kernel_rfl) (fun _ _ _ h => h) (Or.inl ⟨by rfl, ?hyc13⟩) (by assumption) ?restc13
        case hyc13 => intro u hSu; (try dsimp only at hSu); go_simp; try (with_reducible rfl)
        simp only [Act.put, List.setIfInBounds_toArray, List.set_cons_zero, List.set_cons_succ]
        refine heldH_take (n := 17) (i := 14) (oi := _) (v := ?vc14) (dst := some 41) rfl rfl rfl (by kernel_rfl) (by kernel_rfl) (by kernel_rfl) (fun _ _ _ h => h) (Or.inl ⟨by rfl, ?hyc14⟩) (by assumption) ?restc14
        case hyc14 => intro u hSu; (try dsimp only at hSu); go_simp; try (with_reducible rfl)
        simp only [Act.put, List.setIfInBounds_toArray, List.set_cons_zero, List.set_cons_succ]
        refine heldH_take (n := 16) (i := 15) (oi := _) (v := ?vc15) (dst := some 42) rfl rfl rfl (by kernel_rfl) (by kernel_rfl) (by kernel_rfl) (fun _ _ _ h => h) (Or.inl ⟨by rfl, ?hyc15⟩) (by assumption) ?restc15
        case hyc15 => intro u hSu; (try dsimp only at hSu); go_simp; try (with_reducible rfl)
        simp only [Act.put, List.setIfInBounds_toArray, List.set_cons_zero, List.set_cons_succ]
        refine heldH_take (n := 15) (i := 16) (oi := _) (v := ?vc16) (dst := some 43) rfl rfl rfl (by kernel_rfl) (by kernel_rfl) (by kernel_rfl) (fun _ _ _ h => h) (Or.inl ⟨by rfl, ?hyc16⟩) (by assumption) ?restc16
        case hyc16 => intro u hSu; (try dsimp only at hSu); go_simp; try (with_reducible rfl)
        simp only [Act.put, List.setIfInBounds_toArray, List.set_cons_zero, List.set_cons_succ]
        refine heldH_take (n := 14) (i := 17) (oi := _) (v := ?vc17) (dst := some 44) rfl rfl rfl (by kernel_rfl) (by kernel_rfl) (by kernel_rfl) (fun _ _ _ h => h) (Or.inl ⟨by rfl, ?hyc17⟩) (by assumption) ?restc17
        case hyc17 => intro u hSu; (try dsimp only at hSu); go_simp; try (with_reducible rfl)
        simp only [Act.put, List.setIfInBounds_toArray, List.set_cons_zero, List.set_cons_succ]
        refine heldH_take (n := 13) (i := 18) (oi := _) (v := ?vc18) (dst := some 45) rfl rfl rfl (by kernel_rfl) (by kernel_rfl) (by kernel_rfl) (fun _ _ _ h => h) (Or.inl ⟨by rfl, ?hyc18⟩) (by assumption) ?restc18
        case hyc18 => intro u hSu; (try dsimp only at hSu); go_simp; try (with_reducible rfl)
        simp only [Act.put, List.setIfInBounds_toArray, List.set_cons_zero, List.set_cons_succ]
        refine heldH_take (n := 12) (i := 19) (oi := _) (v := ?vc19) (dst := some 46) rfl rfl rfl (by kernel_rfl) (by kernel_rfl) (by kernel_rfl) (fun _ _ _ h => h) (Or.inl ⟨by rfl, ?hyc19⟩) (by assumption) ?restc19
        case hyc19 => intro u hSu; (try dsimp only at hSu); go_simp; try (with_reducible rfl)
        simp only [Act.put, List.setIfInBounds_toArray, List.set_cons_zero, List.set_cons_succ]
        refine heldH_take (n := 11) (i := 20) (oi := _) (v := ?vc20) (dst := some 47) rfl rfl rfl (by kernel_rfl) (by kernel_rfl) (by kernel_rfl) (fun _ _ _ h => h) (Or.inl ⟨by rfl, ?hyc20⟩) (by assumption) ?restc20
        case hyc20 => intro u hSu; (try dsimp only at hSu); go_simp; try (with_reducible rfl)
        simp only [Act.put, List.setIfInBounds_toArray, List.set_cons_zero, List.set_cons_succ]
        refine heldH_take (n := 10) (i := 21) (oi := _) (v := ?vc21) (dst := some 48) rfl rfl rfl (by kernel_rfl) (by kernel_rfl) (by kernel_rfl) (fun _ _ _ h => h) (Or.inl ⟨by rfl, ?hyc21⟩) (by assumption) ?restc21
        case hyc21 => intro u hSu; (try dsimp only at hSu); go_simp; try (with_reducible rfl)
        simp only [Act.put, List.setIfInBounds_toArray, List.set_cons_zero, List.set_cons_succ]
        refine heldH_take (n := 9) (i := 22) (oi := _) (v := ?vc22) (dst := some 49) rfl rfl rfl (by kernel_rfl) (by kernel_rfl) (by kernel_rfl) (fun _ _ _ h => h) (Or.inl ⟨by rfl, ?hyc22⟩) (by assumption) ?restc22
        case hyc22 => intro u hSu; (try dsimp only at hSu); go_simp; try (with_reducible rfl)
        simp only [Act.put, List.setIfInBounds_toArray, List.set_cons_zero, List.set_cons_succ]
        refine heldH_take (n := 8) (i := 23) (oi := _) (v := ?vc23) (dst := some 50) rfl rfl rfl (by kernel_rfl) (by kernel_rfl) (by kernel_rfl) (fun _ _ _ h => h) (Or.inl ⟨by rfl, ?hyc23⟩) (by assumption) ?restc23
        case hyc23 => intro u hSu; (try dsimp only at hSu); go_simp; try (with_reducible rfl)
        simp only [Act.put, List.setIfInBounds_toArray, List.set_cons_zero, List.set_cons_succ]
        refine heldH_take (n := 7) (i := 24) (oi := _) (v := ?vc24) (dst := some 51) rfl rfl rfl (by kernel_rfl) (by kernel_rfl) (by kernel_rfl) (fun _ _ _ h => h) (Or.inl ⟨by rfl, ?hyc24⟩) (by assumption) ?restc24
        case hyc24 => intro u hSu; (try dsimp only at hSu); go_simp; try (with_reducible rfl)
        simp only [Act.put, List.setIfInBounds_toArray, List.set_cons_zero, List.set_cons_succ]
        refine heldH_take (n := 6) (i := 25) (oi := _) (v := ?vc25) (dst := some 52) rfl rfl rfl (by kernel_rfl) (by kernel_rfl) (by kernel_rfl) (fun _ _ _ h => h) (Or.inl ⟨by rfl, ?hyc25⟩) (by assumption) ?restc25
        case hyc25 => intro u hSu; (try dsimp only at hSu); go_simp; try (with_reducible rfl)
        simp only [Act.put, List.setIfInBounds_toArray, List.set_cons_zero, List.set_cons_succ]
        refine heldH_take (n := 5) (i := 26) (oi := _) (v := ?vc26) (dst := some 53) rfl rfl rfl (by kernel_rfl) (by kernel_rfl) (by kernel_rfl) (fun _ _ _ h => h) (Or.inl ⟨by rfl, ?hyc26⟩) (by assumption) ?restc26
        case hyc26 => intro u hSu; (try dsimp only at hSu); go_simp; try (with_reducible rfl)
        simp only [Act.put, List.setIfInBounds_toArray, List.set_cons_zero, List.set_cons_succ]
        refine heldH_take (n := 4) (i := 27) (oi := _) (v := ?vc27) (dst := some 54) rfl rfl rfl (by kernel_rfl) (by kernel_rfl) (by kernel_rfl) (fun _ _ _ h => h) (Or.inl ⟨by rfl, ?hyc27⟩) (by assumption) ?restc27
        case hyc27 => intro u hSu; (try dsimp only at hSu); go_simp; try (with_reducible rfl)
        simp only [Act.put, List.setIfInBounds_toArray, List.set_cons_zero, List.set_cons_succ]
        refine heldH_take (n := 3) (i := 28) (oi := _) (v := ?vc28) (dst := some 55) rfl rfl rfl (by kernel_rfl) (by kernel_rfl) (by kernel_rfl) (fun _ _ _ h => h) (Or.inl ⟨by rfl, ?hyc28⟩) (by assumption) ?restc28
        case hyc28 => intro u hSu; (try dsimp only at hSu); go_simp; try (with_reducible rfl)
        simp only [Act.put, List.setIfInBounds_toArray, List.set_cons_zero, List.set_cons_succ]
        refine heldH_take (n := 2) (i := 29) (oi := _) (v := ?vc29) (dst := some 56) rfl rfl rfl (by kernel_rfl) (by kernel_rfl) (by kernel_rfl) (fun _ _ _ h => h) (Or.inl ⟨by rfl, ?hyc29⟩) (by assumption) ?restc29
        case hyc29 => intro u hSu; (try dsimp only at hSu); go_simp; try (with_reducible rfl)
        simp only [Act.put, List.setIfInBounds_toArray, List.set_cons_zero, List.set_cons_succ]
        refine heldH_take (n := 1) (i := 30) (oi := _) (v := ?vc30) (dst := some 57) rfl rfl rfl (by kernel_rfl) (by kernel_rfl) (by kernel_rfl) (fun _ _ _ h => h) (Or.inl ⟨by rfl, ?hyc30⟩) (by assumption) ?restc30
        case hyc30 => intro u hSu; (try dsimp only at hSu); go_simp; try (with_reducible rfl)
        simp only [Act.put, List.setIfInBounds_toArray, List.set_cons_zero, List.set_cons_succ]
        refine heldH_take (n := 0) (i := 31) (oi := _) (v := ?vc31) (dst := some 58) rfl rfl rfl (by kernel_rfl) (by kernel_rfl) (by kernel_rfl) (fun _ _ _ h => h) (Or.inl ⟨by rfl, ?hyc31⟩) (by assumption) ?restc31
        case hyc31 => intro u hSu; (try dsimp only at hSu); go_simp; try (with_reducible rfl)
        simp only [Act.put, List.setIfInBounds_toArray, List.set_cons_zero, List.set_cons_succ]
        refine wpAnyH_done (by kernel_rfl) ?_ _
        have HFF := Lib.hid (HB.out.grown hg1 HB.out.size (by intro k hk; cases hk))
        clear hg1 HA hHeld
        go_wp2
        go_ret
        exact ⟨rfl, HFF.out⟩
  · have HA := Lib.hid (fun x (hx : w1.grownBy x none) => (jcheck_no (some ⟨b, off, none⟩) len cap m l hl (by have := HPl.out; omega) (HE1.out.grow hx) m1 m16 hw).mono (R' := fun e w' => ∃ p, e = .returned (.iface 65 (.pointer (some ⟨p, 0, none⟩))) ∧ w1.grownBy w' none) fun e w' ⟨p, he, h⟩ => ⟨p, he, hx.andThen h (by intro k hk; cases hk)⟩)
    clear hw
    go_wp2_with fail
    rw [HQ1.out]
    --MB
    refine region_heldH (S := (fun _ => True)) 32 rfl (by kernel_rfl) trivial (fun hHeld => ?_)
    refine heldH_take (n := 31) (i := 0) (oi := _) (v := ?vd0) (dst := some 27) rfl rfl rfl (by kernel_rfl) (by kernel_rfl) (by kernel_rfl) (fun _ _ _ h => h) (Or.inl ⟨by rfl, ?hyd0⟩) (by assumption) ?restd0
    case hyd0 => intro u hSu; (try dsimp only at hSu); go_simp; try (with_reducible rfl)
    simp only [Act.put, List.setIfInBounds_toArray, List.set_cons_zero, List.set_cons_succ]
    refine heldH_take (n := 30) (i := 1) (oi := _) (v := ?vd1) (dst := some 28) rfl rfl rfl (by kernel_rfl) (by kernel_rfl) (by kernel_rfl) (fun _ _ _ h => h) (Or.inl ⟨by rfl, ?hyd1⟩) (by assumption) ?restd1
    case hyd1 => intro u hSu; (try dsimp only at hSu); go_simp; try (with_reducible rfl)
    simp only [Act.put, List.setIfInBounds_toArray, List.set_cons_zero, List.set_cons_succ]
    refine heldH_step (n := 29) (i := 2) (o := _) rfl (by kernel_rfl) rfl (fun K hK => ?_)
    have HK2 := Lib.hid hK
    clear hK
    go_simp
    refine (HA.out _ (by repeat (first | assumption | exact World.grownBy.refl _ none | refine grown_dJ ?_ | refine grown_aJ ?_ _))).mono ?_
    rintro e x1 ⟨pp, rfl, hg1⟩
    go_simp
    refine HK2.out _ _ trivial (fun hHeld => ?_)
    clear HK2 K
    refine heldH_take (n := 28) (i := 3) (oi := _) (v := ?vd3) (dst := some 30) rfl rfl rfl (by kernel_rfl) (by kernel_rfl) (by kernel_rfl) (fun _ _ _ h => h) (Or.inl ⟨by rfl, ?hyd3⟩) (by assumption) ?restd3
    case hyd3 => intro u hSu; (try dsimp only at hSu); go_simp; try (with_reducible rfl)
    simp only [Act.put, List.setIfInBounds_toArray, List.set_cons_zero, List.set_cons_succ]
    refine heldH_take (n := 27) (i := 4) (oi := _) (v := ?vd4) (dst := some 31) rfl rfl rfl (by kernel_rfl) (by kernel_rfl) (by kernel_rfl) (fun _ _ _ h => h) (Or.inl ⟨by rfl, ?hyd4⟩) (by assumption) ?restd4
    case hyd4 => intro u hSu; (try dsimp only at hSu); go_simp; try (with_reducible rfl)
    simp only [Act.put, List.setIfInBounds_toArray, List.set_cons_zero, List.set_cons_succ]
    refine heldH_take (n := 26) (i := 5) (oi := _) (v := undef) (dst := some 32) rfl rfl rfl (by kernel_rfl) (by kernel_rfl) (by kernel_rfl) (fun _ _ _ h => h) (Or.inr ⟨by rfl, rfl⟩) (by assumption) ?restd5
    simp only [Act.put, List.setIfInBounds_toArray, List.set_cons_zero, List.set_cons_succ]
    refine heldH_take (n := 25) (i := 6) (oi := _) (v := undef) (dst := some 33) rfl rfl rfl (by kernel_rfl) (by kernel_rfl) (by kernel_rfl) (fun _ _ _ h => h) (Or.inr ⟨by rfl, rfl⟩) (by assumption) ?restd6
    simp only [Act.put, List.setIfInBounds_toArray, List.set_cons_zero, List.set_cons_succ]
    refine heldH_take (n := 24) (i := 7) (oi := _) (v := undef) (dst := some 34) rfl rfl rfl (by kernel_rfl) (by kernel_rfl) (by kernel_rfl) (fun _ _ _ h => h) (Or.inr ⟨by rfl, rfl⟩) (by assumption) ?restd7
    simp only [Act.put, List.setIfInBounds_toArray, List.set_cons_zero, List.set_cons_succ]
    refine heldH_take (n := 23) (i := 8) (oi := _) (v := undef) (dst := some 35) rfl rfl rfl (by kernel_rfl) (by kernel_rfl) (by kernel_rfl) (fun _ _ _ h => h) (Or.inr ⟨by rfl, rfl⟩) (by assumption) ?restd8
    simp only [Act.put, List.setIfInBounds_toArray, List.set_cons_zero, List.set_cons_succ]
    refine heldH_take (n := 22) (i := 9) (oi := _) (v := undef) (dst := some 36) rfl rfl rfl (by kernel_rfl) (by kernel_rfl) (by kernel_rfl) (fun _ _ _ h => h) (Or.inr ⟨by rfl, rfl⟩) (by assumption) ?restd9
    simp only [Act.put, List.setIfInBounds_toArray, List.set_cons_zero, List.set_cons_succ]
    refine heldH_take (n := 21) (i := 10) (oi := _) (v := undef) (dst := some 37) rfl rfl rfl (by kernel_rfl) (by kernel_rfl) (by kernel_rfl) (fun _ _ _ h => h) (Or.inr ⟨by rfl, rfl⟩) (by assumption) ?restd10
    simp only [Act.put, List.setIfInBounds_toArray, List.set_cons_zero, List.set_cons_succ]
    refine heldH_take (n := 20) (i := 11) (oi := _) (v := undef) (dst := some 38) rfl rfl rfl (by kernel_rfl) (by kernel_rfl) (by kernel_rfl) (fun _ _ _ h => h) (Or.inr ⟨by rfl, rfl⟩) (by assumption) ?restd11
    simp only [Act.put, List.setIfInBounds_toArray, List.set_cons_zero, List.set_cons_succ]
    refine heldH_take (n := 19) (i := 12) (oi := _) (v := undef) (dst := some 39) rfl rfl rfl (by kernel_rfl) (by kernel_rfl) (by kernel_rfl) (fun _ _ _ h => h) (Or.inr ⟨by rfl, rfl⟩) (by assumption) ?restd12
    simp only [Act.put, List.setIfInBounds_toArray, List.set_cons_zero, List.set_cons_succ]
    refine heldH_take (n := 18) (i := 13) (oi := _) (v := undef) (dst := some 40) rfl rfl rfl (by kernel_rfl) (by kernel_rfl) (by kernel_rfl) (fun _ _ _ h => h) (Or.inr ⟨by rfl, rfl⟩) (by assumption) ?restd13
    simp only [Act.put, List.setIfInBounds_toArray, List.set_cons_zero, List.set_cons_succ]
    refine heldH_take (n := 17) (i := 14) (oi := _) (v := undef) (dst := some 41) rfl rfl rfl (by kernel_rfl) (by kernel_rfl) (by kernel_rfl) (fun _ _ _ h => h) (Or.inr ⟨by rfl, rfl⟩) (by assumption) ?restd14
    simp only [Act.put, List.setIfInBounds_toArray, List.set_cons_zero, List.set_cons_succ]
    refine heldH_take (n := 16) (i := 15) (oi := _) (v := undef) (dst := some 42) rfl rfl rfl (by kernel_rfl) (by kernel_rfl) (by kernel_rfl) (fun _ _ _ h => h) (Or.inr ⟨by rfl, rfl⟩) (by assumption) ?restd15
    simp only [Act.put, List.setIfInBounds_toArray, List.set_cons_zero, List.set_cons_succ]
    refine heldH_take (n := 15) (i := 16) (oi := _) (v := undef) (dst := some 43) rfl rfl rfl (by kernel_rfl) (by kernel_rfl) (by kernel_rfl) (fun _ _ _ h => h) (Or.inr ⟨by rfl, rfl⟩) (by assumption) ?restd16
    simp only [Act.put, List.setIfInBounds_toArray, List.set_cons_zero, List.set_cons_succ]
    refine heldH_take (n := 14) (i := 17) (oi := _) (v := ?vd17) (dst := some 44) rfl rfl rfl (by kernel_rfl) (by kernel_rfl) (by kernel_rfl) (fun _ _ _ h => h) (Or.inl ⟨by rfl, ?hyd17⟩) (by assumption) ?restd17
    case hyd17 => intro u hSu; (try dsimp only at hSu); go_simp; try (with_reducible rfl)
    simp only [Act.put, List.setIfInBounds_toArray, List.set_cons_zero, List.set_cons_succ]
    refine heldH_take (n := 13) (i := 18) (oi := _) (v := ?vd18) (dst := some 45) rfl rfl rfl (by kernel_rfl) (by kernel_rfl) (by kernel_rfl) (fun _ _ _ h => h) (Or.inl ⟨by rfl, ?hyd18⟩) (by assumption) ?restd18
    case hyd18 => intro u hSu; (try dsimp only at hSu); go_simp; try (with_reducible rfl)
    simp only [Act.put, List.setIfInBounds_toArray, List.set_cons_zero, List.set_cons_succ]
    refine heldH_take (n := 12) (i := 19) (oi := _) (v := undef) (dst := some 46) rfl rfl rfl (by kernel_rfl) (by kernel_rfl) (by kernel_rfl) (fun _ _ _ h => h) (Or.inr ⟨by rfl, rfl⟩) (by assumption) ?restd19
    simp only [Act.put, List.setIfInBounds_toArray, List.set_cons_zero, List.set_cons_succ]
    refine heldH_take (n := 11) (i := 20) (oi := _) (v := undef) (dst := some 47) rfl rfl rfl (by kernel_rfl) (by kernel_rfl) (by kernel_rfl) (fun _ _ _ h => h) (Or.inr ⟨by rfl, rfl⟩) (by assumption) ?restd20
    simp only [Act.put, List.setIfInBounds_toArray, List.set_cons_zero, List.set_cons_succ]
    refine heldH_take (n := 10) (i := 21) (oi := _) (v := undef) (dst := some 48) rfl rfl rfl (by kernel_rfl) (by kernel_rfl) (by kernel_rfl) (fun _ _ _ h => h) (Or.inr ⟨by rfl, rfl⟩) (by assumption) ?restd21
    simp only [Act.put, List.setIfInBounds_toArray, List.set_cons_zero, List.set_cons_succ]
    refine heldH_take (n := 9) (i := 22) (oi := _) (v := undef) (dst := some 49) rfl rfl rfl (by kernel_rfl) (by kernel_rfl) (by kernel_rfl) (fun _ _ _ h => h) (Or.inr ⟨by rfl, rfl⟩) (by assumption) ?restd22
    simp only [Act.put, List.setIfInBounds_toArray, List.set_cons_zero, List.set_cons_succ]
    refine heldH_take (n := 8) (i := 23) (oi := _) (v := undef) (dst := some 50) rfl rfl rfl (by kernel_rfl) (by kernel_rfl) (by kernel_rfl) (fun _ _ _ h => h) (Or.inr ⟨by rfl, rfl⟩) (by assumption) ?restd23
    simp only [Act.put, List.setIfInBounds_toArray, List.set_cons_zero, List.set_cons_succ]
    refine heldH_take (n := 7) (i := 24) (oi := _) (v := undef) (dst := some 51) rfl rfl rfl (by kernel_rfl) (by kernel_rfl) (by kernel_rfl) (fun _ _ _ h => h) (Or.inr ⟨by rfl, rfl⟩) (by assumption) ?restd24
    simp only [Act.put, List.setIfInBounds_toArray, List.set_cons_zero, List.set_cons_succ]
    refine heldH_take (n := 6) (i := 25) (oi := _) (v := undef) (dst := some 52) rfl rfl rfl (by kernel_rfl) (by kernel_rfl) (by kernel_rfl) (fun _ _ _ h => h) (Or.inr ⟨by rfl, rfl⟩) (by assumption) ?restd25
    simp only [Act.put, List.setIfInBounds_toArray, List.set_cons_zero, List.set_cons_succ]
    refine heldH_take (n := 5) (i := 26) (oi := _) (v := undef) (dst := some 53) rfl rfl rfl (by kernel_rfl) (by kernel_rfl) (by kernel_rfl) (fun _ _ _ h => h) (Or.inr ⟨by rfl, rfl⟩) (by assumption) ?restd26
    simp only [Act.put, List.setIfInBounds_toArray, List.set_cons_zero, List.set_cons_succ]
    refine heldH_take (n := 4) (i := 27) (oi := _) (v := undef) (dst := some 54) rfl rfl rfl (by kernel_rfl) (by kernel_rfl) (by kernel_rfl) (fun _ _ _ h => h) (Or.inr ⟨by rfl, rfl⟩) (by assumption) ?restd27
    simp only [Act.put, List.setIfInBounds_toArray, List.set_cons_zero, List.set_cons_succ]
    refine heldH_take (n := 3) (i := 28) (oi := _) (v := undef) (dst := some 55) rfl rfl rfl (by kernel_rfl) (by kernel_rfl) (by kernel_rfl) (fun _ _ _ h => h) (Or.inr ⟨by rfl, rfl⟩) (by assumption) ?restd28
    simp only [Act.put, List.setIfInBounds_toArray, List.set_cons_zero, List.set_cons_succ]
    refine heldH_take (n := 2) (i := 29) (oi := _) (v := undef) (dst := some 56) rfl rfl rfl (by kernel_rfl) (by kernel_rfl) (by kernel_rfl) (fun _ _ _ h => h) (Or.inr ⟨by rfl, rfl⟩) (by assumption) ?restd29
    simp only [Act.put, List.setIfInBounds_toArray, List.set_cons_zero, List.set_cons_succ]
    refine heldH_take (n := 1) (i := 30) (oi := _) (v := undef) (dst := some 57) rfl rfl rfl (by kernel_rfl) (by kernel_rfl) (by kernel_rfl) (fun _ _ _ h => h) (Or.inr ⟨by rfl, rfl⟩) (by assumption) ?restd30
    simp only [Act.put, List.setIfInBounds_toArray, List.set_cons_zero, List.set_cons_succ]
    refine heldH_take (n := 0) (i := 31) (oi := _) (v := ?vd31) (dst := some 58) rfl rfl rfl (by kernel_rfl) (by kernel_rfl) (by kernel_rfl) (fun _ _ _ h => h) (Or.inl ⟨by rfl, ?hyd31⟩) (by assumption) ?restd31
    case hyd31 => intro u hSu; (try dsimp only at hSu); go_simp; try (with_reducible rfl)
    simp only [Act.put, List.setIfInBounds_toArray, List.set_cons_zero, List.set_cons_succ]
    refine wpAnyH_done (by kernel_rfl) ?_ _
    have HFF := Lib.hid (HB.out.grown hg1 HB.out.size (by intro k hk; cases hk))
    clear hg1 HA hHeld
    go_wp2
    go_ret
    exact ⟨rfl, HFF.out⟩
end Go.Proofs.YtoljmleomkkchaaDoor
