/-
  left: what all cells have when all are at their ends. spread: what one knows twice as many know then. The judge: the least and the greatest of a row, what is to be said next, what is wrong with an event, and with events.
-/
import Derived.Test.YtgkfhihnfllmhaaGreatDoorQXI2
import Derived.Test.YtgkfhihnfllmhaaGreatDoorQXH6
import Derived.Test.YtgkfhihnfllmhaaGreatDoorQXJ2
import Derived.Test.YtgkfhihnfllmhaaGreatDoorQXH7
import Derived.Test.YtgkfhihnfllmhaaGreatDoorQXA
import Derived.RowKitTokens
import Derived.Lib.MinMax
import Derived.BigQuiet
namespace Go.Proofs.YtgkfhihnfllmhaaGreatDoor
set_option maxRecDepth 100000
open Go.RowKit Go.Shelf Go.Sort
set_option linter.unusedVariables false
set_option linter.unusedSimpArgs false

theorem Ints.tail {k : IntKind} {w : World} {B b off n : Nat} {xs : List Int} (h : Ints k w B (some ⟨b, off, none⟩) n xs) (d m : Nat) (hd : d + m ≤ n) : Ints k w B (some ⟨b, off + d, none⟩) m ((xs.drop d).take m) := by
  have hl := h.len
  refine ⟨by simp; omega, fun h0 => ?_⟩
  obtain ⟨b', off', e, hb, hx⟩ := h.row (by omega)
  injection e with e
  injection e with e1 e2
  subst e1 e2
  refine ⟨_, _, rfl, hb, fun i hi => ?_⟩
  have e : ((xs.drop d).take m).getD i 0 = xs.getD (d + i) 0 := by
    rw [List.getD_eq_getElem?_getD, List.getElem?_take, if_pos hi, List.getElem?_drop, ← List.getD_eq_getElem?_getD]
  rw [e, Nat.add_assoc]
  exact hx (d + i) (by omega)
theorem lvls_is {n : Nat} (n1 : 1 ≤ n) (n16 : n ≤ 16) : lvls n ≤ 4 ∧ n ≤ 2 ^ lvls n ∧ ∀ q, q < lvls n → 2 ^ q < n := by
  have h : ((List.range 16).all fun i => decide (lvls (i + 1) ≤ 4) && decide (i + 1 ≤ 2 ^ lvls (i + 1)) && (List.range (lvls (i + 1))).all fun q => decide (2 ^ q < i + 1)) = true := by decide +kernel
  rw [List.all_eq_true] at h
  have := h (n - 1) (List.mem_range.2 (by omega))
  rw [show n - 1 + 1 = n by omega, Bool.and_eq_true, Bool.and_eq_true, decide_eq_true_eq, decide_eq_true_eq, List.all_eq_true] at this
  exact ⟨this.1.1, this.1.2, fun q hq => of_decide_eq_true (this.2 q (List.mem_range.2 hq))⟩
theorem wrap_pow {q : Nat} (h : q ≤ 4) : wrap64 ((2 : Int) ^ q) = ((2 ^ q : Nat) : Int) := by
  have h2 : 2 ^ q ≤ 2 ^ 4 := Nat.pow_le_pow_right (by decide) h
  have e : ((2 : Int) ^ q) = ((2 ^ q : Nat) : Int) := by simp
  rw [e]
  generalize 2 ^ q = z at *
  unfold wrap64
  omega
end Go.Proofs.YtgkfhihnfllmhaaGreatDoor

namespace Go.Proofs.YtgkfhihnfllmhaaGreatDoor
set_option maxRecDepth 100000
open Go.RowKit Go.Shelf Go.Sort
set_option linter.unusedVariables false
set_option linter.unusedSimpArgs false

theorem lv_table : ∀ n : Nat, n < 17 → n = 0 ∨ ((n : Int) ≤ 2 ^ lvls n ∧ (lvls n = 0 ∨ (2 : Int) ^ (lvls n - 1) < n)) := by decide +kernel
theorem lv_lvls {n : Nat} (n1 : 1 ≤ n) (n16 : n ≤ 16) : LvIs (n : Int) (lvls n) := by
  rcases lv_table n (by omega) with h | h
  · omega
  · exact h
theorem spcell_any {w : World} {b : Nat} {of lv level : Nat} (h1 : of ≤ 100) (h2 : lv ≤ 4) (h3 : level ≤ 100) (hb : w.cell? ⟨b, 0, none⟩ = some (.int .i64 (lv : Nat))) :
    Calls Tryz.prog 246 #[.int .i64 (of : Nat), .int .i64 (level : Nat), .pointer (some ⟨b, 0, none⟩)] w fun e w' => e = .returned (.int .i64 ((of * lv + level : Nat) : Int)) ∧ w = w' := by
  have hm : of * lv ≤ 100 * 4 := Nat.mul_le_mul h1 h2
  have hw : wrap64 ((of : Int) * (lv : Int)) = ((of * lv : Nat) : Int) := by rw [← Int.natCast_mul]; unfold wrap64; omega
  have hw2 : wrap64 (((of * lv : Nat) : Int) + (level : Int)) = ((of * lv + level : Nat) : Int) := by unfold wrap64; omega
  generalize of * lv = p at *
  go_enter Tryz.func246, Tryz.ntmps246
  go_wp2
  go_ret
  exact ⟨rfl, rfl⟩

set_option maxHeartbeats 4000000 in
theorem spbody_any {w : World} {n id : Nat} (n1 : 1 ≤ n) (n16 : n ≤ 16) (hid : id < n) :
    Calls Tryz.prog 225 #[.int .i64 (n : Nat), .int .i64 (id : Nat)] w (BodyOf w (bodyI (spreadOps n id))) := by
  have HLv := Lib.hid (plevels_any (n : Nat) (lvls n) w (lv_lvls n1 n16) (by omega))
  have hl4 := (lvls_is n1 n16).1
  rw [spread_is]
  have HSucc := Lib.hid (fun r => spreadTo_succ n id r)
  have HPl := Lib.hid (fun r => spreadTo_plain n id r)
  have HLn := Lib.hid (fun r => spreadTo_len n id r)
  obtain ⟨lv, hlv⟩ : ∃ lv, lvls n = lv := ⟨_, rfl⟩
  rw [hlv] at HLv hl4 HSucc ⊢
  clear hlv
  have HB0 := Lib.hid ((Below.refl w.heap.size w).alloc (Nat.le_refl _) (.cells #[.int .i64 (lv : Nat)] 3))
  have hat := heap_alloc_new w (.cells #[.int .i64 (lv : Nat)] 3)
  have HC0 := Lib.hid (show (w.alloc (.cells #[.int .i64 (lv : Nat)] 3)).cell? ⟨w.heap.size, 0, none⟩ = some (.int .i64 (lv : Nat)) from (cell_in hat 0).trans rfl)
  obtain ⟨W1, hW1⟩ : ∃ W1, w.alloc (.cells #[.int .i64 (lv : Nat)] 3) = W1 := ⟨_, rfl⟩
  rw [hW1] at HB0 HC0
  have HW1 := Lib.hid hW1
  have hn0 : ¬ (n : Int) = 0 := by omega
  clear hat hW1
  go_enter Tryz.func225, Tryz.ntmps225
  go_wp2_with fail
  refine HLv.out.mono ?_
  rintro e w1 ⟨rfl, hw⟩
  obtain rfl := hw.symm
  clear HLv hw
  go_wp2
  go_loopw [7, 13] (fun v j wr => ∃ (r : Nat) (A : Option Addr) (m c : Nat), r ≤ lv ∧ v = .slice A m c ∧ j = .int .i64 r ∧ Hid (Body W1 A m c (bodyI (spreadTo n id r)) wr)) (fun _ j _ => lv - (intOf j).toNat)
  case atStart => exact ⟨0, none, 0, 0, Nat.zero_le _, rfl, rfl, by rw [HW1.out]; exact Body.nil W1⟩
  case round =>
    obtain ⟨r, A, m, c, hr, rfl, rfl, hb⟩ := hrel
    by_cases hlt : r < lv
    · have hkn : (r : Int) < (lv : Int) := by omega
      have hp : wrap64 ((2 : Int) ^ r) = ((2 ^ r : Nat) : Int) := wrap_pow (by omega)
      have hp16 : 2 ^ r ≤ 2 ^ 4 := Nat.pow_le_pow_right (by decide) (by omega)
      have HS := Lib.hid (HSucc.out r)
      obtain ⟨p, hpp⟩ : ∃ p, 2 ^ r = p := ⟨_, rfl⟩
      rw [hpp] at hp hp16 HS
      have hm : ((id : Int) + (p : Int)).tmod (n : Int) = (((id + p) % n : Nat) : Int) := rfl
      have hq := Nat.mod_lt (id + p) (show 0 < n by omega)
      obtain ⟨q, hqq⟩ : ∃ q, (id + p) % n = q := ⟨_, rfl⟩
      rw [hqq] at hm hq HS
      clear hpp hqq
      have HX1 := Lib.hid (spcell_any (of := q) (level := r) (by omega) hl4 (by omega) (hb.out.cell HC0.out))
      have hl1 := HLn.out r
      obtain ⟨A1, m1, c1, w2, hr1, b1⟩ := hb.out.tell (HPl.out r) (by omega) (q * lv + r) 1
      have hpl1 : (spreadTo n id r ++ [BOp.tell (q * lv + r) 1]).all plainOp = true := by rw [List.all_append, HPl.out]; rfl
      have hl2 : (spreadTo n id r ++ [BOp.tell (q * lv + r) 1]).length ≤ 100 := by rw [List.length_append]; simp; omega
      have HX2 := Lib.hid (spcell_any (of := id) (level := r) (by omega) hl4 (by omega) (b1.cell HC0.out))
      have hp5 := b1.plus hl2
      obtain ⟨A2, m2, c2, w3, hr2, b2⟩ := b1.await hpl1 hl2 (id * lv + r)
      rw [← HS.out] at b2
      have HR1 := Lib.hid hr1
      have HR2 := Lib.hid hr2
      have HB := Lib.hid b2
      have HP5 := Lib.hid hp5
      clear hb hl1 hr1 b1 hpl1 hl2 hr2 b2 HS hp5
      generalize q * lv + r = z1 at *
      generalize id * lv + r = z2 at *
      go_wp2_with fail
      refine HX1.out.mono ?_
      rintro e w4 ⟨rfl, rfl⟩
      go_wp2_with fail
      refine (ptell_any _ _ _).mono ?_
      rintro e w4 ⟨rfl, rfl⟩
      go_wp2_with (at_builtin; refine Lib.wpList_append_run _ rfl _ _ _ _ rfl _ _ rfl rfl _ _ HR1.out ?_)
      refine HX2.out.mono ?_
      rintro e w4 ⟨rfl, rfl⟩
      go_wp2_with fail
      rw [HP5.out]
      refine (pawait_any _ _ _).mono ?_
      rintro e w4 ⟨rfl, rfl⟩
      go_wp2_with (at_builtin; refine Lib.wpList_append_run _ rfl _ _ _ _ rfl _ _ rfl rfl _ _ HR2.out ?_)
      go_roundw
      case rel => exact ⟨r + 1, A2, m2, c2, by omega, rfl, by go_num, HB.out⟩
      case measure => simp [intOf]; omega
    · have hkn : ¬ (r : Int) < (lv : Int) := by omega
      obtain rfl : r = lv := by omega
      have HB := Lib.hid (hb.out.low HB0.out)
      clear hb
      go_wp2
      go_ret
      exact HB.out.of rfl

theorem spcode_any {w : World} {n id rounds : Nat} (d : Dims 4 n rounds) (hid : id < n) : Calls Tryz.prog 192 #[.int .i64 (n : Nat), .int .i64 (id : Nat), .int .i64 (rounds : Nat)] w (CodeOf w rounds (spreadOps n id)) := by
  have HC := Lib.hid (fun w => pcheck_ok (n : Nat) (id : Nat) (rounds : Nat) w (party_of d hid))
  have HB := Lib.hid (spbody_any (w := w) d.n1 d.n16 hid)
  have hr := d.r6
  have HLn := Lib.hid (show (bodyI (spreadOps n id)).length ≤ 1000 by
    have h := bodyI_le (spreadOps n id)
    rw [spread_is] at h ⊢
    rw [spreadTo_len] at h
    have := (lvls_is d.n1 d.n16).1
    omega)
  clear d
  generalize spreadOps n id = ops at *
  go_enter Tryz.func192, Tryz.ntmps192
  go_wp2_with fail
  refine (HC.out _).mono ?_
  rintro e w1 ⟨rfl, hw⟩
  obtain rfl := hw.symm
  clear hw
  go_wp2_with fail
  refine HB.out.mono ?_
  rintro e w2 ⟨A, c, rfl, hb⟩
  have HW := Lib.hid (whole_of hb (by omega : rounds ≤ 20) HLn.out)
  clear hb HB HC
  generalize (bodyI ops).length = m at *
  go_wp2_with fail
  refine HW.out.mono ?_
  rintro e w3 ⟨A', c', rfl, ho, hb⟩
  have HO := Lib.hid ho
  have HB3 := Lib.hid hb
  clear ho hb HW
  go_wp2
  go_ret2
  exact ⟨A', c', rfl, HO.out, HB3.out⟩
theorem spcells_any {w : World} {n : Nat} (n1 : 1 ≤ n) (n16 : n ≤ 16) : Calls Tryz.prog 191 #[.int .i64 (n : Nat)] w fun e w' => e = .returned (.tuple #[.int .i64 (kCells 4 n : Nat), .nilIface]) ∧ w = w' := by
  have HC := Lib.hid (fun w => pcheck_ok (n : Nat) 0 0 w (party_0 n1 n16))
  have HLv := Lib.hid (fun w => plevels_any (n : Nat) (lvls n) w (lv_lvls n1 n16) (by omega))
  have hl4 := (lvls_is n1 n16).1
  have hm : n * lvls n ≤ 16 * 4 := Nat.mul_le_mul n16 hl4
  have hw : wrap64 ((n : Int) * (lvls n : Int)) = ((n * lvls n : Nat) : Int) := by rw [← Int.natCast_mul]; unfold wrap64; omega
  rw [show kCells 4 n = n * lvls n from rfl]
  generalize n * lvls n = z at *
  generalize lvls n = lv at *
  go_enter Tryz.func191, Tryz.ntmps191
  go_wp2_with fail
  refine (HC.out _).mono ?_
  rintro e w1 ⟨rfl, h⟩
  obtain rfl := h.symm
  go_wp2_with fail
  refine (HLv.out _).mono ?_
  rintro e w1 ⟨rfl, h⟩
  obtain rfl := h.symm
  go_wp2
  go_ret2
  refine ⟨?_, rfl⟩
  show Ending.returned (.tuple #[.int .i64 (wrap64 ((n : Int) * (lv : Int))), .nilIface]) = _
  rw [hw]
end Go.Proofs.YtgkfhihnfllmhaaGreatDoor

namespace Go.Proofs.YtgkfhihnfllmhaaGreatDoor
set_option maxRecDepth 100000
open Go.RowKit
set_option linter.unusedVariables false
set_option linter.unusedSimpArgs false

theorem grown_drewJ (w : World) (q : Nat) : w.grownBy (w.drewN q) none := ⟨rfl, rfl, rfl, Nat.le_refl _, fun _ _ _ => rfl⟩
set_option maxHeartbeats 1000000 in
theorem minI_any {w : World} (A : Option Addr) (n c : Nat) (f : Nat → Nat) (xs : List Int) (h : Ints .i64 w w.heap.size A n xs) (hf : ∀ t, t < n → xs.getD t 0 = (f t : Int)) (n1 : 1 ≤ n) (hn : n ≤ 1000) :
    Calls Tryz.prog 51 #[.slice A n c] w fun e w' => e = .returned (.int .i64 (minN f n : Nat)) ∧ w = w' := by
  obtain ⟨b, off, rfl, hb, hx⟩ := h.row (by omega)
  have h0 : w.cell? ⟨b, off, none⟩ = some (.int .i64 (f 0 : Nat)) := by rw [← hf 0 (by omega)]; exact hx 0 (by omega)
  have HX := Lib.hid (fun t (ht : t < n) => (hx t ht).trans (by rw [hf t ht]))
  have hn1 : ¬ (n : Int) < 1 := by omega
  clear h hx hf
  go_enter Tryz.func51, Tryz.ntmps51
  go_wp2
  clear h0
  go_loopw [3, 4] (fun v j wr => ∃ k : Nat, 1 ≤ k ∧ k ≤ n ∧ v = .int .i64 (minN f k : Nat) ∧ j = .int .i64 k ∧ wr = w) (fun _ j _ => n - (intOf j).toNat)
  case atStart => exact ⟨1, Nat.le_refl _, n1, rfl, rfl, rfl⟩
  case round =>
    obtain ⟨k, hk1, hk, rfl, rfl, rfl⟩ := hrel
    by_cases hlt : k < n
    · have hkn : (k : Int) < (n : Int) := by omega
      have hc := HX.out k hlt
      have HM := Lib.hid (minN_more f hk1)
      generalize minN f k = z at *
      generalize f k = y at *
      have hm : min (z : Int) (y : Int) = ((min z y : Nat) : Int) := by omega
      go_wp2
      go_roundw
      case rel => exact ⟨k + 1, by omega, by omega, by rw [HM.out, ← hm], by go_num, trivial⟩
      case measure => simp [intOf]; omega
    · have hkn : ¬ (k : Int) < (n : Int) := by omega
      obtain rfl : k = n := by omega
      go_wp2
      go_ret
      exact ⟨rfl, rfl⟩
set_option maxHeartbeats 1000000 in
theorem maxI_any {w : World} (A : Option Addr) (n c : Nat) (f : Nat → Nat) (xs : List Int) (h : Ints .i64 w w.heap.size A n xs) (hf : ∀ t, t < n → xs.getD t 0 = (f t : Int)) (n1 : 1 ≤ n) (hn : n ≤ 1000) :
    Calls Tryz.prog 53 #[.slice A n c] w fun e w' => e = .returned (.int .i64 (maxN f n : Nat)) ∧ w = w' := by
  obtain ⟨b, off, rfl, hb, hx⟩ := h.row (by omega)
  have h0 : w.cell? ⟨b, off, none⟩ = some (.int .i64 (f 0 : Nat)) := by rw [← hf 0 (by omega)]; exact hx 0 (by omega)
  have HX := Lib.hid (fun t (ht : t < n) => (hx t ht).trans (by rw [hf t ht]))
  have hn1 : ¬ (n : Int) < 1 := by omega
  have hz : maxN f 1 = f 0 := by show max 0 (f 0) = f 0; omega
  clear h hx hf
  rw [← hz] at h0
  go_enter Tryz.func53, Tryz.ntmps53
  go_wp2
  clear h0 hz
  go_loopw [3, 4] (fun v j wr => ∃ k : Nat, 1 ≤ k ∧ k ≤ n ∧ v = .int .i64 (maxN f k : Nat) ∧ j = .int .i64 k ∧ wr = w) (fun _ j _ => n - (intOf j).toNat)
  case atStart => exact ⟨1, Nat.le_refl _, n1, rfl, rfl, rfl⟩
  case round =>
    obtain ⟨k, hk1, hk, rfl, rfl, rfl⟩ := hrel
    by_cases hlt : k < n
    · have hkn : (k : Int) < (n : Int) := by omega
      have hc := HX.out k hlt
      have HM := Lib.hid (maxN_more f k)
      generalize maxN f k = z at *
      generalize f k = y at *
      have hm : max (z : Int) (y : Int) = ((max z y : Nat) : Int) := by omega
      go_wp2
      go_roundw
      case rel => exact ⟨k + 1, by omega, by omega, by rw [HM.out, ← hm], by go_num, trivial⟩
      case measure => simp [intOf]; omega
    · have hkn : ¬ (k : Int) < (n : Int) := by omega
      obtain rfl : k = n := by omega
      go_wp2
      go_ret
      exact ⟨rfl, rfl⟩

theorem jnext_any (k : Nat) (hk : k ≤ 1000000) (w : World) : Calls Tryz.prog 121 #[.int .i64 (k : Nat)] w fun e w' => e = .returned (.tuple #[.int .i64 ((1 + k % 2 : Nat) : Int), .int .i64 ((k / 2 + 1 : Nat) : Int)]) ∧ w = w' := by
  have hr := Nat.mod_lt k (show 0 < 2 by decide)
  rcases (by omega : k % 2 = 0 ∨ k % 2 = 1) with h2 | h2
  · have h3 : ((k : Int) % 2) = 0 := by omega
    go_enter Tryz.func121, Tryz.ntmps121
    go_wp2
    go_ret2
    exact ⟨by rw [h2]; congr 5, rfl⟩
  · have h3 : ((k : Int) % 2) = 1 := by omega
    go_enter Tryz.func121, Tryz.ntmps121
    go_wp2
    go_ret2
    exact ⟨by rw [h2]; congr 5, rfl⟩
theorem jcame_any (k : Nat) (hk : k ≤ 1000000) (w : World) : Calls Tryz.prog 52 #[.int .i64 (k : Nat)] w fun e w' => e = .returned (.int .i64 (((k + 1) / 2 : Nat) : Int)) ∧ w = w' := by
  go_enter Tryz.func52, Tryz.ntmps52
  go_wp2
  go_ret
  exact ⟨ret_int (by omega), rfl⟩
theorem jgone_any (k : Nat) (hk : k ≤ 1000000) (w : World) : Calls Tryz.prog 50 #[.int .i64 (k : Nat)] w fun e w' => e = .returned (.int .i64 ((k / 2 : Nat) : Int)) ∧ w = w' := by
  go_enter Tryz.func50, Tryz.ntmps50
  go_wp2
  go_ret
  exact ⟨ret_int (by omega), rfl⟩

set_option maxHeartbeats 2000000 in
theorem jjudge_any {w : World} (A : Option Addr) (n c : Nat) (a : List Ev4) (ha : a.length ≤ 100000) (h : Ints .i64 w w.heap.size A n (timesL n a)) (n1 : 1 ≤ n) (hn : n ≤ 16) (x : Ev4) :
    Calls Tryz.prog 87 #[.agg #[.int .i64 x.1, .int .i64 x.2.1, .int .i64 x.2.2.1, .int .i64 x.2.2.2], .slice A n c] w fun e w' => e = .returned (.int .i64 (jErr n a x : Nat)) ∧ w.grownBy w' none := by
  have HG := Lib.hid (World.grownBy_alloc w (.cells #[.int .i64 x.1, .int .i64 x.2.1, .int .i64 x.2.2.1, .int .i64 x.2.2.2] 48) none)
  have h2 := h.keep (Nat.le_of_lt (by simp : w.heap.size < (w.alloc (.cells #[.int .i64 x.1, .int .i64 x.2.1, .int .i64 x.2.2.1, .int .i64 x.2.2.2] 48)).heap.size)) (fun p hp => World.cell?_of_block (a := p) (HG.out.block _ hp (by simp)))
  have HMin := Lib.hid (fun q => minI_any A n c (cntEv a) (timesL n a) (h2.keep (w' := (w.alloc (.cells #[.int .i64 x.1, .int .i64 x.2.1, .int .i64 x.2.2.1, .int .i64 x.2.2.2] 48)).drewN q) (Nat.le_refl _) (fun p hp => World.cell?_of_block (a := p) ((grown_drewJ _ q).block _ hp (by simp)))) (fun t ht => timesL_at a ht) n1 (by omega))
  have HLe := Lib.hid (fun t => Nat.le_trans (cntEv_len a t) ha)
  have HML := Lib.hid (Nat.le_trans (minN_len (n := n) n1 a) ha)
  obtain ⟨w0, what, t, v⟩ := x
  dsimp only at *
  by_cases hw1 : what ≠ 1 ∧ what ≠ 2
  · rw [jErr_arg hw1.1 hw1.2]
    obtain ⟨e1, e2⟩ := hw1
    have e3 : (what != 1) = true := by simpa using e1
    have e4 : (what != 2) = true := by simpa using e2
    clear h h2 HMin
    go_enter Tryz.func87, Tryz.ntmps87
    go_wp2
    go_ret
    exact ⟨rfl, HG.out⟩
  have hw2 : what = 1 ∨ what = 2 := by omega
  clear hw1
  by_cases ht : t < 0 ∨ (n : Int) ≤ t
  · rw [jErr_range hw2 ht]
    clear h h2 HMin
    rcases hw2 with rfl | rfl
    · by_cases ht0 : t < 0
      · go_enter Tryz.func87, Tryz.ntmps87
        go_wp2
        go_ret
        exact ⟨rfl, HG.out⟩
      · have ht1 : (n : Int) ≤ t := by omega
        go_enter Tryz.func87, Tryz.ntmps87
        go_wp2
        go_ret
        exact ⟨rfl, HG.out⟩
    · by_cases ht0 : t < 0
      · go_enter Tryz.func87, Tryz.ntmps87
        go_wp2
        go_ret
        exact ⟨rfl, HG.out⟩
      · have ht1 : (n : Int) ≤ t := by omega
        go_enter Tryz.func87, Tryz.ntmps87
        go_wp2
        go_ret
        exact ⟨rfl, HG.out⟩
  obtain ⟨u, rfl⟩ : ∃ u : Nat, t = u := ⟨t.toNat, by omega⟩
  have hu : u < n := by omega
  have ht0 : ¬ (u : Int) < 0 := by omega
  have ht1 : ¬ (n : Int) ≤ (u : Int) := by omega
  obtain ⟨b, off, rfl, hb, hx⟩ := h2.row (by omega)
  have hc := hx u hu
  rw [timesL_at a hu] at hc
  have HNx := Lib.hid (fun w => jnext_any (cntEv a u) (by have := HLe.out u; omega) w)
  have HCa := Lib.hid (fun w => jcame_any (minN (cntEv a) n) (by have := HML.out; omega) w)
  by_cases ho : what ≠ ((1 + cntEv a u % 2 : Nat) : Int) ∨ v ≠ ((cntEv a u / 2 + 1 : Nat) : Int)
  · rw [jErr_order (e := ((w0, what, (u : Int), v) : Ev4)) hw2 hu rfl ho]
    clear h h2 HMin hx ht HCa
    generalize ((1 + cntEv a u % 2 : Nat) : Int) = y1 at *
    generalize ((cntEv a u / 2 + 1 : Nat) : Int) = y2 at *
    generalize cntEv a u = k at *
    by_cases ho1 : what = y1
    · have ho2 : (v != y2) = true := by
        have : ¬ v = y2 := fun e => by rcases ho with h | h; exact h ho1; exact h e
        simpa using this
      have ho3 : (what != what) = false := by simp
      subst ho1
      rcases hw2 with rfl | rfl
      · go_enter Tryz.func87, Tryz.ntmps87
        go_wp2_with fail
        refine (HNx.out _).mono ?_
        rintro e w1 ⟨rfl, rfl⟩
        go_wp2
        go_ret
        exact ⟨rfl, HG.out⟩
      · go_enter Tryz.func87, Tryz.ntmps87
        go_wp2_with fail
        refine (HNx.out _).mono ?_
        rintro e w1 ⟨rfl, rfl⟩
        go_wp2
        go_ret
        exact ⟨rfl, HG.out⟩
    · have ho3 : (what != y1) = true := by simpa using ho1
      rcases hw2 with rfl | rfl
      · go_enter Tryz.func87, Tryz.ntmps87
        go_wp2_with fail
        refine (HNx.out _).mono ?_
        rintro e w1 ⟨rfl, rfl⟩
        go_wp2
        go_ret
        exact ⟨rfl, HG.out⟩
      · go_enter Tryz.func87, Tryz.ntmps87
        go_wp2_with fail
        refine (HNx.out _).mono ?_
        rintro e w1 ⟨rfl, rfl⟩
        go_wp2
        go_ret
        exact ⟨rfl, HG.out⟩
  have ho1 : what = ((1 + cntEv a u % 2 : Nat) : Int) := Classical.not_not.1 fun e => ho (.inl e)
  have ho2 : v = ((cntEv a u / 2 + 1 : Nat) : Int) := Classical.not_not.1 fun e => ho (.inr e)
  rw [jErr_false (e := ((w0, what, (u : Int), v) : Ev4)) hu rfl ho1 ho2]
  dsimp only
  clear h h2 hx ht ho
  rw [← ho1, ← ho2] at HNx
  have hv2 : v = ((cntEv a u / 2 + 1 : Nat) : Int) := ho2
  generalize cntEv a u / 2 + 1 = y2 at *
  generalize 1 + cntEv a u % 2 = y1 at *
  generalize cntEv a u = k at *
  subst hv2
  have hvv : (((y2 : Nat) : Int) != ((y2 : Nat) : Int)) = false := by simp
  clear ho1
  rcases hw2 with rfl | rfl
  · rw [if_neg (by simp)]
    have hd : decide ((1 : Int) = 2) = false := by decide
    go_enter Tryz.func87, Tryz.ntmps87
    go_wp2_with fail
    refine (HNx.out _).mono ?_
    rintro e w1 ⟨rfl, rfl⟩
    go_wp2
    go_quiet (fail)
    go_wp2
    go_ret
    exact ⟨rfl, HG.out.andThen (grown_drewJ _ _) (by intro k hk; cases hk)⟩
  · generalize (minN (cntEv a) n + 1) / 2 = y3 at *
    generalize minN (cntEv a) n = k3 at *
    by_cases hy : y3 < y2
    · rw [if_pos ⟨rfl, hy⟩]
      have hd : decide ((y3 : Int) < (y2 : Int)) = true := decide_eq_true (by omega)
      go_enter Tryz.func87, Tryz.ntmps87
      go_wp2_with fail
      refine (HNx.out _).mono ?_
      rintro e w1 ⟨rfl, rfl⟩
      go_wp2
      go_quiet (first | (go_at_call 51; refine Calls.quiet_of_same ((HMin.out _).mono fun e u' ⟨he, hu⟩ => ⟨he, hu.symm⟩)) | (go_at_call 52; refine Calls.quiet_of_same ((HCa.out _).mono fun e u' ⟨he, hu⟩ => ⟨he, hu.symm⟩)))
      go_wp2
      go_ret
      exact ⟨rfl, HG.out.andThen (grown_drewJ _ _) (by intro k hk; cases hk)⟩
    · rw [if_neg (fun h => hy h.2)]
      have hd : decide ((y3 : Int) < (y2 : Int)) = false := decide_eq_false (by omega)
      go_enter Tryz.func87, Tryz.ntmps87
      go_wp2_with fail
      refine (HNx.out _).mono ?_
      rintro e w1 ⟨rfl, rfl⟩
      go_wp2
      go_quiet (first | (go_at_call 51; refine Calls.quiet_of_same ((HMin.out _).mono fun e u' ⟨he, hu⟩ => ⟨he, hu.symm⟩)) | (go_at_call 52; refine Calls.quiet_of_same ((HCa.out _).mono fun e u' ⟨he, hu⟩ => ⟨he, hu.symm⟩)))
      go_wp2
      go_ret
      exact ⟨rfl, HG.out.andThen (grown_drewJ _ _) (by intro k hk; cases hk)⟩
end Go.Proofs.YtgkfhihnfllmhaaGreatDoor
