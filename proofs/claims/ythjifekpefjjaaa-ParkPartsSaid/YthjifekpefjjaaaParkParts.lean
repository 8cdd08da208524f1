/-
  The walk of ParkParts.
-/
import Derived.Test.YthjifekpefjjaaaParkApart
import Derived.Test.YthjifekpefjjaaaConcat
namespace Go.Proofs.Ythjifekpefjjaaa
open Go.RowKit Go.Shelf

set_option maxHeartbeats 1000000 in
theorem parkParts_long {w : World} (A : Option Addr) (n c : Nat) (a1 a2 a3 : Int) (hn : 60 < n) :
    Calls Try.prog 8 #[.slice A n c, .int .i64 a1, .int .i64 a2, .int .i64 a3] w fun e w' => e = .returned (.bool true) ∧ Below w.heap.size w w' := by
  have h1 : (60 : Int) < (n : Int) := by omega
  go_enter Try.func8, Try.ntmps8
  go_wp2_with fail
  refine (asleep_true _).mono ?_
  rintro e w1 ⟨rfl, hb⟩
  go_wp2
  go_ret
  exact ⟨rfl, hb⟩

theorem take_len (T : List Int) (n : Int) : (T.take (wakeN n T)).length = wakeN n T := by
  rw [List.length_take]
  unfold wakeN
  omega

theorem nods_next {w w' : World} {n : Nat} {A : Option Addr} {xs : List (Int × Int × Bool)} (h : Nods w w.heap.size A n xs) (hb : Below w.heap.size w w') : Nods w' w'.heap.size A n xs :=
  ⟨h.len, fun h0 => by
    obtain ⟨b, off, e, hlt, hc⟩ := (h.below hb).row h0
    exact ⟨b, off, e, Nat.lt_of_lt_of_le hlt hb.size, hc⟩⟩

/-- Waking n, then m, tells as waking n + m does. -/
theorem woken_twice {L : List (Int × Int)} (hg : Good L) (c n m : Int) (hn : 0 ≤ n) (hm : 0 ≤ m) :
    let T := threadsAt L c
    let o1 := T.take (wakeN n T)
    let T2 := threadsAt (rest L o1) c
    let o2 := T2.take (wakeN m T2)
    o1 ++ o2 = T.take (wakeN (n + m) T) ∧ threadsAt (rest (rest L o1) o2) c = threadsAt (rest L (T.take (wakeN (n + m) T))) c := by
  intro T o1 T2 o2
  have hT2 : T2 = T.drop (wakeN n T) := by
    show threadsAt (rest L (T.take (wakeN n T))) c = _
    rw [threadsAt_rest]
    exact filter_take T (threadsAt_nodup hg c) _
  have hlen : T2.length = T.length - wakeN n T := by rw [hT2, List.length_drop]
  have h12 : o1 ++ o2 = T.take (wakeN (n + m) T) := by
    show T.take (wakeN n T) ++ T2.take (wakeN m T2) = _
    rw [hT2, ← List.take_add]
    congr 1
    unfold wakeN at *
    rw [List.length_drop]
    omega
  refine ⟨h12, ?_⟩
  have hg2 : Good (rest L o1) := hg.sub (rest_sub _ _)
  have e1 : threadsAt (rest (rest L o1) o2) c = T2.drop (wakeN m T2) := by
    rw [threadsAt_rest]
    exact filter_take T2 (threadsAt_nodup hg2 c) _
  have e2 : threadsAt (rest L (T.take (wakeN (n + m) T))) c = T.drop (wakeN (n + m) T) := by
    rw [threadsAt_rest]
    exact filter_take T (threadsAt_nodup hg c) _
  rw [e1, e2, hT2, List.drop_drop]
  congr 1
  unfold wakeN at *
  rw [List.length_drop]
  omega

theorem Ints.keeps {k : IntKind} {S : Nat → Prop} {w w' : World} {B n : Nat} {A : Option Addr} {xs : List Int} (h : Ints k w B A n xs) (hk : Keeps S w w') (hB : B ≤ w.heap.size) (hf : 0 < n → ∃ b off, A = some ⟨b, off, none⟩ ∧ ¬ S b) : Ints k w' B A n xs :=
  ⟨h.len, fun h0 => by
    obtain ⟨b, off, e, hb, hc⟩ := h.row h0
    obtain ⟨b2, off2, e2, hs⟩ := hf h0
    have he := e.symm.trans e2
    injection he with he
    injection he with he1 he2
    subst he1
    exact ⟨b, off, e, hb, fun i hi => (World.cell?_of_block (a := ⟨b, off + i, none⟩) (hk.block b (by omega) hs)).trans (hc i hi)⟩⟩

set_option maxHeartbeats 4000000 in
theorem parkParts_short {w : World} (A : Option Addr) (n c : Nat) (nods : List (Int × Int × Bool)) (hN : Nods w w.heap.size A n nods) (a1 a2 a3 : Int) (hn : n ≤ 60) :
    Calls Try.prog 8 #[.slice A n c, .int .i64 a1, .int .i64 a2, .int .i64 a3] w fun e w' => e = .returned (.bool true) ∧ Below w.heap.size w w' := by
  have h1 : ¬ (60 : Int) < (n : Int) := by omega
  have hlen : (bedL nods).length ≤ 60 := by have := bedL_len nods; have := hN.len; omega
  have hgood := bedL_good nods
  go_enter Try.func8, Try.ntmps8
  go_wp2_with fail
  refine (asleep_true _).mono ?_
  rintro e w1 ⟨rfl, hb1⟩
  have hN1 := nods_next hN hb1
  go_wp2_with fail
  refine (bed_any A n c nods hN1 hn).mono ?_
  rintro e w2 ⟨p, v, rfl, hL, hb2⟩
  have hN2 := nods_next hN1 hb2
  have hb2' : Below w.heap.size w w2 := hb1.trans (hb2.mono hb1.size)
  have HB2 := Lib.hid hb2'
  have hsz1 := hb1.size
  have hsz2 := hb2.size
  have HL := Lib.hid hL
  clear hN hN1 hb1 hb2 hb2' hL
  go_wp2_with fail
  refine (bed_any A n c nods hN2 hn).mono ?_
  rintro e w3 ⟨q, u, rfl, hM, hb3⟩
  have hL3 : Lot w3 w1.heap.size p 16 v (bedL nods) := by
    have hlt := HL.out.lt
    refine HL.out.keeps (S := fun k => w2.heap.size ≤ k) ⟨hb3.os, hb3.tape, hb3.output, hb3.size, fun k _ hn => hb3.block k (by omega)⟩ (by omega) fun g hg => ?_
    have := (HL.out.own.lt g hg).2
    omega
  have hplt := HL.out.lt
  have hvlt : ∀ k, v.ownBlock = some k → k < w2.heap.size := fun k hk => (HL.out.own.lt k hk).2
  have hb3' : Below w.heap.size w w3 := HB2.out.trans (hb3.mono (by omega))
  have HB3 := Lib.hid hb3'
  have HL3 := Lib.hid hL3
  have HM := Lib.hid hM
  have hsz3 := hb3.size
  clear hb3 hN2 HB2 HL hL3 hM hb3'
  generalize bedL nods = L at *
  obtain ⟨cell, hcell⟩ : ∃ x, pickI a1 4 = x := ⟨_, rfl⟩
  obtain ⟨k1, hk1⟩ : ∃ x, pickI a2 9 = x := ⟨_, rfl⟩
  obtain ⟨k2, hk2⟩ : ∃ x, pickI a3 9 = x := ⟨_, rfl⟩
  have h10 : 0 ≤ k1 := by rw [← hk1]; exact pickI_lo _ _
  have h11 : k1 < 9 := by rw [← hk1]; exact pickI_hi _ 9 (by decide)
  have h20 : 0 ≤ k2 := by rw [← hk2]; exact pickI_lo _ _
  have h21 : k2 < 9 := by rw [← hk2]; exact pickI_hi _ 9 (by decide)
  have hp1 := fun w => pick_det a1 4 4 w rfl (by decide) (by decide)
  have hp2 := fun w => pick_det a2 9 9 w rfl (by decide) (by decide)
  have hp3 := fun w => pick_det a3 9 9 w rfl (by decide) (by decide)
  simp only [hcell] at hp1
  simp only [hk1] at hp2
  simp only [hk2] at hp3
  have HP1 := Lib.hid hp1
  have HP2 := Lib.hid hp2
  have HP3 := Lib.hid hp3
  clear hp1 hp2 hp3 hcell hk1 hk2
  go_wp2_with fail
  refine (HP1.out _).mono ?_
  rintro e w4 ⟨rfl, rfl⟩
  go_wp2_with fail
  refine (HP2.out _).mono ?_
  rintro e w4 ⟨rfl, rfl⟩
  go_wp2_with fail
  refine (HP3.out _).mono ?_
  rintro e w4 ⟨rfl, rfl⟩
  clear HP1 HP2 HP3
  have hw12 := woken_twice hgood cell k1 k2 h10 h20
  dsimp only at hw12
  have hl1 := threads_len hlen cell
  obtain ⟨o1, ho1⟩ : ∃ o, (threadsAt L cell).take (wakeN k1 (threadsAt L cell)) = o := ⟨_, rfl⟩
  have ho1l : o1.length ≤ 60 := by rw [← ho1, List.length_take]; omega
  have hw1 := wake_any HL3.out (by omega) cell k1
  rw [ho1] at hw1 hw12
  obtain ⟨R, hR⟩ : ∃ R, rest L o1 = R := ⟨_, rfl⟩
  have hRl : R.length ≤ 60 := by rw [← hR]; exact Nat.le_trans (List.Sublist.length_le (rest_sub _ _)) hlen
  have hl2 := threads_len hRl cell
  rw [hR] at hw12
  obtain ⟨o2, ho2⟩ : ∃ o, (threadsAt R cell).take (wakeN k2 (threadsAt R cell)) = o := ⟨_, rfl⟩
  have ho2l : o2.length ≤ 60 := by rw [← ho2, List.length_take]; omega
  obtain ⟨o3, ho3⟩ : ∃ o, (threadsAt L cell).take (wakeN (k1 + k2) (threadsAt L cell)) = o := ⟨_, rfl⟩
  rw [ho2, ho3] at hw12
  obtain ⟨h12, hAt⟩ := hw12
  have HO2 := Lib.hid ho2
  have HO3 := Lib.hid ho3
  have HRE := Lib.hid hR
  have H12 := Lib.hid h12
  have HAT := Lib.hid hAt
  have HW1 := Lib.hid hw1
  have HQ := Lib.hid (show w2.heap.size ≤ q from HM.out.lo)
  have HU := Lib.hid (show ∀ g, u.ownBlock = some g → w2.heap.size ≤ g from fun g hg => (HM.out.own.lt g hg).1)
  have HQ2 := Lib.hid (show q < w3.heap.size from HM.out.lt)
  have HU2 := Lib.hid (show ∀ g, u.ownBlock = some g → g < w3.heap.size from fun g hg => (HM.out.own.lt g hg).2)
  have HV := Lib.hid hvlt
  have HSL := Lib.hid (rest_sub L o3)
  clear ho1 ho2 ho3 hR h12 hAt hw1 hgood hvlt hl1 hl2
  go_wp2_with fail
  refine HW1.out.mono ?_
  rintro e w4 ⟨v4, A4, c4, rfl, hI4, hL4, hk4, hv4, hf4⟩
  rw [HRE.out] at hL4
  have hB4 : Below w.heap.size w w4 := HB3.out.trans (hk4.below (by omega) fun k hk => by
    rcases hk with rfl | hk
    · have := HL3.out.lo; omega
    · have := (HL3.out.own.lt k hk.symm).1; omega)
  have hM4 : Lot w4 w2.heap.size q 16 u L := HM.out.keeps hk4 (by
    have := HQ.out
    rintro (h | h)
    · omega
    · have := HV.out q h.symm; omega) (fun g hg => by
    have := HU.out g hg
    rintro (h | h)
    · omega
    · have := HV.out g h.symm; omega)
  have hsz4 : w3.heap.size ≤ w4.heap.size := hk4.size
  have hw2 := wake_any hL4 (by omega) cell k2
  rw [HO2.out] at hw2
  have HW2 := Lib.hid hw2
  have HI4 := Lib.hid hI4
  have HL4 := Lib.hid hL4
  have HB4 := Lib.hid hB4
  have HM4 := Lib.hid hM4
  have HV4 := Lib.hid hv4
  have HF4 := Lib.hid hf4
  clear hI4 hL4 hk4 hv4 hf4 hB4 hM4 hw2 HW1 HL3 HM HB3
  go_wp2_with fail
  refine HW2.out.mono ?_
  rintro e w5 ⟨v5, A5, c5, rfl, hI5, hL5, hk5, hv5, _⟩
  have hB5 : Below w.heap.size w w5 := HB4.out.trans (hk5.below (by omega) fun k hk => by
    rcases hk with rfl | hk
    · have := HL4.out.lo; omega
    · have := (HL4.out.own.lt k hk.symm).1; omega)
  have hvv4 : ∀ k, v4.ownBlock = some k → k < w2.heap.size := fun k hk => HV.out k (HV4.out ▸ hk)
  have hM5 : Lot w5 w2.heap.size q 16 u L := HM4.out.keeps hk5 (by
    have := HQ.out
    rintro (h | h)
    · omega
    · have := hvv4 q h.symm; omega) (fun g hg => by
    have := HU.out g hg
    rintro (h | h)
    · omega
    · have := hvv4 g h.symm; omega)
  have hI45 : Ints .i64 w5 w4.heap.size A4 o1.length o1 := HI4.out.keeps hk5 (Nat.le_refl _) fun h0 => by
    obtain ⟨b, off, e, hb⟩ := HF4.out h0
    refine ⟨b, off, e, ?_⟩
    rintro (h | h)
    · omega
    · have := hvv4 b h.symm; omega
  have hI45' : Ints .i64 w5 w5.heap.size A4 o1.length o1 := ⟨hI45.len, fun h0 => by
    obtain ⟨b, off, e, hlt, hc⟩ := hI45.row h0
    exact ⟨b, off, e, Nat.lt_of_lt_of_le hlt hk5.size, hc⟩⟩
  have hv5' : ∀ k, v5.ownBlock = some k → k < w2.heap.size := fun k hk => hvv4 k (hv5 ▸ hk)
  have hga := World.grownBy_alloc w5 (.cells #[.slice A4 o1.length c4, .slice A5 o2.length c5] 46) none
  have hcc := concat_two (w := w5.alloc (.cells #[.slice A4 o1.length c4, .slice A5 o2.length c5] 46)) w5.heap.size A4 A5 o1.length o2.length c4 c5 o1 o2 (heap_alloc_new w5 _) (hI45'.grow hga) (hI5.grow hga) (by omega) (by omega)
  have hsz5 := hk5.size
  have HCC := Lib.hid hcc
  have HL5 := Lib.hid (hL5.grow hga)
  have HM5 := Lib.hid (hM5.grow hga)
  have HB5 := Lib.hid (hB5.grown hga hB5.size (by intro k hk; cases hk))
  have HV5 := Lib.hid hv5'
  have hal : w5.heap.size ≤ (w5.alloc (.cells #[.slice A4 o1.length c4, .slice A5 o2.length c5] 46)).heap.size := hga.size
  clear hI5 hL5 hk5 hv5 hv5' hB5 hM5 hI45 hI45' hga hcc hvv4 HW2 HI4 HL4 HB4 HM4 HV4 HF4
  go_wp2_with fail
  refine HCC.out.mono ?_
  rintro e w6 ⟨v6, rfl, hown6, hg6⟩
  obtain ⟨A6, c6, rfl⟩ := slice_of_own2 hown6
  rw [H12.out] at hown6 ⊢
  have hI6 : Ints .i64 w6 w6.heap.size A6 o3.length o3 := Ints.of_own hown6
  have hfr6 : 0 < o3.length → ∃ b off, A6 = some ⟨b, off, none⟩ ∧ w5.heap.size ≤ b := fun h0 => by
    obtain ⟨g, cap, hv, hb, _⟩ := hown6.form h0
    injection hv with hv1
    exact ⟨g, 0, hv1, Nat.le_trans hal hb⟩
  have hM6 := HM5.out.grow hg6
  have hL6 := HL5.out.grow hg6
  have hB6 := HB5.out.grown hg6 HB5.out.size (by intro k hk; cases hk)
  have hsz6 := hg6.size
  have hw3 := wake_any hM6 (by omega) cell (k1 + k2)
  rw [HO3.out] at hw3
  have HW3 := Lib.hid hw3
  have HI6 := Lib.hid hI6
  have HF6 := Lib.hid hfr6
  have HM6 := Lib.hid hM6
  have HL6 := Lib.hid hL6
  have HB6 := Lib.hid hB6
  have hl6 : (o1 ++ o2).length = o3.length := by rw [H12.out]
  clear hown6 hI6 hfr6 hM6 hL6 hB6 hw3 hg6 HCC HL5 HM5 HB5
  go_wp2_with fail
  refine HW3.out.mono ?_
  rintro e w7 ⟨u7, A7, c7, rfl, hI7, hM7, hk7, _⟩
  have hB7 : Below w.heap.size w w7 := HB6.out.trans (hk7.below (by omega) fun k hk => by
    rcases hk with rfl | hk
    · have := HQ.out; omega
    · have := HU.out k hk.symm; omega)
  have hL7 : Lot w7 w1.heap.size p 16 v5 (rest R o2) := HL6.out.keeps hk7 (by
    have := HQ.out
    rintro (h | h)
    · omega
    · have := HU.out p h.symm; omega) (fun g hg => by
    have := HV5.out g hg
    have := HQ.out
    rintro (h | h)
    · omega
    · have := HU.out g h.symm; omega)
  have hI67 : Ints .i64 w7 w6.heap.size A6 o3.length o3 := HI6.out.keeps hk7 (Nat.le_refl _) fun h0 => by
    obtain ⟨b, off, e, hb⟩ := HF6.out h0
    refine ⟨b, off, e, ?_⟩
    have := HQ2.out
    rintro (h | h)
    · omega
    · have := HU2.out b h.symm; omega
  have hI67' : Ints .i64 w7 w7.heap.size A6 o3.length o3 := ⟨hI67.len, fun h0 => by
    obtain ⟨b, off, e, hlt, hc⟩ := hI67.row h0
    exact ⟨b, off, e, Nat.lt_of_lt_of_le hlt hk7.size, hc⟩⟩
  have ho3l : o3.length ≤ 120 := by rw [← hl6, List.length_append]; omega
  have hRo : (rest R o2).length ≤ 60 := Nat.le_trans (List.Sublist.length_le (rest_sub _ _)) hRl
  have hLo : (rest L o3).length ≤ 60 := Nat.le_trans (List.Sublist.length_le HSL.out) hlen
  have HEQ := Lib.hid (equalI_same A6 A7 o3.length c6 c7 o3 w7 (by omega) _ hI67' hI7)
  have HL7 := Lib.hid hL7
  have HM7 := Lib.hid hM7
  have HB7 := Lib.hid hB7
  clear hI67' hI67 hI7 hL7 hM7 hB7 hk7 HW3 HI6 HF6 HM6 HL6 HB6
  go_wp2_with fail
  refine HEQ.out.mono ?_
  rintro e w8 ⟨rfl, k8, rfl⟩
  have hd : w7.grownBy (w7.drewN k8) none := ⟨rfl, rfl, rfl, Nat.le_refl _, fun _ _ _ => rfl⟩
  have hat1 := at_any (HL7.out.grow hd) (by omega) cell
  rw [HAT.out] at hat1
  obtain ⟨T, hT⟩ : ∃ T, threadsAt (rest L o3) cell = T := ⟨_, rfl⟩
  have hTl : T.length ≤ 60 := by rw [← hT]; exact threads_len hLo cell
  rw [hT] at hat1
  have HTT := Lib.hid hT
  have HA1 := Lib.hid hat1
  have HM8 := Lib.hid (HM7.out.grow hd)
  have HB8 := Lib.hid (HB7.out.grown hd HB7.out.size (by intro k hk; cases hk))
  clear hat1 hd hT HEQ HL7 HM7 HB7
  go_wp2_with fail
  refine HA1.out.mono ?_
  rintro e w9 ⟨v9, rfl, hown9, hg9⟩
  obtain ⟨A9, c9, rfl⟩ := slice_of_own2 hown9
  have hI9 : Ints .i64 w9 w9.heap.size A9 T.length T := Ints.of_own hown9
  have hM9 := HM8.out.grow hg9
  have HI9 := Lib.hid hI9
  have HB9 := Lib.hid (HB8.out.grown hg9 HB8.out.size (by intro k hk; cases hk))
  have hat2 := at_any hM9 (by omega) cell
  rw [HTT.out] at hat2
  have HA2 := Lib.hid hat2
  clear hown9 hI9 hM9 hg9 hat2 HA1 HM8 HB8
  go_wp2_with fail
  refine HA2.out.mono ?_
  rintro e w10 ⟨v10, rfl, hown10, hg10⟩
  obtain ⟨A10, c10, rfl⟩ := slice_of_own2 hown10
  have hI10 : Ints .i64 w10 w10.heap.size A10 T.length T := Ints.of_own hown10
  have HB10 := Lib.hid (HB9.out.grown hg10 HB9.out.size (by intro k hk; cases hk))
  have HEQ2 := Lib.hid (equalI_same A9 A10 T.length c9 c10 T w10 (by omega) _ (HI9.out.grow hg10) hI10)
  clear hown10 hg10 hI10 HA2 HI9 HB9
  go_wp2_with fail
  refine HEQ2.out.mono ?_
  rintro e w11 ⟨rfl, k11, rfl⟩
  have HB11 := Lib.hid (below_drewN HB10.out k11)
  clear HEQ2 HB10
  go_wp2
  go_ret
  exact ⟨rfl, HB11.out⟩
end Go.Proofs.Ythjifekpefjjaaa
