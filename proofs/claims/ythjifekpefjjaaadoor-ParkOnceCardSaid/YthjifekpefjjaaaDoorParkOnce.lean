/-
  The walk of ParkOnce.
-/
import Derived.Test.YthjifekpefjjaaaDoorOnceL
import Derived.Test.YthjifekpefjjaaaDoorTell
namespace Go.Proofs.YthjifekpefjjaaaDoor
set_option maxRecDepth 100000
open Go.RowKit Go.Shelf

theorem tell_after (k : Int) (w : World) (hg : ErrVar w) (B : Nat) (hB : B ≤ w.heap.size) : Calls Tryd.prog 17 #[.iface 30 (.int .i64 k)] w fun e w' => e = .returned (.int .i64 k) ∧ w.grownBy w' none ∧ Below B w w' :=
  (tell_errno k w hg).mono fun _ _ ⟨he, hg'⟩ => ⟨he, hg', (Below.refl B w).grown hg' hB (by intro j hj; cases hj)⟩

theorem count_take (T : List Int) (t : Int) (k : Nat) (hk : k < T.length) : (T.take (k + 1)).count t = (T.take k).count t + (if T.getD k 0 == t then 1 else 0) := by
  rw [List.take_succ_eq_append_getElem hk, List.count_append, List.getD_eq_getElem?_getD, List.getElem?_eq_getElem hk]
  simp [List.count_singleton]

/-- What holds at every head of ParkOnce's outer loop. -/
def Counting (w wr : World) (B p : Nat) (v : Value) (l : List (Int × Int)) : Prop := Lot wr B p 16 v l ∧ Below w.heap.size w wr

set_option maxHeartbeats 1000000 in
theorem parkOnce_long {w : World} (A : Option Addr) (n c : Nat) (a1 a2 : Int) (hn : 60 < n) :
    Calls Tryd.prog 6 #[.slice A n c, .int .i64 a1, .int .i64 a2] w fun e w' => e = .returned (.bool true) ∧ Below w.heap.size w w' := by
  have h1 : (60 : Int) < (n : Int) := by omega
  go_enter Tryd.func6, Tryd.ntmps6
  go_wp2_with fail
  refine (asleep_true _).mono ?_
  rintro e w1 ⟨rfl, hb⟩
  go_wp2
  go_ret
  exact ⟨rfl, hb⟩

set_option maxHeartbeats 2000000 in
theorem parkOnce_short {w : World} (hg0 : ErrVar w) (A : Option Addr) (n c : Nat) (nods : List (Int × Int × Bool)) (hN : Nods w w.heap.size A n nods) (a1 a2 : Int) (hn : n ≤ 60) :
    Calls Tryd.prog 6 #[.slice A n c, .int .i64 a1, .int .i64 a2] w fun e w' => e = .returned (.bool true) ∧ Below w.heap.size w w' := by
  have h1 : ¬ (60 : Int) < (n : Int) := by omega
  have hlen : (bedL nods).length ≤ 60 := by have := bedL_len nods; have := hN.len; omega
  have hgood := bedL_good nods
  have hw0 := errVar_lt hg0
  have HG0 := Lib.hid (fun (w' : World) (hb : Below w.heap.size w w') => errVar_below hg0 hb hw0)
  clear hg0
  go_enter Tryd.func6, Tryd.ntmps6
  go_wp2_with fail
  refine (asleep_true _).mono ?_
  rintro e w1 ⟨rfl, hb1⟩
  have hN1 : Nods w1 w1.heap.size A n nods := ⟨hN.len, fun h0 => by
    obtain ⟨b, off, e, hlt, hc⟩ := (hN.below hb1).row h0
    exact ⟨b, off, e, Nat.lt_of_lt_of_le hlt hb1.size, hc⟩⟩
  go_wp2_with fail
  refine (bed_any A n c nods hN1 hn).mono ?_
  rintro e w2 ⟨p, v, rfl, hL, hb2⟩
  generalize bedL nods = L at *
  have hb2' : Below w.heap.size w w2 := hb1.trans (hb2.mono hb1.size)
  have hsz := hb1.size
  clear hN hN1 hb1 hb2
  obtain ⟨t, ht⟩ : ∃ x, pickI a1 16 = x := ⟨_, rfl⟩
  obtain ⟨cell, hcell⟩ : ∃ x, pickI a2 4 = x := ⟨_, rfl⟩
  have ht0 : 0 ≤ t := by rw [← ht]; exact pickI_lo _ _
  have ht1 : t < 16 := by rw [← ht]; exact pickI_hi _ 16 (by decide)
  have hc0 : 0 ≤ cell := by rw [← hcell]; exact pickI_lo _ _
  have hc1 : cell < 300 := by have := pickI_hi a2 4 (by decide); rw [hcell] at this; omega
  have hp1 := fun w => pick_det a1 16 16 w rfl (by decide) (by decide)
  have hp2 := fun w => pick_det a2 4 4 w rfl (by decide) (by decide)
  simp only [ht] at hp1
  simp only [hcell] at hp2
  have HP1 := Lib.hid hp1
  have HP2 := Lib.hid hp2
  clear hp1 hp2 hcell ht
  go_wp2_with fail
  refine (HP1.out _).mono ?_
  rintro e w3 ⟨rfl, rfl⟩
  go_wp2_with fail
  refine (HP2.out _).mono ?_
  rintro e w3 ⟨rfl, rfl⟩
  clear HP1 HP2
  obtain ⟨at_, hat⟩ : ∃ x, cellOf L t = x := ⟨_, rfl⟩
  have hce := cell_any hL t
  rw [hat] at hce
  have HCE := Lib.hid hce
  have HAT := Lib.hid hat
  clear hce hat
  go_wp2_with fail
  refine HCE.out.mono ?_
  rintro e w3 ⟨rfl, hg3⟩
  have hcount : Counting w w3 w1.heap.size p v L := ⟨hL.grow hg3, hb2'.grown hg3 hb2'.size (by intro k hk; cases hk)⟩
  clear hL hb2' hg3 HCE
  go_wp2
  go_loopw [9, 29] (fun s j wr => ∃ k : Nat, k ≤ 4 ∧ j = .int .i64 k ∧ s = .int .i64 (places L t k) ∧ Counting w wr w1.heap.size p v L) (fun _ j _ => 4 - (intOf j).toNat)
  case atStart => exact ⟨0, by omega, rfl, rfl, hcount⟩
  case round =>
    clear hcount
    obtain ⟨k, hk, rfl, rfl, hC⟩ := hrel
    obtain ⟨wo, rfl⟩ : ∃ wo : World, wo = wr := ⟨_, rfl⟩
    by_cases hlt : k < 4
    · have hk4 : (k : Int) < 4 := by omega
      obtain ⟨T, hT⟩ : ∃ T, threadsAt L (k : Int) = T := ⟨_, rfl⟩
      have hTl : T.length ≤ 60 := by rw [← hT]; exact Nat.le_trans (threadsAt_length L _) hlen
      have hat := at_any hC.1 (by omega) (k : Int)
      have hnext : places L t (k + 1) = places L t k + T.count t := by rw [← hT]; rfl
      have hpl : places L t k ≤ 4 * 60 := by
        have : ∀ j, places L t j ≤ j * 60 := by
          intro j
          induction j with
          | zero => exact Nat.le_refl _
          | succ j ih =>
            rw [places]
            have := List.count_le_length (a := t) (l := threadsAt L (j : Int))
            have := threadsAt_length L (j : Int)
            omega
        have := this k
        omega
      rw [hT] at hat
      obtain ⟨P, hP⟩ : ∃ P, places L t k = P := ⟨_, rfl⟩
      rw [hP] at hnext hpl
      have HNX := Lib.hid hnext
      have HPP := Lib.hid hP
      have HA := Lib.hid hat
      have HCO := Lib.hid hC
      clear hT hat hnext hC
      rw [hP]
      clear hP
      go_wp2_with fail
      refine HA.out.mono ?_
      rintro e w4 ⟨v4, rfl, hown4, hg4⟩
      obtain ⟨A4, c4, rfl⟩ := slice_of_own2 hown4
      have hI4 : Ints .i64 w4 w4.heap.size A4 T.length T := Ints.of_own hown4
      have hC4 : Counting w w4 w1.heap.size p v L := ⟨HCO.out.1.grow hg4, HCO.out.2.grown hg4 HCO.out.2.size (by intro k hk; cases hk)⟩
      have HC4 := Lib.hid hC4
      have HI4 := Lib.hid hI4
      clear hown4 hg4 hC4 hI4 HA HCO
      obtain ⟨tl, htl⟩ : ∃ tl, T.length = tl := ⟨_, rfl⟩
      rw [htl] at hTl ⊢
      have HTL := Lib.hid htl
      clear htl
      go_wp2
      go_loop [9, 36] (fun s j => ∃ i : Nat, i ≤ tl ∧ j = .int .i64 i ∧ s = .int .i64 ((P + (T.take i).count t : Nat) : Int)) (fun _ j => tl - (intOf j).toNat)
      case atStart => exact ⟨0, Nat.zero_le _, rfl, by simp⟩
      case round =>
        obtain ⟨i, hi, rfl, rfl⟩ := hrel
        by_cases hit : i < tl
        · have hii : (i : Int) < (tl : Int) := by omega
          obtain ⟨b, off, rfl, hb, hx⟩ := HI4.out.row (by rw [HTL.out]; omega)
          have hcx := hx i (by rw [HTL.out]; exact hit)
          have hct := count_take T t i (by rw [HTL.out]; exact hit)
          have hcl : (T.take i).count t ≤ 60 := by
            have := List.count_le_length (a := t) (l := T.take i)
            rw [List.length_take] at this
            omega
          obtain ⟨x, hxe⟩ : ∃ x, T.getD i 0 = x := ⟨_, rfl⟩
          rw [hxe] at hcx hct
          obtain ⟨C, hCe⟩ : ∃ C, (T.take i).count t = C := ⟨_, rfl⟩
          rw [hCe] at hct hcl ⊢
          clear hx hxe hCe
          cases hq : x == t with
          | true =>
            rw [hq, if_pos rfl] at hct
            have HCT := Lib.hid hct
            clear hct
            go_wp2
            go_round
            case rel => exact ⟨i + 1, by omega, by go_num, by rw [HCT.out]; go_num⟩
            case measure => simp [intOf]; omega
          | false =>
            rw [hq, if_neg (by simp)] at hct
            have HCT := Lib.hid hct
            clear hct
            go_wp2
            go_round
            case rel => exact ⟨i + 1, by omega, by go_num, by rw [HCT.out]; rfl⟩
            case measure => simp [intOf]; omega
        · have hii : ¬ (i : Int) < (tl : Int) := by omega
          have hall : T.take i = T := List.take_of_length_le (by rw [HTL.out]; omega)
          rw [hall]
          go_wp2
          go_roundw
          case rel => exact ⟨k + 1, by omega, by go_num, by rw [HNX.out], HC4.out⟩
          case measure => simp [intOf]; omega
    · obtain rfl : k = 4 := by omega
      obtain ⟨hL, hbel⟩ := hC
      have hlo := hL.lo
      have hsm : L.length ≤ 1000 := by omega
      rcases cellOf_split L t with ⟨hm1, hall⟩ | ⟨hsl, s, hs, hst, hse⟩
      · have hat := HAT.out
        rw [hm1] at hat
        subst hat
        rw [places_none hall]
        have HPO := Lib.hid (poke_none hL t ht0 ht1 hall)
        have HL := Lib.hid hL
        have HBE := Lib.hid hbel
        have HALL := Lib.hid hall
        clear hL hbel hall hm1 hgood HAT hlt
        go_wp2_with fail
        refine HPO.out.mono ?_
        rintro e w4 ⟨rfl, hg4⟩
        have hL4 := HL.out.grow hg4
        have hbel4 := HBE.out.grown hg4 HBE.out.size (by intro k hk; cases hk)
        have HTE := Lib.hid (tell_errno 6 w4 (HG0.out w4 hbel4))
        have HL4 := Lib.hid hL4
        have HBE4 := Lib.hid hbel4
        clear hL4 hbel4 hg4 HPO HL HBE
        go_wp2_with fail
        refine HTE.out.mono ?_
        rintro e w5 ⟨rfl, hg5⟩
        have hL5 := HL4.out.grow hg5
        have hbel5 := HBE4.out.grown hg5 HBE4.out.size (by intro k hk; cases hk)
        have HSN := Lib.hid (sleep_new hL5 (Nat.le_of_lt (Nat.lt_of_le_of_lt hL5.lo hL5.lt)) hsm t cell ht0 ht1 hc0 hc1 HALL.out)
        have HBE5 := Lib.hid hbel5
        clear hL5 hbel5 hg5 HTE HL4 HBE4
        go_wp2_with fail
        refine HSN.out.mono ?_
        rintro e w6 ⟨v6, rfl, hL6, hb6⟩
        have hce := cell_any hL6 t
        rw [cellOf_new HALL.out] at hce
        have HCE := Lib.hid hce
        have HBE6 := Lib.hid (HBE5.out.trans (hb6.mono hsz))
        clear hce hL6 hb6 HSN HBE5
        go_wp2_with fail
        refine HCE.out.mono ?_
        rintro e w7 ⟨rfl, hg7⟩
        have HBE7 := Lib.hid (HBE6.out.grown hg7 HBE6.out.size (by intro k hk; cases hk))
        clear hg7 HCE HBE6
        go_wp2
        go_ret
        exact ⟨rfl, HBE7.out⟩
      · have hat := HAT.out
        have hpl := places_one hgood hs
        rw [hst] at hpl
        rw [hpl]
        have hok := hgood.ok s hs
        have hpos : (0 : Int) ≤ at_ := by rw [← hat, hse]; exact hok.2.2.1
        have hcon : (threadsAt L at_).contains t = true := by
          rw [List.contains_iff_mem]
          exact mem_threadsAt.2 ⟨s, hs, by rw [← hat, hse], hst⟩
        have hlT : (threadsAt L at_).length ≤ 60 := Nat.le_trans (threadsAt_length L _) hlen
        have HA := Lib.hid (at_any hL hsm at_)
        have HL := Lib.hid hL
        have HBE := Lib.hid hbel
        have HSL := Lib.hid hsl
        have HER := Lib.hid (cellOf_erased hgood t)
        have HCON := Lib.hid hcon
        have HLT := Lib.hid hlT
        have hneg : ¬ at_ < 0 := by omega
        clear hL hbel hsl hgood hat hpl hok hcon hlT hse hst hs hlt
        go_wp2_with fail
        refine HA.out.mono ?_
        rintro e w4 ⟨v4, rfl, hown4, hg4⟩
        obtain ⟨A4, c4, rfl⟩ := slice_of_own2 hown4
        have hI4 : Ints .i64 w4 w4.heap.size A4 (threadsAt L at_).length (threadsAt L at_) := Ints.of_own hown4
        have hcc := containsI_any A4 _ c4 _ hI4 (by have := HLT.out; omega) t
        rw [HCON.out] at hcc
        have HCC := Lib.hid hcc
        have HL4 := Lib.hid (HL.out.grow hg4)
        have HBE4 := Lib.hid (HBE.out.grown hg4 HBE.out.size (by intro k hk; cases hk))
        clear hown4 hg4 hI4 hcc HA HL HBE HCON HLT
        obtain ⟨nT, hnT⟩ : ∃ nT, (threadsAt L at_).length = nT := ⟨_, rfl⟩
        rw [hnT] at HCC ⊢
        clear hnT
        go_wp2_with fail
        refine HCC.out.mono ?_
        rintro e w5 ⟨rfl, rfl⟩
        have HTW := Lib.hid (sleep_twice HL4.out t cell ht0 ht1 hc0 hc1 HSL.out)
        clear HCC
        go_wp2_with fail
        refine HTW.out.mono ?_
        rintro e w5 ⟨rfl, hg5⟩
        have hbel5 := HBE4.out.grown hg5 HBE4.out.size (by intro k hk; cases hk)
        have HTE := Lib.hid (tell_errno 6 w5 (HG0.out w5 hbel5))
        have HL5 := Lib.hid (HL4.out.grow hg5)
        have HBE5 := Lib.hid hbel5
        clear hbel5 hg5 HTW HL4 HBE4
        go_wp2_with fail
        refine HTE.out.mono ?_
        rintro e w6 ⟨rfl, hg6⟩
        have hL6 := HL5.out.grow hg6
        have HBE6 := Lib.hid (HBE5.out.grown hg6 HBE5.out.size (by intro k hk; cases hk))
        have hce := cell_any hL6 t
        rw [HAT.out] at hce
        have HCE := Lib.hid hce
        have HL6 := Lib.hid hL6
        clear hce hL6 hg6 HTE HL5 HBE5
        go_wp2_with fail
        refine HCE.out.mono ?_
        rintro e w7 ⟨rfl, hg7⟩
        have hL7 := HL6.out.grow hg7
        have HBE7 := Lib.hid (HBE6.out.grown hg7 HBE6.out.size (by intro k hk; cases hk))
        have HPY := Lib.hid (poke_yes hL7 (Nat.le_of_lt (Nat.lt_of_le_of_lt hL7.lo hL7.lt)) t ht0 ht1 HSL.out)
        clear hL7 hg7 HCE HL6 HBE6
        go_wp2_with fail
        refine HPY.out.mono ?_
        rintro e w8 ⟨v8, rfl, hL8, hb8, _⟩
        have hce := cell_any hL8 t
        rw [HER.out] at hce
        have HCE := Lib.hid hce
        have HBE8 := Lib.hid (HBE7.out.trans (hb8.mono hsz))
        clear hce hL8 hb8 HPY HBE7
        go_wp2_with fail
        refine HCE.out.mono ?_
        rintro e w9 ⟨rfl, hg9⟩
        have HBE9 := Lib.hid (HBE8.out.grown hg9 HBE8.out.size (by intro k hk; cases hk))
        clear hg9 HCE HBE8
        go_wp2
        go_ret
        exact ⟨rfl, HBE9.out⟩
end Go.Proofs.YthjifekpefjjaaaDoor
