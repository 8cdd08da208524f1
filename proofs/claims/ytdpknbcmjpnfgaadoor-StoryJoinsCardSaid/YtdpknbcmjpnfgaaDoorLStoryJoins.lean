/-
  The walk of StoryJoins.
-/
import Derived.Test.YtdpknbcmjpnfgaaDoorLStory
namespace Go.Proofs.YtdpknbcmjpnfgaaDoor
set_option maxRecDepth 100000
open Go.RowKit Go.Sort
set_option linter.unusedVariables false
set_option linter.unusedSimpArgs false

set_option maxHeartbeats 2000000 in
theorem storyJoins_any {w : World} (hC : SR w) (A : Option Addr) (n c : Nat) (l : List Ev4) (hlen : l.length = n) (hE : EvRow w A n l) (hi : ∀ e ∈ l, intE e) (hnc : n ≤ c) (at_ : Int) :
    Calls Tryd.prog 7 #[.slice A n c, .int .i64 at_] w fun e w' => e = .returned (.bool true) ∧ Below w.heap.size w w' := by
  have HS := Lib.hid (storied_true w hC)
  have HC := Lib.hid hC
  have HE := Lib.hid hE
  clear hC hE
  go_enter Tryd.func7, Tryd.ntmps7
  go_wp2_with fail
  refine HS.out.mono ?_
  rintro e w1 ⟨rfl, hb1⟩
  have HB1 := Lib.hid hb1
  clear hb1 HS
  by_cases hn : 100 < n
  · have hni : (100 : Int) < (n : Int) := by omega
    go_wp2
    go_ret
    exact ⟨rfl, HB1.out⟩
  have hni : ¬ (100 : Int) < (n : Int) := by omega
  have HRT := Lib.hid (stRight_any l A n c w1 (HE.out.of HB1.out) hlen (by omega))
  go_wp2_with fail
  refine HRT.out.mono ?_
  rintro e w2 ⟨b, rfl, hb, hb2⟩
  have HB2 := Lib.hid (HB1.out.trans (hb2.mono HB1.out.size))
  clear hb2 HRT
  cases b with
  | false =>
    clear hb
    go_wp2
    go_ret
    exact ⟨rfl, HB2.out⟩
  | true =>
    have hr := hb.1 rfl
    obtain ⟨k, hk, hkn⟩ : ∃ k : Nat, pickI at_ (n + 1) = (k : Int) ∧ k ≤ n := by
      have h1 := pickI_lo at_ (n + 1)
      have h2 := pickI_hi at_ (n + 1) (by omega)
      exact ⟨(pickI at_ (n + 1)).toNat, by omega, by omega⟩
    have hpk := fun w => pick_det at_ ((n : Int) + 1) (n + 1) w rfl (by omega) (by omega)
    rw [hk] at hpk
    have HPK := Lib.hid hpk
    have hsplit : rightS 0 (l.take k) ∧ rightS (lastW 0 (l.take k)) (l.drop k) := by
      rw [← rightS_append, List.take_append_drop]; exact hr
    have hr2 : rightS 0 (l.drop k) := rightS_le (rightS_last hsplit.1) hsplit.2
    have hsum : storyL (l.take k) ++ storyL (l.drop k) = storyL l := by rw [← storyL_append, List.take_append_drop]
    have hle := storyL_le l hi
    have hl1 : (l.take k).length = k := by rw [List.length_take]; omega
    have hl2 : (l.drop k).length = n - k := by rw [List.length_drop]; omega
    have HI1 := Lib.hid (show ∀ e ∈ l.take k, intE e from fun e he => hi e (List.mem_of_mem_take he))
    have HI2 := Lib.hid (show ∀ e ∈ l.drop k, intE e from fun e he => hi e (List.mem_of_mem_drop he))
    have HI := Lib.hid hi
    have HR := Lib.hid (And.intro hsplit.1 (And.intro hr2 hr))
    have hcat := st_cat (storyL (l.take k)) (storyL (l.drop k))
    rw [hsum] at hcat
    have hlen2 := congrArg List.length hsum
    rw [List.length_append] at hlen2
    have hbig : ¬ 9223372036854775807 < (⟨(storyL (l.take k)).toArray⟩ : ByteArray).size + (⟨(storyL (l.drop k)).toArray⟩ : ByteArray).size := by
      have e1 : (⟨(storyL (l.take k)).toArray⟩ : ByteArray).size = (storyL (l.take k)).length := by simp [ByteArray.size]
      have e2 : (⟨(storyL (l.drop k)).toArray⟩ : ByteArray).size = (storyL (l.drop k)).length := by simp [ByteArray.size]
      omega
    have HCAT := Lib.hid (And.intro hcat hbig)
    have HW1 := Lib.hid (show wrap64 ((n : Int) + 1) = (n : Int) + 1 by unfold wrap64; omega)
    have hk0 : (0 : Int) ≤ (k : Int) := by omega
    have hkn' : (k : Int) ≤ (n : Int) := by omega
    have hkc : (k : Int) ≤ (c : Int) := by omega
    have hnc' : (n : Int) ≤ (c : Int) := by omega
    have H1 := Lib.hid (fun w h => st_print (l.take k) A k c w h)
    have HP1 := Lib.hid (st_print (l.take k) A k c w2 (HC.out.sp.old HB2.out) ((HE.out.of HB2.out).head hkn) hl1 HI1.out (by omega))
    have HKN := Lib.hid hkn
    have HL := Lib.hid (And.intro hl2 hlen)
    have HN := Lib.hid (show n ≤ 100 by omega)
    clear hb hr hsplit hr2 hsum hle hlen2 hi hcat hbig hpk hk hl1 hl2 hlen H1 HI1
    unfold ToldStory strV at HP1
    --M1
    have hw1 := HW1.out
    go_wp2_with fail
    refine (HPK.out _).mono ?_
    rintro e w3 ⟨rfl, rfl⟩
    clear hw1 HW1
    --M2
    go_wp2_with fail
    --M3
    refine HP1.out.mono ?_
    rintro e w3 ⟨hb3, ⟨rfl, _⟩ | ⟨rfl, hno⟩⟩
    · have HB3 := Lib.hid (HB2.out.trans (hb3.mono HB2.out.size))
      clear hb3 HP1
      have HP3 := Lib.hid (fun w h1 h2 => st_print l A n c w h1 h2 HL.out.2 HI.out (by have := HN.out; omega))
      unfold ToldStory strV at HP3
      by_cases hck : c = k
      · have hkn2 : k = n := by have := HKN.out; omega
        subst hck
        subst hkn2
        have HP2 := Lib.hid (st_print (l.drop c) A 0 0 w3 (HC.out.sp.old HB3.out) (fun i hi => absurd hi (by omega)) (by rw [HL.out.1]; omega) HI2.out (by omega))
        unfold ToldStory strV at HP2
        go_wp2_with fail
        --M5
        refine HP2.out.mono ?_
        rintro e w4 ⟨hb4, ⟨rfl, _⟩ | ⟨rfl, hno⟩⟩
        · have HB4 := Lib.hid (HB3.out.trans (hb4.mono HB3.out.size))
          clear hb4 HP2
          go_wp2_with fail
          refine (HP3.out w4 (HC.out.sp.old HB4.out) (HE.out.of HB4.out)).mono ?_
          rintro e w5 ⟨hb5, ⟨rfl, _⟩ | ⟨rfl, hno⟩⟩
          · have HB5 := Lib.hid (HB4.out.trans (hb5.mono HB4.out.size))
            obtain ⟨hcat, hbig⟩ := HCAT.out
            clear hb5 HP3 HCAT
            generalize (⟨(storyL (l.take c)).toArray⟩ : ByteArray) = B1 at *
            generalize (⟨(storyL (l.drop c)).toArray⟩ : ByteArray) = B2 at *
            generalize (⟨(storyL l).toArray⟩ : ByteArray) = B3 at *
            go_wp2
            go_ret
            exact ⟨rfl, HB5.out⟩
          · exact absurd HR.out.2.2 hno
        · exact absurd HR.out.2.1 hno
      · have HP2 := Lib.hid (st_print (l.drop k) (A.map fun x => x.add (k * 4)) (n - k) (c - k) w3 (HC.out.sp.old HB3.out) ((HE.out.of HB3.out).rest HKN.out) HL.out.1 HI2.out (by have := HN.out; omega))
        unfold ToldStory strV at HP2
        go_wp2_with fail
        --M5
        refine HP2.out.mono ?_
        rintro e w4 ⟨hb4, ⟨rfl, _⟩ | ⟨rfl, hno⟩⟩
        · have HB4 := Lib.hid (HB3.out.trans (hb4.mono HB3.out.size))
          clear hb4 HP2
          go_wp2_with fail
          refine (HP3.out w4 (HC.out.sp.old HB4.out) (HE.out.of HB4.out)).mono ?_
          rintro e w5 ⟨hb5, ⟨rfl, _⟩ | ⟨rfl, hno⟩⟩
          · have HB5 := Lib.hid (HB4.out.trans (hb5.mono HB4.out.size))
            obtain ⟨hcat, hbig⟩ := HCAT.out
            clear hb5 HP3 HCAT
            generalize (⟨(storyL (l.take k)).toArray⟩ : ByteArray) = B1 at *
            generalize (⟨(storyL (l.drop k)).toArray⟩ : ByteArray) = B2 at *
            generalize (⟨(storyL l).toArray⟩ : ByteArray) = B3 at *
            go_wp2
            go_ret
            exact ⟨rfl, HB5.out⟩
          · exact absurd HR.out.2.2 hno
        · exact absurd HR.out.2.1 hno
    · exact absurd HR.out.1 hno
end Go.Proofs.YtdpknbcmjpnfgaaDoor
