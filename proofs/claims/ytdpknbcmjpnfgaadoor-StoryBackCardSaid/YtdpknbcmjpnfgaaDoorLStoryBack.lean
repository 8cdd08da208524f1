/-
  The walk of StoryBack.
-/
import Derived.Test.YtdpknbcmjpnfgaaDoorLStory
namespace Go.Proofs.YtdpknbcmjpnfgaaDoor
set_option maxRecDepth 100000
open Go.RowKit Go.Sort
set_option linter.unusedVariables false
set_option linter.unusedSimpArgs false

theorem readS_few : ∀ (n : Nat) (ah : Int) (s : List UInt8), (readS n ah s).1.length ≤ n
  | 0, _, _ => Nat.le_refl _
  | n + 1, ah, s => by
    rw [readS]
    split
    · exact Nat.zero_le _
    · split
      · exact Nat.zero_le _
      · split
        · rename_i e _ _
          have := readS_few n e.1 (cutL 10 s).2.1
          show (e :: _).length ≤ n + 1
          rw [List.length_cons]
          omega
        · exact Nat.zero_le _
theorem storyP_few (s : List UInt8) : (storyP s).1.length ≤ s.length := readS_few _ _ _

set_option maxHeartbeats 4000000 in
theorem storyBack_list {w : World} (hC : SR w) (A : Option Addr) (n c : Nat) (l : List Ev4) (hlen : l.length = n) (hE : EvRow w A n l) (hi : ∀ e ∈ l, intE e) (S : List UInt8) :
    Calls Tryd.prog 6 #[.slice A n c, strV S] w fun e w' => e = .returned (.bool true) ∧ Below w.heap.size w w' := by
  have hsz : (⟨S.toArray⟩ : ByteArray).size = S.length := by simp [ByteArray.size]
  have HS := Lib.hid (storied_true w hC)
  have HC := Lib.hid hC
  have HE := Lib.hid hE
  clear hC hE
  unfold strV
  have HSB := Lib.hid hsz
  go_enter Tryd.func6, Tryd.ntmps6
  go_wp2_with fail
  refine HS.out.mono ?_
  rintro e w1 ⟨rfl, hb1⟩
  have HB1 := Lib.hid hb1
  clear hb1 HS
  by_cases hn : 100 < n
  · have hni : (100 : Int) < (n : Int) := by omega
    clear hsz
    generalize (⟨S.toArray⟩ : ByteArray) = SB at *
    go_wp2
    go_ret
    exact ⟨rfl, HB1.out⟩
  have hni : ¬ (100 : Int) < (n : Int) := by omega
  by_cases hs : 2000 < S.length
  · have hsi : (2000 : Int) < ((⟨S.toArray⟩ : ByteArray).size : Int) := by rw [hsz]; omega
    clear hsz HSB
    generalize (⟨S.toArray⟩ : ByteArray) = SB at *
    go_wp2
    go_ret
    exact ⟨rfl, HB1.out⟩
  have hsi : ¬ (2000 : Int) < ((⟨S.toArray⟩ : ByteArray).size : Int) := by rw [hsz]; omega
  have hsi2 : ¬ (2000 : Int) < (S.length : Int) := by omega
  have HSZ := Lib.hid (show S.length ≤ 2000 by omega)
  have HRT := Lib.hid (stRight_any l A n c w1 (HE.out.of HB1.out) hlen (by omega))
  clear hsz hs
  go_wp2_with fail
  refine HRT.out.mono ?_
  rintro e w2 ⟨b, rfl, hb, hb2⟩
  have HB2 := Lib.hid (HB1.out.trans (hb2.mono HB1.out.size))
  clear hb2 HRT
  have HPA := Lib.hid (st_print l A n c w2 (HC.out.sp.old HB2.out) (HE.out.of HB2.out) hlen hi (by omega))
  cases b with
  | false =>
    have hno : ¬ rightS 0 l := fun h => by have := hb.2 h; cases this
    clear hb
    unfold ToldStory at HPA
    go_wp2_with fail
    refine HPA.out.mono ?_
    rintro e w3 ⟨hb3, ⟨rfl, hr⟩ | ⟨rfl, _⟩⟩
    · exact absurd hr hno
    have HB3 := Lib.hid (HB2.out.trans (hb3.mono HB2.out.size))
    clear hb3 HPA hno
    have HQ := Lib.hid (st_parse S (by have := HSZ.out; omega) w3 (HC.out.old HB3.out))
    unfold ToldStories strV at HQ
    have hs2 := HSB.out
    generalize hSB : (⟨S.toArray⟩ : ByteArray) = SB at *
    go_wp2_with fail
    refine HQ.out.mono ?_
    rintro e v1 ⟨hv1, ⟨A2, c2, rfl, hE2, hok⟩ | ⟨N2, rfl, _, _, hok⟩⟩
    · have HV1 := Lib.hid (HB3.out.trans (hv1.mono HB3.out.size))
      have hP2 := st_print (storyP S).1 A2 (storyP S).1.length c2 v1 (HC.out.sp.old HV1.out) hE2 rfl (storyP_right S).2 (by have := storyP_few S; have := HSZ.out; omega)
      have htx := storyP_sound hok
      have hri := (storyP_right S).1
      unfold ToldStory strV at hP2
      rw [htx, hSB] at hP2
      have HP2 := Lib.hid hP2
      have HRI := Lib.hid hri
      clear hv1 hE2 hok hP2 htx hri HQ
      generalize (storyP S).1 = L at *
      go_wp2_with fail
      refine HP2.out.mono ?_
      rintro e v2 ⟨hv2, ⟨rfl, _⟩ | ⟨rfl, hno⟩⟩
      · have HV2 := Lib.hid (HV1.out.trans (hv2.mono HV1.out.size))
        clear hv2 HP2
        go_wp2
        go_ret
        exact ⟨rfl, HV2.out⟩
      · exact absurd HRI.out hno
    · have HV1 := Lib.hid (HB3.out.trans (hv1.mono HB3.out.size))
      clear hv1 hok HQ
      go_wp2
      go_ret
      exact ⟨rfl, HV1.out⟩
  | true =>
    have hr := hb.1 rfl
    clear hb
    have hcnt := count_story l
    have hle := storyL_le l hi
    have hwh := storyP_whole hr hi
    have HQ1 := Lib.hid (fun w h => st_parse (storyL l) (by omega) w h)
    unfold ToldStories at HQ1
    rw [hwh] at HQ1
    have hctn : (Lib.countByte (⟨(storyL l).toArray⟩ : ByteArray).data.toList 10 : Int) = (n : Int) := by
      unfold Lib.countByte
      have : (⟨(storyL l).toArray⟩ : ByteArray).data.toList = storyL l := by simp
      rw [this, hcnt, hlen]
    have HCT := Lib.hid (fun w => (by have := Tryd.strings_Count_one ⟨(storyL l).toArray⟩ 10 w; rw [hctn] at this; exact this : Calls Tryd.prog 26 #[.string ⟨(storyL l).toArray⟩, .string ⟨#[10]⟩] w fun e w' => e = .returned (.int .i64 (n : Int)) ∧ w' = w))
    have HRR := Lib.hid hr
    clear hcnt hle hwh hctn hr
    unfold ToldStory strV at HPA
    unfold strV at HQ1
    generalize (⟨(storyL l).toArray⟩ : ByteArray) = TB1 at *
    go_wp2_with fail
    refine HPA.out.mono ?_
    rintro e w3 ⟨hb3, ⟨rfl, hr⟩ | ⟨rfl, hno⟩⟩
    rotate_left
    · exact absurd HRR.out hno
    have HB3 := Lib.hid (HB2.out.trans (hb3.mono HB2.out.size))
    clear hb3 HPA hr
    go_wp2_with fail
    refine (HQ1.out w3 (HC.out.old HB3.out)).mono ?_
    rintro e w4 ⟨hb4, ⟨A2, c2, rfl, hE2, _⟩ | ⟨_, _, _, _, hno⟩⟩
    rotate_left
    · cases hno
    have HB4 := Lib.hid (HB3.out.trans (hb4.mono HB3.out.size))
    try dsimp only at hE2
    rw [hlen] at hE2
    have HEQ := Lib.hid (equalE_same A A2 n c c2 l w4 (by omega) (HE.out.of HB4.out) hE2)
    clear hb4 hE2 HQ1
    try dsimp only
    rw [hlen]
    go_wp2_with fail
    refine HEQ.out.mono ?_
    rintro e w5 ⟨rfl, q, rfl⟩
    have HB5 := Lib.hid (below_drewN HB4.out q)
    clear HEQ
    go_wp2_with fail
    refine (HCT.out _).mono ?_
    rintro e w6 ⟨rfl, rfl⟩
    clear HCT
    have HQ := Lib.hid (st_parse S (by have := HSZ.out; omega) (w4.drewN q) (HC.out.old HB5.out))
    unfold ToldStories strV at HQ
    have hs2 := HSB.out
    generalize hSB : (⟨S.toArray⟩ : ByteArray) = SB at *
    go_wp2_with fail
    refine HQ.out.mono ?_
    rintro e v1 ⟨hv1, ⟨A2, c2, rfl, hE2, hok⟩ | ⟨N2, rfl, _, _, hok⟩⟩
    · have HV1 := Lib.hid (HB5.out.trans (hv1.mono HB5.out.size))
      have hP2 := st_print (storyP S).1 A2 (storyP S).1.length c2 v1 (HC.out.sp.old HV1.out) hE2 rfl (storyP_right S).2 (by have := storyP_few S; have := HSZ.out; omega)
      have htx := storyP_sound hok
      have hri := (storyP_right S).1
      unfold ToldStory strV at hP2
      rw [htx, hSB] at hP2
      have HP2 := Lib.hid hP2
      have HRI := Lib.hid hri
      clear hv1 hE2 hok hP2 htx hri HQ
      generalize (storyP S).1 = L at *
      go_wp2_with fail
      refine HP2.out.mono ?_
      rintro e v2 ⟨hv2, ⟨rfl, _⟩ | ⟨rfl, hno⟩⟩
      · have HV2 := Lib.hid (HV1.out.trans (hv2.mono HV1.out.size))
        clear hv2 HP2
        go_wp2
        go_ret
        exact ⟨rfl, HV2.out⟩
      · exact absurd HRI.out hno
    · have HV1 := Lib.hid (HB5.out.trans (hv1.mono HB5.out.size))
      clear hv1 hok HQ
      go_wp2
      go_ret
      exact ⟨rfl, HV1.out⟩

theorem storyBack_any {w : World} (hC : SR w) (A : Option Addr) (n c : Nat) (l : List Ev4) (hlen : l.length = n) (hE : EvRow w A n l) (hi : ∀ e ∈ l, intE e) (s : ByteArray) :
    Calls Tryd.prog 6 #[.slice A n c, .string s] w fun e w' => e = .returned (.bool true) ∧ Below w.heap.size w w' := by
  have h := storyBack_list hC A n c l hlen hE hi s.data.toList
  unfold strV at h
  rw [show (⟨s.data.toList.toArray⟩ : ByteArray) = s from Lib.mk_data s] at h
  exact h
end Go.Proofs.YtdpknbcmjpnfgaaDoor
