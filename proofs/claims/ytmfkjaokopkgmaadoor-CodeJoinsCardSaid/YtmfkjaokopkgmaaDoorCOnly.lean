/-
  The walk of CodeOnly.
-/
import Derived.Test.YtmfkjaokopkgmaaDoorCPrintAll
import Derived.Test.YtmfkjaokopkgmaaDoorCWritten
namespace Go.Proofs.YtmfkjaokopkgmaaDoor
set_option maxRecDepth 100000
open Go.RowKit Go.Sort

theorem okX_has {x : In5} (h : okX x) : hasOp x ∧ ints5 x := by
  obtain ⟨h1, h2, h3, _⟩ := h
  refine ⟨⟨h1, h2⟩, ⟨by omega, by omega⟩, h3 _ ?_, h3 _ ?_, h3 _ ?_, h3 _ ?_⟩ <;> simp [nums]

set_option maxHeartbeats 4000000 in
theorem codeOnly_list {w : World} (hC : CW w) (S : List UInt8) : Calls Tryd.prog 4 #[strV S] w fun e w' => e = .returned (.bool true) ∧ Below w.heap.size w w' := by
  have hsz : (⟨S.toArray⟩ : ByteArray).size = S.length := by simp [ByteArray.size]
  have HC := Lib.hid hC
  have HW := Lib.hid (written_true w hC)
  clear hC
  by_cases hl : S.length ≤ 5000
  · have hni : ¬ (5000 : Int) < ((⟨S.toArray⟩ : ByteArray).size : Int) := by rw [hsz]; omega
    have HP := Lib.hid (fun w h => parse_any S (by omega) w h)
    unfold strV at HP ⊢
    generalize hSB : (⟨S.toArray⟩ : ByteArray) = SB at *
    go_enter Tryd.func4, Tryd.ntmps4
    go_wp2_with fail
    refine HW.out.mono ?_
    rintro e w1 ⟨rfl, hb1⟩
    have HB1 := Lib.hid hb1
    clear hb1 HW
    go_wp2_with fail
    refine (HP.out w1 (HC.out.old HB1.out)).mono ?_
    rintro e w2 ⟨hb2, ⟨l, A, c, rfl, hown, hok, hpr, hle⟩ | ⟨t, p, rfl, hno⟩⟩
    · have hb12 := HB1.out.trans (hb2.mono HB1.out.size)
      have HPR := Lib.hid (print_any l A l.length c w2 (HC.out.old hb12) (Inss.of_own hown rfl) (fun x hx => (okX_has (hok x hx)).2) (by omega))
      have HB2 := Lib.hid hb12
      have hhas : ∀ x ∈ l, hasOp x := fun x hx => (okX_has (hok x hx)).1
      clear hb2 hb12 hown hok HP
      go_wp2_with fail
      refine HPR.out.mono ?_
      rintro e w3 ⟨hb3, ⟨rfl, _⟩ | ⟨t, p, rfl, hno⟩⟩
      · have HB3 := Lib.hid (HB2.out.trans (hb3.mono HB2.out.size))
        clear hb3 HPR
        unfold strV
        rw [hpr, hSB]
        go_wp2
        go_ret
        exact ⟨rfl, HB3.out⟩
      · exact absurd hhas hno
    · have HB2 := Lib.hid (HB1.out.trans (hb2.mono HB1.out.size))
      clear hb2 hno HP
      go_wp2
      go_ret
      exact ⟨rfl, HB2.out⟩
  · have hni : (5000 : Int) < ((⟨S.toArray⟩ : ByteArray).size : Int) := by rw [hsz]; omega
    unfold strV
    generalize (⟨S.toArray⟩ : ByteArray) = SB at *
    go_enter Tryd.func4, Tryd.ntmps4
    go_wp2_with fail
    refine HW.out.mono ?_
    rintro e w1 ⟨rfl, hb1⟩
    have HB1 := Lib.hid hb1
    clear hb1 HW
    go_wp2
    go_ret
    exact ⟨rfl, HB1.out⟩

theorem codeOnly_any {w : World} (hC : CW w) (s : ByteArray) : Calls Tryd.prog 4 #[.string s] w fun e w' => e = .returned (.bool true) ∧ Below w.heap.size w w' := by
  have h := codeOnly_list hC s.data.toList
  unfold strV at h
  rw [show (⟨s.data.toList.toArray⟩ : ByteArray) = s from Lib.mk_data s] at h
  exact h
end Go.Proofs.YtmfkjaokopkgmaaDoor
