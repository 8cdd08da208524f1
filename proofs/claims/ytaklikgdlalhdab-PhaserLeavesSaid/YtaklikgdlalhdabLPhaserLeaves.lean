/-
  WHEN ALL HAVE LEFT IT IS OVER, and nobody can come any more.
-/
import Derived.Test.YtaklikgdlalhdabLPhaser
namespace Go.Proofs.Ytaklikgdlalhdab
open Go.RowKit
set_option linter.unusedVariables false
set_option linter.unusedSimpArgs false

theorem leaveK_ok {f N : Int} {k : Nat} (hf : 0 ≤ f ∧ f ≤ 2147483647) (hN : 1 ≤ N ∧ N ≤ 65535) : (leaveK f N k).ok := by
  unfold leaveK
  split
  · exact ⟨hf, ⟨by show 0 ≤ N - (k : Int); omega, by show N - (k : Int) ≤ 65535; omega⟩, by show 0 ≤ N - (k : Int); omega, Int.le_refl _⟩
  · exact ⟨hf, ⟨by show (0 : Int) ≤ 0; decide, by show (0 : Int) ≤ 65535; decide⟩, by show (0 : Int) ≤ 0; decide, by show (0 : Int) ≤ 0; decide⟩
/-- So many have left. -/
def Left (w W : World) (f N : Int) (k : Nat) : Prop := Below w.heap.size w W ∧ PhAt W w.heap.size (leaveK f N k).o (leaveK f N k).f (leaveK f N k).p (leaveK f N k).q
set_option maxHeartbeats 8000000 in
theorem phaserLeaves_any (o : Bool) (f p q : Int) (w : World) : Calls Try.prog 3 #[.agg #[.bool o, .int .i64 f, .int .i64 p, .int .i64 q]] w fun e w' => e = .returned (.bool true) ∧ Below w.heap.size w w' := by
  have HH := Lib.hid (fun W => phased_any W)
  have HK := Lib.hid (fun W => packs_any W)
  obtain ⟨K, hK0, hK1, hPn⟩ := pick_at p 40 (by decide) (by decide)
  have hK1 : K < 40 := hK1
  have HPn := Lib.hid hPn
  clear hPn
  by_cases hf : 0 ≤ f ∧ f ≤ 2147483647
  · have hok : PhS.ok ⟨false, f, 1 + K, 1 + K⟩ := ⟨hf, ⟨by show 0 ≤ 1 + K; omega, by show 1 + K ≤ 65535; omega⟩, by show 0 ≤ 1 + K; omega, Int.le_refl _⟩
    have HR := Lib.hid (fun V => pkRight_yes false f (1 + K) (1 + K) V hok)
    have HF := Lib.hid hf
    have HZ := Lib.hid (show leaveK f (1 + K) 0 = ⟨false, f, 1 + K, 1 + K⟩ by
      unfold leaveK
      rw [if_pos (by show ((0 : Nat) : Int) < 1 + K; omega)]
      show PhS.mk false f (1 + K - ((0 : Nat) : Int)) (1 + K - ((0 : Nat) : Int)) = _
      rw [show 1 + K - ((0 : Nat) : Int) = 1 + K by omega])
    clear hok hf
    have HB1 := Lib.hid ((Below.refl w.heap.size w).alloc (Nat.le_refl _) (.cells #[.bool o, .int .i64 f, .int .i64 p, .int .i64 q] 23))
    have HP2 := Lib.hid (PhAt.new w o f p q)
    go_enter Try.func3, Try.ntmps3
    go_wp2_with fail
    refine (HH.out _).mono ?_
    rintro e w1 ⟨rfl, hb⟩
    have HB3 := Lib.hid (HB1.out.trans (hb.mono HB1.out.size))
    have HP4 := Lib.hid (HP2.out.below hb HP2.out.lt)
    clear hb HB1 HP2
    obtain ⟨a1c0, a1c1, a1c2, a1c3⟩ := HP4.out.cells
    have a1f := HP4.out.frozen
    have a1l := HP4.out.lt
    go_wp2_with fail
    refine (HK.out _).mono ?_
    rintro e w2 ⟨rfl, hb⟩
    have HB5 := Lib.hid (HB3.out.trans (hb.mono HB3.out.size))
    have HP6 := Lib.hid (HP4.out.below hb HP4.out.lt)
    clear hb HB3 HP4 a1c0 a1c1 a1c2 a1c3 a1f a1l
    obtain ⟨a2c0, a2c1, a2c2, a2c3⟩ := HP6.out.cells
    have a2f := HP6.out.frozen
    have a2l := HP6.out.lt
    go_wp2_with fail
    refine (HPn.out _).mono ?_
    rintro e w9 ⟨rfl, rfl⟩
    have HBs := Lib.hid ((((HB5.out.setCell (p := ⟨w.heap.size, 2, none⟩) (Nat.le_refl _) (.int .i64 (1 + K))).setCell (p := ⟨w.heap.size, 3, none⟩) (Nat.le_refl _) (.int .i64 (1 + K))).setCell (p := ⟨w.heap.size, 0, none⟩) (Nat.le_refl _) (.bool false)))
    have HAs := Lib.hid (((HP6.out.set2 (1 + K)).set3 (1 + K)).set0 false)
    clear HB5 HP6
    go_wp2_with fail
    refine (HR.out _).mono ?_
    rintro e w3 ⟨rfl, hb⟩
    have HB7 := Lib.hid (HBs.out.trans (hb.mono HBs.out.size))
    have HP8 := Lib.hid (HAs.out.below hb HAs.out.lt)
    clear hb HBs HAs a2c0 a2c1 a2c2 a2c3 a2f a2l
    obtain ⟨a3c0, a3c1, a3c2, a3c3⟩ := HP8.out.cells
    have a3f := HP8.out.frozen
    have a3l := HP8.out.lt
    have HL0 := Lib.hid (show Left w w3 f (1 + K) 0 from ⟨HB7.out, by rw [HZ.out]; exact HP8.out⟩)
    go_wp2
    clear a3c0 a3c1 a3c2 a3c3 a3f a3l
    go_loopw [31] (fun i wr => ∃ k : Nat, i = .int .i64 k ∧ (k : Int) ≤ 1 + K ∧ Hid (Left w wr f (1 + K) k)) (fun i _ => (1 + K - intOf i).toNat)
    case atStart => exact ⟨0, rfl, by omega, by first | exact HL0.out | exact ⟨HL0.out⟩⟩
    case round =>
      obtain ⟨k, rfl, hk, hL⟩ := hrel
      by_cases hlt : (k : Int) < 1 + K
      · have hx := leaveK_step (f := f) hlt
        have hok := leaveK_ok (k := k) HF.out (show 1 ≤ 1 + K ∧ 1 + K ≤ 65535 by omega)
        have hA := hL.out.2
        have HBr := Lib.hid hL.out.1
        have HN := Lib.hid (show Left w wr f (1 + K) k from hL.out)
        obtain ⟨⟨o2, f2, p2, q2⟩, h2⟩ : ∃ x, leaveK f (1 + K) (k + 1) = x := ⟨_, rfl⟩
        have e1 : leaveK f (1 + K) k = ⟨false, f, 1 + K - k, 1 + K - k⟩ := by unfold leaveK; rw [if_pos hlt]
        rw [h2, e1] at hx
        rw [e1] at hok hA
        have HD := Lib.hid (fun V => psDo_any false f (1 + K - k) (1 + K - k) 8 0 V hok (.inr (.inr ⟨.inr (.inl rfl), rfl⟩)) (by decide) hx)
        have HA := Lib.hid (show PhAt wr w.heap.size false f (1 + K - k) (1 + K - k) from hA)
        have H2 := Lib.hid h2
        clear hx hok hA e1 h2 HN hL hk
        obtain ⟨c0, c1, c2, c3⟩ := HA.out.cells
        have cf := HA.out.frozen
        go_wp2_with fail
        refine (HD.out _).mono ?_
        rintro e w21 ⟨rfl, hb⟩
        have HB201 := Lib.hid (HBr.out.trans (hb.mono HBr.out.size))
        have HP202 := Lib.hid (HA.out.below hb HA.out.lt)
        clear hb HBr HA c0 c1 c2 c3 cf
        obtain ⟨a21c0, a21c1, a21c2, a21c3⟩ := HP202.out.cells
        have a21f := HP202.out.frozen
        have a21l := HP202.out.lt
        have l1 : w.heap.size < w21.heap.size + 1 := by have := HP202.out.lt; omega
        have ne1 : ¬ w.heap.size = w21.heap.size := by have := HP202.out.lt; omega
        have ne2 : ¬ w21.heap.size = w.heap.size := by have := HP202.out.lt; omega
        have HNew := Lib.hid (show Left w ((put4 w21 w.heap.size o2 f2 p2 q2).alloc (.cells #[.bool o2, .int .i64 f2, .int .i64 p2, .int .i64 q2] 23)) f (1 + K) (k + 1) from ⟨(below4 HB201.out (Nat.le_refl _) o2 f2 p2 q2).alloc (by rw [size4]; exact HB201.out.size) _, by rw [H2.out]; exact (HP202.out.set4 o2 f2 p2 q2).alloc _⟩)
        have hlt2 : (k : Int) + 1 ≤ 1 + K := by omega
        --MB
        go_wp2
        go_roundw
        case rel => exact ⟨k + 1, by go_num, by omega, by first | exact HNew.out | exact ⟨HNew.out⟩⟩
        case measure => simp [intOf]; omega
      · have e1 : leaveK f (1 + K) k = ⟨true, f, 0, 0⟩ := by unfold leaveK; rw [if_neg hlt]
        have hA := hL.out.2
        have HBr := Lib.hid hL.out.1
        rw [e1] at hA
        have HA := Lib.hid (show PhAt wr w.heap.size true f 0 0 from hA)
        have hok := leaveK_ok (k := k) HF.out (show 1 ≤ 1 + K ∧ 1 + K ≤ 65535 by omega)
        rw [e1] at hok
        have HD := Lib.hid (fun V => psDo_any true f 0 0 6 1 V hok (.inl ⟨rfl, by decide, by decide⟩) (by decide) (phNext_over (x := ⟨true, f, 0, 0⟩) rfl 6 1))
        clear hA e1 hL hok
        obtain ⟨c0, c1, c2, c3⟩ := HA.out.cells
        have cf := HA.out.frozen
        go_wp2_with fail
        refine (HD.out _).mono ?_
        rintro e w21 ⟨rfl, hb⟩
        have HB301 := Lib.hid (HBr.out.trans (hb.mono HBr.out.size))
        have HP302 := Lib.hid (HA.out.below hb HA.out.lt)
        clear hb HBr HA c0 c1 c2 c3 cf
        obtain ⟨a21c0, a21c1, a21c2, a21c3⟩ := HP302.out.cells
        have a21f := HP302.out.frozen
        have a21l := HP302.out.lt
        have ge302 : w.heap.size ≤ w21.heap.size := HB301.out.size
        have neab302 : ¬ w.heap.size = w21.heap.size := by have := HP302.out.lt; omega
        have neba302 : ¬ w21.heap.size = w.heap.size := by have := HP302.out.lt; omega
        have HB303 := Lib.hid (HB301.out.alloc HB301.out.size (.cells #[.bool true, .int .i64 f, .int .i64 0, .int .i64 0] 23))
        have HP304 := Lib.hid (HP302.out.alloc (.cells #[.bool true, .int .i64 f, .int .i64 0, .int .i64 0] 23))
        have HP305 := Lib.hid (PhAt.new w21 true f 0 0)
        have a21l1 : w.heap.size < w21.heap.size + 1 := by have := HP304.out.lt; omega
        have a21l2 : w.heap.size < w21.heap.size + 1 + 1 := by have := HP304.out.lt; omega
        have b21l1 : w21.heap.size < w21.heap.size + 1 := by have := HP305.out.lt; omega
        have b21l2 : w21.heap.size < w21.heap.size + 1 + 1 := by have := HP305.out.lt; omega
        --MC
        go_wp2
        go_ret
        exact ⟨rfl, HB303.out⟩
  · have HR := Lib.hid (fun V => pkRight_no false f (1 + K) (1 + K) V (fun g => hf g.1))
    clear hf
    have HB1 := Lib.hid ((Below.refl w.heap.size w).alloc (Nat.le_refl _) (.cells #[.bool o, .int .i64 f, .int .i64 p, .int .i64 q] 23))
    have HP2 := Lib.hid (PhAt.new w o f p q)
    go_enter Try.func3, Try.ntmps3
    go_wp2_with fail
    refine (HH.out _).mono ?_
    rintro e w1 ⟨rfl, hb⟩
    have HB3 := Lib.hid (HB1.out.trans (hb.mono HB1.out.size))
    have HP4 := Lib.hid (HP2.out.below hb HP2.out.lt)
    clear hb HB1 HP2
    obtain ⟨a1c0, a1c1, a1c2, a1c3⟩ := HP4.out.cells
    have a1f := HP4.out.frozen
    have a1l := HP4.out.lt
    go_wp2_with fail
    refine (HK.out _).mono ?_
    rintro e w2 ⟨rfl, hb⟩
    have HB5 := Lib.hid (HB3.out.trans (hb.mono HB3.out.size))
    have HP6 := Lib.hid (HP4.out.below hb HP4.out.lt)
    clear hb HB3 HP4 a1c0 a1c1 a1c2 a1c3 a1f a1l
    obtain ⟨a2c0, a2c1, a2c2, a2c3⟩ := HP6.out.cells
    have a2f := HP6.out.frozen
    have a2l := HP6.out.lt
    go_wp2_with fail
    refine (HPn.out _).mono ?_
    rintro e w9 ⟨rfl, rfl⟩
    have HBs := Lib.hid ((((HB5.out.setCell (p := ⟨w.heap.size, 2, none⟩) (Nat.le_refl _) (.int .i64 (1 + K))).setCell (p := ⟨w.heap.size, 3, none⟩) (Nat.le_refl _) (.int .i64 (1 + K))).setCell (p := ⟨w.heap.size, 0, none⟩) (Nat.le_refl _) (.bool false)))
    have HAs := Lib.hid (((HP6.out.set2 (1 + K)).set3 (1 + K)).set0 false)
    clear HB5 HP6
    go_wp2_with fail
    refine (HR.out _).mono ?_
    rintro e w3 ⟨rfl, hb⟩
    have HB7 := Lib.hid (HBs.out.trans (hb.mono HBs.out.size))
    have HP8 := Lib.hid (HAs.out.below hb HAs.out.lt)
    clear hb HBs HAs a2c0 a2c1 a2c2 a2c3 a2f a2l
    obtain ⟨a3c0, a3c1, a3c2, a3c3⟩ := HP8.out.cells
    have a3f := HP8.out.frozen
    have a3l := HP8.out.lt
    go_wp2
    go_ret
    exact ⟨rfl, HB7.out⟩
end Go.Proofs.Ytaklikgdlalhdab
