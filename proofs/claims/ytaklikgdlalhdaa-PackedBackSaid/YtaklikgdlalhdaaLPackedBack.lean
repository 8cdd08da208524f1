/-
  WHAT IS PACKED IS UNPACKED, and just one word is a state.
-/
import Derived.Test.YtaklikgdlalhdaaLPacked
namespace Go.Proofs.Ytaklikgdlalhdaa
open Go.RowKit
set_option linter.unusedVariables false
set_option linter.unusedSimpArgs false

theorem word_masks {W : Int} (h0 : 0 ≤ W) (h1 : W < 18446744073709551616) : bits .and .u64 W 65535 = W % 65536 ∧ bits .and .u64 (W / 65536) 65535 = W / 65536 % 65536 :=
  ⟨bits_mask .u64 64 (by decide) wraps_u64 16 (by decide) _ (by omega) (by omega), bits_mask .u64 64 (by decide) wraps_u64 16 (by decide) _ (by omega) (by omega)⟩
set_option maxHeartbeats 4000000 in
theorem packedBack_11 (o : Bool) (f p q W : Int) (w : World) (h0 : 0 ≤ W) (h1 : W < 18446744073709551616) {o2 : Bool} {f2 p2 q2 : Int} (hx : phOf W = ⟨o2, f2, p2, q2⟩) (hp : PhS.ok ⟨o, f, p, q⟩) (hw : PhS.ok ⟨o2, f2, p2, q2⟩) : Calls Try.prog 3 #[.agg #[.bool o, .int .i64 f, .int .i64 p, .int .i64 q], .int .u64 W] w fun e w' => e = .returned (.bool true) ∧ Below w.heap.size w w' := by
  have HK := Lib.hid (fun W => packs_any W)
  have HR := Lib.hid (fun V => pkRight_yes o f p q V hp)
  obtain ⟨X, hX⟩ : ∃ X, PhS.word ⟨o, f, p, q⟩ = X := ⟨_, rfl⟩
  have HW := Lib.hid (fun V => pkWord_yes o f p q V hp)
  have hl := PhS.word_lt hp
  have ho := of_word hp
  rw [hX] at HW hl ho
  have HO := Lib.hid (fun V => pkOf_yes (W := X) V hl.1 hl.2 ho hp)
  clear hX hl ho
  have HO2 := Lib.hid (fun V => pkOf_yes (W := W) V h0 h1 hx hw)
  have HW2 := Lib.hid (fun V => pkWord_yes o2 f2 p2 q2 V hw)
  rw [← hx, word_of h0 h1] at HW2
  clear hx hp hw h0 h1
  have HB1 := Lib.hid ((Below.refl w.heap.size w).alloc (Nat.le_refl _) (.cells #[.bool o, .int .i64 f, .int .i64 p, .int .i64 q] 23))
  have HP2 := Lib.hid (PhAt.new w o f p q)
  go_enter Try.func3, Try.ntmps3
  go_wp2_with fail
  refine (HK.out _).mono ?_
  rintro e w1 ⟨rfl, hb⟩
  have HB3 := Lib.hid (HB1.out.trans (hb.mono HB1.out.size))
  have HP4 := Lib.hid (HP2.out.below hb HP2.out.lt)
  clear hb HB1 HP2
  obtain ⟨a1c0, a1c1, a1c2, a1c3⟩ := HP4.out.cells
  have a1f := HP4.out.frozen
  have a1l := HP4.out.lt
  go_wp2_with fail
  refine (HR.out _).mono ?_
  rintro e w2 ⟨rfl, hb⟩
  have HB5 := Lib.hid (HB3.out.trans (hb.mono HB3.out.size))
  have HP6 := Lib.hid (HP4.out.below hb HP4.out.lt)
  clear hb HB3 HP4 a1c0 a1c1 a1c2 a1c3 a1f a1l
  obtain ⟨a2c0, a2c1, a2c2, a2c3⟩ := HP6.out.cells
  have a2f := HP6.out.frozen
  have a2l := HP6.out.lt
  go_wp2_with fail
  refine (HW.out _).mono ?_
  rintro e w3 ⟨rfl, hb⟩
  have HB7 := Lib.hid (HB5.out.trans (hb.mono HB5.out.size))
  have HP8 := Lib.hid (HP6.out.below hb HP6.out.lt)
  clear hb HB5 HP6 a2c0 a2c1 a2c2 a2c3 a2f a2l
  obtain ⟨a3c0, a3c1, a3c2, a3c3⟩ := HP8.out.cells
  have a3f := HP8.out.frozen
  have a3l := HP8.out.lt
  go_wp2_with fail
  refine (HO.out _).mono ?_
  rintro e w4 ⟨rfl, hb⟩
  have HB9 := Lib.hid (HB7.out.trans (hb.mono HB7.out.size))
  have HP10 := Lib.hid (HP8.out.below hb HP8.out.lt)
  clear hb HB7 HP8 a3c0 a3c1 a3c2 a3c3 a3f a3l
  obtain ⟨a4c0, a4c1, a4c2, a4c3⟩ := HP10.out.cells
  have a4f := HP10.out.frozen
  have a4l := HP10.out.lt
  have HB11 := Lib.hid (HB9.out.alloc HB9.out.size (.cells #[.bool o, .int .i64 f, .int .i64 p, .int .i64 q] 23))
  have HP12 := Lib.hid (HP10.out.alloc (.cells #[.bool o, .int .i64 f, .int .i64 p, .int .i64 q] 23))
  have HP13 := Lib.hid (PhAt.new w4 o f p q)
  have a4l1 : w.heap.size < w4.heap.size + 1 := by have := HP12.out.lt; omega
  have a4l2 : w.heap.size < w4.heap.size + 1 + 1 := by have := HP12.out.lt; omega
  have b4l1 : w4.heap.size < w4.heap.size + 1 := by have := HP13.out.lt; omega
  have b4l2 : w4.heap.size < w4.heap.size + 1 + 1 := by have := HP13.out.lt; omega
  go_wp2_with fail
  refine (HO2.out _).mono ?_
  rintro e w5 ⟨rfl, hb⟩
  have HB14 := Lib.hid (HB11.out.trans (hb.mono HB11.out.size))
  have HP15 := Lib.hid (HP12.out.below hb HP12.out.lt)
  have HP16 := Lib.hid (HP13.out.below hb HP13.out.lt)
  clear hb HB11 HP12 HP13 a4c0 a4c1 a4c2 a4c3 a4f a4l a4l1 a4l2 b4l1 b4l2
  obtain ⟨a5c0, a5c1, a5c2, a5c3⟩ := HP15.out.cells
  have a5f := HP15.out.frozen
  have a5l := HP15.out.lt
  obtain ⟨b5c0, b5c1, b5c2, b5c3⟩ := HP16.out.cells
  have b5f := HP16.out.frozen
  have b5l := HP16.out.lt
  have HB17 := Lib.hid (HB14.out.alloc HB14.out.size (.cells #[.bool o2, .int .i64 f2, .int .i64 p2, .int .i64 q2] 23))
  have HP18 := Lib.hid (HP15.out.alloc (.cells #[.bool o2, .int .i64 f2, .int .i64 p2, .int .i64 q2] 23))
  have HP19 := Lib.hid (HP16.out.alloc (.cells #[.bool o2, .int .i64 f2, .int .i64 p2, .int .i64 q2] 23))
  have HP20 := Lib.hid (PhAt.new w5 o2 f2 p2 q2)
  have a5l1 : w.heap.size < w5.heap.size + 1 := by have := HP18.out.lt; omega
  have a5l2 : w.heap.size < w5.heap.size + 1 + 1 := by have := HP18.out.lt; omega
  have b5l1 : w4.heap.size < w5.heap.size + 1 := by have := HP19.out.lt; omega
  have b5l2 : w4.heap.size < w5.heap.size + 1 + 1 := by have := HP19.out.lt; omega
  have c5l1 : w5.heap.size < w5.heap.size + 1 := by have := HP20.out.lt; omega
  have c5l2 : w5.heap.size < w5.heap.size + 1 + 1 := by have := HP20.out.lt; omega
  go_wp2_with fail
  refine (HW2.out _).mono ?_
  rintro e w6 ⟨rfl, hb⟩
  have HB21 := Lib.hid (HB17.out.trans (hb.mono HB17.out.size))
  have HP22 := Lib.hid (HP18.out.below hb HP18.out.lt)
  have HP23 := Lib.hid (HP19.out.below hb HP19.out.lt)
  have HP24 := Lib.hid (HP20.out.below hb HP20.out.lt)
  clear hb HB17 HP18 HP19 HP20 a5c0 a5c1 a5c2 a5c3 a5f a5l b5c0 b5c1 b5c2 b5c3 b5f b5l a5l1 a5l2 b5l1 b5l2 c5l1 c5l2
  obtain ⟨a6c0, a6c1, a6c2, a6c3⟩ := HP22.out.cells
  have a6f := HP22.out.frozen
  have a6l := HP22.out.lt
  obtain ⟨b6c0, b6c1, b6c2, b6c3⟩ := HP23.out.cells
  have b6f := HP23.out.frozen
  have b6l := HP23.out.lt
  obtain ⟨c6c0, c6c1, c6c2, c6c3⟩ := HP24.out.cells
  have c6f := HP24.out.frozen
  have c6l := HP24.out.lt
  go_wp2
  go_ret
  exact ⟨rfl, HB21.out⟩
set_option maxHeartbeats 4000000 in
theorem packedBack_10 (o : Bool) (f p q W : Int) (w : World) (h0 : 0 ≤ W) (h1 : W < 18446744073709551616) {o2 : Bool} {f2 p2 q2 : Int} (hx : phOf W = ⟨o2, f2, p2, q2⟩) (hp : PhS.ok ⟨o, f, p, q⟩) (hw : ¬ PhS.ok ⟨o2, f2, p2, q2⟩) : Calls Try.prog 3 #[.agg #[.bool o, .int .i64 f, .int .i64 p, .int .i64 q], .int .u64 W] w fun e w' => e = .returned (.bool true) ∧ Below w.heap.size w w' := by
  have HK := Lib.hid (fun W => packs_any W)
  have HR := Lib.hid (fun V => pkRight_yes o f p q V hp)
  obtain ⟨X, hX⟩ : ∃ X, PhS.word ⟨o, f, p, q⟩ = X := ⟨_, rfl⟩
  have HW := Lib.hid (fun V => pkWord_yes o f p q V hp)
  have hl := PhS.word_lt hp
  have ho := of_word hp
  rw [hX] at HW hl ho
  have HO := Lib.hid (fun V => pkOf_yes (W := X) V hl.1 hl.2 ho hp)
  clear hX hl ho
  have HO2 := Lib.hid (fun V => pkOf_no (W := W) V h0 h1 hx hw)
  have HM := Lib.hid (word_masks h0 h1)
  have HL := Lib.hid (show decide (W / 65536 % 65536 < W % 65536) = true from decide_eq_true (by
    rw [← hx, phOf_ok] at hw
    omega))
  clear hx hp hw h0 h1
  have HB1 := Lib.hid ((Below.refl w.heap.size w).alloc (Nat.le_refl _) (.cells #[.bool o, .int .i64 f, .int .i64 p, .int .i64 q] 23))
  have HP2 := Lib.hid (PhAt.new w o f p q)
  go_enter Try.func3, Try.ntmps3
  go_wp2_with fail
  refine (HK.out _).mono ?_
  rintro e w1 ⟨rfl, hb⟩
  have HB3 := Lib.hid (HB1.out.trans (hb.mono HB1.out.size))
  have HP4 := Lib.hid (HP2.out.below hb HP2.out.lt)
  clear hb HB1 HP2
  obtain ⟨a1c0, a1c1, a1c2, a1c3⟩ := HP4.out.cells
  have a1f := HP4.out.frozen
  have a1l := HP4.out.lt
  go_wp2_with fail
  refine (HR.out _).mono ?_
  rintro e w2 ⟨rfl, hb⟩
  have HB5 := Lib.hid (HB3.out.trans (hb.mono HB3.out.size))
  have HP6 := Lib.hid (HP4.out.below hb HP4.out.lt)
  clear hb HB3 HP4 a1c0 a1c1 a1c2 a1c3 a1f a1l
  obtain ⟨a2c0, a2c1, a2c2, a2c3⟩ := HP6.out.cells
  have a2f := HP6.out.frozen
  have a2l := HP6.out.lt
  go_wp2_with fail
  refine (HW.out _).mono ?_
  rintro e w3 ⟨rfl, hb⟩
  have HB7 := Lib.hid (HB5.out.trans (hb.mono HB5.out.size))
  have HP8 := Lib.hid (HP6.out.below hb HP6.out.lt)
  clear hb HB5 HP6 a2c0 a2c1 a2c2 a2c3 a2f a2l
  obtain ⟨a3c0, a3c1, a3c2, a3c3⟩ := HP8.out.cells
  have a3f := HP8.out.frozen
  have a3l := HP8.out.lt
  go_wp2_with fail
  refine (HO.out _).mono ?_
  rintro e w4 ⟨rfl, hb⟩
  have HB9 := Lib.hid (HB7.out.trans (hb.mono HB7.out.size))
  have HP10 := Lib.hid (HP8.out.below hb HP8.out.lt)
  clear hb HB7 HP8 a3c0 a3c1 a3c2 a3c3 a3f a3l
  obtain ⟨a4c0, a4c1, a4c2, a4c3⟩ := HP10.out.cells
  have a4f := HP10.out.frozen
  have a4l := HP10.out.lt
  have HB11 := Lib.hid (HB9.out.alloc HB9.out.size (.cells #[.bool o, .int .i64 f, .int .i64 p, .int .i64 q] 23))
  have HP12 := Lib.hid (HP10.out.alloc (.cells #[.bool o, .int .i64 f, .int .i64 p, .int .i64 q] 23))
  have HP13 := Lib.hid (PhAt.new w4 o f p q)
  have a4l1 : w.heap.size < w4.heap.size + 1 := by have := HP12.out.lt; omega
  have a4l2 : w.heap.size < w4.heap.size + 1 + 1 := by have := HP12.out.lt; omega
  have b4l1 : w4.heap.size < w4.heap.size + 1 := by have := HP13.out.lt; omega
  have b4l2 : w4.heap.size < w4.heap.size + 1 + 1 := by have := HP13.out.lt; omega
  go_wp2_with fail
  refine (HO2.out _).mono ?_
  rintro e w5 ⟨rfl, hb⟩
  have HB14 := Lib.hid (HB11.out.trans (hb.mono HB11.out.size))
  have HP15 := Lib.hid (HP12.out.below hb HP12.out.lt)
  have HP16 := Lib.hid (HP13.out.below hb HP13.out.lt)
  clear hb HB11 HP12 HP13 a4c0 a4c1 a4c2 a4c3 a4f a4l a4l1 a4l2 b4l1 b4l2
  obtain ⟨a5c0, a5c1, a5c2, a5c3⟩ := HP15.out.cells
  have a5f := HP15.out.frozen
  have a5l := HP15.out.lt
  obtain ⟨b5c0, b5c1, b5c2, b5c3⟩ := HP16.out.cells
  have b5f := HP16.out.frozen
  have b5l := HP16.out.lt
  have HB17 := Lib.hid (HB14.out.alloc HB14.out.size (.cells #[.bool false, .int .i64 0, .int .i64 0, .int .i64 0] 23))
  have HP18 := Lib.hid (HP15.out.alloc (.cells #[.bool false, .int .i64 0, .int .i64 0, .int .i64 0] 23))
  have HP19 := Lib.hid (HP16.out.alloc (.cells #[.bool false, .int .i64 0, .int .i64 0, .int .i64 0] 23))
  have HP20 := Lib.hid (PhAt.new w5 false 0 0 0)
  have a5l1 : w.heap.size < w5.heap.size + 1 := by have := HP18.out.lt; omega
  have a5l2 : w.heap.size < w5.heap.size + 1 + 1 := by have := HP18.out.lt; omega
  have b5l1 : w4.heap.size < w5.heap.size + 1 := by have := HP19.out.lt; omega
  have b5l2 : w4.heap.size < w5.heap.size + 1 + 1 := by have := HP19.out.lt; omega
  have c5l1 : w5.heap.size < w5.heap.size + 1 := by have := HP20.out.lt; omega
  have c5l2 : w5.heap.size < w5.heap.size + 1 + 1 := by have := HP20.out.lt; omega
  have hl := HL.out
  obtain ⟨m1, m2⟩ := HM.out
  go_wp2
  --M1
  go_ret
  exact ⟨rfl, HB17.out⟩
set_option maxHeartbeats 4000000 in
theorem packedBack_01 (o : Bool) (f p q W : Int) (w : World) (h0 : 0 ≤ W) (h1 : W < 18446744073709551616) {o2 : Bool} {f2 p2 q2 : Int} (hx : phOf W = ⟨o2, f2, p2, q2⟩) (hp : ¬ PhS.ok ⟨o, f, p, q⟩) (hw : PhS.ok ⟨o2, f2, p2, q2⟩) : Calls Try.prog 3 #[.agg #[.bool o, .int .i64 f, .int .i64 p, .int .i64 q], .int .u64 W] w fun e w' => e = .returned (.bool true) ∧ Below w.heap.size w w' := by
  have HK := Lib.hid (fun W => packs_any W)
  have HR := Lib.hid (fun V => pkRight_no o f p q V hp)
  have HW := Lib.hid (fun V => pkWord_no o f p q V hp)
  have HO2 := Lib.hid (fun V => pkOf_yes (W := W) V h0 h1 hx hw)
  have HW2 := Lib.hid (fun V => pkWord_yes o2 f2 p2 q2 V hw)
  rw [← hx, word_of h0 h1] at HW2
  clear hx hp hw h0 h1
  have HB1 := Lib.hid ((Below.refl w.heap.size w).alloc (Nat.le_refl _) (.cells #[.bool o, .int .i64 f, .int .i64 p, .int .i64 q] 23))
  have HP2 := Lib.hid (PhAt.new w o f p q)
  go_enter Try.func3, Try.ntmps3
  go_wp2_with fail
  refine (HK.out _).mono ?_
  rintro e w1 ⟨rfl, hb⟩
  have HB3 := Lib.hid (HB1.out.trans (hb.mono HB1.out.size))
  have HP4 := Lib.hid (HP2.out.below hb HP2.out.lt)
  clear hb HB1 HP2
  obtain ⟨a1c0, a1c1, a1c2, a1c3⟩ := HP4.out.cells
  have a1f := HP4.out.frozen
  have a1l := HP4.out.lt
  go_wp2_with fail
  refine (HR.out _).mono ?_
  rintro e w2 ⟨rfl, hb⟩
  have HB5 := Lib.hid (HB3.out.trans (hb.mono HB3.out.size))
  have HP6 := Lib.hid (HP4.out.below hb HP4.out.lt)
  clear hb HB3 HP4 a1c0 a1c1 a1c2 a1c3 a1f a1l
  obtain ⟨a2c0, a2c1, a2c2, a2c3⟩ := HP6.out.cells
  have a2f := HP6.out.frozen
  have a2l := HP6.out.lt
  go_wp2_with fail
  refine (HW.out _).mono ?_
  rintro e w3 ⟨rfl, hb⟩
  have HB7 := Lib.hid (HB5.out.trans (hb.mono HB5.out.size))
  have HP8 := Lib.hid (HP6.out.below hb HP6.out.lt)
  clear hb HB5 HP6 a2c0 a2c1 a2c2 a2c3 a2f a2l
  obtain ⟨a3c0, a3c1, a3c2, a3c3⟩ := HP8.out.cells
  have a3f := HP8.out.frozen
  have a3l := HP8.out.lt
  go_wp2_with fail
  refine (HO2.out _).mono ?_
  rintro e w4 ⟨rfl, hb⟩
  have HB9 := Lib.hid (HB7.out.trans (hb.mono HB7.out.size))
  have HP10 := Lib.hid (HP8.out.below hb HP8.out.lt)
  clear hb HB7 HP8 a3c0 a3c1 a3c2 a3c3 a3f a3l
  obtain ⟨a4c0, a4c1, a4c2, a4c3⟩ := HP10.out.cells
  have a4f := HP10.out.frozen
  have a4l := HP10.out.lt
  have HB11 := Lib.hid (HB9.out.alloc HB9.out.size (.cells #[.bool o2, .int .i64 f2, .int .i64 p2, .int .i64 q2] 23))
  have HP12 := Lib.hid (HP10.out.alloc (.cells #[.bool o2, .int .i64 f2, .int .i64 p2, .int .i64 q2] 23))
  have HP13 := Lib.hid (PhAt.new w4 o2 f2 p2 q2)
  have a4l1 : w.heap.size < w4.heap.size + 1 := by have := HP12.out.lt; omega
  have a4l2 : w.heap.size < w4.heap.size + 1 + 1 := by have := HP12.out.lt; omega
  have c4l1 : w4.heap.size < w4.heap.size + 1 := by have := HP13.out.lt; omega
  have c4l2 : w4.heap.size < w4.heap.size + 1 + 1 := by have := HP13.out.lt; omega
  go_wp2_with fail
  refine (HW2.out _).mono ?_
  rintro e w5 ⟨rfl, hb⟩
  have HB14 := Lib.hid (HB11.out.trans (hb.mono HB11.out.size))
  have HP15 := Lib.hid (HP12.out.below hb HP12.out.lt)
  have HP16 := Lib.hid (HP13.out.below hb HP13.out.lt)
  clear hb HB11 HP12 HP13 a4c0 a4c1 a4c2 a4c3 a4f a4l a4l1 a4l2 c4l1 c4l2
  obtain ⟨a5c0, a5c1, a5c2, a5c3⟩ := HP15.out.cells
  have a5f := HP15.out.frozen
  have a5l := HP15.out.lt
  obtain ⟨c5c0, c5c1, c5c2, c5c3⟩ := HP16.out.cells
  have c5f := HP16.out.frozen
  have c5l := HP16.out.lt
  go_wp2
  go_ret
  exact ⟨rfl, HB14.out⟩
set_option maxHeartbeats 4000000 in
theorem packedBack_00 (o : Bool) (f p q W : Int) (w : World) (h0 : 0 ≤ W) (h1 : W < 18446744073709551616) {o2 : Bool} {f2 p2 q2 : Int} (hx : phOf W = ⟨o2, f2, p2, q2⟩) (hp : ¬ PhS.ok ⟨o, f, p, q⟩) (hw : ¬ PhS.ok ⟨o2, f2, p2, q2⟩) : Calls Try.prog 3 #[.agg #[.bool o, .int .i64 f, .int .i64 p, .int .i64 q], .int .u64 W] w fun e w' => e = .returned (.bool true) ∧ Below w.heap.size w w' := by
  have HK := Lib.hid (fun W => packs_any W)
  have HR := Lib.hid (fun V => pkRight_no o f p q V hp)
  have HW := Lib.hid (fun V => pkWord_no o f p q V hp)
  have HO2 := Lib.hid (fun V => pkOf_no (W := W) V h0 h1 hx hw)
  have HM := Lib.hid (word_masks h0 h1)
  have HL := Lib.hid (show decide (W / 65536 % 65536 < W % 65536) = true from decide_eq_true (by
    rw [← hx, phOf_ok] at hw
    omega))
  clear hx hp hw h0 h1
  have HB1 := Lib.hid ((Below.refl w.heap.size w).alloc (Nat.le_refl _) (.cells #[.bool o, .int .i64 f, .int .i64 p, .int .i64 q] 23))
  have HP2 := Lib.hid (PhAt.new w o f p q)
  go_enter Try.func3, Try.ntmps3
  go_wp2_with fail
  refine (HK.out _).mono ?_
  rintro e w1 ⟨rfl, hb⟩
  have HB3 := Lib.hid (HB1.out.trans (hb.mono HB1.out.size))
  have HP4 := Lib.hid (HP2.out.below hb HP2.out.lt)
  clear hb HB1 HP2
  obtain ⟨a1c0, a1c1, a1c2, a1c3⟩ := HP4.out.cells
  have a1f := HP4.out.frozen
  have a1l := HP4.out.lt
  go_wp2_with fail
  refine (HR.out _).mono ?_
  rintro e w2 ⟨rfl, hb⟩
  have HB5 := Lib.hid (HB3.out.trans (hb.mono HB3.out.size))
  have HP6 := Lib.hid (HP4.out.below hb HP4.out.lt)
  clear hb HB3 HP4 a1c0 a1c1 a1c2 a1c3 a1f a1l
  obtain ⟨a2c0, a2c1, a2c2, a2c3⟩ := HP6.out.cells
  have a2f := HP6.out.frozen
  have a2l := HP6.out.lt
  go_wp2_with fail
  refine (HW.out _).mono ?_
  rintro e w3 ⟨rfl, hb⟩
  have HB7 := Lib.hid (HB5.out.trans (hb.mono HB5.out.size))
  have HP8 := Lib.hid (HP6.out.below hb HP6.out.lt)
  clear hb HB5 HP6 a2c0 a2c1 a2c2 a2c3 a2f a2l
  obtain ⟨a3c0, a3c1, a3c2, a3c3⟩ := HP8.out.cells
  have a3f := HP8.out.frozen
  have a3l := HP8.out.lt
  go_wp2_with fail
  refine (HO2.out _).mono ?_
  rintro e w4 ⟨rfl, hb⟩
  have HB9 := Lib.hid (HB7.out.trans (hb.mono HB7.out.size))
  have HP10 := Lib.hid (HP8.out.below hb HP8.out.lt)
  clear hb HB7 HP8 a3c0 a3c1 a3c2 a3c3 a3f a3l
  obtain ⟨a4c0, a4c1, a4c2, a4c3⟩ := HP10.out.cells
  have a4f := HP10.out.frozen
  have a4l := HP10.out.lt
  have HB11 := Lib.hid (HB9.out.alloc HB9.out.size (.cells #[.bool false, .int .i64 0, .int .i64 0, .int .i64 0] 23))
  have HP12 := Lib.hid (HP10.out.alloc (.cells #[.bool false, .int .i64 0, .int .i64 0, .int .i64 0] 23))
  have HP13 := Lib.hid (PhAt.new w4 false 0 0 0)
  have a4l1 : w.heap.size < w4.heap.size + 1 := by have := HP12.out.lt; omega
  have a4l2 : w.heap.size < w4.heap.size + 1 + 1 := by have := HP12.out.lt; omega
  have c4l1 : w4.heap.size < w4.heap.size + 1 := by have := HP13.out.lt; omega
  have c4l2 : w4.heap.size < w4.heap.size + 1 + 1 := by have := HP13.out.lt; omega
  have hl := HL.out
  obtain ⟨m1, m2⟩ := HM.out
  go_wp2
  --M0
  go_ret
  exact ⟨rfl, HB11.out⟩
theorem packedBack_any (o : Bool) (f p q W : Int) (w : World) (h0 : 0 ≤ W) (h1 : W < 18446744073709551616) : Calls Try.prog 3 #[.agg #[.bool o, .int .i64 f, .int .i64 p, .int .i64 q], .int .u64 W] w fun e w' => e = .returned (.bool true) ∧ Below w.heap.size w w' := by
  obtain ⟨⟨o2, f2, p2, q2⟩, hx⟩ : ∃ x, phOf W = x := ⟨_, rfl⟩
  by_cases hp : PhS.ok ⟨o, f, p, q⟩
  · by_cases hw : PhS.ok ⟨o2, f2, p2, q2⟩
    · exact packedBack_11 o f p q W w h0 h1 hx hp hw
    · exact packedBack_10 o f p q W w h0 h1 hx hp hw
  · by_cases hw : PhS.ok ⟨o2, f2, p2, q2⟩
    · exact packedBack_01 o f p q W w h0 h1 hx hp hw
    · exact packedBack_00 o f p q W w h0 h1 hx hp hw
end Go.Proofs.Ytaklikgdlalhdaa
