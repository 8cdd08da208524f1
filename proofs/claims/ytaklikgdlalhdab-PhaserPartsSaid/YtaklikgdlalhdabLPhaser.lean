/-
  The laws of chapter 19: what a phaser is told first; WHO COMES IS WAITED FOR.
-/
import Derived.Test.YtaklikgdlalhdabLPacked
import Derived.Test.YtaklikgdlalhdabPsDo
import Derived.Test.YtaklikgdlalhdabPickB
namespace Go.Proofs.Ytaklikgdlalhdab
open Go.RowKit
set_option linter.unusedVariables false
set_option linter.unusedSimpArgs false

theorem phased_any (w : World) : Calls Try.prog 7 #[] w fun e w' => e = .returned (.bool true) ∧ Below w.heap.size w w' := by
  have D1 := Lib.hid (fun W => psDo_any false 0 2 2 7 0 W ⟨⟨by decide, by decide⟩, ⟨by decide, by decide⟩, by decide, by decide⟩ (.inr (.inr ⟨.inl rfl, rfl⟩)) (by decide) (o' := false) (f' := 0) (p' := 2) (q' := 1) (k := 0) (by rfl))
  have D2 := Lib.hid (fun W => psDo_any false 0 2 1 7 0 W ⟨⟨by decide, by decide⟩, ⟨by decide, by decide⟩, by decide, by decide⟩ (.inr (.inr ⟨.inl rfl, rfl⟩)) (by decide) (o' := false) (f' := 1) (p' := 2) (q' := 2) (k := 0) (by rfl))
  have D3 := Lib.hid (fun W => psDo_any false 1 2 2 10 1 W ⟨⟨by decide, by decide⟩, ⟨by decide, by decide⟩, by decide, by decide⟩ (.inr (.inl ⟨rfl, by decide, by decide⟩)) (by decide) (o' := false) (f' := 1) (p' := 2) (q' := 2) (k := -4) (by rfl))
  have HB1 := Lib.hid (Below.refl w.heap.size w)
  go_enter Try.func7, Try.ntmps7
  have HB2 := Lib.hid (HB1.out.alloc HB1.out.size (.cells #[.bool false, .int .i64 0, .int .i64 2, .int .i64 2] 23))
  have HP3 := Lib.hid (PhAt.new w false 0 2 2)
  go_wp2_with fail
  refine (D1.out _).mono ?_
  rintro e w1 ⟨rfl, hb⟩
  have HB4 := Lib.hid (HB2.out.trans (hb.mono HB2.out.size))
  have HP5 := Lib.hid (HP3.out.below hb HP3.out.lt)
  clear hb HB2 HP3
  obtain ⟨a1c0, a1c1, a1c2, a1c3⟩ := HP5.out.cells
  have a1f := HP5.out.frozen
  have a1l := HP5.out.lt
  have HB6 := Lib.hid (below4 HB4.out (b := w.heap.size) (by first | omega | simp) false 0 2 1)
  have HP7 := Lib.hid (HP5.out.set4 false 0 2 1)
  go_wp2_with fail
  refine (D2.out _).mono ?_
  rintro e w2 ⟨rfl, hb⟩
  have HB8 := Lib.hid (HB6.out.trans (hb.mono HB6.out.size))
  have HP9 := Lib.hid (HP7.out.below hb HP7.out.lt)
  clear hb HB6 HP7 a1c0 a1c1 a1c2 a1c3 a1f a1l
  obtain ⟨a2c0, a2c1, a2c2, a2c3⟩ := HP9.out.cells
  have a2f := HP9.out.frozen
  have a2l := HP9.out.lt
  have HB10 := Lib.hid (below4 HB8.out (b := w.heap.size) (by first | omega | simp) false 1 2 2)
  have HP11 := Lib.hid (HP9.out.set4 false 1 2 2)
  go_wp2_with fail
  refine (D3.out _).mono ?_
  rintro e w3 ⟨rfl, hb⟩
  have HB12 := Lib.hid (HB10.out.trans (hb.mono HB10.out.size))
  have HP13 := Lib.hid (HP11.out.below hb HP11.out.lt)
  clear hb HB10 HP11 a2c0 a2c1 a2c2 a2c3 a2f a2l
  obtain ⟨a3c0, a3c1, a3c2, a3c3⟩ := HP13.out.cells
  have a3f := HP13.out.frozen
  have a3l := HP13.out.lt
  have HB14 := Lib.hid (below4 HB12.out (b := w.heap.size) (by first | omega | simp) false 1 2 2)
  have HP15 := Lib.hid (HP13.out.set4 false 1 2 2)
  go_wp2
  --MA
  go_ret
  exact ⟨rfl, HB14.out⟩

/-! WHO COMES IS WAITED FOR. -/
set_option maxHeartbeats 4000000 in
theorem phaserComes_any (o : Bool) (f p q n : Int) (w : World) : Calls Try.prog 4 #[.agg #[.bool o, .int .i64 f, .int .i64 p, .int .i64 q], .int .i64 n] w fun e w' => e = .returned (.bool true) ∧ Below w.heap.size w w' := by
  have HH := Lib.hid (fun W => phased_any W)
  have HK := Lib.hid (fun W => packs_any W)
  by_cases h : PhS.ok ⟨o, f, p, q⟩
  · have HR := Lib.hid (fun V => pkRight_yes o f p q V h)
    cases o with
    | true =>
      clear h
      have HB1 := Lib.hid ((Below.refl w.heap.size w).alloc (Nat.le_refl _) (.cells #[.bool true, .int .i64 f, .int .i64 p, .int .i64 q] 23))
      have HP2 := Lib.hid (PhAt.new w true f p q)
      go_enter Try.func4, Try.ntmps4
      go_wp2_with fail
      refine (HH.out _).mono ?_
      rintro e w1 ⟨rfl, hb⟩
      have HB3 := Lib.hid (HB1.out.trans (hb.mono HB1.out.size))
      have HP4 := Lib.hid (HP2.out.below hb HP2.out.lt)
      clear hb HB1 HP2
      obtain ⟨a1c0, a1c1, a1c2, a1c3⟩ := HP4.out.cells
      have a1f := HP4.out.frozen
      have a1l := HP4.out.lt
      go_wp2_with fail
      refine (HK.out _).mono ?_
      rintro e w2 ⟨rfl, hb⟩
      have HB5 := Lib.hid (HB3.out.trans (hb.mono HB3.out.size))
      have HP6 := Lib.hid (HP4.out.below hb HP4.out.lt)
      clear hb HB3 HP4 a1c0 a1c1 a1c2 a1c3 a1f a1l
      obtain ⟨a2c0, a2c1, a2c2, a2c3⟩ := HP6.out.cells
      have a2f := HP6.out.frozen
      have a2l := HP6.out.lt
      go_wp2_with fail
      refine (HR.out _).mono ?_
      rintro e w3 ⟨rfl, hb⟩
      have HB7 := Lib.hid (HB5.out.trans (hb.mono HB5.out.size))
      have HP8 := Lib.hid (HP6.out.below hb HP6.out.lt)
      clear hb HB5 HP6 a2c0 a2c1 a2c2 a2c3 a2f a2l
      obtain ⟨a3c0, a3c1, a3c2, a3c3⟩ := HP8.out.cells
      have a3f := HP8.out.frozen
      have a3l := HP8.out.lt
      go_wp2
      go_ret
      exact ⟨rfl, HB7.out⟩
    | false =>
      obtain ⟨K, hK0, hK1, hP⟩ := pick_at n 65535 (by decide) (by decide)
      have HP := Lib.hid hP
      clear hP
      obtain ⟨⟨f0, f1⟩, ⟨p0, p1⟩, q0, q1⟩ := id h
      have f0 : 0 ≤ f := f0
      have f1 : f ≤ 2147483647 := f1
      have p0 : 0 ≤ p := p0
      have p1 : p ≤ 65535 := p1
      have q0 : 0 ≤ q := q0
      have q1 : q ≤ p := q1
      have q2 : q ≤ 65535 := by omega
      have hK1 : K < 65535 := hK1
      by_cases hn : 65535 < p + (1 + K)
      · have HD := Lib.hid (fun V => psDo_any false f p q 6 (1 + K) V h (.inl ⟨rfl, by omega, by omega⟩) (by decide) (phNext_full (x := ⟨false, f, p, q⟩) rfl hn))
        have HN := Lib.hid hn
        clear h hn f0 f1 q0 q1 q2
        have HB1 := Lib.hid ((Below.refl w.heap.size w).alloc (Nat.le_refl _) (.cells #[.bool false, .int .i64 f, .int .i64 p, .int .i64 q] 23))
        have HP2 := Lib.hid (PhAt.new w false f p q)
        go_enter Try.func4, Try.ntmps4
        go_wp2_with fail
        refine (HH.out _).mono ?_
        rintro e w1 ⟨rfl, hb⟩
        have HB3 := Lib.hid (HB1.out.trans (hb.mono HB1.out.size))
        have HP4 := Lib.hid (HP2.out.below hb HP2.out.lt)
        clear hb HB1 HP2
        obtain ⟨a1c0, a1c1, a1c2, a1c3⟩ := HP4.out.cells
        have a1f := HP4.out.frozen
        have a1l := HP4.out.lt
        go_wp2_with fail
        refine (HK.out _).mono ?_
        rintro e w2 ⟨rfl, hb⟩
        have HB5 := Lib.hid (HB3.out.trans (hb.mono HB3.out.size))
        have HP6 := Lib.hid (HP4.out.below hb HP4.out.lt)
        clear hb HB3 HP4 a1c0 a1c1 a1c2 a1c3 a1f a1l
        obtain ⟨a2c0, a2c1, a2c2, a2c3⟩ := HP6.out.cells
        have a2f := HP6.out.frozen
        have a2l := HP6.out.lt
        go_wp2_with fail
        refine (HR.out _).mono ?_
        rintro e w3 ⟨rfl, hb⟩
        have HB7 := Lib.hid (HB5.out.trans (hb.mono HB5.out.size))
        have HP8 := Lib.hid (HP6.out.below hb HP6.out.lt)
        clear hb HB5 HP6 a2c0 a2c1 a2c2 a2c3 a2f a2l
        obtain ⟨a3c0, a3c1, a3c2, a3c3⟩ := HP8.out.cells
        have a3f := HP8.out.frozen
        have a3l := HP8.out.lt
        go_wp2_with fail
        refine (HP.out _).mono ?_
        rintro e w4 ⟨rfl, rfl⟩
        go_wp2_with fail
        refine (HD.out _).mono ?_
        rintro e w4 ⟨rfl, hb⟩
        have HB9 := Lib.hid (HB7.out.trans (hb.mono HB7.out.size))
        have HP10 := Lib.hid (HP8.out.below hb HP8.out.lt)
        clear hb HB7 HP8 a3c0 a3c1 a3c2 a3c3 a3f a3l
        obtain ⟨a4c0, a4c1, a4c2, a4c3⟩ := HP10.out.cells
        have a4f := HP10.out.frozen
        have a4l := HP10.out.lt
        have HB11 := Lib.hid (HB9.out.alloc HB9.out.size (.cells #[.bool false, .int .i64 f, .int .i64 p, .int .i64 q] 23))
        have HP12 := Lib.hid (HP10.out.alloc (.cells #[.bool false, .int .i64 f, .int .i64 p, .int .i64 q] 23))
        have HP13 := Lib.hid (PhAt.new w4 false f p q)
        have a4l1 : w.heap.size < w4.heap.size + 1 := by have := HP12.out.lt; omega
        have b4l1 : w4.heap.size < w4.heap.size + 1 := by have := HP13.out.lt; omega
        have hn := HN.out
        go_wp2
        --MB
        go_ret
        exact ⟨rfl, HB11.out⟩
      · have HD := Lib.hid (fun V => psDo_any false f p q 6 (1 + K) V h (.inl ⟨rfl, by omega, by omega⟩) (by decide) (phNext_reg (x := ⟨false, f, p, q⟩) rfl hn))
        have HN := Lib.hid hn
        clear h hn f0 f1 q1
        have HB1 := Lib.hid ((Below.refl w.heap.size w).alloc (Nat.le_refl _) (.cells #[.bool false, .int .i64 f, .int .i64 p, .int .i64 q] 23))
        have HP2 := Lib.hid (PhAt.new w false f p q)
        go_enter Try.func4, Try.ntmps4
        go_wp2_with fail
        refine (HH.out _).mono ?_
        rintro e w1 ⟨rfl, hb⟩
        have HB3 := Lib.hid (HB1.out.trans (hb.mono HB1.out.size))
        have HP4 := Lib.hid (HP2.out.below hb HP2.out.lt)
        clear hb HB1 HP2
        obtain ⟨a1c0, a1c1, a1c2, a1c3⟩ := HP4.out.cells
        have a1f := HP4.out.frozen
        have a1l := HP4.out.lt
        go_wp2_with fail
        refine (HK.out _).mono ?_
        rintro e w2 ⟨rfl, hb⟩
        have HB5 := Lib.hid (HB3.out.trans (hb.mono HB3.out.size))
        have HP6 := Lib.hid (HP4.out.below hb HP4.out.lt)
        clear hb HB3 HP4 a1c0 a1c1 a1c2 a1c3 a1f a1l
        obtain ⟨a2c0, a2c1, a2c2, a2c3⟩ := HP6.out.cells
        have a2f := HP6.out.frozen
        have a2l := HP6.out.lt
        go_wp2_with fail
        refine (HR.out _).mono ?_
        rintro e w3 ⟨rfl, hb⟩
        have HB7 := Lib.hid (HB5.out.trans (hb.mono HB5.out.size))
        have HP8 := Lib.hid (HP6.out.below hb HP6.out.lt)
        clear hb HB5 HP6 a2c0 a2c1 a2c2 a2c3 a2f a2l
        obtain ⟨a3c0, a3c1, a3c2, a3c3⟩ := HP8.out.cells
        have a3f := HP8.out.frozen
        have a3l := HP8.out.lt
        go_wp2_with fail
        refine (HP.out _).mono ?_
        rintro e w4 ⟨rfl, rfl⟩
        go_wp2_with fail
        refine (HD.out _).mono ?_
        rintro e w4 ⟨rfl, hb⟩
        have HB9 := Lib.hid (HB7.out.trans (hb.mono HB7.out.size))
        have HP10 := Lib.hid (HP8.out.below hb HP8.out.lt)
        clear hb HB7 HP8 a3c0 a3c1 a3c2 a3c3 a3f a3l
        obtain ⟨a4c0, a4c1, a4c2, a4c3⟩ := HP10.out.cells
        have a4f := HP10.out.frozen
        have a4l := HP10.out.lt
        have HB11 := Lib.hid (HB9.out.alloc HB9.out.size (.cells #[.bool false, .int .i64 f, .int .i64 (p + (1 + K)), .int .i64 (q + (1 + K))] 23))
        have HP12 := Lib.hid (HP10.out.alloc (.cells #[.bool false, .int .i64 f, .int .i64 (p + (1 + K)), .int .i64 (q + (1 + K))] 23))
        have HP13 := Lib.hid (PhAt.new w4 false f (p + (1 + K)) (q + (1 + K)))
        have a4l1 : w.heap.size < w4.heap.size + 1 := by have := HP12.out.lt; omega
        have b4l1 : w4.heap.size < w4.heap.size + 1 := by have := HP13.out.lt; omega
        have hn := HN.out
        go_wp2
        --MC
        go_ret
        exact ⟨rfl, HB11.out⟩
  · have HR := Lib.hid (fun V => pkRight_no o f p q V h)
    clear h
    have HB1 := Lib.hid ((Below.refl w.heap.size w).alloc (Nat.le_refl _) (.cells #[.bool o, .int .i64 f, .int .i64 p, .int .i64 q] 23))
    have HP2 := Lib.hid (PhAt.new w o f p q)
    go_enter Try.func4, Try.ntmps4
    go_wp2_with fail
    refine (HH.out _).mono ?_
    rintro e w1 ⟨rfl, hb⟩
    have HB3 := Lib.hid (HB1.out.trans (hb.mono HB1.out.size))
    have HP4 := Lib.hid (HP2.out.below hb HP2.out.lt)
    clear hb HB1 HP2
    obtain ⟨a1c0, a1c1, a1c2, a1c3⟩ := HP4.out.cells
    have a1f := HP4.out.frozen
    have a1l := HP4.out.lt
    go_wp2_with fail
    refine (HK.out _).mono ?_
    rintro e w2 ⟨rfl, hb⟩
    have HB5 := Lib.hid (HB3.out.trans (hb.mono HB3.out.size))
    have HP6 := Lib.hid (HP4.out.below hb HP4.out.lt)
    clear hb HB3 HP4 a1c0 a1c1 a1c2 a1c3 a1f a1l
    obtain ⟨a2c0, a2c1, a2c2, a2c3⟩ := HP6.out.cells
    have a2f := HP6.out.frozen
    have a2l := HP6.out.lt
    go_wp2_with fail
    refine (HR.out _).mono ?_
    rintro e w3 ⟨rfl, hb⟩
    have HB7 := Lib.hid (HB5.out.trans (hb.mono HB5.out.size))
    have HP8 := Lib.hid (HP6.out.below hb HP6.out.lt)
    clear hb HB5 HP6 a2c0 a2c1 a2c2 a2c3 a2f a2l
    obtain ⟨a3c0, a3c1, a3c2, a3c3⟩ := HP8.out.cells
    have a3f := HP8.out.frozen
    have a3l := HP8.out.lt
    go_wp2
    go_ret
    exact ⟨rfl, HB7.out⟩
end Go.Proofs.Ytaklikgdlalhdab
