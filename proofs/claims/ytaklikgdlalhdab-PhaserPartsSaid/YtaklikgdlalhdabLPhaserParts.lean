/-
  SOME, AND SOME MORE: who come in two lots are those who come in one; who watches changes nothing; what is closed twice is closed.
-/
import Derived.Test.YtaklikgdlalhdabLPhaser
import Derived.Deep.RegionWith
import Derived.Deep.DeepCutAuto
import Derived.Deep.CutRange
namespace Go.Proofs.Ytaklikgdlalhdab
open Go.RowKit
set_option linter.unusedVariables false
set_option linter.unusedSimpArgs false

/-- What stands behind the watch. -/
def PartsAt (w W : World) (bb bc bs : Nat) (f p q x y : Int) : Prop := Below w.heap.size w W ∧ PhAt W w.heap.size false f p q ∧ PhAt W bb false f x y ∧ PhAt W bc false f x y ∧ PhAt W bs false f p q
set_option maxRecDepth 100000 in
set_option maxHeartbeats 16000000 in
theorem phaserParts_any (o : Bool) (f p q n m z : Int) (w : World) : Calls Try.prog 6 #[.agg #[.bool o, .int .i64 f, .int .i64 p, .int .i64 q], .int .i64 n, .int .i64 m, .int .i64 z] w fun e w' => e = .returned (.bool true) ∧ Below w.heap.size w w' := by
  have HH := Lib.hid (fun W => phased_any W)
  have HK := Lib.hid (fun W => packs_any W)
  obtain ⟨K, hK0, hK1, hPn⟩ := pick_at n 1000 (by decide) (by decide)
  obtain ⟨L, hL0, hL1, hPm⟩ := pick_at m 1000 (by decide) (by decide)
  obtain ⟨Z, hZ0, hZ1, hPz⟩ := pick_at z 2147483648 (by decide) (by decide)
  have hK1 : K < 1000 := hK1
  have hL1 : L < 1000 := hL1
  have hZ1 : Z < 2147483648 := hZ1
  have HPn := Lib.hid hPn
  have HPm := Lib.hid hPm
  have HPz := Lib.hid hPz
  clear hPn hPm hPz
  by_cases h : PhS.ok ⟨o, f, p, q⟩
  · have HR := Lib.hid (fun V => pkRight_yes o f p q V h)
    cases o with
    | true =>
      clear h
      have HB1 := Lib.hid ((Below.refl w.heap.size w).alloc (Nat.le_refl _) (.cells #[.bool true, .int .i64 f, .int .i64 p, .int .i64 q] 23))
      have HP2 := Lib.hid (PhAt.new w true f p q)
      go_enter Try.func6, Try.ntmps6
      go_wp2_with fail
      refine (HH.out _).mono ?_
      rintro e w1 ⟨rfl, hb⟩
      have HB3 := Lib.hid (HB1.out.trans (hb.mono HB1.out.size))
      have HP4 := Lib.hid (HP2.out.below hb HP2.out.lt)
      clear hb HB1 HP2
      obtain ⟨a1c0, a1c1, a1c2, a1c3⟩ := HP4.out.cells
      have a1f := HP4.out.frozen
      have a1l := HP4.out.lt
      go_wp2_with fail
      refine (HK.out _).mono ?_
      rintro e w2 ⟨rfl, hb⟩
      have HB5 := Lib.hid (HB3.out.trans (hb.mono HB3.out.size))
      have HP6 := Lib.hid (HP4.out.below hb HP4.out.lt)
      clear hb HB3 HP4 a1c0 a1c1 a1c2 a1c3 a1f a1l
      obtain ⟨a2c0, a2c1, a2c2, a2c3⟩ := HP6.out.cells
      have a2f := HP6.out.frozen
      have a2l := HP6.out.lt
      go_wp2_with fail
      refine (HPn.out _).mono ?_
      rintro e w9 ⟨rfl, rfl⟩
      go_wp2_with fail
      refine (HPm.out _).mono ?_
      rintro e w9 ⟨rfl, rfl⟩
      go_wp2_with fail
      refine (HR.out _).mono ?_
      rintro e w3 ⟨rfl, hb⟩
      have HB7 := Lib.hid (HB5.out.trans (hb.mono HB5.out.size))
      have HP8 := Lib.hid (HP6.out.below hb HP6.out.lt)
      clear hb HB5 HP6 a2c0 a2c1 a2c2 a2c3 a2f a2l
      obtain ⟨a3c0, a3c1, a3c2, a3c3⟩ := HP8.out.cells
      have a3f := HP8.out.frozen
      have a3l := HP8.out.lt
      go_wp2
      go_ret
      exact ⟨rfl, HB7.out⟩
    | false =>
      obtain ⟨⟨f0, f1⟩, ⟨p0, p1⟩, q0, q1⟩ := id h
      have f0 : 0 ≤ f := f0
      have f1 : f ≤ 2147483647 := f1
      have p0 : 0 ≤ p := p0
      have p1 : p ≤ 65535 := p1
      have q0 : 0 ≤ q := q0
      have q1 : q ≤ p := q1
      have q2 : q ≤ 65535 := by omega
      by_cases hn : 65535 < p + (1 + K) + (1 + L)
      · have HN := Lib.hid hn
        clear h hn f0 f1 q0 q1 q2
        have HB1 := Lib.hid ((Below.refl w.heap.size w).alloc (Nat.le_refl _) (.cells #[.bool false, .int .i64 f, .int .i64 p, .int .i64 q] 23))
        have HP2 := Lib.hid (PhAt.new w false f p q)
        go_enter Try.func6, Try.ntmps6
        go_wp2_with fail
        refine (HH.out _).mono ?_
        rintro e w1 ⟨rfl, hb⟩
        have HB3 := Lib.hid (HB1.out.trans (hb.mono HB1.out.size))
        have HP4 := Lib.hid (HP2.out.below hb HP2.out.lt)
        clear hb HB1 HP2
        obtain ⟨a1c0, a1c1, a1c2, a1c3⟩ := HP4.out.cells
        have a1f := HP4.out.frozen
        have a1l := HP4.out.lt
        go_wp2_with fail
        refine (HK.out _).mono ?_
        rintro e w2 ⟨rfl, hb⟩
        have HB5 := Lib.hid (HB3.out.trans (hb.mono HB3.out.size))
        have HP6 := Lib.hid (HP4.out.below hb HP4.out.lt)
        clear hb HB3 HP4 a1c0 a1c1 a1c2 a1c3 a1f a1l
        obtain ⟨a2c0, a2c1, a2c2, a2c3⟩ := HP6.out.cells
        have a2f := HP6.out.frozen
        have a2l := HP6.out.lt
        go_wp2_with fail
        refine (HPn.out _).mono ?_
        rintro e w9 ⟨rfl, rfl⟩
        go_wp2_with fail
        refine (HPm.out _).mono ?_
        rintro e w9 ⟨rfl, rfl⟩
        go_wp2_with fail
        refine (HR.out _).mono ?_
        rintro e w3 ⟨rfl, hb⟩
        have HB7 := Lib.hid (HB5.out.trans (hb.mono HB5.out.size))
        have HP8 := Lib.hid (HP6.out.below hb HP6.out.lt)
        clear hb HB5 HP6 a2c0 a2c1 a2c2 a2c3 a2f a2l
        obtain ⟨a3c0, a3c1, a3c2, a3c3⟩ := HP8.out.cells
        have a3f := HP8.out.frozen
        have a3l := HP8.out.lt
        have hn := HN.out
        go_wp2
        go_ret
        exact ⟨rfl, HB7.out⟩
      · have HN := Lib.hid hn
        have D1 := Lib.hid (fun V => psDo_any false f p q 6 (1 + K) V h (.inl ⟨rfl, by omega, by omega⟩) (by decide) (phNext_reg (x := ⟨false, f, p, q⟩) rfl (by show ¬ 65535 < p + (1 + K); omega)))
        have D2 := Lib.hid (fun V => psDo_any false f (p + (1 + K)) (q + (1 + K)) 6 (1 + L) V ⟨⟨f0, f1⟩, ⟨by show 0 ≤ p + (1 + K); omega, by show p + (1 + K) ≤ 65535; omega⟩, by show 0 ≤ q + (1 + K); omega, by show q + (1 + K) ≤ p + (1 + K); omega⟩ (.inl ⟨rfl, by omega, by omega⟩) (by decide) (phNext_reg (x := ⟨false, f, p + (1 + K), q + (1 + K)⟩) rfl hn))
        have D3 := Lib.hid (fun V => psDo_any false f p q 6 (1 + K + (1 + L)) V h (.inl ⟨rfl, by omega, by omega⟩) (by decide) (o' := false) (f' := f) (p' := p + (1 + K) + (1 + L)) (q' := q + (1 + K) + (1 + L)) (k := f) (by
          rw [phNext_reg (x := ⟨false, f, p, q⟩) rfl (by show ¬ 65535 < p + (1 + K + (1 + L)); omega)]
          show (PhS.mk false f (p + (1 + K + (1 + L))) (q + (1 + K + (1 + L))), f) = _
          rw [← Int.add_assoc p, ← Int.add_assoc q]))
        obtain ⟨A, hA⟩ : ∃ A, (if f = Z then -4 else f) = A := ⟨_, rfl⟩
        have D4 := Lib.hid (fun V => psDo_any false f p q 10 Z V h (.inr (.inl ⟨rfl, by omega, by omega⟩)) (by decide) (phNext_watch (x := ⟨false, f, p, q⟩) rfl Z))
        have hA2 : (A = f ∧ True) ∨ (A = -4 ∧ f ≠ -4) := by
          by_cases e : f = Z
          · rw [if_pos e] at hA
            exact .inr ⟨hA.symm, by omega⟩
          · rw [if_neg e] at hA
            exact .inl ⟨hA.symm, trivial⟩
        have hA3 : ((A == f) = true) ∨ ((A == f) = false ∧ (A == -4) = true) := by
          rcases hA2 with ⟨e, _⟩ | ⟨e, e2⟩
          · exact .inl (by rw [e]; simp)
          · exact .inr ⟨by rw [e]; simp; omega, by rw [e]; simp⟩
        rw [show (⟨false, f, p, q⟩ : PhS).f = f from rfl, hA] at D4
        have HA := Lib.hid hA3
        have D5 := Lib.hid (fun V => psDo_any false f p q 11 0 V h (.inr (.inr ⟨.inr (.inr (.inr rfl)), rfl⟩)) (by decide) (phNext_close (x := ⟨false, f, p, q⟩) rfl))
        have D6 := Lib.hid (fun V => psDo_any true f p q 11 0 V h (.inr (.inr ⟨.inr (.inr (.inr rfl)), rfl⟩)) (by decide) (phNext_over (x := ⟨true, f, p, q⟩) rfl 11 0))
        clear h hn f0 f1 q1 hA hA2 hA3
        have HB1 := Lib.hid ((Below.refl w.heap.size w).alloc (Nat.le_refl _) (.cells #[.bool false, .int .i64 f, .int .i64 p, .int .i64 q] 23))
        have HP2 := Lib.hid (PhAt.new w false f p q)
        go_enter Try.func6, Try.ntmps6
        go_wp2_with fail
        refine (HH.out _).mono ?_
        rintro e w1 ⟨rfl, hb⟩
        have HB3 := Lib.hid (HB1.out.trans (hb.mono HB1.out.size))
        have HP4 := Lib.hid (HP2.out.below hb HP2.out.lt)
        clear hb HB1 HP2
        obtain ⟨a1c0, a1c1, a1c2, a1c3⟩ := HP4.out.cells
        have a1f := HP4.out.frozen
        have a1l := HP4.out.lt
        go_wp2_with fail
        refine (HK.out _).mono ?_
        rintro e w2 ⟨rfl, hb⟩
        have HB5 := Lib.hid (HB3.out.trans (hb.mono HB3.out.size))
        have HP6 := Lib.hid (HP4.out.below hb HP4.out.lt)
        clear hb HB3 HP4 a1c0 a1c1 a1c2 a1c3 a1f a1l
        obtain ⟨a2c0, a2c1, a2c2, a2c3⟩ := HP6.out.cells
        have a2f := HP6.out.frozen
        have a2l := HP6.out.lt
        go_wp2_with fail
        refine (HPn.out _).mono ?_
        rintro e w9 ⟨rfl, rfl⟩
        go_wp2_with fail
        refine (HPm.out _).mono ?_
        rintro e w9 ⟨rfl, rfl⟩
        go_wp2_with fail
        refine (HR.out _).mono ?_
        rintro e w3 ⟨rfl, hb⟩
        have HB7 := Lib.hid (HB5.out.trans (hb.mono HB5.out.size))
        have HP8 := Lib.hid (HP6.out.below hb HP6.out.lt)
        clear hb HB5 HP6 a2c0 a2c1 a2c2 a2c3 a2f a2l
        obtain ⟨a3c0, a3c1, a3c2, a3c3⟩ := HP8.out.cells
        have a3f := HP8.out.frozen
        have a3l := HP8.out.lt
        have hn := HN.out
        go_wp2_with fail
        refine (D1.out _).mono ?_
        rintro e w4 ⟨rfl, hb⟩
        have HB9 := Lib.hid (HB7.out.trans (hb.mono HB7.out.size))
        have HP10 := Lib.hid (HP8.out.below hb HP8.out.lt)
        clear hb HB7 HP8 a3c0 a3c1 a3c2 a3c3 a3f a3l hn
        obtain ⟨a4c0, a4c1, a4c2, a4c3⟩ := HP10.out.cells
        have a4f := HP10.out.frozen
        have a4l := HP10.out.lt
        have ge10 : w.heap.size ≤ w4.heap.size := HB9.out.size
        have neab10 : ¬ w.heap.size = w4.heap.size := by have := HP10.out.lt; omega
        have neba10 : ¬ w4.heap.size = w.heap.size := by have := HP10.out.lt; omega
        have HB11 := Lib.hid (HB9.out.alloc HB9.out.size (.cells #[.bool false, .int .i64 f, .int .i64 (p + (1 + K)), .int .i64 (q + (1 + K))] 23))
        have HP12 := Lib.hid (HP10.out.alloc (.cells #[.bool false, .int .i64 f, .int .i64 (p + (1 + K)), .int .i64 (q + (1 + K))] 23))
        have HP13 := Lib.hid (PhAt.new w4 false f (p + (1 + K)) (q + (1 + K)))
        have a4l1 : w.heap.size < w4.heap.size + 1 := by have := HP12.out.lt; omega
        have b4l1 : w4.heap.size < w4.heap.size + 1 := by have := HP13.out.lt; omega
        go_wp2_with fail
        refine (D2.out _).mono ?_
        rintro e w5 ⟨rfl, hb⟩
        have HB14 := Lib.hid (HB11.out.trans (hb.mono HB11.out.size))
        have HP15 := Lib.hid (HP12.out.below hb HP12.out.lt)
        have HP16 := Lib.hid (HP13.out.below hb HP13.out.lt)
        clear hb HB11 HP12 HP13 a4c0 a4c1 a4c2 a4c3 a4f a4l a4l1 b4l1
        obtain ⟨a5c0, a5c1, a5c2, a5c3⟩ := HP15.out.cells
        have a5f := HP15.out.frozen
        have a5l := HP15.out.lt
        obtain ⟨b5c0, b5c1, b5c2, b5c3⟩ := HP16.out.cells
        have b5f := HP16.out.frozen
        have b5l := HP16.out.lt
        have HB17 := Lib.hid (below4 HB14.out (b := w4.heap.size) (by first | omega | simp) false f (p + (1 + K) + (1 + L)) (q + (1 + K) + (1 + L)))
        have HP18 := Lib.hid (HP15.out.far4 (c := w4.heap.size) (by first | omega | simp) false f (p + (1 + K) + (1 + L)) (q + (1 + K) + (1 + L)))
        have HP19 := Lib.hid (HP16.out.set4 false f (p + (1 + K) + (1 + L)) (q + (1 + K) + (1 + L)))
        go_wp2_with fail
        refine (D3.out _).mono ?_
        rintro e w6 ⟨rfl, hb⟩
        have HB20 := Lib.hid (HB17.out.trans (hb.mono HB17.out.size))
        have HP21 := Lib.hid (HP18.out.below hb HP18.out.lt)
        have HP22 := Lib.hid (HP19.out.below hb HP19.out.lt)
        clear hb HB17 HP18 HP19 a5c0 a5c1 a5c2 a5c3 a5f a5l b5c0 b5c1 b5c2 b5c3 b5f b5l
        obtain ⟨a6c0, a6c1, a6c2, a6c3⟩ := HP21.out.cells
        have a6f := HP21.out.frozen
        have a6l := HP21.out.lt
        obtain ⟨b6c0, b6c1, b6c2, b6c3⟩ := HP22.out.cells
        have b6f := HP22.out.frozen
        have b6l := HP22.out.lt
        have ge22 : w.heap.size ≤ w6.heap.size := HB20.out.size
        have neac22 : ¬ w.heap.size = w6.heap.size := by have := HP21.out.lt; omega
        have neca22 : ¬ w6.heap.size = w.heap.size := by have := HP21.out.lt; omega
        have nebc22 : ¬ w4.heap.size = w6.heap.size := by have := HP22.out.lt; omega
        have necb22 : ¬ w6.heap.size = w4.heap.size := by have := HP22.out.lt; omega
        have HB23 := Lib.hid (HB20.out.alloc HB20.out.size (.cells #[.bool false, .int .i64 f, .int .i64 (p + (1 + K) + (1 + L)), .int .i64 (q + (1 + K) + (1 + L))] 23))
        have HP24 := Lib.hid (HP21.out.alloc (.cells #[.bool false, .int .i64 f, .int .i64 (p + (1 + K) + (1 + L)), .int .i64 (q + (1 + K) + (1 + L))] 23))
        have HP25 := Lib.hid (HP22.out.alloc (.cells #[.bool false, .int .i64 f, .int .i64 (p + (1 + K) + (1 + L)), .int .i64 (q + (1 + K) + (1 + L))] 23))
        have HP26 := Lib.hid (PhAt.new w6 false f (p + (1 + K) + (1 + L)) (q + (1 + K) + (1 + L)))
        have a6l1 : w.heap.size < w6.heap.size + 1 := by have := HP24.out.lt; omega
        have b6l1 : w4.heap.size < w6.heap.size + 1 := by have := HP25.out.lt; omega
        have c6l1 : w6.heap.size < w6.heap.size + 1 := by have := HP26.out.lt; omega
        go_upto_region 9 with (fail)
        obtain ⟨X, hX⟩ : ∃ X, w6.alloc (.cells #[.bool false, .int .i64 f, .int .i64 (p + (1 + K) + (1 + L)), .int .i64 (q + (1 + K) + (1 + L))] 23) = X := ⟨_, rfl⟩
        rw [hX]
        rw [hX] at HB23 HP24 HP25 HP26
        clear a6c0 a6c1 a6c2 a6c3 a6f a6l b6c0 b6c1 b6c2 b6c3 b6f b6l a6l1 b6l1 c6l1
        obtain ⟨ax0, ax1, ax2, ax3⟩ := HP24.out.cells
        have axl := HP24.out.lt
        have axl2 : w.heap.size < X.heap.size + 1 := by have := HP24.out.lt; omega
        obtain ⟨bx0, bx1, bx2, bx3⟩ := HP25.out.cells
        have bxl := HP25.out.lt
        have bxl2 : w4.heap.size < X.heap.size + 1 := by have := HP25.out.lt; omega
        obtain ⟨cx0, cx1, cx2, cx3⟩ := HP26.out.cells
        have cxl := HP26.out.lt
        have cxl2 : w6.heap.size < X.heap.size + 1 := by have := HP26.out.lt; omega
        have XL := HB23.out.size
        clear hX
        go_cut [17, 18, 19] from 80 to 88 (fun v17 v18 v19 wx => ∃ bs : Nat, v17 = .pointer (some ⟨bs, 0, none⟩) ∧ v18 = .int .i64 A ∧ v19 = .nilIface ∧ Hid (PartsAt w wx w4.heap.size w6.heap.size bs f p q (p + (1 + K) + (1 + L)) (q + (1 + K) + (1 + L))))
        case first =>
          go_region_with (first | (go_at_call 9; refine (HPz.out _).mono ?_; rintro e w9 ⟨rfl, rfl⟩) | (go_at_call 11; refine (D4.out _).mono ?_; rintro e w7 ⟨rfl, hb⟩; first | (have hb2 : Below (X.alloc (.cells #[.bool false, .int .i64 0, .int .i64 0, .int .i64 0] 23)).heap.size (X.alloc (.cells #[.bool false, .int .i64 0, .int .i64 0, .int .i64 0] 23)) w7 := ⟨hb.os, hb.tape, hb.output, hb.size, hb.block⟩; have HBx := Lib.hid ((HB23.out.alloc HB23.out.size (.cells #[.bool false, .int .i64 0, .int .i64 0, .int .i64 0] 23)).trans (hb2.mono (HB23.out.alloc HB23.out.size (.cells #[.bool false, .int .i64 0, .int .i64 0, .int .i64 0] 23)).size)); have Hax := Lib.hid ((HP24.out.alloc (.cells #[.bool false, .int .i64 0, .int .i64 0, .int .i64 0] 23)).below hb2 (HP24.out.alloc (.cells #[.bool false, .int .i64 0, .int .i64 0, .int .i64 0] 23)).lt); have Hbx := Lib.hid ((HP25.out.alloc (.cells #[.bool false, .int .i64 0, .int .i64 0, .int .i64 0] 23)).below hb2 (HP25.out.alloc (.cells #[.bool false, .int .i64 0, .int .i64 0, .int .i64 0] 23)).lt); have Hcx := Lib.hid ((HP26.out.alloc (.cells #[.bool false, .int .i64 0, .int .i64 0, .int .i64 0] 23)).below hb2 (HP26.out.alloc (.cells #[.bool false, .int .i64 0, .int .i64 0, .int .i64 0] 23)).lt); have HSx := Lib.hid ((PhAt.new X false 0 0 0).below hb2 (PhAt.new X false 0 0 0).lt); obtain ⟨s0, s1, s2, s3⟩ := HSx.out.cells; have sf := HSx.out.frozen; clear hb hb2) | (have hb2 : Below X.heap.size X w7 := ⟨hb.os, hb.tape, hb.output, hb.size, hb.block⟩; have HBx := Lib.hid (HB23.out.trans (hb2.mono HB23.out.size)); have Hax := Lib.hid (HP24.out.below hb2 HP24.out.lt); have Hbx := Lib.hid (HP25.out.below hb2 HP25.out.lt); have Hcx := Lib.hid (HP26.out.below hb2 HP26.out.lt); clear hb hb2)))
          all_goals
            go_wp2_with fail
            go_meet
            first | exact ⟨X.heap.size, rfl, rfl, rfl, ⟨below4 HBx.out (by omega) false f p q, Hax.out.far4 (by omega) false f p q, Hbx.out.far4 (by omega) false f p q, Hcx.out.far4 (by omega) false f p q, HSx.out.set4 false f p q⟩⟩ | exact ⟨w7.heap.size, rfl, rfl, rfl, ⟨HBx.out.alloc HBx.out.size _, Hax.out.alloc _, Hbx.out.alloc _, Hcx.out.alloc _, PhAt.new w7 false f p q⟩⟩
        case rest =>
          obtain ⟨bs, rfl, rfl, rfl, hq⟩ := hcut
          clear ax0 ax1 ax2 ax3 bx0 bx1 bx2 bx3 cx0 cx1 cx2 cx3
          generalize wc = w7 at *
          have HBx := Lib.hid hq.out.1
          have Hax := Lib.hid hq.out.2.1
          have Hbx := Lib.hid hq.out.2.2.1
          have Hcx := Lib.hid hq.out.2.2.2.1
          have HSx := Lib.hid hq.out.2.2.2.2
          clear hq
          obtain ⟨a7c0, a7c1, a7c2, a7c3⟩ := Hax.out.cells
          have a7f := Hax.out.frozen
          have a7l := Hax.out.lt
          obtain ⟨b7c0, b7c1, b7c2, b7c3⟩ := Hbx.out.cells
          have b7f := Hbx.out.frozen
          have b7l := Hbx.out.lt
          obtain ⟨c7c0, c7c1, c7c2, c7c3⟩ := Hcx.out.cells
          have c7f := Hcx.out.frozen
          have c7l := Hcx.out.lt
          obtain ⟨s7c0, s7c1, s7c2, s7c3⟩ := HSx.out.cells
          have s7f := HSx.out.frozen
          have s7l := HSx.out.lt
          go_wp2_with fail
          refine (D5.out _).mono ?_
          rintro e w8 ⟨rfl, hb⟩
          have HB101 := Lib.hid (HBx.out.trans (hb.mono HBx.out.size))
          have HP102 := Lib.hid (Hax.out.below hb Hax.out.lt)
          have HP103 := Lib.hid (Hbx.out.below hb Hbx.out.lt)
          have HP104 := Lib.hid (Hcx.out.below hb Hcx.out.lt)
          have HP105 := Lib.hid (HSx.out.below hb HSx.out.lt)
          clear hb HBx Hax Hbx Hcx HSx a7c0 a7c1 a7c2 a7c3 a7f a7l b7c0 b7c1 b7c2 b7c3 b7f b7l c7c0 c7c1 c7c2 c7c3 c7f c7l s7c0 s7c1 s7c2 s7c3 s7f s7l
          obtain ⟨a8c0, a8c1, a8c2, a8c3⟩ := HP102.out.cells
          have a8f := HP102.out.frozen
          have a8l := HP102.out.lt
          obtain ⟨b8c0, b8c1, b8c2, b8c3⟩ := HP103.out.cells
          have b8f := HP103.out.frozen
          have b8l := HP103.out.lt
          obtain ⟨c8c0, c8c1, c8c2, c8c3⟩ := HP104.out.cells
          have c8f := HP104.out.frozen
          have c8l := HP104.out.lt
          obtain ⟨s8c0, s8c1, s8c2, s8c3⟩ := HP105.out.cells
          have s8f := HP105.out.frozen
          have s8l := HP105.out.lt
          have ge105 : w.heap.size ≤ w8.heap.size := HB101.out.size
          have neat105 : ¬ w.heap.size = w8.heap.size := by have := HP102.out.lt; omega
          have neta105 : ¬ w8.heap.size = w.heap.size := by have := HP102.out.lt; omega
          have nebt105 : ¬ w4.heap.size = w8.heap.size := by have := HP103.out.lt; omega
          have netb105 : ¬ w8.heap.size = w4.heap.size := by have := HP103.out.lt; omega
          have nect105 : ¬ w6.heap.size = w8.heap.size := by have := HP104.out.lt; omega
          have netc105 : ¬ w8.heap.size = w6.heap.size := by have := HP104.out.lt; omega
          have nest105 : ¬ bs = w8.heap.size := by have := HP105.out.lt; omega
          have nets105 : ¬ w8.heap.size = bs := by have := HP105.out.lt; omega
          have HB106 := Lib.hid (HB101.out.alloc HB101.out.size (.cells #[.bool true, .int .i64 f, .int .i64 p, .int .i64 q] 23))
          have HP107 := Lib.hid (HP102.out.alloc (.cells #[.bool true, .int .i64 f, .int .i64 p, .int .i64 q] 23))
          have HP108 := Lib.hid (HP103.out.alloc (.cells #[.bool true, .int .i64 f, .int .i64 p, .int .i64 q] 23))
          have HP109 := Lib.hid (HP104.out.alloc (.cells #[.bool true, .int .i64 f, .int .i64 p, .int .i64 q] 23))
          have HP110 := Lib.hid (HP105.out.alloc (.cells #[.bool true, .int .i64 f, .int .i64 p, .int .i64 q] 23))
          have HP111 := Lib.hid (PhAt.new w8 true f p q)
          have a8l1 : w.heap.size < w8.heap.size + 1 := by have := HP107.out.lt; omega
          have b8l1 : w4.heap.size < w8.heap.size + 1 := by have := HP108.out.lt; omega
          have c8l1 : w6.heap.size < w8.heap.size + 1 := by have := HP109.out.lt; omega
          have s8l1 : bs < w8.heap.size + 1 := by have := HP110.out.lt; omega
          have t8l1 : w8.heap.size < w8.heap.size + 1 := by have := HP111.out.lt; omega
          go_wp2_with fail
          refine (D6.out _).mono ?_
          rintro e w9 ⟨rfl, hb⟩
          have HB112 := Lib.hid (HB106.out.trans (hb.mono HB106.out.size))
          have HP113 := Lib.hid (HP107.out.below hb HP107.out.lt)
          have HP114 := Lib.hid (HP108.out.below hb HP108.out.lt)
          have HP115 := Lib.hid (HP109.out.below hb HP109.out.lt)
          have HP116 := Lib.hid (HP110.out.below hb HP110.out.lt)
          have HP117 := Lib.hid (HP111.out.below hb HP111.out.lt)
          clear hb HB106 HP107 HP108 HP109 HP110 HP111 a8c0 a8c1 a8c2 a8c3 a8f a8l b8c0 b8c1 b8c2 b8c3 b8f b8l c8c0 c8c1 c8c2 c8c3 c8f c8l s8c0 s8c1 s8c2 s8c3 s8f s8l a8l1 b8l1 c8l1 s8l1 t8l1
          obtain ⟨a9c0, a9c1, a9c2, a9c3⟩ := HP113.out.cells
          have a9f := HP113.out.frozen
          have a9l := HP113.out.lt
          obtain ⟨b9c0, b9c1, b9c2, b9c3⟩ := HP114.out.cells
          have b9f := HP114.out.frozen
          have b9l := HP114.out.lt
          obtain ⟨c9c0, c9c1, c9c2, c9c3⟩ := HP115.out.cells
          have c9f := HP115.out.frozen
          have c9l := HP115.out.lt
          obtain ⟨s9c0, s9c1, s9c2, s9c3⟩ := HP116.out.cells
          have s9f := HP116.out.frozen
          have s9l := HP116.out.lt
          obtain ⟨t9c0, t9c1, t9c2, t9c3⟩ := HP117.out.cells
          have t9f := HP117.out.frozen
          have t9l := HP117.out.lt
          have ge117 : w.heap.size ≤ w9.heap.size := HB112.out.size
          have neau117 : ¬ w.heap.size = w9.heap.size := by have := HP113.out.lt; omega
          have neua117 : ¬ w9.heap.size = w.heap.size := by have := HP113.out.lt; omega
          have nebu117 : ¬ w4.heap.size = w9.heap.size := by have := HP114.out.lt; omega
          have neub117 : ¬ w9.heap.size = w4.heap.size := by have := HP114.out.lt; omega
          have necu117 : ¬ w6.heap.size = w9.heap.size := by have := HP115.out.lt; omega
          have neuc117 : ¬ w9.heap.size = w6.heap.size := by have := HP115.out.lt; omega
          have nesu117 : ¬ bs = w9.heap.size := by have := HP116.out.lt; omega
          have neus117 : ¬ w9.heap.size = bs := by have := HP116.out.lt; omega
          have netu117 : ¬ w8.heap.size = w9.heap.size := by have := HP117.out.lt; omega
          have neut117 : ¬ w9.heap.size = w8.heap.size := by have := HP117.out.lt; omega
          have HB118 := Lib.hid (HB112.out.alloc HB112.out.size (.cells #[.bool true, .int .i64 f, .int .i64 p, .int .i64 q] 23))
          have HP119 := Lib.hid (HP113.out.alloc (.cells #[.bool true, .int .i64 f, .int .i64 p, .int .i64 q] 23))
          have HP120 := Lib.hid (HP114.out.alloc (.cells #[.bool true, .int .i64 f, .int .i64 p, .int .i64 q] 23))
          have HP121 := Lib.hid (HP115.out.alloc (.cells #[.bool true, .int .i64 f, .int .i64 p, .int .i64 q] 23))
          have HP122 := Lib.hid (HP116.out.alloc (.cells #[.bool true, .int .i64 f, .int .i64 p, .int .i64 q] 23))
          have HP123 := Lib.hid (HP117.out.alloc (.cells #[.bool true, .int .i64 f, .int .i64 p, .int .i64 q] 23))
          have HP124 := Lib.hid (PhAt.new w9 true f p q)
          have a9l1 : w.heap.size < w9.heap.size + 1 := by have := HP119.out.lt; omega
          have b9l1 : w4.heap.size < w9.heap.size + 1 := by have := HP120.out.lt; omega
          have c9l1 : w6.heap.size < w9.heap.size + 1 := by have := HP121.out.lt; omega
          have s9l1 : bs < w9.heap.size + 1 := by have := HP122.out.lt; omega
          have t9l1 : w8.heap.size < w9.heap.size + 1 := by have := HP123.out.lt; omega
          have u9l1 : w9.heap.size < w9.heap.size + 1 := by have := HP124.out.lt; omega
          rcases HA.out with g1 | ⟨g1, g2⟩
          all_goals
            go_wp2
            go_ret
            exact ⟨rfl, HB118.out⟩
  · have HR := Lib.hid (fun V => pkRight_no o f p q V h)
    clear h
    have HB1 := Lib.hid ((Below.refl w.heap.size w).alloc (Nat.le_refl _) (.cells #[.bool o, .int .i64 f, .int .i64 p, .int .i64 q] 23))
    have HP2 := Lib.hid (PhAt.new w o f p q)
    go_enter Try.func6, Try.ntmps6
    go_wp2_with fail
    refine (HH.out _).mono ?_
    rintro e w1 ⟨rfl, hb⟩
    have HB3 := Lib.hid (HB1.out.trans (hb.mono HB1.out.size))
    have HP4 := Lib.hid (HP2.out.below hb HP2.out.lt)
    clear hb HB1 HP2
    obtain ⟨a1c0, a1c1, a1c2, a1c3⟩ := HP4.out.cells
    have a1f := HP4.out.frozen
    have a1l := HP4.out.lt
    go_wp2_with fail
    refine (HK.out _).mono ?_
    rintro e w2 ⟨rfl, hb⟩
    have HB5 := Lib.hid (HB3.out.trans (hb.mono HB3.out.size))
    have HP6 := Lib.hid (HP4.out.below hb HP4.out.lt)
    clear hb HB3 HP4 a1c0 a1c1 a1c2 a1c3 a1f a1l
    obtain ⟨a2c0, a2c1, a2c2, a2c3⟩ := HP6.out.cells
    have a2f := HP6.out.frozen
    have a2l := HP6.out.lt
    go_wp2_with fail
    refine (HPn.out _).mono ?_
    rintro e w9 ⟨rfl, rfl⟩
    go_wp2_with fail
    refine (HPm.out _).mono ?_
    rintro e w9 ⟨rfl, rfl⟩
    go_wp2_with fail
    refine (HR.out _).mono ?_
    rintro e w3 ⟨rfl, hb⟩
    have HB7 := Lib.hid (HB5.out.trans (hb.mono HB5.out.size))
    have HP8 := Lib.hid (HP6.out.below hb HP6.out.lt)
    clear hb HB5 HP6 a2c0 a2c1 a2c2 a2c3 a2f a2l
    obtain ⟨a3c0, a3c1, a3c2, a3c3⟩ := HP8.out.cells
    have a3f := HP8.out.frozen
    have a3l := HP8.out.lt
    go_wp2
    go_ret
    exact ⟨rfl, HB7.out⟩
end Go.Proofs.Ytaklikgdlalhdab
