/-
  WHEN ALL HAVE ARRIVED IT GOES ON: behind as many as wait it is the next phase, and all are to arrive again; behind fewer it is not.
-/
import Derived.Test.YtaklikgdlalhdaaLPhaser
namespace Go.Proofs.Ytaklikgdlalhdaa
open Go.RowKit
set_option linter.unusedVariables false
set_option linter.unusedSimpArgs false

theorem arrK_ok {f P Q : Int} {k : Nat} (hf : 0 ≤ f ∧ f ≤ 2147483647) (hP : 1 ≤ P ∧ P ≤ 65535) (hQ : Q ≤ P) : (arrK f P Q k).ok := by
  unfold arrK
  split
  · exact ⟨hf, ⟨by show 0 ≤ P; omega, hP.2⟩, by show 0 ≤ Q - (k : Int); omega, by show Q - (k : Int) ≤ P; omega⟩
  · exact ⟨phUp_ok hf, ⟨by show 0 ≤ P; omega, hP.2⟩, by show 0 ≤ P; omega, Int.le_refl _⟩
/-- So many have arrived. -/
def Turned (w W : World) (b : Nat) (f P Q : Int) (k : Nat) : Prop := Below w.heap.size w W ∧ PhAt W w.heap.size false f P Q ∧ PhAt W b (arrK f P Q k).o (arrK f P Q k).f (arrK f P Q k).p (arrK f P Q k).q ∧ w.heap.size < b
theorem pick_in (a : Int) {N : Int} (h0 : 0 < N) (hn : N ≤ 4294967296) : ∃ k : Int, 0 ≤ k ∧ k < N ∧ ∀ w : World, Calls Try.prog 14 #[.int .i64 a, .int .i64 N] w fun e w' => e = .returned (.int .i64 k) ∧ w = w' := by
  obtain ⟨n, rfl⟩ : ∃ n : Nat, N = n := ⟨N.toNat, by omega⟩
  obtain ⟨k, h1, h2, h3⟩ := pick_at a n (by omega) (by omega)
  exact ⟨k, h1, h2, h3⟩
set_option maxRecDepth 100000 in
set_option maxHeartbeats 8000000 in
theorem phaserTurns_any (o : Bool) (f p q z : Int) (w : World) : Calls Try.prog 7 #[.agg #[.bool o, .int .i64 f, .int .i64 p, .int .i64 q], .int .i64 z] w fun e w' => e = .returned (.bool true) ∧ Below w.heap.size w w' := by
  have HH := Lib.hid (fun W => phased_any W)
  have HK := Lib.hid (fun W => packs_any W)
  obtain ⟨K, hK0, hK1, hPn⟩ := pick_at p 40 (by decide) (by decide)
  have hK1 : K < 40 := hK1
  have HPn := Lib.hid hPn
  obtain ⟨J, hJ0, hJ1, hPm⟩ := pick_in q (N := 1 + K) (by omega) (by omega)
  have HPm := Lib.hid hPm
  obtain ⟨E, hE0, hE1, hPe⟩ := pick_in z (N := 1 + J) (by omega) (by omega)
  have HPe := Lib.hid hPe
  have hJ40 : J < 40 := by omega
  have HJK := Lib.hid (show 1 + J ≤ 1 + K by omega)
  clear hPn hPm hPe hJ1 hE1
  by_cases hf : 0 ≤ f ∧ f ≤ 2147483647
  · have hok : PhS.ok ⟨false, f, 1 + K, 1 + J⟩ := ⟨hf, ⟨by show 0 ≤ 1 + K; omega, by show 1 + K ≤ 65535; omega⟩, by show 0 ≤ 1 + J; omega, HJK.out⟩
    have HR := Lib.hid (fun V => pkRight_yes false f (1 + K) (1 + J) V hok)
    have HF := Lib.hid hf
    have HZ := Lib.hid (show arrK f (1 + K) (1 + J) 0 = ⟨false, f, 1 + K, 1 + J⟩ by
      unfold arrK
      rw [if_pos (by show ((0 : Nat) : Int) < 1 + J; omega)]
      show PhS.mk false f (1 + K) (1 + J - ((0 : Nat) : Int)) = _
      rw [show 1 + J - ((0 : Nat) : Int) = 1 + J by omega])
    clear hok hf
    have HB1 := Lib.hid ((Below.refl w.heap.size w).alloc (Nat.le_refl _) (.cells #[.bool o, .int .i64 f, .int .i64 p, .int .i64 q] 23))
    have HP2 := Lib.hid (PhAt.new w o f p q)
    go_enter Try.func7, Try.ntmps7
    go_wp2_with fail
    refine (HH.out _).mono ?_
    rintro e w1 ⟨rfl, hb⟩
    have HB3 := Lib.hid (HB1.out.trans (hb.mono HB1.out.size))
    have HP4 := Lib.hid (HP2.out.below hb HP2.out.lt)
    clear hb HB1 HP2
    obtain ⟨a1c0, a1c1, a1c2, a1c3⟩ := HP4.out.cells
    have a1f := HP4.out.frozen
    have a1l := HP4.out.lt
    go_wp2_with fail
    refine (HK.out _).mono ?_
    rintro e w2 ⟨rfl, hb⟩
    have HB5 := Lib.hid (HB3.out.trans (hb.mono HB3.out.size))
    have HP6 := Lib.hid (HP4.out.below hb HP4.out.lt)
    clear hb HB3 HP4 a1c0 a1c1 a1c2 a1c3 a1f a1l
    obtain ⟨a2c0, a2c1, a2c2, a2c3⟩ := HP6.out.cells
    have a2f := HP6.out.frozen
    have a2l := HP6.out.lt
    go_wp2_with fail
    refine (HPn.out _).mono ?_
    rintro e w9 ⟨rfl, rfl⟩
    go_wp2_with fail
    refine (HPm.out _).mono ?_
    rintro e w9 ⟨rfl, rfl⟩
    have HBs := Lib.hid ((((HB5.out.setCell (p := ⟨w.heap.size, 2, none⟩) (Nat.le_refl _) (.int .i64 (1 + K))).setCell (p := ⟨w.heap.size, 3, none⟩) (Nat.le_refl _) (.int .i64 (1 + J))).setCell (p := ⟨w.heap.size, 0, none⟩) (Nat.le_refl _) (.bool false)))
    have HAs := Lib.hid (((HP6.out.set2 (1 + K)).set3 (1 + J)).set0 false)
    clear HB5 HP6
    go_wp2_with fail
    refine (HR.out _).mono ?_
    rintro e w3 ⟨rfl, hb⟩
    have HB7 := Lib.hid (HBs.out.trans (hb.mono HBs.out.size))
    have HP8 := Lib.hid (HAs.out.below hb HAs.out.lt)
    clear hb HBs HAs a2c0 a2c1 a2c2 a2c3 a2f a2l
    obtain ⟨a3c0, a3c1, a3c2, a3c3⟩ := HP8.out.cells
    have a3f := HP8.out.frozen
    have a3l := HP8.out.lt
    go_wp2_with fail
    refine (HPe.out _).mono ?_
    rintro e w9 ⟨rfl, rfl⟩
    have ge8 : w.heap.size ≤ w3.heap.size := HB7.out.size
    have neab8 : ¬ w.heap.size = w3.heap.size := by have := HP8.out.lt; omega
    have neba8 : ¬ w3.heap.size = w.heap.size := by have := HP8.out.lt; omega
    have HB9 := Lib.hid (HB7.out.alloc HB7.out.size (.cells #[.bool false, .int .i64 f, .int .i64 (1 + K), .int .i64 (1 + J)] 23))
    have HP10 := Lib.hid (HP8.out.alloc (.cells #[.bool false, .int .i64 f, .int .i64 (1 + K), .int .i64 (1 + J)] 23))
    have HP11 := Lib.hid (PhAt.new w3 false f (1 + K) (1 + J))
    have a3l1 : w.heap.size < w3.heap.size + 1 := by have := HP10.out.lt; omega
    have b3l1 : w3.heap.size < w3.heap.size + 1 := by have := HP11.out.lt; omega
    have HL0 := Lib.hid (show Turned w (w3.alloc (.cells #[.bool false, .int .i64 f, .int .i64 (1 + K), .int .i64 (1 + J)] 23)) w3.heap.size f (1 + K) (1 + J) 0 from ⟨HB9.out, HP10.out, by rw [HZ.out]; exact HP11.out, by omega⟩)
    --MA
    go_wp2
    clear a3c0 a3c1 a3c2 a3c3 a3f a3l a3l1 b3l1
    obtain ⟨bq, hbq⟩ : ∃ bq, w3.heap.size = bq := ⟨_, rfl⟩
    rw [hbq] at HL0 ⊢
    clear hbq
    clear HB9 HP10 HP11
    go_loopw [39] (fun i wr => ∃ k : Nat, i = .int .i64 k ∧ (k : Int) ≤ 1 + J ∧ Hid (Turned w wr bq f (1 + K) (1 + J) k)) (fun i _ => (1 + J - intOf i).toNat)
    case atStart => exact ⟨0, rfl, by omega, by first | exact HL0.out | exact ⟨HL0.out⟩⟩
    case round =>
      obtain ⟨k, rfl, hk, hL⟩ := hrel
      by_cases hlt : (k : Int) < 1 + J
      · have hx := arrK_step (f := f) (p := 1 + K) hlt (by omega)
        have hok := arrK_ok (k := k) HF.out (show 1 ≤ 1 + K ∧ 1 + K ≤ 65535 by omega) HJK.out
        have hA := hL.out.2.2.1
        have HBr := Lib.hid hL.out.1
        have HPr := Lib.hid hL.out.2.1
        have HNb := Lib.hid hL.out.2.2.2
        obtain ⟨⟨o2, f2, p2, q2⟩, h2⟩ : ∃ x, arrK f (1 + K) (1 + J) (k + 1) = x := ⟨_, rfl⟩
        have e1 : arrK f (1 + K) (1 + J) k = ⟨false, f, 1 + K, 1 + J - k⟩ := by unfold arrK; rw [if_pos hlt]
        rw [h2, e1] at hx
        rw [e1] at hok hA
        have HD := Lib.hid (fun V => psDo_any false f (1 + K) (1 + J - k) 7 0 V hok (.inr (.inr ⟨.inl rfl, rfl⟩)) (by decide) hx)
        have HA := Lib.hid (show PhAt wr bq false f (1 + K) (1 + J - k) from hA)
        have H2 := Lib.hid h2
        clear hx hok hA e1 h2 hL hk
        obtain ⟨c0, c1, c2, c3⟩ := HA.out.cells
        have cf := HA.out.frozen
        obtain ⟨d0, d1, d2, d3⟩ := HPr.out.cells
        have hne1 : ¬ w.heap.size = bq := by have := HNb.out; omega
        have hne2 : ¬ bq = w.heap.size := by have := HNb.out; omega
        by_cases hke : (k : Int) = E
        · have HE := Lib.hid (show (((k : Nat) : Int) == E) = true by simpa using hke)
          have hE := HE.out
          clear hke
          go_wp2_with fail
          refine (HD.out _).mono ?_
          rintro e w21 ⟨rfl, hb⟩
          have HB201 := Lib.hid (HBr.out.trans (hb.mono HBr.out.size))
          have HP202 := Lib.hid (HPr.out.below hb HPr.out.lt)
          have HP203 := Lib.hid (HA.out.below hb HA.out.lt)
          clear hb HBr HPr HA c0 c1 c2 c3 cf d0 d1 d2 d3 hE
          obtain ⟨a21c0, a21c1, a21c2, a21c3⟩ := HP202.out.cells
          have a21f := HP202.out.frozen
          have a21l := HP202.out.lt
          obtain ⟨b21c0, b21c1, b21c2, b21c3⟩ := HP203.out.cells
          have b21f := HP203.out.frozen
          have b21l := HP203.out.lt
          have l1 : w.heap.size < w21.heap.size + 1 := by have := HP202.out.lt; omega
          have l2 : bq < w21.heap.size + 1 := by have := HP203.out.lt; omega
          have nea1 : ¬ w.heap.size = w21.heap.size := by have := HP202.out.lt; omega
          have nea2 : ¬ w21.heap.size = w.heap.size := by have := HP202.out.lt; omega
          have neb1 : ¬ bq = w21.heap.size := by have := HP203.out.lt; omega
          have neb2 : ¬ w21.heap.size = bq := by have := HP203.out.lt; omega
          have HNew := Lib.hid (show Turned w ((put4 w21 bq o2 f2 p2 q2).alloc (.cells #[.bool o2, .int .i64 f2, .int .i64 p2, .int .i64 q2] 23)) bq f (1 + K) (1 + J) (k + 1) from ⟨(below4 HB201.out (by have := HNb.out; omega) o2 f2 p2 q2).alloc (by rw [size4]; exact HB201.out.size) _, (HP202.out.far4 (by have := HNb.out; omega) o2 f2 p2 q2).alloc _, by rw [H2.out]; exact (HP203.out.set4 o2 f2 p2 q2).alloc _, HNb.out⟩)
          have hlt2 : (k : Int) + 1 ≤ 1 + J := by omega
          --ME
          go_wp2
          go_roundw
          case rel => exact ⟨k + 1, by go_num, by omega, by first | exact HNew.out | exact ⟨HNew.out⟩⟩
          case measure => simp [intOf]; omega
        · have HE := Lib.hid (show (((k : Nat) : Int) == E) = false by simpa using hke)
          have hE := HE.out
          clear hke
          go_wp2_with fail
          refine (HD.out _).mono ?_
          rintro e w21 ⟨rfl, hb⟩
          have HB201 := Lib.hid (HBr.out.trans (hb.mono HBr.out.size))
          have HP202 := Lib.hid (HPr.out.below hb HPr.out.lt)
          have HP203 := Lib.hid (HA.out.below hb HA.out.lt)
          clear hb HBr HPr HA c0 c1 c2 c3 cf d0 d1 d2 d3 hE
          obtain ⟨a21c0, a21c1, a21c2, a21c3⟩ := HP202.out.cells
          have a21f := HP202.out.frozen
          have a21l := HP202.out.lt
          obtain ⟨b21c0, b21c1, b21c2, b21c3⟩ := HP203.out.cells
          have b21f := HP203.out.frozen
          have b21l := HP203.out.lt
          have l1 : w.heap.size < w21.heap.size + 1 := by have := HP202.out.lt; omega
          have l2 : bq < w21.heap.size + 1 := by have := HP203.out.lt; omega
          have nea1 : ¬ w.heap.size = w21.heap.size := by have := HP202.out.lt; omega
          have nea2 : ¬ w21.heap.size = w.heap.size := by have := HP202.out.lt; omega
          have neb1 : ¬ bq = w21.heap.size := by have := HP203.out.lt; omega
          have neb2 : ¬ w21.heap.size = bq := by have := HP203.out.lt; omega
          have HNew := Lib.hid (show Turned w ((put4 w21 bq o2 f2 p2 q2).alloc (.cells #[.bool o2, .int .i64 f2, .int .i64 p2, .int .i64 q2] 23)) bq f (1 + K) (1 + J) (k + 1) from ⟨(below4 HB201.out (by have := HNb.out; omega) o2 f2 p2 q2).alloc (by rw [size4]; exact HB201.out.size) _, (HP202.out.far4 (by have := HNb.out; omega) o2 f2 p2 q2).alloc _, by rw [H2.out]; exact (HP203.out.set4 o2 f2 p2 q2).alloc _, HNb.out⟩)
          have hlt2 : (k : Int) + 1 ≤ 1 + J := by omega
          --MF
          go_wp2
          go_roundw
          case rel => exact ⟨k + 1, by go_num, by omega, by first | exact HNew.out | exact ⟨HNew.out⟩⟩
          case measure => simp [intOf]; omega
      · have e1 : arrK f (1 + K) (1 + J) k = ⟨false, phUp f, 1 + K, 1 + K⟩ := by unfold arrK; rw [if_neg hlt]
        have hA := hL.out.2.2.1
        have HBr := Lib.hid hL.out.1
        have HPr := Lib.hid hL.out.2.1
        rw [e1] at hA
        have HA := Lib.hid (show PhAt wr bq false (phUp f) (1 + K) (1 + K) from hA)
        have hm : (f + 1) % 2147483648 = phUp f := (phUp_mod HF.out).symm
        have hf0 : 0 ≤ f := HF.out.1
        have hf1 : f ≤ 2147483647 := HF.out.2
        obtain ⟨u, hu⟩ : ∃ u, phUp f = u := ⟨_, rfl⟩
        rw [hu] at hm HA
        clear hA e1 hL hu
        obtain ⟨c0, c1, c2, c3⟩ := HA.out.cells
        obtain ⟨d0, d1, d2, d3⟩ := HPr.out.cells
        --MC
        go_wp2
        --MD
        go_ret
        exact ⟨rfl, HBr.out⟩
  · have HR := Lib.hid (fun V => pkRight_no false f (1 + K) (1 + J) V (fun g => hf g.1))
    clear hf
    have HB1 := Lib.hid ((Below.refl w.heap.size w).alloc (Nat.le_refl _) (.cells #[.bool o, .int .i64 f, .int .i64 p, .int .i64 q] 23))
    have HP2 := Lib.hid (PhAt.new w o f p q)
    go_enter Try.func7, Try.ntmps7
    go_wp2_with fail
    refine (HH.out _).mono ?_
    rintro e w1 ⟨rfl, hb⟩
    have HB3 := Lib.hid (HB1.out.trans (hb.mono HB1.out.size))
    have HP4 := Lib.hid (HP2.out.below hb HP2.out.lt)
    clear hb HB1 HP2
    obtain ⟨a1c0, a1c1, a1c2, a1c3⟩ := HP4.out.cells
    have a1f := HP4.out.frozen
    have a1l := HP4.out.lt
    go_wp2_with fail
    refine (HK.out _).mono ?_
    rintro e w2 ⟨rfl, hb⟩
    have HB5 := Lib.hid (HB3.out.trans (hb.mono HB3.out.size))
    have HP6 := Lib.hid (HP4.out.below hb HP4.out.lt)
    clear hb HB3 HP4 a1c0 a1c1 a1c2 a1c3 a1f a1l
    obtain ⟨a2c0, a2c1, a2c2, a2c3⟩ := HP6.out.cells
    have a2f := HP6.out.frozen
    have a2l := HP6.out.lt
    go_wp2_with fail
    refine (HPn.out _).mono ?_
    rintro e w9 ⟨rfl, rfl⟩
    go_wp2_with fail
    refine (HPm.out _).mono ?_
    rintro e w9 ⟨rfl, rfl⟩
    have HBs := Lib.hid ((((HB5.out.setCell (p := ⟨w.heap.size, 2, none⟩) (Nat.le_refl _) (.int .i64 (1 + K))).setCell (p := ⟨w.heap.size, 3, none⟩) (Nat.le_refl _) (.int .i64 (1 + J))).setCell (p := ⟨w.heap.size, 0, none⟩) (Nat.le_refl _) (.bool false)))
    have HAs := Lib.hid (((HP6.out.set2 (1 + K)).set3 (1 + J)).set0 false)
    clear HB5 HP6
    go_wp2_with fail
    refine (HR.out _).mono ?_
    rintro e w3 ⟨rfl, hb⟩
    have HB7 := Lib.hid (HBs.out.trans (hb.mono HBs.out.size))
    have HP8 := Lib.hid (HAs.out.below hb HAs.out.lt)
    clear hb HBs HAs a2c0 a2c1 a2c2 a2c3 a2f a2l
    obtain ⟨a3c0, a3c1, a3c2, a3c3⟩ := HP8.out.cells
    have a3f := HP8.out.frozen
    have a3l := HP8.out.lt
    go_wp2
    go_ret
    exact ⟨rfl, HB7.out⟩
end Go.Proofs.Ytaklikgdlalhdaa
