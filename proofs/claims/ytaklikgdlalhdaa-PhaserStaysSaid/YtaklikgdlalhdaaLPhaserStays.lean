/-
  IT STAYS RIGHT: whatever is asked, a state becomes one, at most one phase on; what is over stays so.
-/
import Derived.Test.YtaklikgdlalhdaaLPhaser
import Derived.Test.YtaklikgdlalhdaaOpenPh
namespace Go.Proofs.Ytaklikgdlalhdaa
open Go.RowKit
set_option linter.unusedVariables false
set_option linter.unusedSimpArgs false

/-- The state so far is one that may be. -/
def Stayed (w W : World) : Prop := ∃ x : PhS, x.ok ∧ Below w.heap.size w W ∧ PhAt W w.heap.size x.o x.f x.p x.q
set_option maxRecDepth 100000 in
set_option maxHeartbeats 16000000 in
theorem phaserStays_any (o : Bool) (f p q : Int) {A : Option Addr} {len cap : Nat} {l : List (Int × Int)} (w : World) (hN : CaRow w w.heap.size A len l) (hI : len ≤ 9223372036854775807) : Calls Try.prog 6 #[.agg #[.bool o, .int .i64 f, .int .i64 p, .int .i64 q], .slice A len cap] w fun e w' => e = .returned (.bool true) ∧ Below w.heap.size w w' := by
  have HH := Lib.hid (fun W => phased_any W)
  have HK := Lib.hid (fun W => packs_any W)
  have HN := Lib.hid hN
  clear hN
  by_cases h60 : 60 < len
  · have h60' : (60 : Int) < (len : Int) := by omega
    clear h60
    have HB1 := Lib.hid ((Below.refl w.heap.size w).alloc (Nat.le_refl _) (.cells #[.bool o, .int .i64 f, .int .i64 p, .int .i64 q] 23))
    have HP2 := Lib.hid (PhAt.new w o f p q)
    go_enter Try.func6, Try.ntmps6
    go_wp2_with fail
    refine (HH.out _).mono ?_
    rintro e w1 ⟨rfl, hb⟩
    have HB3 := Lib.hid (HB1.out.trans (hb.mono HB1.out.size))
    have HP4 := Lib.hid (HP2.out.below hb HP2.out.lt)
    clear hb HB1 HP2
    obtain ⟨a1c0, a1c1, a1c2, a1c3⟩ := HP4.out.cells
    have a1f := HP4.out.frozen
    have a1l := HP4.out.lt
    go_wp2_with fail
    refine (HK.out _).mono ?_
    rintro e w2 ⟨rfl, hb⟩
    have HB5 := Lib.hid (HB3.out.trans (hb.mono HB3.out.size))
    have HP6 := Lib.hid (HP4.out.below hb HP4.out.lt)
    clear hb HB3 HP4 a1c0 a1c1 a1c2 a1c3 a1f a1l
    obtain ⟨a2c0, a2c1, a2c2, a2c3⟩ := HP6.out.cells
    have a2f := HP6.out.frozen
    have a2l := HP6.out.lt
    go_wp2
    go_ret
    exact ⟨rfl, HB5.out⟩
  have h60' : ¬ (60 : Int) < (len : Int) := by omega
  by_cases hok : PhS.ok ⟨o, f, p, q⟩
  · have HR := Lib.hid (fun V => pkRight_yes o f p q V hok)
    have HO := Lib.hid hok
    clear hok h60 hI
    have HB1 := Lib.hid ((Below.refl w.heap.size w).alloc (Nat.le_refl _) (.cells #[.bool o, .int .i64 f, .int .i64 p, .int .i64 q] 23))
    have HP2 := Lib.hid (PhAt.new w o f p q)
    go_enter Try.func6, Try.ntmps6
    go_wp2_with fail
    refine (HH.out _).mono ?_
    rintro e w1 ⟨rfl, hb⟩
    have HB3 := Lib.hid (HB1.out.trans (hb.mono HB1.out.size))
    have HP4 := Lib.hid (HP2.out.below hb HP2.out.lt)
    clear hb HB1 HP2
    obtain ⟨a1c0, a1c1, a1c2, a1c3⟩ := HP4.out.cells
    have a1f := HP4.out.frozen
    have a1l := HP4.out.lt
    go_wp2_with fail
    refine (HK.out _).mono ?_
    rintro e w2 ⟨rfl, hb⟩
    have HB5 := Lib.hid (HB3.out.trans (hb.mono HB3.out.size))
    have HP6 := Lib.hid (HP4.out.below hb HP4.out.lt)
    clear hb HB3 HP4 a1c0 a1c1 a1c2 a1c3 a1f a1l
    obtain ⟨a2c0, a2c1, a2c2, a2c3⟩ := HP6.out.cells
    have a2f := HP6.out.frozen
    have a2l := HP6.out.lt
    go_wp2_with fail
    refine (HR.out _).mono ?_
    rintro e w3 ⟨rfl, hb⟩
    have HB7 := Lib.hid (HB5.out.trans (hb.mono HB5.out.size))
    have HP8 := Lib.hid (HP6.out.below hb HP6.out.lt)
    clear hb HB5 HP6 a2c0 a2c1 a2c2 a2c3 a2f a2l
    obtain ⟨a3c0, a3c1, a3c2, a3c3⟩ := HP8.out.cells
    have a3f := HP8.out.frozen
    have a3l := HP8.out.lt
    have HL0 := Lib.hid (show Stayed w w3 from ⟨⟨o, f, p, q⟩, HO.out, HB7.out, HP8.out⟩)
    go_wp2
    clear a3c0 a3c1 a3c2 a3c3 a3f a3l HB7 HP8
    go_loopw [26] (fun i wr => ∃ k : Nat, i = .int .i64 k ∧ k ≤ len ∧ Hid (Stayed w wr)) (fun i _ => len - (intOf i).toNat)
    case atStart => exact ⟨0, rfl, Nat.zero_le _, by first | exact HL0.out | exact ⟨HL0.out⟩⟩
    case round =>
      obtain ⟨k, rfl, hk, hL⟩ := hrel
      by_cases hlt : k < len
      · have hqn : (k : Int) < (len : Int) := by omega
        obtain ⟨⟨o, f, p, q⟩, hx, hB, hA⟩ := hL.out
        have HBr := Lib.hid hB
        have HA := Lib.hid (show PhAt wr w.heap.size o f p q from hA)
        obtain ⟨b, off, hAd, hbl, hcell⟩ := HN.out.row (by omega)
        subst hAd
        obtain ⟨hc0, hc1⟩ := hcell k hlt
        have e0 := (hB.cell (p := ⟨b, off + k * 2, none⟩) hbl).trans hc0
        have e1 := (hB.cell (p := ⟨b, off + k * 2 + 1, none⟩) hbl).trans hc1
        obtain ⟨⟨a, n⟩, han⟩ : ∃ x, l.getD k (0, 0) = x := ⟨_, rfl⟩
        rw [han] at e0 e1
        have e0 : wr.cell? ⟨b, off + k * 2, none⟩ = some (.int .i64 a) := e0
        have e1 : wr.cell? ⟨b, off + k * 2 + 1, none⟩ = some (.int .i64 n) := e1
        have hwl : w.heap.size < wr.heap.size := HA.out.lt
        obtain ⟨c0, c1, c2, c3⟩ := HA.out.cells
        have HX := Lib.hid hx
        clear hL hB hA hbl hcell hc0 hc1 han hx
        have HBc := Lib.hid (HBr.out.alloc HBr.out.size (.cells #[.int .i64 a, .int .i64 n] 38))
        have HAc := Lib.hid (HA.out.alloc (.cells #[.int .i64 a, .int .i64 n] 38))
        clear HBr HA
        by_cases hfit : fitsC a n ∧ a ≠ 9
        · obtain ⟨⟨⟨o2, f2, p2, q2⟩, k2⟩, hnx⟩ : ∃ x, phNext ⟨o, f, p, q⟩ a n = x := ⟨_, rfl⟩
          have HD := Lib.hid (fun V => psDo_any o f p q a n V HX.out hfit.1 hfit.2 hnx)
          have hst := ph_stays HX.out hfit.1
          rw [hnx] at hst
          obtain ⟨s1, s2, s3, s4⟩ := hst
          have s1 : PhS.ok ⟨o2, f2, p2, q2⟩ := s1
          have s2 : f2 = f ∨ f2 = (f + 1) % 2147483648 := s2
          have s3 : o = true → PhS.mk o2 f2 p2 q2 = PhS.mk o f p q ∧ k2 = -1 := s3
          have s4 : -4 ≤ k2 := s4
          have HR2 := Lib.hid (fun V => pkRight_yes o2 f2 p2 q2 V s1)
          have HO2 := Lib.hid s1
          have hf0 : 0 ≤ f := HX.out.1.1
          have hf1 : f ≤ 2147483647 := HX.out.1.2
          clear hnx s1 hfit HX
          cases o with
          | true =>
            obtain ⟨s5, rfl⟩ := s3 rfl
            simp only [PhS.mk.injEq] at s5
            obtain ⟨rfl, rfl, rfl, rfl⟩ := s5
            clear s2 s3 s4
            go_wp2_with fail
            refine (HD.out _).mono ?_
            rintro e w21 ⟨rfl, hb⟩
            have HB201 := Lib.hid (HBc.out.trans (hb.mono HBc.out.size))
            have HP202 := Lib.hid (HAc.out.below hb HAc.out.lt)
            clear hb HBc HAc e0 e1 hwl c0 c1 c2 c3
            obtain ⟨a21c0, a21c1, a21c2, a21c3⟩ := HP202.out.cells
            have a21f := HP202.out.frozen
            have a21l := HP202.out.lt
            have ge202 : w.heap.size ≤ w21.heap.size := HB201.out.size
            have neab202 : ¬ w.heap.size = w21.heap.size := by have := HP202.out.lt; omega
            have neba202 : ¬ w21.heap.size = w.heap.size := by have := HP202.out.lt; omega
            have HB203 := Lib.hid (HB201.out.alloc HB201.out.size (.cells #[.bool true, .int .i64 f2, .int .i64 p2, .int .i64 q2] 23))
            have HP204 := Lib.hid (HP202.out.alloc (.cells #[.bool true, .int .i64 f2, .int .i64 p2, .int .i64 q2] 23))
            have HP205 := Lib.hid (PhAt.new w21 true f2 p2 q2)
            have a21l1 : w.heap.size < w21.heap.size + 1 := by have := HP204.out.lt; omega
            have a21l2 : w.heap.size < w21.heap.size + 1 + 1 := by have := HP204.out.lt; omega
            have b21l1 : w21.heap.size < w21.heap.size + 1 := by have := HP205.out.lt; omega
            have b21l2 : w21.heap.size < w21.heap.size + 1 + 1 := by have := HP205.out.lt; omega
            go_wp2_with fail
            refine (HR2.out _).mono ?_
            rintro e w22 ⟨rfl, hb⟩
            have HB206 := Lib.hid (HB203.out.trans (hb.mono HB203.out.size))
            have HP207 := Lib.hid (HP204.out.below hb HP204.out.lt)
            have HP208 := Lib.hid (HP205.out.below hb HP205.out.lt)
            clear hb HB203 HP204 HP205 a21c0 a21c1 a21c2 a21c3 a21f a21l a21l1 a21l2 b21l1 b21l2
            obtain ⟨a22c0, a22c1, a22c2, a22c3⟩ := HP207.out.cells
            have a22f := HP207.out.frozen
            have a22l := HP207.out.lt
            obtain ⟨b22c0, b22c1, b22c2, b22c3⟩ := HP208.out.cells
            have b22f := HP208.out.frozen
            have b22l := HP208.out.lt
            have HNew := Lib.hid (show Stayed w (put4 w22 w.heap.size true f2 p2 q2) from ⟨⟨true, f2, p2, q2⟩, HO2.out, below4 HB206.out (Nat.le_refl _) true f2 p2 q2, HP207.out.set4 true f2 p2 q2⟩)
            skip
            --MT
            go_wp2
            go_roundw
            case rel => exact ⟨k + 1, by go_num, by omega, by first | exact HNew.out | exact ⟨HNew.out⟩⟩
            case measure => simp [intOf]; omega
          | false =>
            clear s3
            by_cases hff : f2 = f
            · subst hff
              clear s2 hf0 hf1
              have HS4 := Lib.hid (show ¬ k2 < -4 by omega)
              clear s4
              go_wp2_with fail
              refine (HD.out _).mono ?_
              rintro e w21 ⟨rfl, hb⟩
              have HB201 := Lib.hid (HBc.out.trans (hb.mono HBc.out.size))
              have HP202 := Lib.hid (HAc.out.below hb HAc.out.lt)
              clear hb HBc HAc e0 e1 hwl c0 c1 c2 c3
              obtain ⟨a21c0, a21c1, a21c2, a21c3⟩ := HP202.out.cells
              have a21f := HP202.out.frozen
              have a21l := HP202.out.lt
              have ge202 : w.heap.size ≤ w21.heap.size := HB201.out.size
              have neab202 : ¬ w.heap.size = w21.heap.size := by have := HP202.out.lt; omega
              have neba202 : ¬ w21.heap.size = w.heap.size := by have := HP202.out.lt; omega
              have HB203 := Lib.hid (HB201.out.alloc HB201.out.size (.cells #[.bool o2, .int .i64 f2, .int .i64 p2, .int .i64 q2] 23))
              have HP204 := Lib.hid (HP202.out.alloc (.cells #[.bool o2, .int .i64 f2, .int .i64 p2, .int .i64 q2] 23))
              have HP205 := Lib.hid (PhAt.new w21 o2 f2 p2 q2)
              have a21l1 : w.heap.size < w21.heap.size + 1 := by have := HP204.out.lt; omega
              have a21l2 : w.heap.size < w21.heap.size + 1 + 1 := by have := HP204.out.lt; omega
              have b21l1 : w21.heap.size < w21.heap.size + 1 := by have := HP205.out.lt; omega
              have b21l2 : w21.heap.size < w21.heap.size + 1 + 1 := by have := HP205.out.lt; omega
              go_wp2_with fail
              refine (HR2.out _).mono ?_
              rintro e w22 ⟨rfl, hb⟩
              have HB206 := Lib.hid (HB203.out.trans (hb.mono HB203.out.size))
              have HP207 := Lib.hid (HP204.out.below hb HP204.out.lt)
              have HP208 := Lib.hid (HP205.out.below hb HP205.out.lt)
              clear hb HB203 HP204 HP205 a21c0 a21c1 a21c2 a21c3 a21f a21l a21l1 a21l2 b21l1 b21l2
              obtain ⟨a22c0, a22c1, a22c2, a22c3⟩ := HP207.out.cells
              have a22f := HP207.out.frozen
              have a22l := HP207.out.lt
              obtain ⟨b22c0, b22c1, b22c2, b22c3⟩ := HP208.out.cells
              have b22f := HP208.out.frozen
              have b22l := HP208.out.lt
              have HNew := Lib.hid (show Stayed w (put4 w22 w.heap.size o2 f2 p2 q2) from ⟨⟨o2, f2, p2, q2⟩, HO2.out, below4 HB206.out (Nat.le_refl _) o2 f2 p2 q2, HP207.out.set4 o2 f2 p2 q2⟩)
              have h4 := HS4.out
              --MS
              go_wp2
              go_roundw
              case rel => exact ⟨k + 1, by go_num, by omega, by first | exact HNew.out | exact ⟨HNew.out⟩⟩
              case measure => simp [intOf]; omega
            · have HF1 := Lib.hid (show (f2 != f) = true by simpa using hff)
              have HF2 := Lib.hid (show (f2 != (f + 1) % 2147483648) = false by have := s2.resolve_left hff; rw [← this]; simp)
              have HS4 := Lib.hid (show ¬ k2 < -4 by omega)
              have HFb := Lib.hid (And.intro hf0 hf1)
              clear s2 s4 hff hf0 hf1
              go_wp2_with fail
              refine (HD.out _).mono ?_
              rintro e w21 ⟨rfl, hb⟩
              have HB201 := Lib.hid (HBc.out.trans (hb.mono HBc.out.size))
              have HP202 := Lib.hid (HAc.out.below hb HAc.out.lt)
              clear hb HBc HAc e0 e1 hwl c0 c1 c2 c3
              obtain ⟨a21c0, a21c1, a21c2, a21c3⟩ := HP202.out.cells
              have a21f := HP202.out.frozen
              have a21l := HP202.out.lt
              have ge202 : w.heap.size ≤ w21.heap.size := HB201.out.size
              have neab202 : ¬ w.heap.size = w21.heap.size := by have := HP202.out.lt; omega
              have neba202 : ¬ w21.heap.size = w.heap.size := by have := HP202.out.lt; omega
              have HB203 := Lib.hid (HB201.out.alloc HB201.out.size (.cells #[.bool o2, .int .i64 f2, .int .i64 p2, .int .i64 q2] 23))
              have HP204 := Lib.hid (HP202.out.alloc (.cells #[.bool o2, .int .i64 f2, .int .i64 p2, .int .i64 q2] 23))
              have HP205 := Lib.hid (PhAt.new w21 o2 f2 p2 q2)
              have a21l1 : w.heap.size < w21.heap.size + 1 := by have := HP204.out.lt; omega
              have a21l2 : w.heap.size < w21.heap.size + 1 + 1 := by have := HP204.out.lt; omega
              have b21l1 : w21.heap.size < w21.heap.size + 1 := by have := HP205.out.lt; omega
              have b21l2 : w21.heap.size < w21.heap.size + 1 + 1 := by have := HP205.out.lt; omega
              go_wp2_with fail
              refine (HR2.out _).mono ?_
              rintro e w22 ⟨rfl, hb⟩
              have HB206 := Lib.hid (HB203.out.trans (hb.mono HB203.out.size))
              have HP207 := Lib.hid (HP204.out.below hb HP204.out.lt)
              have HP208 := Lib.hid (HP205.out.below hb HP205.out.lt)
              clear hb HB203 HP204 HP205 a21c0 a21c1 a21c2 a21c3 a21f a21l a21l1 a21l2 b21l1 b21l2
              obtain ⟨a22c0, a22c1, a22c2, a22c3⟩ := HP207.out.cells
              have a22f := HP207.out.frozen
              have a22l := HP207.out.lt
              obtain ⟨b22c0, b22c1, b22c2, b22c3⟩ := HP208.out.cells
              have b22f := HP208.out.frozen
              have b22l := HP208.out.lt
              have HNew := Lib.hid (show Stayed w (put4 w22 w.heap.size o2 f2 p2 q2) from ⟨⟨o2, f2, p2, q2⟩, HO2.out, below4 HB206.out (Nat.le_refl _) o2 f2 p2 q2, HP207.out.set4 o2 f2 p2 q2⟩)
              have h4 := HS4.out
              have h5 := HF1.out
              have h6 := HF2.out
              have hf0 := HFb.out.1
              have hf1 := HFb.out.2
              --MN
              go_wp2
              go_roundw
              case rel => exact ⟨k + 1, by go_num, by omega, by first | exact HNew.out | exact ⟨HNew.out⟩⟩
              case measure => simp [intOf]; omega
        · have HD := Lib.hid (fun V => psDo_no o f p q a n V (fun g => hfit ⟨g.2.1, g.2.2⟩))
          clear hfit
          go_wp2_with fail
          refine (HD.out _).mono ?_
          rintro e w21 ⟨rfl, hb⟩
          have HB201 := Lib.hid (HBc.out.trans (hb.mono HBc.out.size))
          have HP202 := Lib.hid (HAc.out.below hb HAc.out.lt)
          clear hb HBc HAc e0 e1 hwl c0 c1 c2 c3
          obtain ⟨a21c0, a21c1, a21c2, a21c3⟩ := HP202.out.cells
          have a21f := HP202.out.frozen
          have a21l := HP202.out.lt
          have HNew := Lib.hid (show Stayed w (w21.alloc (.cells #[.bool false, .int .i64 0, .int .i64 0, .int .i64 0] 23)) from ⟨⟨o, f, p, q⟩, HX.out, HB201.out.alloc HB201.out.size _, HP202.out.alloc _⟩)
          --MZ
          go_wp2
          go_roundw
          case rel => exact ⟨k + 1, by go_num, by omega, by first | exact HNew.out | exact ⟨HNew.out⟩⟩
          case measure => simp [intOf]; omega
      · have hqn : ¬ (k : Int) < (len : Int) := by omega
        obtain ⟨x, hx, hB, hA⟩ := hL.out
        have HBr := Lib.hid hB
        clear hL hx hB hA
        go_wp2
        go_ret
        exact ⟨rfl, HBr.out⟩
  · have HR := Lib.hid (fun V => pkRight_no o f p q V hok)
    clear hok h60 hI
    have HB1 := Lib.hid ((Below.refl w.heap.size w).alloc (Nat.le_refl _) (.cells #[.bool o, .int .i64 f, .int .i64 p, .int .i64 q] 23))
    have HP2 := Lib.hid (PhAt.new w o f p q)
    go_enter Try.func6, Try.ntmps6
    go_wp2_with fail
    refine (HH.out _).mono ?_
    rintro e w1 ⟨rfl, hb⟩
    have HB3 := Lib.hid (HB1.out.trans (hb.mono HB1.out.size))
    have HP4 := Lib.hid (HP2.out.below hb HP2.out.lt)
    clear hb HB1 HP2
    obtain ⟨a1c0, a1c1, a1c2, a1c3⟩ := HP4.out.cells
    have a1f := HP4.out.frozen
    have a1l := HP4.out.lt
    go_wp2_with fail
    refine (HK.out _).mono ?_
    rintro e w2 ⟨rfl, hb⟩
    have HB5 := Lib.hid (HB3.out.trans (hb.mono HB3.out.size))
    have HP6 := Lib.hid (HP4.out.below hb HP4.out.lt)
    clear hb HB3 HP4 a1c0 a1c1 a1c2 a1c3 a1f a1l
    obtain ⟨a2c0, a2c1, a2c2, a2c3⟩ := HP6.out.cells
    have a2f := HP6.out.frozen
    have a2l := HP6.out.lt
    go_wp2_with fail
    refine (HR.out _).mono ?_
    rintro e w3 ⟨rfl, hb⟩
    have HB7 := Lib.hid (HB5.out.trans (hb.mono HB5.out.size))
    have HP8 := Lib.hid (HP6.out.below hb HP6.out.lt)
    clear hb HB5 HP6 a2c0 a2c1 a2c2 a2c3 a2f a2l
    obtain ⟨a3c0, a3c1, a3c2, a3c3⟩ := HP8.out.cells
    have a3f := HP8.out.frozen
    have a3l := HP8.out.lt
    go_wp2
    go_ret
    exact ⟨rfl, HB7.out⟩
end Go.Proofs.Ytaklikgdlalhdaa
