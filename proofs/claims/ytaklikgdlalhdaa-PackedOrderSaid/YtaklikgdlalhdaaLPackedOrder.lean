/-
  The laws PackedOrder and PackedBack: LATER IS MORE; WHAT IS PACKED IS UNPACKED.
-/
import Derived.Test.YtaklikgdlalhdaaLPacked
namespace Go.Proofs.Ytaklikgdlalhdaa
open Go.RowKit
set_option linter.unusedVariables false
set_option linter.unusedSimpArgs false

theorem order_facts {o o2 : Bool} {f p q f2 p2 q2 : Int} (h : PhS.ok ⟨o, f, p, q⟩) (h2 : PhS.ok ⟨o2, f2, p2, q2⟩) {a b : Int} (ha : PhS.word ⟨o, f, p, q⟩ = a) (hb : PhS.word ⟨o2, f2, p2, q2⟩ = b) :
    (o ≠ o2 → decide (b < a) = o) ∧ (o = o2 → f ≠ f2 → decide (b < a) = decide (f2 < f)) := by
  obtain ⟨⟨a1, a2⟩, ⟨a3, a4⟩, a5, a6⟩ := h
  obtain ⟨⟨b1, b2⟩, ⟨b3, b4⟩, b5, b6⟩ := h2
  have a1 : 0 ≤ f := a1
  have a2 : f ≤ 2147483647 := a2
  have a3 : 0 ≤ p := a3
  have a4 : p ≤ 65535 := a4
  have a5 : 0 ≤ q := a5
  have a6 : q ≤ p := a6
  have b1 : 0 ≤ f2 := b1
  have b2 : f2 ≤ 2147483647 := b2
  have b3 : 0 ≤ p2 := b3
  have b4 : p2 ≤ 65535 := b4
  have b5 : 0 ≤ q2 := b5
  have b6 : q2 ≤ p2 := b6
  have ha : q + 65536 * p + 4294967296 * f + overW o = a := ha
  have hb : q2 + 65536 * p2 + 4294967296 * f2 + overW o2 = b := hb
  constructor
  · intro hn
    cases o <;> cases o2
    · exact absurd rfl hn
    · have e1 : overW false = 0 := rfl
      have e2 : overW true = 9223372036854775808 := rfl
      exact decide_eq_false (by omega)
    · have e1 : overW false = 0 := rfl
      have e2 : overW true = 9223372036854775808 := rfl
      exact decide_eq_true (by omega)
    · exact absurd rfl hn
  · intro he hf
    subst he
    rcases overW_cases o with ⟨_, e⟩ | ⟨_, e⟩
    all_goals
      rw [e] at ha hb
      by_cases g : f2 < f
      · rw [decide_eq_true g]
        exact decide_eq_true (by omega)
      · rw [decide_eq_false g]
        exact decide_eq_false (by omega)

set_option maxHeartbeats 4000000 in
theorem packedOrder_wrong (o : Bool) (f p q : Int) (o2 : Bool) (f2 p2 q2 : Int) (w : World) (h : ¬ PhS.ok ⟨o, f, p, q⟩ ∨ ¬ PhS.ok ⟨o2, f2, p2, q2⟩) : Calls Try.prog 4 #[.agg #[.bool o, .int .i64 f, .int .i64 p, .int .i64 q], .agg #[.bool o2, .int .i64 f2, .int .i64 p2, .int .i64 q2]] w fun e w' => e = .returned (.bool true) ∧ Below w.heap.size w w' := by
  have HK := Lib.hid (fun W => packs_any W)
  by_cases h1 : PhS.ok ⟨o, f, p, q⟩
  · have h2 : ¬ PhS.ok ⟨o2, f2, p2, q2⟩ := h.resolve_left fun g => g h1
    have HW1 := Lib.hid (fun W => pkWord_yes o f p q W h1)
    have HW2 := Lib.hid (fun W => pkWord_no o2 f2 p2 q2 W h2)
    clear h h1 h2
    have HB1 := Lib.hid (((Below.refl w.heap.size w).alloc (Nat.le_refl _) (.cells #[.bool o, .int .i64 f, .int .i64 p, .int .i64 q] 23)).alloc (by simp) (.cells #[.bool o2, .int .i64 f2, .int .i64 p2, .int .i64 q2] 23))
    have HP2 := Lib.hid ((PhAt.new w o f p q).alloc (.cells #[.bool o2, .int .i64 f2, .int .i64 p2, .int .i64 q2] 23))
    have HP3 := Lib.hid (PhAt.new2 w (.cells #[.bool o, .int .i64 f, .int .i64 p, .int .i64 q] 23) o2 f2 p2 q2)
    go_enter Try.func4, Try.ntmps4
    go_wp2_with fail
    refine (HK.out _).mono ?_
    rintro e w1 ⟨rfl, hb⟩
    have HB4 := Lib.hid (HB1.out.trans (hb.mono HB1.out.size))
    have HP5 := Lib.hid (HP2.out.below hb HP2.out.lt)
    have HP6 := Lib.hid (HP3.out.below hb HP3.out.lt)
    clear hb HB1 HP2 HP3
    obtain ⟨a1c0, a1c1, a1c2, a1c3⟩ := HP5.out.cells
    have a1f := HP5.out.frozen
    have a1l := HP5.out.lt
    obtain ⟨b1c0, b1c1, b1c2, b1c3⟩ := HP6.out.cells
    have b1f := HP6.out.frozen
    have b1l := HP6.out.lt
    go_wp2_with fail
    refine (HW1.out _).mono ?_
    rintro e w2 ⟨rfl, hb⟩
    have HB7 := Lib.hid (HB4.out.trans (hb.mono HB4.out.size))
    have HP8 := Lib.hid (HP5.out.below hb HP5.out.lt)
    have HP9 := Lib.hid (HP6.out.below hb HP6.out.lt)
    clear hb HB4 HP5 HP6 a1c0 a1c1 a1c2 a1c3 a1f a1l b1c0 b1c1 b1c2 b1c3 b1f b1l
    obtain ⟨a2c0, a2c1, a2c2, a2c3⟩ := HP8.out.cells
    have a2f := HP8.out.frozen
    have a2l := HP8.out.lt
    obtain ⟨b2c0, b2c1, b2c2, b2c3⟩ := HP9.out.cells
    have b2f := HP9.out.frozen
    have b2l := HP9.out.lt
    go_wp2_with fail
    refine (HW2.out _).mono ?_
    rintro e w3 ⟨rfl, hb⟩
    have HB10 := Lib.hid (HB7.out.trans (hb.mono HB7.out.size))
    have HP11 := Lib.hid (HP8.out.below hb HP8.out.lt)
    have HP12 := Lib.hid (HP9.out.below hb HP9.out.lt)
    clear hb HB7 HP8 HP9 a2c0 a2c1 a2c2 a2c3 a2f a2l b2c0 b2c1 b2c2 b2c3 b2f b2l
    obtain ⟨a3c0, a3c1, a3c2, a3c3⟩ := HP11.out.cells
    have a3f := HP11.out.frozen
    have a3l := HP11.out.lt
    obtain ⟨b3c0, b3c1, b3c2, b3c3⟩ := HP12.out.cells
    have b3f := HP12.out.frozen
    have b3l := HP12.out.lt
    go_wp2
    go_ret
    exact ⟨rfl, HB10.out⟩
  · have HW1 := Lib.hid (fun W => pkWord_no o f p q W h1)
    by_cases h2 : PhS.ok ⟨o2, f2, p2, q2⟩
    · have HW2 := Lib.hid (fun W => pkWord_yes o2 f2 p2 q2 W h2)
      clear h h1 h2
      have HB1 := Lib.hid (((Below.refl w.heap.size w).alloc (Nat.le_refl _) (.cells #[.bool o, .int .i64 f, .int .i64 p, .int .i64 q] 23)).alloc (by simp) (.cells #[.bool o2, .int .i64 f2, .int .i64 p2, .int .i64 q2] 23))
      have HP2 := Lib.hid ((PhAt.new w o f p q).alloc (.cells #[.bool o2, .int .i64 f2, .int .i64 p2, .int .i64 q2] 23))
      have HP3 := Lib.hid (PhAt.new2 w (.cells #[.bool o, .int .i64 f, .int .i64 p, .int .i64 q] 23) o2 f2 p2 q2)
      go_enter Try.func4, Try.ntmps4
      go_wp2_with fail
      refine (HK.out _).mono ?_
      rintro e w1 ⟨rfl, hb⟩
      have HB4 := Lib.hid (HB1.out.trans (hb.mono HB1.out.size))
      have HP5 := Lib.hid (HP2.out.below hb HP2.out.lt)
      have HP6 := Lib.hid (HP3.out.below hb HP3.out.lt)
      clear hb HB1 HP2 HP3
      obtain ⟨a1c0, a1c1, a1c2, a1c3⟩ := HP5.out.cells
      have a1f := HP5.out.frozen
      have a1l := HP5.out.lt
      obtain ⟨b1c0, b1c1, b1c2, b1c3⟩ := HP6.out.cells
      have b1f := HP6.out.frozen
      have b1l := HP6.out.lt
      go_wp2_with fail
      refine (HW1.out _).mono ?_
      rintro e w2 ⟨rfl, hb⟩
      have HB7 := Lib.hid (HB4.out.trans (hb.mono HB4.out.size))
      have HP8 := Lib.hid (HP5.out.below hb HP5.out.lt)
      have HP9 := Lib.hid (HP6.out.below hb HP6.out.lt)
      clear hb HB4 HP5 HP6 a1c0 a1c1 a1c2 a1c3 a1f a1l b1c0 b1c1 b1c2 b1c3 b1f b1l
      obtain ⟨a2c0, a2c1, a2c2, a2c3⟩ := HP8.out.cells
      have a2f := HP8.out.frozen
      have a2l := HP8.out.lt
      obtain ⟨b2c0, b2c1, b2c2, b2c3⟩ := HP9.out.cells
      have b2f := HP9.out.frozen
      have b2l := HP9.out.lt
      go_wp2_with fail
      refine (HW2.out _).mono ?_
      rintro e w3 ⟨rfl, hb⟩
      have HB10 := Lib.hid (HB7.out.trans (hb.mono HB7.out.size))
      have HP11 := Lib.hid (HP8.out.below hb HP8.out.lt)
      have HP12 := Lib.hid (HP9.out.below hb HP9.out.lt)
      clear hb HB7 HP8 HP9 a2c0 a2c1 a2c2 a2c3 a2f a2l b2c0 b2c1 b2c2 b2c3 b2f b2l
      obtain ⟨a3c0, a3c1, a3c2, a3c3⟩ := HP11.out.cells
      have a3f := HP11.out.frozen
      have a3l := HP11.out.lt
      obtain ⟨b3c0, b3c1, b3c2, b3c3⟩ := HP12.out.cells
      have b3f := HP12.out.frozen
      have b3l := HP12.out.lt
      go_wp2
      go_ret
      exact ⟨rfl, HB10.out⟩
    · have HW2 := Lib.hid (fun W => pkWord_no o2 f2 p2 q2 W h2)
      clear h h1 h2
      have HB1 := Lib.hid (((Below.refl w.heap.size w).alloc (Nat.le_refl _) (.cells #[.bool o, .int .i64 f, .int .i64 p, .int .i64 q] 23)).alloc (by simp) (.cells #[.bool o2, .int .i64 f2, .int .i64 p2, .int .i64 q2] 23))
      have HP2 := Lib.hid ((PhAt.new w o f p q).alloc (.cells #[.bool o2, .int .i64 f2, .int .i64 p2, .int .i64 q2] 23))
      have HP3 := Lib.hid (PhAt.new2 w (.cells #[.bool o, .int .i64 f, .int .i64 p, .int .i64 q] 23) o2 f2 p2 q2)
      go_enter Try.func4, Try.ntmps4
      go_wp2_with fail
      refine (HK.out _).mono ?_
      rintro e w1 ⟨rfl, hb⟩
      have HB4 := Lib.hid (HB1.out.trans (hb.mono HB1.out.size))
      have HP5 := Lib.hid (HP2.out.below hb HP2.out.lt)
      have HP6 := Lib.hid (HP3.out.below hb HP3.out.lt)
      clear hb HB1 HP2 HP3
      obtain ⟨a1c0, a1c1, a1c2, a1c3⟩ := HP5.out.cells
      have a1f := HP5.out.frozen
      have a1l := HP5.out.lt
      obtain ⟨b1c0, b1c1, b1c2, b1c3⟩ := HP6.out.cells
      have b1f := HP6.out.frozen
      have b1l := HP6.out.lt
      go_wp2_with fail
      refine (HW1.out _).mono ?_
      rintro e w2 ⟨rfl, hb⟩
      have HB7 := Lib.hid (HB4.out.trans (hb.mono HB4.out.size))
      have HP8 := Lib.hid (HP5.out.below hb HP5.out.lt)
      have HP9 := Lib.hid (HP6.out.below hb HP6.out.lt)
      clear hb HB4 HP5 HP6 a1c0 a1c1 a1c2 a1c3 a1f a1l b1c0 b1c1 b1c2 b1c3 b1f b1l
      obtain ⟨a2c0, a2c1, a2c2, a2c3⟩ := HP8.out.cells
      have a2f := HP8.out.frozen
      have a2l := HP8.out.lt
      obtain ⟨b2c0, b2c1, b2c2, b2c3⟩ := HP9.out.cells
      have b2f := HP9.out.frozen
      have b2l := HP9.out.lt
      go_wp2_with fail
      refine (HW2.out _).mono ?_
      rintro e w3 ⟨rfl, hb⟩
      have HB10 := Lib.hid (HB7.out.trans (hb.mono HB7.out.size))
      have HP11 := Lib.hid (HP8.out.below hb HP8.out.lt)
      have HP12 := Lib.hid (HP9.out.below hb HP9.out.lt)
      clear hb HB7 HP8 HP9 a2c0 a2c1 a2c2 a2c3 a2f a2l b2c0 b2c1 b2c2 b2c3 b2f b2l
      obtain ⟨a3c0, a3c1, a3c2, a3c3⟩ := HP11.out.cells
      have a3f := HP11.out.frozen
      have a3l := HP11.out.lt
      obtain ⟨b3c0, b3c1, b3c2, b3c3⟩ := HP12.out.cells
      have b3f := HP12.out.frozen
      have b3l := HP12.out.lt
      go_wp2
      go_ret
      exact ⟨rfl, HB10.out⟩
set_option maxHeartbeats 4000000 in
theorem packedOrder_any (o : Bool) (f p q : Int) (o2 : Bool) (f2 p2 q2 : Int) (w : World) : Calls Try.prog 4 #[.agg #[.bool o, .int .i64 f, .int .i64 p, .int .i64 q], .agg #[.bool o2, .int .i64 f2, .int .i64 p2, .int .i64 q2]] w fun e w' => e = .returned (.bool true) ∧ Below w.heap.size w w' := by
  by_cases h : PhS.ok ⟨o, f, p, q⟩ ∧ PhS.ok ⟨o2, f2, p2, q2⟩
  · obtain ⟨h1, h2⟩ := h
    have HK := Lib.hid (fun W => packs_any W)
    have HW1 := Lib.hid (fun W => pkWord_yes o f p q W h1)
    have HW2 := Lib.hid (fun W => pkWord_yes o2 f2 p2 q2 W h2)
    have hi := word_inj h1 h2
    obtain ⟨a, ha⟩ : ∃ a, PhS.word ⟨o, f, p, q⟩ = a := ⟨_, rfl⟩
    obtain ⟨b, hb⟩ : ∃ b, PhS.word ⟨o2, f2, p2, q2⟩ = b := ⟨_, rfl⟩
    obtain ⟨g1, g2⟩ := order_facts h1 h2 ha hb
    rw [ha] at HW1 hi
    rw [hb] at HW2 hi
    have HG1 := Lib.hid g1
    have HG2 := Lib.hid g2
    have HI := Lib.hid hi
    clear g1 g2 hi ha hb h1 h2
    by_cases ho : o = o2
    · subst ho
      have hoo : (o != o) = false := by simp
      have g2 := HG2.out rfl
      have HO := Lib.hid hoo
      clear hoo HG1 HG2
      by_cases hf : f = f2
      · subst hf
        have HE := Lib.hid (show (a == b) = phEq o f p q o f p2 q2 by
          rw [Bool.eq_iff_iff, phEq_iff, ← HI.out, beq_iff_eq])
        clear g2 HI
        have HB1 := Lib.hid (((Below.refl w.heap.size w).alloc (Nat.le_refl _) (.cells #[.bool o, .int .i64 f, .int .i64 p, .int .i64 q] 23)).alloc (by simp) (.cells #[.bool o, .int .i64 f, .int .i64 p2, .int .i64 q2] 23))
        have HP2 := Lib.hid ((PhAt.new w o f p q).alloc (.cells #[.bool o, .int .i64 f, .int .i64 p2, .int .i64 q2] 23))
        have HP3 := Lib.hid (PhAt.new2 w (.cells #[.bool o, .int .i64 f, .int .i64 p, .int .i64 q] 23) o f p2 q2)
        go_enter Try.func4, Try.ntmps4
        go_wp2_with fail
        refine (HK.out _).mono ?_
        rintro e w1 ⟨rfl, hb⟩
        have HB4 := Lib.hid (HB1.out.trans (hb.mono HB1.out.size))
        have HP5 := Lib.hid (HP2.out.below hb HP2.out.lt)
        have HP6 := Lib.hid (HP3.out.below hb HP3.out.lt)
        clear hb HB1 HP2 HP3
        obtain ⟨a1c0, a1c1, a1c2, a1c3⟩ := HP5.out.cells
        have a1f := HP5.out.frozen
        have a1l := HP5.out.lt
        obtain ⟨b1c0, b1c1, b1c2, b1c3⟩ := HP6.out.cells
        have b1f := HP6.out.frozen
        have b1l := HP6.out.lt
        go_wp2_with fail
        refine (HW1.out _).mono ?_
        rintro e w2 ⟨rfl, hb⟩
        have HB7 := Lib.hid (HB4.out.trans (hb.mono HB4.out.size))
        have HP8 := Lib.hid (HP5.out.below hb HP5.out.lt)
        have HP9 := Lib.hid (HP6.out.below hb HP6.out.lt)
        clear hb HB4 HP5 HP6 a1c0 a1c1 a1c2 a1c3 a1f a1l b1c0 b1c1 b1c2 b1c3 b1f b1l
        obtain ⟨a2c0, a2c1, a2c2, a2c3⟩ := HP8.out.cells
        have a2f := HP8.out.frozen
        have a2l := HP8.out.lt
        obtain ⟨b2c0, b2c1, b2c2, b2c3⟩ := HP9.out.cells
        have b2f := HP9.out.frozen
        have b2l := HP9.out.lt
        go_wp2_with fail
        refine (HW2.out _).mono ?_
        rintro e w3 ⟨rfl, hb⟩
        have HB10 := Lib.hid (HB7.out.trans (hb.mono HB7.out.size))
        have HP11 := Lib.hid (HP8.out.below hb HP8.out.lt)
        have HP12 := Lib.hid (HP9.out.below hb HP9.out.lt)
        clear hb HB7 HP8 HP9 a2c0 a2c1 a2c2 a2c3 a2f a2l b2c0 b2c1 b2c2 b2c3 b2f b2l
        obtain ⟨a3c0, a3c1, a3c2, a3c3⟩ := HP11.out.cells
        have a3f := HP11.out.frozen
        have a3l := HP11.out.lt
        obtain ⟨b3c0, b3c1, b3c2, b3c3⟩ := HP12.out.cells
        have b3f := HP12.out.frozen
        have b3l := HP12.out.lt
        have hEq := fun W => run_phEq o f p q o f p2 q2 W
        have hoo := HO.out
        have hff : (f != f) = false := by simp
        have hab := HE.out
        --MA
        go_wp2
        --MB
        go_ret
        exact ⟨rfl, HB10.out⟩
      · have g3 := g2 hf
        have HF := Lib.hid (show (f != f2) = true by simpa using hf)
        have HG := Lib.hid g3
        clear g2 g3 hf HI
        have HB1 := Lib.hid (((Below.refl w.heap.size w).alloc (Nat.le_refl _) (.cells #[.bool o, .int .i64 f, .int .i64 p, .int .i64 q] 23)).alloc (by simp) (.cells #[.bool o, .int .i64 f2, .int .i64 p2, .int .i64 q2] 23))
        have HP2 := Lib.hid ((PhAt.new w o f p q).alloc (.cells #[.bool o, .int .i64 f2, .int .i64 p2, .int .i64 q2] 23))
        have HP3 := Lib.hid (PhAt.new2 w (.cells #[.bool o, .int .i64 f, .int .i64 p, .int .i64 q] 23) o f2 p2 q2)
        go_enter Try.func4, Try.ntmps4
        go_wp2_with fail
        refine (HK.out _).mono ?_
        rintro e w1 ⟨rfl, hb⟩
        have HB4 := Lib.hid (HB1.out.trans (hb.mono HB1.out.size))
        have HP5 := Lib.hid (HP2.out.below hb HP2.out.lt)
        have HP6 := Lib.hid (HP3.out.below hb HP3.out.lt)
        clear hb HB1 HP2 HP3
        obtain ⟨a1c0, a1c1, a1c2, a1c3⟩ := HP5.out.cells
        have a1f := HP5.out.frozen
        have a1l := HP5.out.lt
        obtain ⟨b1c0, b1c1, b1c2, b1c3⟩ := HP6.out.cells
        have b1f := HP6.out.frozen
        have b1l := HP6.out.lt
        go_wp2_with fail
        refine (HW1.out _).mono ?_
        rintro e w2 ⟨rfl, hb⟩
        have HB7 := Lib.hid (HB4.out.trans (hb.mono HB4.out.size))
        have HP8 := Lib.hid (HP5.out.below hb HP5.out.lt)
        have HP9 := Lib.hid (HP6.out.below hb HP6.out.lt)
        clear hb HB4 HP5 HP6 a1c0 a1c1 a1c2 a1c3 a1f a1l b1c0 b1c1 b1c2 b1c3 b1f b1l
        obtain ⟨a2c0, a2c1, a2c2, a2c3⟩ := HP8.out.cells
        have a2f := HP8.out.frozen
        have a2l := HP8.out.lt
        obtain ⟨b2c0, b2c1, b2c2, b2c3⟩ := HP9.out.cells
        have b2f := HP9.out.frozen
        have b2l := HP9.out.lt
        go_wp2_with fail
        refine (HW2.out _).mono ?_
        rintro e w3 ⟨rfl, hb⟩
        have HB10 := Lib.hid (HB7.out.trans (hb.mono HB7.out.size))
        have HP11 := Lib.hid (HP8.out.below hb HP8.out.lt)
        have HP12 := Lib.hid (HP9.out.below hb HP9.out.lt)
        clear hb HB7 HP8 HP9 a2c0 a2c1 a2c2 a2c3 a2f a2l b2c0 b2c1 b2c2 b2c3 b2f b2l
        obtain ⟨a3c0, a3c1, a3c2, a3c3⟩ := HP11.out.cells
        have a3f := HP11.out.frozen
        have a3l := HP11.out.lt
        obtain ⟨b3c0, b3c1, b3c2, b3c3⟩ := HP12.out.cells
        have b3f := HP12.out.frozen
        have b3l := HP12.out.lt
        have hoo := HO.out
        have hff := HF.out
        have hg := HG.out
        go_wp2
        --MC
        go_ret
        exact ⟨rfl, HB10.out⟩
    · have g3 := HG1.out ho
      cases o <;> cases o2
      · exact absurd rfl ho
      · have HG := Lib.hid (show decide (b < a) = false from g3)
        clear g3 ho HI HG1 HG2
        have HB1 := Lib.hid (((Below.refl w.heap.size w).alloc (Nat.le_refl _) (.cells #[.bool false, .int .i64 f, .int .i64 p, .int .i64 q] 23)).alloc (by simp) (.cells #[.bool true, .int .i64 f2, .int .i64 p2, .int .i64 q2] 23))
        have HP2 := Lib.hid ((PhAt.new w false f p q).alloc (.cells #[.bool true, .int .i64 f2, .int .i64 p2, .int .i64 q2] 23))
        have HP3 := Lib.hid (PhAt.new2 w (.cells #[.bool false, .int .i64 f, .int .i64 p, .int .i64 q] 23) true f2 p2 q2)
        go_enter Try.func4, Try.ntmps4
        go_wp2_with fail
        refine (HK.out _).mono ?_
        rintro e w1 ⟨rfl, hb⟩
        have HB4 := Lib.hid (HB1.out.trans (hb.mono HB1.out.size))
        have HP5 := Lib.hid (HP2.out.below hb HP2.out.lt)
        have HP6 := Lib.hid (HP3.out.below hb HP3.out.lt)
        clear hb HB1 HP2 HP3
        obtain ⟨a1c0, a1c1, a1c2, a1c3⟩ := HP5.out.cells
        have a1f := HP5.out.frozen
        have a1l := HP5.out.lt
        obtain ⟨b1c0, b1c1, b1c2, b1c3⟩ := HP6.out.cells
        have b1f := HP6.out.frozen
        have b1l := HP6.out.lt
        go_wp2_with fail
        refine (HW1.out _).mono ?_
        rintro e w2 ⟨rfl, hb⟩
        have HB7 := Lib.hid (HB4.out.trans (hb.mono HB4.out.size))
        have HP8 := Lib.hid (HP5.out.below hb HP5.out.lt)
        have HP9 := Lib.hid (HP6.out.below hb HP6.out.lt)
        clear hb HB4 HP5 HP6 a1c0 a1c1 a1c2 a1c3 a1f a1l b1c0 b1c1 b1c2 b1c3 b1f b1l
        obtain ⟨a2c0, a2c1, a2c2, a2c3⟩ := HP8.out.cells
        have a2f := HP8.out.frozen
        have a2l := HP8.out.lt
        obtain ⟨b2c0, b2c1, b2c2, b2c3⟩ := HP9.out.cells
        have b2f := HP9.out.frozen
        have b2l := HP9.out.lt
        go_wp2_with fail
        refine (HW2.out _).mono ?_
        rintro e w3 ⟨rfl, hb⟩
        have HB10 := Lib.hid (HB7.out.trans (hb.mono HB7.out.size))
        have HP11 := Lib.hid (HP8.out.below hb HP8.out.lt)
        have HP12 := Lib.hid (HP9.out.below hb HP9.out.lt)
        clear hb HB7 HP8 HP9 a2c0 a2c1 a2c2 a2c3 a2f a2l b2c0 b2c1 b2c2 b2c3 b2f b2l
        obtain ⟨a3c0, a3c1, a3c2, a3c3⟩ := HP11.out.cells
        have a3f := HP11.out.frozen
        have a3l := HP11.out.lt
        obtain ⟨b3c0, b3c1, b3c2, b3c3⟩ := HP12.out.cells
        have b3f := HP12.out.frozen
        have b3l := HP12.out.lt
        have hg := HG.out
        go_wp2
        go_ret
        exact ⟨rfl, HB10.out⟩
      · have HG := Lib.hid (show decide (b < a) = true from g3)
        clear g3 ho HI HG1 HG2
        have HB1 := Lib.hid (((Below.refl w.heap.size w).alloc (Nat.le_refl _) (.cells #[.bool true, .int .i64 f, .int .i64 p, .int .i64 q] 23)).alloc (by simp) (.cells #[.bool false, .int .i64 f2, .int .i64 p2, .int .i64 q2] 23))
        have HP2 := Lib.hid ((PhAt.new w true f p q).alloc (.cells #[.bool false, .int .i64 f2, .int .i64 p2, .int .i64 q2] 23))
        have HP3 := Lib.hid (PhAt.new2 w (.cells #[.bool true, .int .i64 f, .int .i64 p, .int .i64 q] 23) false f2 p2 q2)
        go_enter Try.func4, Try.ntmps4
        go_wp2_with fail
        refine (HK.out _).mono ?_
        rintro e w1 ⟨rfl, hb⟩
        have HB4 := Lib.hid (HB1.out.trans (hb.mono HB1.out.size))
        have HP5 := Lib.hid (HP2.out.below hb HP2.out.lt)
        have HP6 := Lib.hid (HP3.out.below hb HP3.out.lt)
        clear hb HB1 HP2 HP3
        obtain ⟨a1c0, a1c1, a1c2, a1c3⟩ := HP5.out.cells
        have a1f := HP5.out.frozen
        have a1l := HP5.out.lt
        obtain ⟨b1c0, b1c1, b1c2, b1c3⟩ := HP6.out.cells
        have b1f := HP6.out.frozen
        have b1l := HP6.out.lt
        go_wp2_with fail
        refine (HW1.out _).mono ?_
        rintro e w2 ⟨rfl, hb⟩
        have HB7 := Lib.hid (HB4.out.trans (hb.mono HB4.out.size))
        have HP8 := Lib.hid (HP5.out.below hb HP5.out.lt)
        have HP9 := Lib.hid (HP6.out.below hb HP6.out.lt)
        clear hb HB4 HP5 HP6 a1c0 a1c1 a1c2 a1c3 a1f a1l b1c0 b1c1 b1c2 b1c3 b1f b1l
        obtain ⟨a2c0, a2c1, a2c2, a2c3⟩ := HP8.out.cells
        have a2f := HP8.out.frozen
        have a2l := HP8.out.lt
        obtain ⟨b2c0, b2c1, b2c2, b2c3⟩ := HP9.out.cells
        have b2f := HP9.out.frozen
        have b2l := HP9.out.lt
        go_wp2_with fail
        refine (HW2.out _).mono ?_
        rintro e w3 ⟨rfl, hb⟩
        have HB10 := Lib.hid (HB7.out.trans (hb.mono HB7.out.size))
        have HP11 := Lib.hid (HP8.out.below hb HP8.out.lt)
        have HP12 := Lib.hid (HP9.out.below hb HP9.out.lt)
        clear hb HB7 HP8 HP9 a2c0 a2c1 a2c2 a2c3 a2f a2l b2c0 b2c1 b2c2 b2c3 b2f b2l
        obtain ⟨a3c0, a3c1, a3c2, a3c3⟩ := HP11.out.cells
        have a3f := HP11.out.frozen
        have a3l := HP11.out.lt
        obtain ⟨b3c0, b3c1, b3c2, b3c3⟩ := HP12.out.cells
        have b3f := HP12.out.frozen
        have b3l := HP12.out.lt
        have hg := HG.out
        go_wp2
        go_ret
        exact ⟨rfl, HB10.out⟩
      · exact absurd rfl ho
  · exact packedOrder_wrong o f p q o2 f2 p2 q2 w (Classical.byContradiction fun g => h ⟨Classical.byContradiction fun x => g (.inl x), Classical.byContradiction fun x => g (.inr x)⟩)
end Go.Proofs.Ytaklikgdlalhdaa
