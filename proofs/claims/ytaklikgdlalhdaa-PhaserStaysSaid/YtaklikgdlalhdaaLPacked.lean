/-
  The laws of chapter 18: what packing is told first.
-/
import Derived.Test.YtaklikgdlalhdaaPkCode
import Derived.Test.YtaklikgdlalhdaaKPhaser
namespace Go.Proofs.Ytaklikgdlalhdaa
open Go.RowKit
set_option linter.unusedVariables false
set_option linter.unusedSimpArgs false

/-- Two states are the same. -/
def phEq (o : Bool) (f p q : Int) (o' : Bool) (f' p' q' : Int) : Bool := o == o' && (f == f' && (p == p' && q == q'))
theorem phEq_iff {o : Bool} {f p q : Int} {o' : Bool} {f' p' q' : Int} : phEq o f p q o' f' p' q' = true ↔ PhS.mk o f p q = PhS.mk o' f' p' q' := by
  unfold phEq
  simp [PhS.mk.injEq]
theorem phEq_same (o : Bool) (f p q : Int) : phEq o f p q o f p q = true := phEq_iff.2 rfl
theorem fieldsPh : (Try.prog.fieldsOf 23).toList.map (fun f => (f.name, f.type, f.offset)) = [("Over", 4, 0), ("Phase", 3, 1), ("Parties", 3, 2), ("Waiting", 3, 3)] := by kernel_rfl
theorem run_phEq (o : Bool) (f p q : Int) (o' : Bool) (f' p' q' : Int) (w : World) :
    (binOp .eql 23 (.agg #[.bool o, .int .i64 f, .int .i64 p, .int .i64 q]) (.agg #[.bool o', .int .i64 f', .int .i64 p', .int .i64 q'])).run Try.prog w = .ok (.bool (phEq o f p q o' f' p' q')) w := by
  rw [run_eql_struct, run_equalIn_struct w 9999 23 _ _ (by kernel_rfl) (by kernel_rfl)]
  simp [Program.fieldsOf, Try.underlying23, Op.eqFields, go_sem, Try.underlying3, Try.underlying4]
  unfold phEq
  by_cases h1 : o = o'
  · by_cases h2 : f = f'
    · by_cases h3 : p = p'
      · by_cases h4 : q = q' <;> simp [h1, h2, h3, h4]
      · simp [h1, h2, h3]
    · simp [h1, h2]
  · simp [h1]
theorem run_phSame (o : Bool) (f p q : Int) (w : World) :
    (binOp .eql 23 (.agg #[.bool o, .int .i64 f, .int .i64 p, .int .i64 q]) (.agg #[.bool o, .int .i64 f, .int .i64 p, .int .i64 q])).run Try.prog w = .ok (.bool true) w := by
  rw [run_phEq, phEq_same]

theorem packs_any (w : World) : Calls Try.prog 8 #[] w fun e w' => e = .returned (.bool true) ∧ Below w.heap.size w w' := by
  have HW := Lib.hid (fun W => pkWord_yes false 3 2 1 W ⟨⟨by decide, by decide⟩, ⟨by decide, by decide⟩, by decide, by decide⟩)
  rw [show PhS.word ⟨false, 3, 2, 1⟩ = 12885032961 from by decide] at HW
  have HO := Lib.hid (fun W => pkOf_yes (W := 9223372058329612288) (o := true) (f := 5) (p := 0) (q := 0) W (by decide) (by decide) (PhS.ext_iff'.2 ⟨by decide, by decide, by decide, by decide⟩) ⟨⟨by decide, by decide⟩, ⟨by decide, by decide⟩, by decide, by decide⟩)
  go_enter Try.func8, Try.ntmps8
  go_wp2_with fail
  refine (HW.out _).mono ?_
  rintro e w1 ⟨rfl, hb⟩
  have HB := Lib.hid hb
  clear hb HW
  go_wp2_with fail
  refine (HO.out _).mono ?_
  rintro e w2 ⟨rfl, hb⟩
  have HB2 := Lib.hid (HB.out.trans (hb.mono HB.out.size))
  clear hb HO HB
  go_wp2
  --MB
  go_ret
  exact ⟨rfl, HB2.out.alloc HB2.out.size _⟩

/-! PIECE BY PIECE. -/
structure Four (w : World) (b c : Nat) (o : Bool) (f p q : Int) : Prop where
  a0 : PhAt w b o f p q
  a1 : PhAt w c o f (p + 1) q
  a2 : PhAt w (c + 1) o f (p + 1) (q + 1)
  a3 : PhAt w (c + 1 + 1) o (f + 1) p q
theorem Four.below {w w' : World} {b c : Nat} {o : Bool} {f p q : Int} (h : Four w b c o f p q) (hb : Below w.heap.size w w') : Four w' b c o f p q :=
  ⟨h.a0.below hb h.a0.lt, h.a1.below hb h.a1.lt, h.a2.below hb h.a2.lt, h.a3.below hb h.a3.lt⟩
def threeW (w : World) (o : Bool) (f p q : Int) : World := ((w.alloc (.cells #[.bool o, .int .i64 f, .int .i64 (p + 1), .int .i64 q] 23)).alloc (.cells #[.bool o, .int .i64 f, .int .i64 (p + 1), .int .i64 (q + 1)] 23)).alloc (.cells #[.bool o, .int .i64 (f + 1), .int .i64 p, .int .i64 q] 23)
theorem Four.new {w : World} {b : Nat} {o : Bool} {f p q : Int} (h : PhAt w b o f p q) : Four (threeW w o f p q) b w.heap.size o f p q :=
  ⟨((h.alloc _).alloc _).alloc _, ((PhAt.new _ _ _ _ _).alloc _).alloc _, (PhAt.new2 _ _ _ _ _ _).alloc _, PhAt.new3 _ _ _ _ _ _ _⟩
theorem word_parts {o : Bool} {f p q : Int} : PhS.word ⟨o, f, p + 1, q⟩ = PhS.word ⟨o, f, p, q⟩ + 65536 ∧ PhS.word ⟨o, f, p + 1, q + 1⟩ = PhS.word ⟨o, f, p + 1, q⟩ + 1 ∧ PhS.word ⟨o, f + 1, p, q⟩ = PhS.word ⟨o, f, p, q⟩ + 4294967296 := by
  unfold PhS.word
  refine ⟨?_, ?_, ?_⟩
  · show q + 65536 * (p + 1) + 4294967296 * f + overW o = q + 65536 * p + 4294967296 * f + overW o + 65536
    omega
  · show q + 1 + 65536 * (p + 1) + 4294967296 * f + overW o = q + 65536 * (p + 1) + 4294967296 * f + overW o + 1
    omega
  · show q + 65536 * p + 4294967296 * (f + 1) + overW o = q + 65536 * p + 4294967296 * f + overW o + 4294967296
    omega
set_option maxHeartbeats 4000000 in
theorem packedParts_wrong (o : Bool) (f p q : Int) (w : World) (hk : ¬ PhS.ok ⟨o, f, p, q⟩) : Calls Try.prog 5 #[.agg #[.bool o, .int .i64 f, .int .i64 p, .int .i64 q]] w fun e w' => e = .returned (.bool true) ∧ Below w.heap.size w w' := by
  have HK := Lib.hid (fun W => packs_any W)
  have HN := Lib.hid (And.intro ((Below.refl w.heap.size w).alloc (Nat.le_refl _) (.cells #[.bool o, .int .i64 f, .int .i64 p, .int .i64 q] 23)) (PhAt.new w o f p q))
  have HR := Lib.hid (fun W => pkRight_no o f p q W hk)
  clear hk
  go_enter Try.func5, Try.ntmps5
  go_wp2_with fail
  refine (HK.out _).mono ?_
  rintro e w1 ⟨rfl, hb⟩
  have HBa := Lib.hid (HN.out.1.trans (hb.mono HN.out.1.size))
  have HP1 := Lib.hid (HN.out.2.below hb HN.out.2.lt)
  have HBz := Lib.hid (((HBa.out.alloc HBa.out.size (.cells #[.bool o, .int .i64 f, .int .i64 (wrap64 (p + 1)), .int .i64 q] 23)).alloc (by have := HBa.out.size; simp; omega) (.cells #[.bool o, .int .i64 f, .int .i64 (wrap64 (p + 1)), .int .i64 (wrap64 (q + 1))] 23)).alloc (by have := HBa.out.size; simp; omega) (.cells #[.bool o, .int .i64 (wrap64 (f + 1)), .int .i64 p, .int .i64 q] 23))
  obtain ⟨c0, c1, c2, c3⟩ := HP1.out.cells
  have hlt := HP1.out.lt
  have hlt1 : w.heap.size < w1.heap.size + 1 := by omega
  have hlt2 : w.heap.size < w1.heap.size + 1 + 1 := by omega
  clear hb HK HN HBa
  go_wp2_with fail
  refine (HR.out _).mono ?_
  rintro e w2 ⟨rfl, hb⟩
  have HB := Lib.hid (HBz.out.trans (hb.mono HBz.out.size))
  clear hb HR HBz HP1 c0 c1 c2 c3
  go_wp2
  go_ret
  exact ⟨rfl, HB.out⟩
set_option maxHeartbeats 4000000 in
theorem packedParts_any (o : Bool) (f p q : Int) (w : World) : Calls Try.prog 5 #[.agg #[.bool o, .int .i64 f, .int .i64 p, .int .i64 q]] w fun e w' => e = .returned (.bool true) ∧ Below w.heap.size w w' := by
  by_cases hk : PhS.ok ⟨o, f, p, q⟩
  · have HK := Lib.hid (fun W => packs_any W)
    have HN := Lib.hid (And.intro ((Below.refl w.heap.size w).alloc (Nat.le_refl _) (.cells #[.bool o, .int .i64 f, .int .i64 p, .int .i64 q] 23)) (PhAt.new w o f p q))
    have HR0 := Lib.hid (fun W => pkRight_yes o f p q W hk)
    have HW0 := Lib.hid (fun W => pkWord_yes o f p q W hk)
    have HLt := Lib.hid (PhS.word_lt hk)
    have HKk := Lib.hid hk
    obtain ⟨⟨f0, f1⟩, ⟨p0, p1⟩, q0, q1⟩ := hk
    have f0 : 0 ≤ f := f0
    have f1 : f ≤ 2147483647 := f1
    have p0 : 0 ≤ p := p0
    have p1 : p ≤ 65535 := p1
    have q0 : 0 ≤ q := q0
    have q1 : q ≤ p := q1
    have q2 : q ≤ 65535 := by omega
    by_cases hr : PhS.ok ⟨o, f, p + 1, q + 1⟩
    · have HR2 := Lib.hid (fun W => pkRight_yes o f (p + 1) (q + 1) W hr)
      have HW2 := Lib.hid (fun W => pkWord_yes o f (p + 1) (q + 1) W hr)
      have HW1 := Lib.hid (fun W => pkWord_yes o f (p + 1) q W ⟨⟨f0, f1⟩, hr.2.1, q0, by show q ≤ p + 1; omega⟩)
      by_cases hs : PhS.ok ⟨o, f + 1, p, q⟩
      · have HR3 := Lib.hid (fun W => pkRight_yes o (f + 1) p q W hs)
        have HW3 := Lib.hid (fun W => pkWord_yes o (f + 1) p q W hs)
        have HLt2 := Lib.hid (PhS.word_lt hs)
        have HLt3 := Lib.hid (PhS.word_lt hr)
        obtain ⟨e1, e2, e3⟩ := word_parts (o := o) (f := f) (p := p) (q := q)
        rw [e2, e1] at HLt3 HW2
        rw [e1] at HW1
        rw [e3] at HLt2 HW3
        obtain ⟨W0, hW0⟩ : ∃ W0, PhS.word ⟨o, f, p, q⟩ = W0 := ⟨_, rfl⟩
        rw [hW0] at HW0 HW1 HW2 HW3 HLt HLt2 HLt3
        have l1 := HLt.out
        have l2 := HLt2.out
        have l3 := HLt3.out
        have HE1 := Lib.hid (wraps_u64 (W0 + 65536) (by omega) (by omega))
        have HE2 := Lib.hid (wraps_u64 (W0 + 65536 + 1) (by omega) (by omega))
        have HE3 := Lib.hid (wraps_u64 (W0 + 4294967296) (by omega) (by omega))
        clear hW0 e1 e2 e3 hr hs l1 l2 l3
        go_enter Try.func5, Try.ntmps5
        go_wp2_with fail
        refine (HK.out _).mono ?_
        rintro e w1 ⟨rfl, hb⟩
        have HBa := Lib.hid (HN.out.1.trans (hb.mono HN.out.1.size))
        have HP1 := Lib.hid (HN.out.2.below hb HN.out.2.lt)
        have HF1 := Lib.hid (Four.new HP1.out)
        have HB1 := Lib.hid (show Below w.heap.size w (threeW w1 o f p q) from ((HBa.out.alloc HBa.out.size _).alloc (by have := HBa.out.size; simp; omega) _).alloc (by have := HBa.out.size; simp; omega) _)
        obtain ⟨c0, c1, c2, c3⟩ := HP1.out.cells
        have hlt := HP1.out.lt
        have hlt1 : w.heap.size < w1.heap.size + 1 := by omega
        have hlt2 : w.heap.size < w1.heap.size + 1 + 1 := by omega
        clear hb HK HN HBa
        go_wp2_with fail
        refine (HR0.out _).mono ?_
        rintro e w2 ⟨rfl, hb⟩
        have HB2 := Lib.hid (HB1.out.trans (hb.mono HB1.out.size))
        have HF2 := Lib.hid (HF1.out.below hb)
        clear hb HB1 HF1 c0 c1 c2 c3 hlt hlt1 hlt2
        obtain ⟨a0, a1, a2, a3⟩ := HF2.out.a0.cells
        obtain ⟨b0, b1, b2, b3⟩ := HF2.out.a1.cells
        obtain ⟨c0, c1, c2, c3⟩ := HF2.out.a2.cells
        obtain ⟨d0, d1, d2, d3⟩ := HF2.out.a3.cells
        go_wp2_with fail
        refine (HR2.out _).mono ?_
        rintro e w3 ⟨rfl, hb⟩
        have HB3 := Lib.hid (HB2.out.trans (hb.mono HB2.out.size))
        have HF3 := Lib.hid (HF2.out.below hb)
        clear hb HB2 HF2 a0 a1 a2 a3 b0 b1 b2 b3 c0 c1 c2 c3 d0 d1 d2 d3
        obtain ⟨a0, a1, a2, a3⟩ := HF3.out.a0.cells
        obtain ⟨b0, b1, b2, b3⟩ := HF3.out.a1.cells
        obtain ⟨c0, c1, c2, c3⟩ := HF3.out.a2.cells
        obtain ⟨d0, d1, d2, d3⟩ := HF3.out.a3.cells
        go_wp2_with fail
        refine (HR3.out _).mono ?_
        rintro e w4 ⟨rfl, hb⟩
        have HB4 := Lib.hid (HB3.out.trans (hb.mono HB3.out.size))
        have HF4 := Lib.hid (HF3.out.below hb)
        clear hb HB3 HF3 a0 a1 a2 a3 b0 b1 b2 b3 c0 c1 c2 c3 d0 d1 d2 d3
        obtain ⟨a0, a1, a2, a3⟩ := HF4.out.a0.cells
        obtain ⟨b0, b1, b2, b3⟩ := HF4.out.a1.cells
        obtain ⟨c0, c1, c2, c3⟩ := HF4.out.a2.cells
        obtain ⟨d0, d1, d2, d3⟩ := HF4.out.a3.cells
        go_wp2_with fail
        refine (HW0.out _).mono ?_
        rintro e w5 ⟨rfl, hb⟩
        have HB5 := Lib.hid (HB4.out.trans (hb.mono HB4.out.size))
        have HF5 := Lib.hid (HF4.out.below hb)
        clear hb HB4 HF4 a0 a1 a2 a3 b0 b1 b2 b3 c0 c1 c2 c3 d0 d1 d2 d3
        obtain ⟨a0, a1, a2, a3⟩ := HF5.out.a0.cells
        obtain ⟨b0, b1, b2, b3⟩ := HF5.out.a1.cells
        obtain ⟨c0, c1, c2, c3⟩ := HF5.out.a2.cells
        obtain ⟨d0, d1, d2, d3⟩ := HF5.out.a3.cells
        go_wp2_with fail
        refine (HW1.out _).mono ?_
        rintro e w6 ⟨rfl, hb⟩
        have HB6 := Lib.hid (HB5.out.trans (hb.mono HB5.out.size))
        have HF6 := Lib.hid (HF5.out.below hb)
        clear hb HB5 HF5 a0 a1 a2 a3 b0 b1 b2 b3 c0 c1 c2 c3 d0 d1 d2 d3
        obtain ⟨a0, a1, a2, a3⟩ := HF6.out.a0.cells
        obtain ⟨b0, b1, b2, b3⟩ := HF6.out.a1.cells
        obtain ⟨c0, c1, c2, c3⟩ := HF6.out.a2.cells
        obtain ⟨d0, d1, d2, d3⟩ := HF6.out.a3.cells
        go_wp2_with fail
        refine (HW2.out _).mono ?_
        rintro e w7 ⟨rfl, hb⟩
        have HB7 := Lib.hid (HB6.out.trans (hb.mono HB6.out.size))
        have HF7 := Lib.hid (HF6.out.below hb)
        clear hb HB6 HF6 a0 a1 a2 a3 b0 b1 b2 b3 c0 c1 c2 c3 d0 d1 d2 d3
        obtain ⟨a0, a1, a2, a3⟩ := HF7.out.a0.cells
        obtain ⟨b0, b1, b2, b3⟩ := HF7.out.a1.cells
        obtain ⟨c0, c1, c2, c3⟩ := HF7.out.a2.cells
        obtain ⟨d0, d1, d2, d3⟩ := HF7.out.a3.cells
        go_wp2_with fail
        refine (HW3.out _).mono ?_
        rintro e w8 ⟨rfl, hb⟩
        have HB8 := Lib.hid (HB7.out.trans (hb.mono HB7.out.size))
        have HF8 := Lib.hid (HF7.out.below hb)
        clear hb HB7 HF7 a0 a1 a2 a3 b0 b1 b2 b3 c0 c1 c2 c3 d0 d1 d2 d3
        obtain ⟨a0, a1, a2, a3⟩ := HF8.out.a0.cells
        obtain ⟨b0, b1, b2, b3⟩ := HF8.out.a1.cells
        obtain ⟨c0, c1, c2, c3⟩ := HF8.out.a2.cells
        obtain ⟨d0, d1, d2, d3⟩ := HF8.out.a3.cells
        have e1 := HE1.out
        have e2 := HE2.out
        have e3 := HE3.out
        clear a0 a1 a2 a3 b0 b1 b2 b3 c0 c1 c2 c3 d0 d1 d2 d3
        go_wp2
        --MC
        go_ret
        exact ⟨rfl, HB8.out⟩
      · have HR3 := Lib.hid (fun W => pkRight_no o (f + 1) p q W hs)
        clear hr hs
        go_enter Try.func5, Try.ntmps5
        go_wp2_with fail
        refine (HK.out _).mono ?_
        rintro e w1 ⟨rfl, hb⟩
        have HBa := Lib.hid (HN.out.1.trans (hb.mono HN.out.1.size))
        have HP1 := Lib.hid (HN.out.2.below hb HN.out.2.lt)
        have HF1 := Lib.hid (Four.new HP1.out)
        have HB1 := Lib.hid (show Below w.heap.size w (threeW w1 o f p q) from ((HBa.out.alloc HBa.out.size _).alloc (by have := HBa.out.size; simp; omega) _).alloc (by have := HBa.out.size; simp; omega) _)
        obtain ⟨c0, c1, c2, c3⟩ := HP1.out.cells
        have hlt := HP1.out.lt
        have hlt1 : w.heap.size < w1.heap.size + 1 := by omega
        have hlt2 : w.heap.size < w1.heap.size + 1 + 1 := by omega
        clear hb HK HN HBa
        go_wp2_with fail
        refine (HR0.out _).mono ?_
        rintro e w2 ⟨rfl, hb⟩
        have HB2 := Lib.hid (HB1.out.trans (hb.mono HB1.out.size))
        have HF2 := Lib.hid (HF1.out.below hb)
        clear hb HB1 HF1 c0 c1 c2 c3 hlt hlt1 hlt2
        obtain ⟨a0, a1, a2, a3⟩ := HF2.out.a0.cells
        obtain ⟨b0, b1, b2, b3⟩ := HF2.out.a1.cells
        obtain ⟨c0, c1, c2, c3⟩ := HF2.out.a2.cells
        obtain ⟨d0, d1, d2, d3⟩ := HF2.out.a3.cells
        go_wp2_with fail
        refine (HR2.out _).mono ?_
        rintro e w3 ⟨rfl, hb⟩
        have HB3 := Lib.hid (HB2.out.trans (hb.mono HB2.out.size))
        have HF3 := Lib.hid (HF2.out.below hb)
        clear hb HB2 HF2 a0 a1 a2 a3 b0 b1 b2 b3 c0 c1 c2 c3 d0 d1 d2 d3
        obtain ⟨a0, a1, a2, a3⟩ := HF3.out.a0.cells
        obtain ⟨b0, b1, b2, b3⟩ := HF3.out.a1.cells
        obtain ⟨c0, c1, c2, c3⟩ := HF3.out.a2.cells
        obtain ⟨d0, d1, d2, d3⟩ := HF3.out.a3.cells
        go_wp2_with fail
        refine (HR3.out _).mono ?_
        rintro e w4 ⟨rfl, hb⟩
        have HB4 := Lib.hid (HB3.out.trans (hb.mono HB3.out.size))
        have HF4 := Lib.hid (HF3.out.below hb)
        clear hb HB3 HF3 a0 a1 a2 a3 b0 b1 b2 b3 c0 c1 c2 c3 d0 d1 d2 d3
        obtain ⟨a0, a1, a2, a3⟩ := HF4.out.a0.cells
        obtain ⟨b0, b1, b2, b3⟩ := HF4.out.a1.cells
        obtain ⟨c0, c1, c2, c3⟩ := HF4.out.a2.cells
        obtain ⟨d0, d1, d2, d3⟩ := HF4.out.a3.cells
        go_wp2
        go_ret
        exact ⟨rfl, HB4.out⟩
    · have HR2 := Lib.hid (fun W => pkRight_no o f (p + 1) (q + 1) W hr)
      clear hr
      go_enter Try.func5, Try.ntmps5
      go_wp2_with fail
      refine (HK.out _).mono ?_
      rintro e w1 ⟨rfl, hb⟩
      have HBa := Lib.hid (HN.out.1.trans (hb.mono HN.out.1.size))
      have HP1 := Lib.hid (HN.out.2.below hb HN.out.2.lt)
      have HF1 := Lib.hid (Four.new HP1.out)
      have HB1 := Lib.hid (show Below w.heap.size w (threeW w1 o f p q) from ((HBa.out.alloc HBa.out.size _).alloc (by have := HBa.out.size; simp; omega) _).alloc (by have := HBa.out.size; simp; omega) _)
      obtain ⟨c0, c1, c2, c3⟩ := HP1.out.cells
      have hlt := HP1.out.lt
      have hlt1 : w.heap.size < w1.heap.size + 1 := by omega
      have hlt2 : w.heap.size < w1.heap.size + 1 + 1 := by omega
      clear hb HK HN HBa
      go_wp2_with fail
      refine (HR0.out _).mono ?_
      rintro e w2 ⟨rfl, hb⟩
      have HB2 := Lib.hid (HB1.out.trans (hb.mono HB1.out.size))
      have HF2 := Lib.hid (HF1.out.below hb)
      clear hb HB1 HF1 c0 c1 c2 c3 hlt hlt1 hlt2
      obtain ⟨a0, a1, a2, a3⟩ := HF2.out.a0.cells
      obtain ⟨b0, b1, b2, b3⟩ := HF2.out.a1.cells
      obtain ⟨c0, c1, c2, c3⟩ := HF2.out.a2.cells
      obtain ⟨d0, d1, d2, d3⟩ := HF2.out.a3.cells
      go_wp2_with fail
      refine (HR2.out _).mono ?_
      rintro e w3 ⟨rfl, hb⟩
      have HB3 := Lib.hid (HB2.out.trans (hb.mono HB2.out.size))
      have HF3 := Lib.hid (HF2.out.below hb)
      clear hb HB2 HF2 a0 a1 a2 a3 b0 b1 b2 b3 c0 c1 c2 c3 d0 d1 d2 d3
      obtain ⟨a0, a1, a2, a3⟩ := HF3.out.a0.cells
      obtain ⟨b0, b1, b2, b3⟩ := HF3.out.a1.cells
      obtain ⟨c0, c1, c2, c3⟩ := HF3.out.a2.cells
      obtain ⟨d0, d1, d2, d3⟩ := HF3.out.a3.cells
      go_wp2
      go_ret
      exact ⟨rfl, HB3.out⟩
  · exact packedParts_wrong o f p q w hk
end Go.Proofs.Ytaklikgdlalhdaa
