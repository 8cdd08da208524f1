/-
  The reference's phaser: whether a state may be, its word, the state that a word is, whether a call may be.
-/
import Derived.Test.YtaklikgdlalhdaaDoorPsDo
namespace Go.Proofs.YtaklikgdlalhdaaDoor
set_option maxRecDepth 100000
open Go.RowKit
set_option linter.unusedVariables false
set_option linter.unusedSimpArgs false

theorem rwithin_any (x a b : Int) (w : World) : Calls Tryd.prog 13 #[.int .i64 x, .int .i64 a, .int .i64 b] w fun e w' => e = .returned (.bool (decide (a ≤ x ∧ x ≤ b))) ∧ w = w' := by
  by_cases h : a ≤ x
  · by_cases h2 : x ≤ b
    · have e : decide (a ≤ x ∧ x ≤ b) = true := decide_eq_true ⟨h, h2⟩
      rw [e]
      go_enter Tryd.func13, Tryd.ntmps13
      go_wp2
      go_ret
      exact ⟨rfl, rfl⟩
    · have e : decide (a ≤ x ∧ x ≤ b) = false := decide_eq_false fun h => h2 h.2
      rw [e]
      go_enter Tryd.func13, Tryd.ntmps13
      go_wp2
      go_ret
      exact ⟨rfl, rfl⟩
  · have e : decide (a ≤ x ∧ x ≤ b) = false := decide_eq_false fun h' => h h'.1
    rw [e]
    go_enter Tryd.func13, Tryd.ntmps13
    go_wp2
    go_ret
    exact ⟨rfl, rfl⟩
theorem rwithin_yes {x a b : Int} (h : a ≤ x ∧ x ≤ b) (w : World) : Calls Tryd.prog 13 #[.int .i64 x, .int .i64 a, .int .i64 b] w fun e w' => e = .returned (.bool true) ∧ w = w' := by
  have := rwithin_any x a b w
  rwa [decide_eq_true h] at this
theorem rwithin_no {x a b : Int} (h : ¬ (a ≤ x ∧ x ≤ b)) (w : World) : Calls Tryd.prog 13 #[.int .i64 x, .int .i64 a, .int .i64 b] w fun e w' => e = .returned (.bool false) ∧ w = w' := by
  have := rwithin_any x a b w
  rwa [decide_eq_false h] at this

theorem rRight_yes (o : Bool) (f p q : Int) (w : World) (h : PhS.ok ⟨o, f, p, q⟩) : Calls Tryd.prog 10 #[.agg #[.bool o, .int .i64 f, .int .i64 p, .int .i64 q]] w fun e w' => e = .returned (.bool true) ∧ Below w.heap.size w w' := by
  obtain ⟨h1, h2, h3⟩ := h
  have H1 := Lib.hid (fun W => rwithin_yes h1 W)
  have H2 := Lib.hid (fun W => rwithin_yes h2 W)
  have H3 := Lib.hid (fun W => rwithin_yes h3 W)
  clear h1 h2 h3
  go_enter Tryd.func10, Tryd.ntmps10
  go_wp2_with fail
  refine (H1.out _).mono ?_
  rintro e w1 ⟨rfl, rfl⟩
  go_wp2_with fail
  refine (H2.out _).mono ?_
  rintro e w1 ⟨rfl, rfl⟩
  go_wp2_with fail
  refine (H3.out _).mono ?_
  rintro e w1 ⟨rfl, rfl⟩
  go_wp2
  go_ret
  exact ⟨rfl, (Below.refl _ _).alloc (Nat.le_refl _) _⟩
theorem rRight_no (o : Bool) (f p q : Int) (w : World) (h : ¬ PhS.ok ⟨o, f, p, q⟩) : Calls Tryd.prog 10 #[.agg #[.bool o, .int .i64 f, .int .i64 p, .int .i64 q]] w fun e w' => e = .returned (.bool false) ∧ Below w.heap.size w w' := by
  by_cases h1 : 0 ≤ f ∧ f ≤ 2147483647
  · have H1 := Lib.hid (fun W => rwithin_yes h1 W)
    by_cases h2 : 0 ≤ p ∧ p ≤ 65535
    · have H2 := Lib.hid (fun W => rwithin_yes h2 W)
      have h3 : ¬ (0 ≤ q ∧ q ≤ p) := fun h3 => h ⟨h1, h2, h3⟩
      have H3 := Lib.hid (fun W => rwithin_no h3 W)
      clear h h1 h2 h3
      go_enter Tryd.func10, Tryd.ntmps10
      go_wp2_with fail
      refine (H1.out _).mono ?_
      rintro e w1 ⟨rfl, rfl⟩
      go_wp2_with fail
      refine (H2.out _).mono ?_
      rintro e w1 ⟨rfl, rfl⟩
      go_wp2_with fail
      refine (H3.out _).mono ?_
      rintro e w1 ⟨rfl, rfl⟩
      go_wp2
      go_ret
      exact ⟨rfl, (Below.refl _ _).alloc (Nat.le_refl _) _⟩
    · have H2 := Lib.hid (fun W => rwithin_no h2 W)
      clear h h1 h2
      go_enter Tryd.func10, Tryd.ntmps10
      go_wp2_with fail
      refine (H1.out _).mono ?_
      rintro e w1 ⟨rfl, rfl⟩
      go_wp2_with fail
      refine (H2.out _).mono ?_
      rintro e w1 ⟨rfl, rfl⟩
      go_wp2
      go_ret
      exact ⟨rfl, (Below.refl _ _).alloc (Nat.le_refl _) _⟩
  · have H1 := Lib.hid (fun W => rwithin_no h1 W)
    clear h h1
    go_enter Tryd.func10, Tryd.ntmps10
    go_wp2_with fail
    refine (H1.out _).mono ?_
    rintro e w1 ⟨rfl, rfl⟩
    go_wp2
    go_ret
    exact ⟨rfl, (Below.refl _ _).alloc (Nat.le_refl _) _⟩

theorem rword_false {f p q : Int} (h : PhS.ok ⟨false, f, p, q⟩) :
    IntKind.u64.wrap (IntKind.u64.wrap (IntKind.u64.wrap (IntKind.u64.wrap (IntKind.u64.wrap f * 65536) + IntKind.u64.wrap p) * 65536) + IntKind.u64.wrap q) = PhS.word ⟨false, f, p, q⟩ := by
  obtain ⟨⟨a, b⟩, ⟨c, d⟩, e, g⟩ := h
  have a : 0 ≤ f := a
  have b : f ≤ 2147483647 := b
  have c : 0 ≤ p := c
  have d : p ≤ 65535 := d
  have e : 0 ≤ q := e
  have g : q ≤ p := g
  rw [wraps_u64 q (by omega) (by omega), wraps_u64 p (by omega) (by omega), wraps_u64 f (by omega) (by omega), wraps_u64 (f * 65536) (by omega) (by omega), wraps_u64 (f * 65536 + p) (by omega) (by omega), wraps_u64 ((f * 65536 + p) * 65536) (by omega) (by omega), wraps_u64 _ (by omega) (by omega)]
  show _ = q + 65536 * p + 4294967296 * f + 0
  omega
theorem rword_true {f p q : Int} (h : PhS.ok ⟨true, f, p, q⟩) :
    IntKind.u64.wrap (IntKind.u64.wrap (IntKind.u64.wrap (IntKind.u64.wrap (IntKind.u64.wrap (IntKind.u64.wrap f * 65536) + IntKind.u64.wrap p) * 65536) + IntKind.u64.wrap q) + 9223372036854775808) = PhS.word ⟨true, f, p, q⟩ := by
  rw [rword_false (show PhS.ok ⟨false, f, p, q⟩ from h)]
  obtain ⟨⟨a, b⟩, ⟨c, d⟩, e, g⟩ := h
  have a : 0 ≤ f := a
  have b : f ≤ 2147483647 := b
  have c : 0 ≤ p := c
  have d : p ≤ 65535 := d
  have e : 0 ≤ q := e
  have g : q ≤ p := g
  have e1 : PhS.word ⟨false, f, p, q⟩ = q + 65536 * p + 4294967296 * f + 0 := rfl
  rw [e1, wraps_u64 _ (by omega) (by omega)]
  show _ = q + 65536 * p + 4294967296 * f + 9223372036854775808
  omega
theorem ret_rword {a b : Int} (h : a = b) : Ending.returned (.tuple #[.int .u64 a, .int .i64 0]) = .returned (.tuple #[.int .u64 b, .int .i64 0]) := by rw [h]
theorem rWord_yes (o : Bool) (f p q : Int) (w : World) (h : PhS.ok ⟨o, f, p, q⟩) : Calls Tryd.prog 4 #[.agg #[.bool o, .int .i64 f, .int .i64 p, .int .i64 q]] w fun e w' => e = .returned (.tuple #[.int .u64 (PhS.word ⟨o, f, p, q⟩), .int .i64 0]) ∧ Below w.heap.size w w' := by
  have HR := Lib.hid (fun W => rRight_yes o f p q W h)
  have H := Lib.hid h
  clear h
  cases o
  · go_enter Tryd.func4, Tryd.ntmps4
    go_wp2_with fail
    refine (HR.out _).mono ?_
    rintro e w1 ⟨rfl, hb⟩
    obtain ⟨hc, hf⟩ := bcell hb
    have HB := Lib.hid hb
    clear hb HR
    go_wp2
    go_ret2
    --MA
    exact ⟨ret_rword (rword_false H.out), ((Below.refl _ _).alloc (Nat.le_refl _) _).trans (HB.out.mono (by simp))⟩
  · go_enter Tryd.func4, Tryd.ntmps4
    go_wp2_with fail
    refine (HR.out _).mono ?_
    rintro e w1 ⟨rfl, hb⟩
    obtain ⟨hc, hf⟩ := bcell hb
    have HB := Lib.hid hb
    clear hb HR
    go_wp2
    go_ret2
    --MB
    exact ⟨ret_rword (rword_true H.out), ((Below.refl _ _).alloc (Nat.le_refl _) _).trans (HB.out.mono (by simp))⟩
theorem rWord_no (o : Bool) (f p q : Int) (w : World) (h : ¬ PhS.ok ⟨o, f, p, q⟩) : Calls Tryd.prog 4 #[.agg #[.bool o, .int .i64 f, .int .i64 p, .int .i64 q]] w fun e w' => e = .returned (.tuple #[.int .u64 0, .int .i64 1]) ∧ Below w.heap.size w w' := by
  have HR := Lib.hid (fun W => rRight_no o f p q W h)
  clear h
  go_enter Tryd.func4, Tryd.ntmps4
  go_wp2_with fail
  refine (HR.out _).mono ?_
  rintro e w1 ⟨rfl, hb⟩
  have HB := Lib.hid hb
  clear hb HR
  go_wp2
  go_ret2
  exact ⟨rfl, ((Below.refl _ _).alloc (Nat.le_refl _) _).trans (HB.out.mono (by simp))⟩
theorem rof_bits {W : Int} (h0 : 0 ≤ W) (h1 : W < 18446744073709551616) {o : Bool} {f p q : Int} (h : phOf W = ⟨o, f, p, q⟩) :
    decide (9223372036854775808 ≤ W) = o ∧ W % 9223372036854775808 / 65536 / 65536 = f ∧ W % 9223372036854775808 / 65536 % 65536 = p ∧ W % 65536 = q := by
  unfold phOf at h
  injection h with a b c d
  refine ⟨a, ?_, ?_, d⟩
  · rw [← b]
    omega
  · rw [← c]
    omega
theorem rOf_yes {W : Int} (w : World) (h0 : 0 ≤ W) (h1 : W < 18446744073709551616) {o : Bool} {f p q : Int} (hx : phOf W = ⟨o, f, p, q⟩) (h : PhS.ok ⟨o, f, p, q⟩) : Calls Tryd.prog 6 #[.int .u64 W] w fun e w' => e = .returned (.tuple #[.agg #[.bool o, .int .i64 f, .int .i64 p, .int .i64 q], .int .i64 0]) ∧ Below w.heap.size w w' := by
  have HR := Lib.hid (fun w => rRight_yes o f p q w h)
  obtain ⟨e1, e2, e3, e4⟩ := rof_bits h0 h1 hx
  have HX := Lib.hid (((Below.refl w.heap.size w).alloc (Nat.le_refl _) (.cells #[.bool false, .int .i64 0, .int .i64 0, .int .i64 0] 23)).alloc (by simp) (.cells #[.bool o, .int .i64 f, .int .i64 p, .int .i64 q] 23))
  have HP := Lib.hid ((PhAt.new w false 0 0 0).alloc (.cells #[.bool o, .int .i64 f, .int .i64 p, .int .i64 q] 23))
  clear h hx
  go_enter Tryd.func6, Tryd.ntmps6
  go_wp2_with fail
  clear e1 e2 e3 e4 h0 h1
  refine (HR.out _).mono ?_
  rintro e w1 ⟨rfl, hb⟩
  obtain ⟨hc, hf⟩ := bcell hb
  have HB := Lib.hid (HX.out.trans (hb.mono (by simp; omega)))
  have HP1 := Lib.hid (HP.out.below hb (by simp; omega))
  have hz : w.heap.size + 1 < w1.heap.size := by have := hb.size; simp at this; omega
  clear hb HR
  go_wp2
  exact bodyPost_ret ((HP1.out.set4 o f p q).res2 (fn := Tryd.f6) (p0 := 2) (u := 3) (v := .int .i64 0) (by kernel_rfl) _ (by rfl) (by rfl)) rfl ⟨rfl, below4 HB.out (Nat.le_refl _) o f p q⟩
theorem rOf_no {W : Int} (w : World) (h0 : 0 ≤ W) (h1 : W < 18446744073709551616) {o : Bool} {f p q : Int} (hx : phOf W = ⟨o, f, p, q⟩) (h : ¬ PhS.ok ⟨o, f, p, q⟩) : Calls Tryd.prog 6 #[.int .u64 W] w fun e w' => e = .returned (.tuple #[.agg #[.bool false, .int .i64 0, .int .i64 0, .int .i64 0], .int .i64 3]) ∧ Below w.heap.size w w' := by
  have HR := Lib.hid (fun w => rRight_no o f p q w h)
  obtain ⟨e1, e2, e3, e4⟩ := rof_bits h0 h1 hx
  have HX := Lib.hid (((Below.refl w.heap.size w).alloc (Nat.le_refl _) (.cells #[.bool false, .int .i64 0, .int .i64 0, .int .i64 0] 23)).alloc (by simp) (.cells #[.bool o, .int .i64 f, .int .i64 p, .int .i64 q] 23))
  have HP := Lib.hid ((PhAt.new w false 0 0 0).alloc (.cells #[.bool o, .int .i64 f, .int .i64 p, .int .i64 q] 23))
  clear h hx
  go_enter Tryd.func6, Tryd.ntmps6
  go_wp2_with fail
  clear e1 e2 e3 e4 h0 h1
  refine (HR.out _).mono ?_
  rintro e w1 ⟨rfl, hb⟩
  obtain ⟨hc, hf⟩ := bcell hb
  have HB := Lib.hid (HX.out.trans (hb.mono (by simp; omega)))
  have HP1 := Lib.hid (HP.out.below hb (by simp; omega))
  have hz : w.heap.size + 1 < w1.heap.size := by have := hb.size; simp at this; omega
  clear hb HR
  go_wp2
  exact bodyPost_ret ((HP1.out.set4 false 0 0 0).res2 (fn := Tryd.f6) (p0 := 2) (u := 3) (v := .int .i64 3) (by kernel_rfl) _ (by rfl) (by rfl)) rfl ⟨rfl, below4 HB.out (Nat.le_refl _) false 0 0 0⟩

/-! Fits. -/
end Go.Proofs.YtaklikgdlalhdaaDoor
