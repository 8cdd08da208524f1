/-
  IN WHICHEVER ORDER: two who arrive, of more, come to the same; so do two who come; so does one who comes and one who arrives, if not all have.
-/
import Derived.Test.YtaklikgdlalhdabLPhaser
import Derived.Deep.RegionHeld3
import Derived.Deep.DeepCutAuto
import Derived.Deep.CutRange
namespace Go.Proofs.Ytaklikgdlalhdab
open Go.RowKit
set_option linter.unusedVariables false
set_option linter.unusedSimpArgs false

theorem pick_three (a : Int) : ∃ k : Int, 0 ≤ k ∧ k < 3 ∧ ∀ w : World, Calls Try.prog 9 #[.int .i64 a, .int .i64 3] w fun e w' => e = .returned (.int .i64 k) ∧ w = w' := pick_at a 3 (by decide) (by decide)
theorem CaAt.far {w : World} {b : Nat} {a n : Int} (h : CaAt w b a n) {x : Addr} (hn : b ≠ x.block) (v : Value) : CaAt (w.setCell x v) b a n := (Below.heap_setCell w x v b hn).trans h
theorem CaAt.far4 {w : World} {b c : Nat} {a n : Int} (h : CaAt w b a n) (hn : b ≠ c) (o' : Bool) (f' p' q' : Int) : CaAt (put4 w c o' f' p' q') b a n := (((h.far (x := ⟨c, 0, none⟩) hn _).far (x := ⟨c, 1, none⟩) hn _).far (x := ⟨c, 2, none⟩) hn _).far (x := ⟨c, 3, none⟩) hn _
theorem CaAt.drew {w : World} {b : Nat} {a n : Int} (h : CaAt w b a n) : CaAt w.drew b a n := h
theorem CaAt.new (w : World) (a n : Int) : CaAt (w.alloc (.cells #[.int .i64 a, .int .i64 n] 32)) w.heap.size a n := heap_alloc_new w _
/-- The three calls, in a row. -/
def callRow : Obj := .cells #[.int .i64 7, .int .i64 0, .int .i64 8, .int .i64 0, .int .i64 6, .int .i64 2] 32
theorem callRow_at {X : World} {R : Nat} (h : X.heap[R]? = some callRow) {i : Nat} (hi : i < 3) : ∃ a n : Int, soft a n ∧ X.cell? ⟨R, i * 2, none⟩ = some (.int .i64 a) ∧ X.cell? ⟨R, i * 2 + 1, none⟩ = some (.int .i64 n) := by
  have hc : ∀ j, X.cell? ⟨R, j, none⟩ = (#[.int .i64 7, .int .i64 0, .int .i64 8, .int .i64 0, .int .i64 6, .int .i64 2] : Array Value)[j]? := fun j => cell_of_row X R j _ _ _ h
  have h3 : i = 0 ∨ i = 1 ∨ i = 2 := by omega
  rcases h3 with rfl | rfl | rfl
  · exact ⟨7, 0, .inl ⟨rfl, rfl⟩, hc 0, hc 1⟩
  · exact ⟨8, 0, .inr (.inl ⟨rfl, rfl⟩), hc 2, hc 3⟩
  · exact ⟨6, 2, .inr (.inr ⟨rfl, rfl⟩), hc 4, hc 5⟩
theorem soft_fits {a n : Int} (h : soft a n) : fitsC a n ∧ a ≠ 9 := by
  rcases h with ⟨rfl, rfl⟩ | ⟨rfl, rfl⟩ | ⟨rfl, rfl⟩
  · exact ⟨.inr (.inr ⟨.inl rfl, rfl⟩), by decide⟩
  · exact ⟨.inr (.inr ⟨.inr (.inl rfl), rfl⟩), by decide⟩
  · exact ⟨.inl ⟨rfl, by decide, by decide⟩, by decide⟩
/-- What stands behind the two picks. -/
def SwapsAt (w W : World) (b8 b9 : Nat) (o : Bool) (f p q a n a' n' : Int) : Prop := Below w.heap.size w W ∧ PhAt W w.heap.size o f p q ∧ CaAt W b8 a n ∧ CaAt W b9 a' n'

set_option maxHeartbeats 8000000 in
theorem phaserSwaps_out (o : Bool) (f p q n m : Int) (w : World) (h : ¬ (PhS.ok ⟨o, f, p, q⟩ ∧ 3 ≤ q ∧ p ≤ 60000)) : Calls Try.prog 5 #[.agg #[.bool o, .int .i64 f, .int .i64 p, .int .i64 q], .int .i64 n, .int .i64 m] w fun e w' => e = .returned (.bool true) ∧ Below w.heap.size w w' := by
  have HH := Lib.hid (fun W => phased_any W)
  have HK := Lib.hid (fun W => packs_any W)
  by_cases hk : PhS.ok ⟨o, f, p, q⟩
  · have HR := Lib.hid (fun V => pkRight_yes o f p q V hk)
    by_cases h3 : q < 3
    · clear h hk
      have HB1 := Lib.hid ((Below.refl w.heap.size w).alloc (Nat.le_refl _) (.cells #[.bool o, .int .i64 f, .int .i64 p, .int .i64 q] 23))
      have HP2 := Lib.hid (PhAt.new w o f p q)
      go_enter Try.func5, Try.ntmps5
      go_wp2_with fail
      refine (HH.out _).mono ?_
      rintro e w1 ⟨rfl, hb⟩
      have HB3 := Lib.hid (HB1.out.trans (hb.mono HB1.out.size))
      have HP4 := Lib.hid (HP2.out.below hb HP2.out.lt)
      clear hb HB1 HP2
      obtain ⟨a1c0, a1c1, a1c2, a1c3⟩ := HP4.out.cells
      have a1f := HP4.out.frozen
      have a1l := HP4.out.lt
      go_wp2_with fail
      refine (HK.out _).mono ?_
      rintro e w2 ⟨rfl, hb⟩
      have HB5 := Lib.hid (HB3.out.trans (hb.mono HB3.out.size))
      have HP6 := Lib.hid (HP4.out.below hb HP4.out.lt)
      clear hb HB3 HP4 a1c0 a1c1 a1c2 a1c3 a1f a1l
      obtain ⟨a2c0, a2c1, a2c2, a2c3⟩ := HP6.out.cells
      have a2f := HP6.out.frozen
      have a2l := HP6.out.lt
      go_wp2_with fail
      refine (HR.out _).mono ?_
      rintro e w3 ⟨rfl, hb⟩
      have HB7 := Lib.hid (HB5.out.trans (hb.mono HB5.out.size))
      have HP8 := Lib.hid (HP6.out.below hb HP6.out.lt)
      clear hb HB5 HP6 a2c0 a2c1 a2c2 a2c3 a2f a2l
      obtain ⟨a3c0, a3c1, a3c2, a3c3⟩ := HP8.out.cells
      have a3f := HP8.out.frozen
      have a3l := HP8.out.lt
      go_wp2
      go_ret
      exact ⟨rfl, HB7.out⟩
    · have h6 : 60000 < p := by
        refine Classical.byContradiction fun g => h ⟨hk, by omega, by omega⟩
      clear h hk
      have HB1 := Lib.hid ((Below.refl w.heap.size w).alloc (Nat.le_refl _) (.cells #[.bool o, .int .i64 f, .int .i64 p, .int .i64 q] 23))
      have HP2 := Lib.hid (PhAt.new w o f p q)
      go_enter Try.func5, Try.ntmps5
      go_wp2_with fail
      refine (HH.out _).mono ?_
      rintro e w1 ⟨rfl, hb⟩
      have HB3 := Lib.hid (HB1.out.trans (hb.mono HB1.out.size))
      have HP4 := Lib.hid (HP2.out.below hb HP2.out.lt)
      clear hb HB1 HP2
      obtain ⟨a1c0, a1c1, a1c2, a1c3⟩ := HP4.out.cells
      have a1f := HP4.out.frozen
      have a1l := HP4.out.lt
      go_wp2_with fail
      refine (HK.out _).mono ?_
      rintro e w2 ⟨rfl, hb⟩
      have HB5 := Lib.hid (HB3.out.trans (hb.mono HB3.out.size))
      have HP6 := Lib.hid (HP4.out.below hb HP4.out.lt)
      clear hb HB3 HP4 a1c0 a1c1 a1c2 a1c3 a1f a1l
      obtain ⟨a2c0, a2c1, a2c2, a2c3⟩ := HP6.out.cells
      have a2f := HP6.out.frozen
      have a2l := HP6.out.lt
      go_wp2_with fail
      refine (HR.out _).mono ?_
      rintro e w3 ⟨rfl, hb⟩
      have HB7 := Lib.hid (HB5.out.trans (hb.mono HB5.out.size))
      have HP8 := Lib.hid (HP6.out.below hb HP6.out.lt)
      clear hb HB5 HP6 a2c0 a2c1 a2c2 a2c3 a2f a2l
      obtain ⟨a3c0, a3c1, a3c2, a3c3⟩ := HP8.out.cells
      have a3f := HP8.out.frozen
      have a3l := HP8.out.lt
      go_wp2
      go_ret
      exact ⟨rfl, HB7.out⟩
  · have HR := Lib.hid (fun V => pkRight_no o f p q V hk)
    clear h hk
    have HB1 := Lib.hid ((Below.refl w.heap.size w).alloc (Nat.le_refl _) (.cells #[.bool o, .int .i64 f, .int .i64 p, .int .i64 q] 23))
    have HP2 := Lib.hid (PhAt.new w o f p q)
    go_enter Try.func5, Try.ntmps5
    go_wp2_with fail
    refine (HH.out _).mono ?_
    rintro e w1 ⟨rfl, hb⟩
    have HB3 := Lib.hid (HB1.out.trans (hb.mono HB1.out.size))
    have HP4 := Lib.hid (HP2.out.below hb HP2.out.lt)
    clear hb HB1 HP2
    obtain ⟨a1c0, a1c1, a1c2, a1c3⟩ := HP4.out.cells
    have a1f := HP4.out.frozen
    have a1l := HP4.out.lt
    go_wp2_with fail
    refine (HK.out _).mono ?_
    rintro e w2 ⟨rfl, hb⟩
    have HB5 := Lib.hid (HB3.out.trans (hb.mono HB3.out.size))
    have HP6 := Lib.hid (HP4.out.below hb HP4.out.lt)
    clear hb HB3 HP4 a1c0 a1c1 a1c2 a1c3 a1f a1l
    obtain ⟨a2c0, a2c1, a2c2, a2c3⟩ := HP6.out.cells
    have a2f := HP6.out.frozen
    have a2l := HP6.out.lt
    go_wp2_with fail
    refine (HR.out _).mono ?_
    rintro e w3 ⟨rfl, hb⟩
    have HB7 := Lib.hid (HB5.out.trans (hb.mono HB5.out.size))
    have HP8 := Lib.hid (HP6.out.below hb HP6.out.lt)
    clear hb HB5 HP6 a2c0 a2c1 a2c2 a2c3 a2f a2l
    obtain ⟨a3c0, a3c1, a3c2, a3c3⟩ := HP8.out.cells
    have a3f := HP8.out.frozen
    have a3l := HP8.out.lt
    go_wp2
    go_ret
    exact ⟨rfl, HB7.out⟩
set_option maxRecDepth 100000 in
set_option maxHeartbeats 16000000 in
theorem phaserSwaps_in (o : Bool) (f p q n m : Int) (w : World) (hk : PhS.ok ⟨o, f, p, q⟩) (h3 : 3 ≤ q) (h6 : p ≤ 60000) : Calls Try.prog 5 #[.agg #[.bool o, .int .i64 f, .int .i64 p, .int .i64 q], .int .i64 n, .int .i64 m] w fun e w' => e = .returned (.bool true) ∧ Below w.heap.size w w' := by
  have HH := Lib.hid (fun W => phased_any W)
  have HK := Lib.hid (fun W => packs_any W)
  have HR := Lib.hid (fun V => pkRight_yes o f p q V hk)
  obtain ⟨I, hI0, hI1, hPn⟩ := pick_three n
  obtain ⟨J, hJ0, hJ1, hPm⟩ := pick_three m
  have hI1 : I < 3 := hI1
  have hJ1 : J < 3 := hJ1
  obtain ⟨i, rfl⟩ : ∃ i : Nat, I = i := ⟨I.toNat, by omega⟩
  obtain ⟨j, rfl⟩ : ∃ j : Nat, J = j := ⟨J.toNat, by omega⟩
  have HPn := Lib.hid hPn
  have HPm := Lib.hid hPm
  have HKk := Lib.hid hk
  have H36 := Lib.hid (And.intro h3 h6)
  have h3' : ¬ q < 3 := by omega
  have h6' : ¬ 60000 < p := by omega
  clear hPn hPm hk h3 h6
  have HB1 := Lib.hid ((Below.refl w.heap.size w).alloc (Nat.le_refl _) (.cells #[.bool o, .int .i64 f, .int .i64 p, .int .i64 q] 23))
  have HP2 := Lib.hid (PhAt.new w o f p q)
  go_enter Try.func5, Try.ntmps5
  go_wp2_with fail
  refine (HH.out _).mono ?_
  rintro e w1 ⟨rfl, hb⟩
  have HB3 := Lib.hid (HB1.out.trans (hb.mono HB1.out.size))
  have HP4 := Lib.hid (HP2.out.below hb HP2.out.lt)
  clear hb HB1 HP2
  obtain ⟨a1c0, a1c1, a1c2, a1c3⟩ := HP4.out.cells
  have a1f := HP4.out.frozen
  have a1l := HP4.out.lt
  go_wp2_with fail
  refine (HK.out _).mono ?_
  rintro e w2 ⟨rfl, hb⟩
  have HB5 := Lib.hid (HB3.out.trans (hb.mono HB3.out.size))
  have HP6 := Lib.hid (HP4.out.below hb HP4.out.lt)
  clear hb HB3 HP4 a1c0 a1c1 a1c2 a1c3 a1f a1l
  obtain ⟨a2c0, a2c1, a2c2, a2c3⟩ := HP6.out.cells
  have a2f := HP6.out.frozen
  have a2l := HP6.out.lt
  go_wp2_with fail
  refine (HR.out _).mono ?_
  rintro e w3 ⟨rfl, hb⟩
  have HB7 := Lib.hid (HB5.out.trans (hb.mono HB5.out.size))
  have HP8 := Lib.hid (HP6.out.below hb HP6.out.lt)
  clear hb HB5 HP6 a2c0 a2c1 a2c2 a2c3 a2f a2l
  obtain ⟨a3c0, a3c1, a3c2, a3c3⟩ := HP8.out.cells
  have a3f := HP8.out.frozen
  have a3l := HP8.out.lt
  go_upto_region 6 with (fail)
  have HB0 := Lib.hid (HB7.out.alloc HB7.out.size callRow)
  have Ha0 := Lib.hid (HP8.out.alloc callRow)
  have HRow := Lib.hid (heap_alloc_new w3 callRow)
  have HRl := Lib.hid (show w3.heap.size < (w3.alloc callRow).heap.size by simp)
  obtain ⟨X, hX⟩ : ∃ X, w3.alloc callRow = X := ⟨_, rfl⟩
  rw [show w3.alloc (.cells #[.int .i64 7, .int .i64 0, .int .i64 8, .int .i64 0, .int .i64 6, .int .i64 2] 32) = X from hX]
  rw [hX] at HB0 Ha0 HRow HRl
  clear a3c0 a3c1 a3c2 a3c3 a3f a3l HB7 HP8 hX h3' h6'
  have hi3 : i < 3 := by omega
  have hj3 : j < 3 := by omega
  obtain ⟨a1, n1, hs1, ci0, ci1⟩ := callRow_at HRow.out hi3
  obtain ⟨a2, n2, hs2, cj0, cj1⟩ := callRow_at HRow.out hj3
  have HS1 := Lib.hid hs1
  have HS2 := Lib.hid hs2
  have rl := HRl.out
  have rl1 : w3.heap.size < X.heap.size + 1 := by omega
  have rl2 : w3.heap.size < X.heap.size + 1 + 1 := by omega
  have xi : (i : Int) < 3 := by omega
  have xj : (j : Int) < 3 := by omega
  have xi0 : (0 : Int) ≤ (i : Int) := by omega
  have xj0 : (0 : Int) ≤ (j : Int) := by omega
  clear hi3 hj3 hs1 hs2 hI0 hI1 hJ0 hJ1
  --MA
  go_cut [8, 9] from 43 to 52 (fun v8 v9 wx => ∃ b8 b9 : Nat, v8 = .pointer (some ⟨b8, 0, none⟩) ∧ v9 = .pointer (some ⟨b9, 0, none⟩) ∧ Hid (SwapsAt w wx b8 b9 o f p q a1 n1 a2 n2))
  case first =>
    --MB
    go_region_held3 (fun u => u.cell? ⟨w3.heap.size, i * 2, none⟩ = some (.int .i64 a1) ∧ u.cell? ⟨w3.heap.size, i * 2 + 1, none⟩ = some (.int .i64 n1) ∧ u.cell? ⟨w3.heap.size, j * 2, none⟩ = some (.int .i64 a2) ∧ u.cell? ⟨w3.heap.size, j * 2 + 1, none⟩ = some (.int .i64 n2)) (go_keep) (first | (go_at_call 9; (with_reducible refine (HPn.out _).mono ?_); rintro e w9 ⟨rfl, rfl⟩) | (go_at_call 9; (with_reducible refine (HPm.out _).mono ?_); rintro e w9 ⟨rfl, rfl⟩))
    --MC
    all_goals
      go_wp2_with fail
      go_meet
      first | exact ⟨X.heap.size, X.heap.size + 1, rfl, rfl, ⟨((HB0.out.alloc HB0.out.size _).alloc (by have := HB0.out.size; simp; omega) _).drew, ((Ha0.out.alloc _).alloc _).drew, ((CaAt.new X a1 n1).alloc _).drew, (CaAt.new2 X _ a2 n2).drew⟩⟩ | exact ⟨X.heap.size + 1, X.heap.size, rfl, rfl, ⟨((HB0.out.alloc HB0.out.size _).alloc (by have := HB0.out.size; simp; omega) _).drew, ((Ha0.out.alloc _).alloc _).drew, (CaAt.new2 X _ a1 n1).drew, ((CaAt.new X a2 n2).alloc _).drew⟩⟩
  case rest =>
    obtain ⟨b8, b9, rfl, rfl, hq⟩ := hcut
    clear ci0 ci1 cj0 cj1 rl rl1 rl2 xi xj xi0 xj0
    generalize wc = w7 at *
    have HBx := Lib.hid hq.out.1
    have Hax := Lib.hid hq.out.2.1
    have Hxx := Lib.hid hq.out.2.2.1
    have Hyx := Lib.hid hq.out.2.2.2
    clear hq
    obtain ⟨⟨⟨o1, f1, p1, q1⟩, k1⟩, h1⟩ : ∃ x, phNext ⟨o, f, p, q⟩ a1 n1 = x := ⟨_, rfl⟩
    obtain ⟨⟨⟨o2, f2, p2, q2⟩, k2⟩, h2⟩ : ∃ x, phNext ⟨o1, f1, p1, q1⟩ a2 n2 = x := ⟨_, rfl⟩
    obtain ⟨⟨⟨o3, f3, p3, q3⟩, k3⟩, h3⟩ : ∃ x, phNext ⟨o, f, p, q⟩ a2 n2 = x := ⟨_, rfl⟩
    obtain ⟨⟨⟨o4, f4, p4, q4⟩, k4⟩, h4⟩ : ∃ x, phNext ⟨o3, f3, p3, q3⟩ a1 n1 = x := ⟨_, rfl⟩
    have hs := ph_swaps (x := ⟨o, f, p, q⟩) H36.out.1 H36.out.2 HS1.out HS2.out
    have e1 : (phNext ⟨o, f, p, q⟩ a1 n1).1 = ⟨o1, f1, p1, q1⟩ := by rw [h1]
    have e3 : (phNext ⟨o, f, p, q⟩ a2 n2).1 = ⟨o3, f3, p3, q3⟩ := by rw [h3]
    rw [e1, e3, h2, h4, h1, h3] at hs
    obtain ⟨hs1, hs2, hs3⟩ := hs
    have hs1 : PhS.mk o2 f2 p2 q2 = PhS.mk o4 f4 p4 q4 := hs1
    have hs2 : k1 = k4 := hs2
    have hs3 : k2 = k3 := hs3
    simp only [PhS.mk.injEq] at hs1
    obtain ⟨rfl, rfl, rfl, rfl⟩ := hs1
    subst hs2 hs3
    have F1 := soft_fits HS1.out
    have F2 := soft_fits HS2.out
    have ok1 : PhS.ok ⟨o1, f1, p1, q1⟩ := by have := phNext_ok HKk.out F1.1; rwa [h1] at this
    have ok3 : PhS.ok ⟨o3, f3, p3, q3⟩ := by have := phNext_ok HKk.out F2.1; rwa [h3] at this
    have D1 := Lib.hid (fun V => psDo_any o f p q a1 n1 V HKk.out F1.1 F1.2 h1)
    have D2 := Lib.hid (fun V => psDo_any o1 f1 p1 q1 a2 n2 V ok1 F2.1 F2.2 h2)
    have D3 := Lib.hid (fun V => psDo_any o f p q a2 n2 V HKk.out F2.1 F2.2 h3)
    have D4 := Lib.hid (fun V => psDo_any o3 f3 p3 q3 a1 n1 V ok3 F1.1 F1.2 h4)
    clear F1 F2 ok1 ok3 h1 h2 h3 h4 e1 e3
    obtain ⟨a7c0, a7c1, a7c2, a7c3⟩ := Hax.out.cells
    have a7f := Hax.out.frozen
    have a7l := Hax.out.lt
    obtain ⟨x7c0, x7c1⟩ := Hxx.out.cells
    have x7f := Hxx.out.frozen
    have x7l := Hxx.out.lt
    obtain ⟨y7c0, y7c1⟩ := Hyx.out.cells
    have y7f := Hyx.out.frozen
    have y7l := Hyx.out.lt
    go_wp2_with fail
    refine (D1.out _).mono ?_
    rintro e w8 ⟨rfl, hb⟩
    have HB101 := Lib.hid (HBx.out.trans (hb.mono HBx.out.size))
    have HP102 := Lib.hid (Hax.out.below hb Hax.out.lt)
    have HP103 := Lib.hid (Hxx.out.below hb Hxx.out.lt)
    have HP104 := Lib.hid (Hyx.out.below hb Hyx.out.lt)
    clear hb HBx Hax Hxx Hyx a7c0 a7c1 a7c2 a7c3 a7f a7l x7c0 x7c1 x7f x7l y7c0 y7c1 y7f y7l
    obtain ⟨a8c0, a8c1, a8c2, a8c3⟩ := HP102.out.cells
    have a8f := HP102.out.frozen
    have a8l := HP102.out.lt
    obtain ⟨x8c0, x8c1⟩ := HP103.out.cells
    have x8f := HP103.out.frozen
    have x8l := HP103.out.lt
    obtain ⟨y8c0, y8c1⟩ := HP104.out.cells
    have y8f := HP104.out.frozen
    have y8l := HP104.out.lt
    have ge104 : w.heap.size ≤ w8.heap.size := HB101.out.size
    have neas104 : ¬ w.heap.size = w8.heap.size := by have := HP102.out.lt; omega
    have nesa104 : ¬ w8.heap.size = w.heap.size := by have := HP102.out.lt; omega
    have nexs104 : ¬ b8 = w8.heap.size := by have := HP103.out.lt; omega
    have nesx104 : ¬ w8.heap.size = b8 := by have := HP103.out.lt; omega
    have neys104 : ¬ b9 = w8.heap.size := by have := HP104.out.lt; omega
    have nesy104 : ¬ w8.heap.size = b9 := by have := HP104.out.lt; omega
    have HB105 := Lib.hid (HB101.out.alloc HB101.out.size (.cells #[.bool o1, .int .i64 f1, .int .i64 p1, .int .i64 q1] 23))
    have HP106 := Lib.hid (HP102.out.alloc (.cells #[.bool o1, .int .i64 f1, .int .i64 p1, .int .i64 q1] 23))
    have HP107 := Lib.hid (HP103.out.alloc (.cells #[.bool o1, .int .i64 f1, .int .i64 p1, .int .i64 q1] 23))
    have HP108 := Lib.hid (HP104.out.alloc (.cells #[.bool o1, .int .i64 f1, .int .i64 p1, .int .i64 q1] 23))
    have HP109 := Lib.hid (PhAt.new w8 o1 f1 p1 q1)
    have a8l1 : w.heap.size < w8.heap.size + 1 := by have := HP106.out.lt; omega
    have a8l2 : w.heap.size < w8.heap.size + 1 + 1 := by have := HP106.out.lt; omega
    have x8l1 : b8 < w8.heap.size + 1 := by have := HP107.out.lt; omega
    have x8l2 : b8 < w8.heap.size + 1 + 1 := by have := HP107.out.lt; omega
    have y8l1 : b9 < w8.heap.size + 1 := by have := HP108.out.lt; omega
    have y8l2 : b9 < w8.heap.size + 1 + 1 := by have := HP108.out.lt; omega
    have s8l1 : w8.heap.size < w8.heap.size + 1 := by have := HP109.out.lt; omega
    have s8l2 : w8.heap.size < w8.heap.size + 1 + 1 := by have := HP109.out.lt; omega
    go_wp2_with fail
    refine (D2.out _).mono ?_
    rintro e w9 ⟨rfl, hb⟩
    have HB110 := Lib.hid (HB105.out.trans (hb.mono HB105.out.size))
    have HP111 := Lib.hid (HP106.out.below hb HP106.out.lt)
    have HP112 := Lib.hid (HP107.out.below hb HP107.out.lt)
    have HP113 := Lib.hid (HP108.out.below hb HP108.out.lt)
    have HP114 := Lib.hid (HP109.out.below hb HP109.out.lt)
    clear hb HB105 HP106 HP107 HP108 HP109 a8c0 a8c1 a8c2 a8c3 a8f a8l x8c0 x8c1 x8f x8l y8c0 y8c1 y8f y8l a8l1 a8l2 x8l1 x8l2 y8l1 y8l2 s8l1 s8l2
    obtain ⟨a9c0, a9c1, a9c2, a9c3⟩ := HP111.out.cells
    have a9f := HP111.out.frozen
    have a9l := HP111.out.lt
    obtain ⟨x9c0, x9c1⟩ := HP112.out.cells
    have x9f := HP112.out.frozen
    have x9l := HP112.out.lt
    obtain ⟨y9c0, y9c1⟩ := HP113.out.cells
    have y9f := HP113.out.frozen
    have y9l := HP113.out.lt
    obtain ⟨s9c0, s9c1, s9c2, s9c3⟩ := HP114.out.cells
    have s9f := HP114.out.frozen
    have s9l := HP114.out.lt
    have HB115 := Lib.hid (below4 HB110.out (b := w8.heap.size) (by first | omega | simp) o2 f2 p2 q2)
    have HP116 := Lib.hid (HP111.out.far4 (c := w8.heap.size) (by first | omega | simp) o2 f2 p2 q2)
    have HP117 := Lib.hid (HP112.out.far4 (c := w8.heap.size) (by first | omega | simp) o2 f2 p2 q2)
    have HP118 := Lib.hid (HP113.out.far4 (c := w8.heap.size) (by first | omega | simp) o2 f2 p2 q2)
    have HP119 := Lib.hid (HP114.out.set4 o2 f2 p2 q2)
    go_wp2_with fail
    refine (D3.out _).mono ?_
    rintro e w10 ⟨rfl, hb⟩
    have HB120 := Lib.hid (HB115.out.trans (hb.mono HB115.out.size))
    have HP121 := Lib.hid (HP116.out.below hb HP116.out.lt)
    have HP122 := Lib.hid (HP117.out.below hb HP117.out.lt)
    have HP123 := Lib.hid (HP118.out.below hb HP118.out.lt)
    have HP124 := Lib.hid (HP119.out.below hb HP119.out.lt)
    clear hb HB115 HP116 HP117 HP118 HP119 a9c0 a9c1 a9c2 a9c3 a9f a9l x9c0 x9c1 x9f x9l y9c0 y9c1 y9f y9l s9c0 s9c1 s9c2 s9c3 s9f s9l
    obtain ⟨a10c0, a10c1, a10c2, a10c3⟩ := HP121.out.cells
    have a10f := HP121.out.frozen
    have a10l := HP121.out.lt
    obtain ⟨x10c0, x10c1⟩ := HP122.out.cells
    have x10f := HP122.out.frozen
    have x10l := HP122.out.lt
    obtain ⟨y10c0, y10c1⟩ := HP123.out.cells
    have y10f := HP123.out.frozen
    have y10l := HP123.out.lt
    obtain ⟨s10c0, s10c1, s10c2, s10c3⟩ := HP124.out.cells
    have s10f := HP124.out.frozen
    have s10l := HP124.out.lt
    have ge124 : w.heap.size ≤ w10.heap.size := HB120.out.size
    have near124 : ¬ w.heap.size = w10.heap.size := by have := HP121.out.lt; omega
    have nera124 : ¬ w10.heap.size = w.heap.size := by have := HP121.out.lt; omega
    have nexr124 : ¬ b8 = w10.heap.size := by have := HP122.out.lt; omega
    have nerx124 : ¬ w10.heap.size = b8 := by have := HP122.out.lt; omega
    have neyr124 : ¬ b9 = w10.heap.size := by have := HP123.out.lt; omega
    have nery124 : ¬ w10.heap.size = b9 := by have := HP123.out.lt; omega
    have nesr124 : ¬ w8.heap.size = w10.heap.size := by have := HP124.out.lt; omega
    have ners124 : ¬ w10.heap.size = w8.heap.size := by have := HP124.out.lt; omega
    have HB125 := Lib.hid (HB120.out.alloc HB120.out.size (.cells #[.bool o3, .int .i64 f3, .int .i64 p3, .int .i64 q3] 23))
    have HP126 := Lib.hid (HP121.out.alloc (.cells #[.bool o3, .int .i64 f3, .int .i64 p3, .int .i64 q3] 23))
    have HP127 := Lib.hid (HP122.out.alloc (.cells #[.bool o3, .int .i64 f3, .int .i64 p3, .int .i64 q3] 23))
    have HP128 := Lib.hid (HP123.out.alloc (.cells #[.bool o3, .int .i64 f3, .int .i64 p3, .int .i64 q3] 23))
    have HP129 := Lib.hid (HP124.out.alloc (.cells #[.bool o3, .int .i64 f3, .int .i64 p3, .int .i64 q3] 23))
    have HP130 := Lib.hid (PhAt.new w10 o3 f3 p3 q3)
    have a10l1 : w.heap.size < w10.heap.size + 1 := by have := HP126.out.lt; omega
    have a10l2 : w.heap.size < w10.heap.size + 1 + 1 := by have := HP126.out.lt; omega
    have x10l1 : b8 < w10.heap.size + 1 := by have := HP127.out.lt; omega
    have x10l2 : b8 < w10.heap.size + 1 + 1 := by have := HP127.out.lt; omega
    have y10l1 : b9 < w10.heap.size + 1 := by have := HP128.out.lt; omega
    have y10l2 : b9 < w10.heap.size + 1 + 1 := by have := HP128.out.lt; omega
    have s10l1 : w8.heap.size < w10.heap.size + 1 := by have := HP129.out.lt; omega
    have s10l2 : w8.heap.size < w10.heap.size + 1 + 1 := by have := HP129.out.lt; omega
    have r10l1 : w10.heap.size < w10.heap.size + 1 := by have := HP130.out.lt; omega
    have r10l2 : w10.heap.size < w10.heap.size + 1 + 1 := by have := HP130.out.lt; omega
    go_wp2_with fail
    refine (D4.out _).mono ?_
    rintro e w11 ⟨rfl, hb⟩
    have HB131 := Lib.hid (HB125.out.trans (hb.mono HB125.out.size))
    have HP132 := Lib.hid (HP126.out.below hb HP126.out.lt)
    have HP133 := Lib.hid (HP127.out.below hb HP127.out.lt)
    have HP134 := Lib.hid (HP128.out.below hb HP128.out.lt)
    have HP135 := Lib.hid (HP129.out.below hb HP129.out.lt)
    have HP136 := Lib.hid (HP130.out.below hb HP130.out.lt)
    clear hb HB125 HP126 HP127 HP128 HP129 HP130 a10c0 a10c1 a10c2 a10c3 a10f a10l x10c0 x10c1 x10f x10l y10c0 y10c1 y10f y10l s10c0 s10c1 s10c2 s10c3 s10f s10l a10l1 a10l2 x10l1 x10l2 y10l1 y10l2 s10l1 s10l2 r10l1 r10l2
    obtain ⟨a11c0, a11c1, a11c2, a11c3⟩ := HP132.out.cells
    have a11f := HP132.out.frozen
    have a11l := HP132.out.lt
    obtain ⟨x11c0, x11c1⟩ := HP133.out.cells
    have x11f := HP133.out.frozen
    have x11l := HP133.out.lt
    obtain ⟨y11c0, y11c1⟩ := HP134.out.cells
    have y11f := HP134.out.frozen
    have y11l := HP134.out.lt
    obtain ⟨s11c0, s11c1, s11c2, s11c3⟩ := HP135.out.cells
    have s11f := HP135.out.frozen
    have s11l := HP135.out.lt
    obtain ⟨r11c0, r11c1, r11c2, r11c3⟩ := HP136.out.cells
    have r11f := HP136.out.frozen
    have r11l := HP136.out.lt
    have HB137 := Lib.hid (below4 HB131.out (b := w10.heap.size) (by first | omega | simp) o2 f2 p2 q2)
    have HP138 := Lib.hid (HP132.out.far4 (c := w10.heap.size) (by first | omega | simp) o2 f2 p2 q2)
    have HP139 := Lib.hid (HP133.out.far4 (c := w10.heap.size) (by first | omega | simp) o2 f2 p2 q2)
    have HP140 := Lib.hid (HP134.out.far4 (c := w10.heap.size) (by first | omega | simp) o2 f2 p2 q2)
    have HP141 := Lib.hid (HP135.out.far4 (c := w10.heap.size) (by first | omega | simp) o2 f2 p2 q2)
    have HP142 := Lib.hid (HP136.out.set4 o2 f2 p2 q2)
    --MD
    go_wp2
    --ME
    go_ret
    exact ⟨rfl, HB137.out⟩
theorem phaserSwaps_any (o : Bool) (f p q n m : Int) (w : World) : Calls Try.prog 5 #[.agg #[.bool o, .int .i64 f, .int .i64 p, .int .i64 q], .int .i64 n, .int .i64 m] w fun e w' => e = .returned (.bool true) ∧ Below w.heap.size w w' := by
  by_cases h : PhS.ok ⟨o, f, p, q⟩ ∧ 3 ≤ q ∧ p ≤ 60000
  · exact phaserSwaps_in o f p q n m w h.1 h.2.1 h.2.2
  · exact phaserSwaps_out o f p q n m w h
end Go.Proofs.Ytaklikgdlalhdab
