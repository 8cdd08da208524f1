/-
  WHO IS NEVER PICKED IS NOT TREATED FAIRLY.
-/
import Derived.Test.YtpomjobgodfjmaaLFairMore
import Derived.Test.YtpomjobgodfjmaaCloneI
import Derived.Test.YtpomjobgodfjmaaORowI
namespace Go.Proofs.Ytpomjobgodfjmaa
open Go.RowKit Go.Shelf
set_option linter.unusedVariables false
set_option linter.unusedSimpArgs false

theorem starvesc_any (b : Nat) (t x : Int) (w : World) (hb : w.cell? ⟨b, 0, none⟩ = some (.int .i64 t)) :
    Calls Try.prog 9 #[.int .i64 x, .pointer (some ⟨b, 0, none⟩)] w fun e w' => e = .returned (.bool (x == t)) ∧ w.grownBy w' none := by
  obtain ⟨r, hr⟩ : ∃ r, (x == t) = r := ⟨_, rfl⟩
  rw [hr]
  cases r
  all_goals
    go_enter Try.func9, Try.ntmps9
    go_wp2
    go_ret
    exact ⟨rfl, World.grownBy.refl _ _⟩
set_option maxHeartbeats 400000 in
theorem deleteFuncI_nil {w : World} (p : Int → Bool) (f : Nat) (lb : Array Value) (eg : ∀ args w, (callFunc f args).run Try.prog w = .ok (.enter f args) w) (hp : PredI f lb p w none) :
    Calls Try.prog 7 #[.slice none 0 0, .func (.func f) #[] lb] w fun e w' => e = .returned (.slice none 0 0) ∧ w.grownBy w' none := by
  have hf := indexFuncI_any (w := w) none 0 0 [] ⟨rfl, fun h => absurd h (Nat.lt_irrefl 0)⟩ (by decide) p f lb eg none hp
  have HF := Lib.hid hf
  clear hf hp
  go_enter Try.func7, Try.ntmps7
  go_wp2_with fail
  refine HF.out.mono ?_
  rintro e w' ⟨he, hg⟩
  obtain rfl : e = .returned (.int .i64 (-1)) := he
  have HG := Lib.hid hg
  clear hg HF
  go_wp2
  go_ret
  exact ⟨rfl, HG.out⟩
/-- A row that was copied, without one. -/
theorem without_any {w : World} {v : Value} {l : List Int} {n B b : Nat} {t : Int} (hB : B ≤ w.heap.size) (hown : w.ownsRow B 3 1 v n (l.map (Value.int .i64))) (hl : l.length = n) (hb : w.cell? ⟨b, 0, none⟩ = some (.int .i64 t)) (hlt : b < B) :
    Calls Try.prog 7 #[v, .func (.func 9) #[] #[.pointer (some ⟨b, 0, none⟩)]] w fun e w' => ∃ A c, e = .returned (.slice A (keepI (fun x => x == t) l).length c) ∧ Ints .i64 w' w'.heap.size A (keepI (fun x => x == t) l).length (keepI (fun x => x == t) l) ∧ Below B w w' := by
  subst hl
  have eg : ∀ args w, (callFunc 9 args).run Try.prog w = .ok (.enter 9 args) w := enters_of Try.func9 (by kernel_rfl) rfl
  rcases hown.2 with ⟨rfl, h0⟩ | ⟨g, cap, cur, rfl, hlo, rest⟩
  · have hl0 : l.length = 0 := h0
    obtain rfl : l = [] := List.eq_nil_of_length_eq_zero hl0
    refine (deleteFuncI_nil (fun x => x == t) 9 #[.pointer (some ⟨b, 0, none⟩)] eg (fun W x hW => starvesc_any b t x W ((World.cell?_of_block (a := ⟨b, 0, none⟩) (hW.block b (by omega) (by simp))).trans hb))).mono ?_
    rintro e w' ⟨rfl, hg⟩
    exact ⟨none, 0, rfl, ⟨rfl, fun h => absurd h (Nat.lt_irrefl 0)⟩, (Below.refl B w).grown hg hB (by intro k hk; cases hk)⟩
  · refine (deleteFuncI_any hown (fun x => x == t) 9 #[.pointer (some ⟨b, 0, none⟩)] eg (fun W x hW => starvesc_any b t x W ((World.cell?_of_block (a := ⟨b, 0, none⟩) (hW.block b (by omega) (by intro e; injection e with e; omega))).trans hb))).mono ?_
    rintro e w' ⟨rfl, ho, hg⟩
    exact ⟨_, _, rfl, Ints.of_own ho, (Below.refl B w).grown hg hB (fun k hk => by injection hk with hk; omega)⟩
theorem keep_not {l : List Int} {t : Int} : ∀ x ∈ keepI (fun x => x == t) l, x ≠ t := fun x hx e => by
  unfold keepI at hx
  have := (List.mem_filter.1 hx).2
  subst e
  simp at this
theorem starve_1 {l : List Int} {n u : Nat} (hn : n ≤ 16) (hu : u < n) (h : ∀ x ∈ l, x ≠ (u : Int)) (w : Nat) (w1 : 1 ≤ w) (hw : w ≤ l.length) : ¬ isFair l n w := fun hf => by
  have h4 := hf.2.2.2
  rw [Int.toNat_natCast, Int.toNat_natCast] at h4
  exact fair_starves hu h hw h4
theorem starve_0 {n : Nat} (hn : n ≤ 16) : isFair [] n 1 := ⟨by omega, by omega, by decide, fun i hi t ht => by
  have : i + 1 ≤ 0 := hi
  omega⟩

set_option maxHeartbeats 1000000 in
theorem fairStarves_any {w : World} (H : FairOK) (A : Option Addr) (len cap : Nat) (l : List Int) (hI : Ints .i64 w w.heap.size A len l) (n who : Int) :
    Calls Try.prog 3 #[.slice A len cap, .int .i64 n, .int .i64 who] w fun e w' => e = .returned (.bool true) ∧ Below w.heap.size w w' := by
  have hb0 := (Below.refl w.heap.size w).alloc (Nat.le_refl _) (.cells #[.int .i64 who] 3)
  have hat0 := heap_alloc_new w (.cells #[.int .i64 who] 3)
  have hs0 : (w.alloc (.cells #[.int .i64 who] 3)).heap.size = w.heap.size + 1 := World.size_alloc _ _
  have HB0 := Lib.hid hb0
  have HAt0 := Lib.hid hat0
  have HS0 := Lib.hid hs0
  have HI := Lib.hid hI
  have HP := Lib.hid (fun w => picked_any (w := w) H)
  clear hI hb0 hat0 hs0
  go_enter Try.func3, Try.ntmps3
  go_wp2_with fail
  --MA
  refine (HP.out _).mono ?_
  rintro e w1 ⟨rfl, hb1⟩
  have HB1 := Lib.hid (HB0.out.trans (hb1.mono HB0.out.size))
  have hc1 : w1.cell? ⟨w.heap.size, 0, none⟩ = some (.int .i64 who) := ((hb1.cell (p := ⟨w.heap.size, 0, none⟩) (by show w.heap.size < _; rw [HS0.out]; omega)).trans ((cell_inF HAt0.out 0).trans rfl))
  have hf1 : w1.frozen? ⟨w.heap.size, 0, none⟩ = false := frozen_of_row _ _ 0 _ _ ((hb1.block w.heap.size (by rw [HS0.out]; omega)).trans HAt0.out)
  have HI1 := Lib.hid (HI.out.oldF HB1.out)
  have HAt1 := Lib.hid ((hb1.block w.heap.size (by rw [HS0.out]; omega)).trans HAt0.out)
  have HS1 := Lib.hid (show w.heap.size < w1.heap.size by have := hb1.size; rw [HS0.out] at this; omega)
  clear hb1 HB0 HAt0 HS0 HP HI1
  by_cases h9 : 200 < len
  · have h9' : (200 : Int) < (len : Int) := by omega
    go_wp2
    go_ret
    exact ⟨rfl, HB1.out⟩
  have h9' : ¬ (200 : Int) < (len : Int) := by omega
  obtain ⟨x, hx, hpx⟩ := pick_natF n 16 (by decide) (by decide)
  obtain ⟨a, ha⟩ : ∃ a, x + 1 = a := ⟨_, rfl⟩
  obtain ⟨u, hu, hpu⟩ := pick_natF who a (by omega) (by omega)
  have HPx := Lib.hid hpx
  have HPu := Lib.hid hpu
  have HU := Lib.hid hu
  have HA16 := Lib.hid (show a ≤ 16 by omega)
  have HA1 := Lib.hid (show 1 ≤ a by omega)
  have HLe := Lib.hid (show len ≤ 200 by omega)
  have e1 : wrap64 (1 + (x : Int)) = (a : Int) := wrap_nat (by omega) (by omega)
  clear hpx hpu hx ha hu h9
  go_wp2_with fail
  refine (HPx.out _).mono ?_
  rintro e w2 ⟨rfl, rfl⟩
  --MB
  go_wp2_with fail
  refine (HPu.out _).mono ?_
  rintro e w2 ⟨rfl, rfl⟩
  --MC
  go_wp2_with fail
  have hb2 := below_setI (i := 0) (v := .int .i64 (u : Int)) HB1.out (Nat.le_refl w.heap.size)
  have hat2 := heap_setCell_same _ _ 0 _ _ (.int .i64 (u : Int)) HAt1.out
  have hs2 : w.heap.size < (w1.setCell ⟨w.heap.size, 0, none⟩ (.int .i64 (u : Int))).heap.size := by simpa using HS1.out
  generalize w1.setCell ⟨w.heap.size, 0, none⟩ (.int .i64 (u : Int)) = w2 at *
  have HB2 := Lib.hid hb2
  have HI2 := Lib.hid (HI.out.oldF hb2)
  have HAt2 := Lib.hid hat2
  have HS2 := Lib.hid hs2
  clear hb2 hat2 hs2 HB1 HAt1 HS1 hc1 hf1 HI e1 h9'
  refine (cloneI_any A len cap l HI2.out (Nat.le_trans HLe.out (by decide))).mono ?_
  rintro e w3 ⟨v, rfl, ho3, hg3⟩
  have HB3 := Lib.hid (HB2.out.grown hg3 HB2.out.size (by intro k hk; cases hk))
  have hat3 := (hg3.block w.heap.size HS2.out (by simp)).trans HAt2.out
  have HD := Lib.hid (without_any (b := w.heap.size) (t := (u : Int)) hg3.size ho3 HI2.out.len ((cell_inF hat3 0).trans rfl) HS2.out)
  clear ho3 hg3 hat3
  --ME
  go_wp2_with fail
  refine HD.out.mono ?_
  rintro e w4 ⟨A4, c4, rfl, hi4, hb4⟩
  have HB4 := Lib.hid (HB3.out.trans (hb4.mono HB2.out.size))
  have hrl : (keepI (fun x => x == (u : Int)) l).length ≤ len := by
    have h1 : (keepI (fun x => x == (u : Int)) l).length ≤ l.length := List.length_filter_le _ _
    rw [HI2.out.len] at h1
    exact h1
  have hno := keep_not (l := l) (t := (u : Int))
  have HI4 := Lib.hid hi4
  have HR := Lib.hid (Nat.le_trans hrl HLe.out)
  have HNo := Lib.hid hno
  clear hi4 hb4 HB3 HD hrl hno
  generalize keepI (fun x => x == (u : Int)) l = r at *
  have ha16 : (a : Int) ≤ 9223372036854775807 := nat_hi HA16.out
  have HA := Lib.hid ha16
  clear ha16
  by_cases hr : r.length = 0
  · have hr' : ((r.length : Int) == 0) = true := by rw [hr]; rfl
    have hF := HI4.out
    obtain rfl : r = [] := List.eq_nil_of_length_eq_zero hr
    --MF
    go_wp2_with fail
    refine (H.fair hF (by decide) (nat_lo a) HA.out (by decide) (by decide)).mono ?_
    rintro e w5 ⟨v, rfl, hv, hb5⟩
    obtain rfl : v = true := hv.2 (starve_0 HA16.out)
    have HB5 := Lib.hid (HB4.out.trans (hb5.mono HB4.out.size))
    clear hv hb5
    go_wp2
    go_ret
    exact ⟨rfl, HB5.out⟩
  · have hr' : ((r.length : Int) == 0) = false := by simpa using hr
    have hr1 : 1 ≤ r.length := Nat.one_le_iff_ne_zero.2 hr
    have S1 := Lib.hid (starve_1 HA16.out HU.out HNo.out r.length hr1 (Nat.le_refl _))
    have S2 := Lib.hid (starve_1 HA16.out HU.out HNo.out 1 (Nat.le_refl _) hr1)
    have HR2 := Lib.hid (show (r.length : Int) ≤ 9223372036854775807 by have := HR.out; omega)
    have HR3 := Lib.hid (Nat.le_trans HR.out (show 200 ≤ 4294967296 by decide))
    clear hr hr1
    --MG
    go_wp2_with fail
    refine (H.fair HI4.out HR3.out (nat_lo a) HA.out (nat_lo _) HR2.out).mono ?_
    rintro e w5 ⟨v, rfl, hv, hb5⟩
    have hvf : v = false := by
      cases v with
      | false => rfl
      | true => exact absurd (hv.1 rfl) S1.out
    subst hvf
    have HB5 := Lib.hid (HB4.out.trans (hb5.mono HB4.out.size))
    have HI5 := Lib.hid (HI4.out.oldF hb5)
    clear hv hb5 HB4 HI4
    go_wp2_with fail
    refine (H.fair HI5.out HR3.out (nat_lo a) HA.out (by decide) (by decide)).mono ?_
    rintro e w6 ⟨v, rfl, hv, hb6⟩
    have hvf : v = false := by
      cases v with
      | false => rfl
      | true => exact absurd (hv.1 rfl) S2.out
    subst hvf
    have HB6 := Lib.hid (HB5.out.trans (hb6.mono HB5.out.size))
    clear hv hb6 HB5 HI5
    go_wp2
    go_ret
    exact ⟨rfl, HB6.out⟩
end Go.Proofs.Ytpomjobgodfjmaa
