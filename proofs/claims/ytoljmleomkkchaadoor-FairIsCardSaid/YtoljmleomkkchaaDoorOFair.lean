/-
  fair.Is and fair.Rounds, by contract.
-/
import Derived.Test.YtoljmleomkkchaaDoorORowI
import Derived.Test.YtoljmleomkkchaaDoorFOK
import Derived.Test.YtoljmleomkkchaaDoorKFairI
import Derived.BigQuiet
import Derived.Lib.AppendZeros
namespace Go.Proofs.YtoljmleomkkchaaDoor
set_option maxRecDepth 100000
open Go.RowKit
set_option linter.unusedVariables false
set_option linter.unusedSimpArgs false

theorem fwithin_any (x a b : Int) (w : World) : Calls Tryd.prog 31 #[.int .i64 x, .int .i64 a, .int .i64 b] w fun e w' => e = .returned (.bool (decide (a ≤ x ∧ x ≤ b))) ∧ w = w' := by
  by_cases h : a ≤ x
  · by_cases h2 : x ≤ b
    · have e : decide (a ≤ x ∧ x ≤ b) = true := decide_eq_true ⟨h, h2⟩
      rw [e]
      go_enter Tryd.func31, Tryd.ntmps31
      go_wp2
      go_ret
      exact ⟨rfl, rfl⟩
    · have e : decide (a ≤ x ∧ x ≤ b) = false := decide_eq_false fun h => h2 h.2
      rw [e]
      go_enter Tryd.func31, Tryd.ntmps31
      go_wp2
      go_ret
      exact ⟨rfl, rfl⟩
  · have e : decide (a ≤ x ∧ x ≤ b) = false := decide_eq_false fun h' => h h'.1
    rw [e]
    go_enter Tryd.func31, Tryd.ntmps31
    go_wp2
    go_ret
    exact ⟨rfl, rfl⟩
theorem fwithin_yes {x a b : Int} (h : a ≤ x ∧ x ≤ b) (w : World) : Calls Tryd.prog 31 #[.int .i64 x, .int .i64 a, .int .i64 b] w fun e w' => e = .returned (.bool true) ∧ w = w' := by
  have := fwithin_any x a b w
  rwa [decide_eq_true h] at this
theorem fwithin_no {x a b : Int} (h : ¬ (a ≤ x ∧ x ≤ b)) (w : World) : Calls Tryd.prog 31 #[.int .i64 x, .int .i64 a, .int .i64 b] w fun e w' => e = .returned (.bool false) ∧ w = w' := by
  have := fwithin_any x a b w
  rwa [decide_eq_false h] at this

/-- n one behind the other, so many times, and the first ones once more. -/
def turnsTo (n i t : Nat) : List Int := turnsL n i ++ (List.range t).map fun (u : Nat) => (u : Int)
theorem turnsTo_more (n i t : Nat) : turnsTo n i (t + 1) = turnsTo n i t ++ [(t : Int)] := by unfold turnsTo; rw [List.range_succ]; simp
theorem turnsTo_all (n i : Nat) : turnsTo n i n = turnsTo n (i + 1) 0 := by
  unfold turnsTo turnsL
  rw [List.replicate_succ', List.flatten_append]
  simp
theorem turnsTo_len (n i t : Nat) : (turnsTo n i t).length = n * i + t := by
  unfold turnsTo
  rw [List.length_append, turns_len]
  simp

set_option maxHeartbeats 2000000 in
theorem frounds_any {w : World} {n times : Nat} (hn : n ≤ 16) (ht : times ≤ 1000) : Calls Tryd.prog 17 #[.int .i64 (n : Nat), .int .i64 (times : Nat)] w fun e w' => ∃ A cap, e = .returned (.tuple #[.slice A (n * times) cap, .nilIface]) ∧ w'.ownsRow w.heap.size 3 1 (.slice A (n * times) cap) (n * times) ((turnsL n times).map (Value.int .i64)) ∧ Below w.heap.size w w' := by
  have HW1 := Lib.hid (fun w => fwithin_yes (x := (n : Nat)) (a := 0) (b := 16) (by omega) w)
  have HW2 := Lib.hid (fun w => fwithin_yes (x := (times : Nat)) (a := 0) (b := 1000) (by omega) w)
  have hnt : n * times ≤ 16 * 1000 := Nat.mul_le_mul hn ht
  have hwm : wrap64 ((n : Int) * (times : Int)) = ((n * times : Nat) : Int) := by rw [← Int.natCast_mul]; unfold wrap64; omega
  obtain ⟨i0, hi, hz0, hz1, hz2⟩ := info_parts infoIntJ
  obtain ⟨C, hCd⟩ : ∃ C, madeCells #[Value.int .i64 0] (n * times) = C := ⟨_, rfl⟩
  have hmk : ∀ W : World, Sem.run Tryd.prog (Instr.makeSlice 39 (.int .i64 0) (.int .i64 ((n * times : Nat) : Int))) W = .ok (.slice (some ⟨W.heap.size, 0, none⟩) 0 (n * times)) (W.alloc (.cells C 3)) := by
    intro W
    have hr := run_make (P := Tryd.prog) W 39 3 i0 (.int .i64 0) Tryd.underlying39 hi hz0 .i64 .i64 0 ((n * times : Nat) : Int) (Int.le_refl _) (by omega) (by rw [hz2]; omega) (by omega)
    simp only [Int.toNat_natCast, hz1, Nat.mul_one] at hr
    rw [← hCd]
    exact hr
  have H0 := Lib.hid (show RowB w (some ⟨w.heap.size, 0, none⟩) 0 (n * times) (turnsTo n 0 0) (w.alloc (.cells C 3)) from
    ⟨rfl, World.ownsRow_made (base := w.heap.size) (e := 3) (size := 1) w C (n * times) (Nat.le_refl _) (by unfold maxLen; omega) (by rw [← hCd, ← Array.length_toList, toList_madeCells_one]; simp), (Below.refl _ _).alloc (Nat.le_refl _) _⟩)
  have HT := Lib.hid (fun i t => turnsTo_more n i t)
  have HA := Lib.hid (fun i => turnsTo_all n i)
  have HLn := Lib.hid (fun i t => turnsTo_len n i t)
  have HFin := Lib.hid (show turnsTo n times 0 = turnsL n times by unfold turnsTo; simp)
  have HMul := Lib.hid (fun i (h : i < times) => show n * i + n ≤ n * times by rw [← Nat.mul_succ]; exact Nat.mul_le_mul_left n h)
  clear hi hz0 hz1 hz2 hCd
  obtain ⟨nt, hnt2⟩ : ∃ nt, n * times = nt := ⟨_, rfl⟩
  rw [hnt2] at hnt hwm hmk H0 HMul ⊢
  have HNT := Lib.hid hnt2
  clear hnt2
  go_enter Tryd.func17, Tryd.ntmps17
  go_wp2_with fail
  refine (HW1.out _).mono ?_
  rintro e w1 ⟨rfl, rfl⟩
  go_wp2_with fail
  refine (HW2.out _).mono ?_
  rintro e w1 ⟨rfl, rfl⟩
  clear HW1 HW2
  go_wp2
  clear hmk hwm
  go_loopw [6, 22] (fun v j wr => ∃ (i : Nat) (A : Option Addr) (m c : Nat), i ≤ times ∧ v = .slice A m c ∧ j = .int .i64 i ∧ Hid (RowB w A m c (turnsTo n i 0) wr)) (fun _ j _ => times - (intOf j).toNat)
  case atStart => exact ⟨0, _, 0, nt, Nat.zero_le _, rfl, rfl, H0.out⟩
  case round =>
    obtain ⟨i, A, m, c, hi, rfl, rfl, hb⟩ := hrel
    by_cases hlt : i < times
    · have hkn : (i : Int) < (times : Int) := by omega
      have HB := Lib.hid hb.out
      clear hb
      go_wp2
      go_loopw [6, 25] (fun v j wr => ∃ (t : Nat) (A : Option Addr) (m c : Nat), t ≤ n ∧ v = .slice A m c ∧ j = .int .i64 t ∧ Hid (RowB w A m c (turnsTo n i t) wr)) (fun _ j _ => n - (intOf j).toNat)
      case atStart => exact ⟨0, _, _, _, Nat.zero_le _, rfl, rfl, HB.out⟩
      case round =>
        obtain ⟨t, A, m, c, ht2, rfl, rfl, hb⟩ := hrel
        by_cases hlt2 : t < n
        · have hkn2 : (t : Int) < (n : Int) := by omega
          have hml := hb.out.len
          have hl := HLn.out i t
          have hmu := HMul.out i hlt
          obtain ⟨A1, m1, c1, w1, hr, b1⟩ := hb.out.one (t : Int) (by omega)
          rw [← HT.out] at b1
          have HR := Lib.hid hr
          have HB1 := Lib.hid b1
          clear hb hr b1 hml hl hmu
          go_wp2_with (at_builtin; refine Lib.wpList_append_run _ rfl _ _ _ _ rfl _ _ rfl rfl _ _ HR.out ?_)
          go_roundw
          case rel => exact ⟨t + 1, A1, m1, c1, by omega, rfl, by go_num, HB1.out⟩
          case measure => simp [intOf]; omega
        · have hkn2 : ¬ (t : Int) < (n : Int) := by omega
          obtain rfl : t = n := by omega
          have HB1 := Lib.hid hb.out
          rw [HA.out] at HB1
          clear hb
          go_wp2
          go_roundw
          case rel => exact ⟨i + 1, A, m, c, by omega, rfl, by go_num, HB1.out⟩
          case measure => simp [intOf]; omega
    · have hkn : ¬ (i : Int) < (times : Int) := by omega
      obtain rfl : i = times := by omega
      have hm := hb.out.len
      rw [HLn.out, HNT.out] at hm
      rw [HFin.out] at hb
      subst hm
      have HB := Lib.hid hb.out
      clear hb
      go_wp2
      go_ret2
      exact ⟨A, c, rfl, HB.out.own, HB.out.bel⟩

theorem since_zero (l : List Int) (n : Nat) : sinceL l n 0 = List.replicate 16 0 := by
  unfold sinceL
  have : (fun t : Nat => if t < n then ((lastI l t 0 : Nat) : Int) else 0) = fun _ => 0 := by
    funext t
    simp [lastI]
  rw [this]
  rfl
theorem isFair_nat {l : List Int} {k W : Nat} (hk : k ≤ 16) (hW : 1 ≤ W) : isFair l (k : Int) (W : Int) ↔ FairW l k W := by
  unfold isFair
  rw [Int.toNat_natCast, Int.toNat_natCast]
  exact ⟨fun h => h.2.2.2, fun h => ⟨by omega, by omega, by omega, h⟩⟩

set_option maxHeartbeats 4000000 in
theorem fis_any {w : World} {A : Option Addr} {cap m : Nat} {l : List Int} {n window : Int} (hI : Ints .i64 w w.heap.size A m l) (hm : m ≤ 4294967296) (n1 : -9223372036854775808 ≤ n) (n2 : n ≤ 9223372036854775807) (w1 : -9223372036854775808 ≤ window) (w2 : window ≤ 9223372036854775807) :
    Calls Tryd.prog 18 #[.slice A m cap, .int .i64 n, .int .i64 window] w fun e w' => ∃ b, e = .returned (.bool b) ∧ (b = true ↔ isFair l n window) ∧ Below w.heap.size w w' := by
  by_cases hn : 0 ≤ n ∧ n ≤ 16
  case neg =>
    have HW := Lib.hid (fun w => fwithin_no hn w)
    have HF := Lib.hid (show ¬ isFair l n window from fun h => hn ⟨h.1, h.2.1⟩)
    clear hI hn
    go_enter Tryd.func18, Tryd.ntmps18
    go_wp2_with fail
    refine (HW.out _).mono ?_
    rintro e w3 ⟨rfl, rfl⟩
    go_wp2
    go_ret
    exact ⟨false, rfl, ⟨fun h => (by cases h), fun h => absurd h HF.out⟩, Below.refl _ _⟩
  have HW := Lib.hid (fun w => fwithin_yes hn w)
  by_cases hw : window < 1
  · have HF := Lib.hid (show ¬ isFair l n window from fun h => by have := h.2.2.1; omega)
    clear hI
    go_enter Tryd.func18, Tryd.ntmps18
    go_wp2_with fail
    refine (HW.out _).mono ?_
    rintro e w3 ⟨rfl, rfl⟩
    go_wp2
    go_ret
    exact ⟨false, rfl, ⟨fun h => (by cases h), fun h => absurd h HF.out⟩, Below.refl _ _⟩
  obtain ⟨k, rfl⟩ : ∃ k : Nat, n = k := ⟨n.toNat, by omega⟩
  obtain ⟨W, rfl⟩ : ∃ W : Nat, window = W := ⟨window.toNat, by omega⟩
  have hk : k ≤ 16 := by omega
  have hW1 : 1 ≤ W := by omega
  have HIs := Lib.hid (isFair_nat (l := l) hk hW1)
  have hlen := hI.len
  have HI := Lib.hid hI
  have hat := heap_alloc_new w (.cells (Array.replicate 16 (Value.int .i64 0)) 62)
  have HR0 := Lib.hid (show RowT 62 (w.alloc (.cells (Array.replicate 16 (Value.int .i64 0)) 62)) w.heap.size (sinceL l k 0) from ⟨_, hat, by rw [since_zero]; rfl⟩)
  have HB0 := Lib.hid ((Below.refl w.heap.size w).alloc (Nat.le_refl _) (.cells (Array.replicate 16 (Value.int .i64 0)) 62))
  have HT0 := Lib.hid (fairTo_zero l k W)
  clear hI hn n1 n2 w1 w2 hat
  go_enter Tryd.func18, Tryd.ntmps18
  go_wp2_with fail
  refine (HW.out _).mono ?_
  rintro e w3 ⟨rfl, rfl⟩
  clear HW
  go_wp2
  --MARKA
  go_loopw [20] (fun j wr => ∃ i : Nat, i ≤ m ∧ j = .int .i64 i ∧ Hid (Below w.heap.size w wr ∧ RowT 62 wr w.heap.size (sinceL l k i) ∧ FairTo l k W i)) (fun j _ => m - (intOf j).toNat)
  case atStart => exact ⟨0, Nat.zero_le _, rfl, ⟨HB0.out, HR0.out, HT0.out⟩⟩
  case round =>
    obtain ⟨i, hi, rfl, hx⟩ := hrel
    by_cases hlt : i < m
    · have hkn : (i : Int) < (m : Int) := by omega
      have HX := Lib.hid hx.out
      obtain ⟨b, off, hA, _, hc⟩ := (HI.out.oldF hx.out.1).row (by omega)
      subst hA
      have hcell := hc i hlt
      have HGet := Lib.hid (rfl : l.getD i 0 = l.getD i 0)
      obtain ⟨t, ht⟩ : ∃ t, l.getD i 0 = t := ⟨_, rfl⟩
      have HGt := Lib.hid ht
      rw [ht] at hcell
      clear hx hc ht HGet
      by_cases hin : 0 ≤ t ∧ t ≤ (k : Int) - 1
      · obtain ⟨u, rfl⟩ : ∃ u : Nat, t = u := ⟨t.toNat, by omega⟩
        have hu : u < k := by omega
        have HWi := Lib.hid (fun w => fwithin_yes hin w)
        have hsc := HX.out.2.1.cell (i := u) (by rw [sinceL_len]; omega)
        rw [sinceL_at (by omega), if_pos hu] at hsc
        obtain ⟨hs1, hs2⟩ := hsc
        have hle := lastI_le l u i
        by_cases hq : W ≤ i - lastI l u i
        · have hq2 : (W : Int) ≤ (i : Int) - (lastI l u i : Int) := by omega
          have HF := Lib.hid (fair_not (l := l) (n := k) hW1 hu (by omega : i ≤ l.length) hq)
          generalize lastI l u i = s at *
          clear HGt hq
          go_wp2_with fail
          refine (HWi.out _).mono ?_
          rintro e w4 ⟨rfl, rfl⟩
          go_wp2
          go_ret
          exact ⟨false, rfl, ⟨fun h => (by cases h), fun h => absurd (HIs.out.1 h) HF.out⟩, HX.out.1⟩
        · have hq2 : ¬ (W : Int) ≤ (i : Int) - (lastI l u i : Int) := by omega
          have HR1 := Lib.hid (HX.out.2.1.set u ((i : Int) + 1))
          rw [← sinceL_pick HGt.out hu] at HR1
          have HB1 := Lib.hid (below_setI (i := u) (v := .int .i64 ((i : Int) + 1)) HX.out.1 (Nat.le_refl _))
          have HT1 := Lib.hid (fairTo_pick HX.out.2.2 HGt.out (by omega : i - lastI l u i < W))
          generalize lastI l u i = s at *
          clear HGt hq HX
          go_wp2_with fail
          refine (HWi.out _).mono ?_
          rintro e w4 ⟨rfl, rfl⟩
          go_wp2
          go_roundw
          case rel => exact ⟨i + 1, by omega, by go_num, ⟨HB1.out, HR1.out, HT1.out⟩⟩
          case measure => simp [intOf]; omega
      · have HWi := Lib.hid (fun w => fwithin_no hin w)
        have hoth : ∀ u : Nat, u < k → l.getD i 0 ≠ (u : Int) := fun u hu e => hin (by rw [← HGt.out, e]; omega)
        have HX1 := Lib.hid (show Below w.heap.size w wr ∧ RowT 62 wr w.heap.size (sinceL l k (i + 1)) ∧ FairTo l k W (i + 1) from ⟨HX.out.1, by rw [sinceL_other hoth]; exact HX.out.2.1, fairTo_other HX.out.2.2 hoth⟩)
        clear HGt hoth HX hin
        go_wp2_with fail
        refine (HWi.out _).mono ?_
        rintro e w4 ⟨rfl, rfl⟩
        go_wp2
        go_roundw
        case rel => exact ⟨i + 1, by omega, by go_num, ⟨HX1.out.1, HX1.out.2.1, HX1.out.2.2⟩⟩
        case measure => simp [intOf]; omega
    · have hkn : ¬ (i : Int) < (m : Int) := by omega
      obtain rfl : i = m := by omega
      have HX := Lib.hid hx.out
      clear hx
      go_wp2
      go_loopw [43] (fun j wr2 => ∃ t : Nat, t ≤ k ∧ j = .int .i64 t ∧ (∀ u, u < t → i - lastI l u i < W) ∧ wr2 = wr) (fun j _ => k - (intOf j).toNat)
      case atStart => exact ⟨0, Nat.zero_le _, rfl, fun u hu => absurd hu (Nat.not_lt_zero _), rfl⟩
      case round =>
        obtain ⟨t, ht, rfl, hall, rfl⟩ := hrel
        by_cases hlt2 : t < k
        · have hkn2 : (t : Int) < (k : Int) := by omega
          have hsc := HX.out.2.1.cell (i := t) (by rw [sinceL_len]; omega)
          rw [sinceL_at (by omega), if_pos hlt2] at hsc
          obtain ⟨hs1, hs2⟩ := hsc
          have hle := lastI_le l t i
          by_cases hq : W ≤ i - lastI l t i
          · have hq2 : (W : Int) ≤ (i : Int) - (lastI l t i : Int) := by omega
            have HF := Lib.hid (fair_not (l := l) (n := k) hW1 hlt2 (by omega : i ≤ l.length) hq)
            clear hall
            generalize lastI l t i = s at *
            clear hq
            go_wp2
            go_ret
            exact ⟨false, rfl, ⟨fun h => (by cases h), fun h => absurd (HIs.out.1 h) HF.out⟩, HX.out.1⟩
          · have hq2 : ¬ (W : Int) ≤ (i : Int) - (lastI l t i : Int) := by omega
            have HAll := Lib.hid (show ∀ u, u < t + 1 → i - lastI l u i < W from fun u hu => by
              by_cases e : u = t
              · subst e
                omega
              · exact hall u (by omega))
            clear hall
            generalize lastI l t i = s at *
            clear hq
            go_wp2
            go_roundw
            case rel => exact ⟨t + 1, by omega, by go_num, HAll.out, trivial⟩
            case measure => simp [intOf]; omega
        · have hkn2 : ¬ (t : Int) < (k : Int) := by omega
          obtain rfl : t = k := by omega
          have HF := Lib.hid (show FairW l t W by
            have h1 := HX.out.2.2
            refine fairTo_end hW1 (by rw [hlen]; exact h1) fun u hu => ?_
            rw [hlen]
            exact hall u hu)
          clear hall
          go_wp2
          go_ret
          first
            | exact ⟨true, rfl, ⟨fun _ => HIs.out.2 HF.out, fun _ => rfl⟩, HX.out.1⟩
            | exact .inr ⟨rfl, HIs.out.2 HF.out, HX.out.1⟩

theorem fair_ok : FairOK where
  turns := fun hn ht => frounds_any hn ht
  fair := fun hI hm n1 n2 w1 w2 => fis_any hI hm n1 n2 w1 w2
end Go.Proofs.YtoljmleomkkchaaDoor
