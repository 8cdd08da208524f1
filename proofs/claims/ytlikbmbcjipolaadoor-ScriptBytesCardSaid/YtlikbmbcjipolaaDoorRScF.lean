/-
  The reference's ScriptEncode: the walk.
-/
import Derived.Test.YtlikbmbcjipolaaDoorRScE
import Derived.Laws.IdiomStrings
import Derived.Room.AppendZeros
namespace Go.Proofs.YtlikbmbcjipolaaDoor
set_option maxRecDepth 100000
open Go.RowKit Go.Sort
set_option linter.unusedVariables false
set_option linter.unusedSimpArgs false

set_option maxHeartbeats 4000000 in
theorem rScEncode_any (k n r : Int) (l : List (Int × Bool)) (A : Option Addr) (len c : Nat) (w : World) (hM : Moves w w.heap.size A len l) (hlen : len ≤ 90000) :
    Calls Tryd.prog 6 #[scriptV k n r A len c] w (RToldBytes k n r l w) := by
  have hl := hM.len
  have hb0 := (Below.refl w.heap.size w).alloc (Nat.le_refl _) (.cells #[.int .i64 k, .int .i64 n, .int .i64 r, .slice A len c] 24)
  have hx0 := heap_alloc_new w (.cells #[.int .i64 k, .int .i64 n, .int .i64 r, .slice A len c] 24)
  obtain ⟨xb, hxb⟩ : ∃ xb, w.heap.size = xb := ⟨_, rfl⟩
  obtain ⟨w1, hw1⟩ : ∃ w1, w.alloc (.cells #[.int .i64 k, .int .i64 n, .int .i64 r, .slice A len c] 24) = w1 := ⟨_, rfl⟩
  rw [hw1, hxb] at hx0
  rw [hw1] at hb0
  have c0 : w1.cell? ⟨xb, 0, none⟩ = some (.int .i64 k) := by rw [cell_of_row w1 xb 0 _ _ _ hx0]; rfl
  have c1 : w1.cell? ⟨xb, 1, none⟩ = some (.int .i64 n) := by rw [cell_of_row w1 xb 1 _ _ _ hx0]; rfl
  have c2 : w1.cell? ⟨xb, 2, none⟩ = some (.int .i64 r) := by rw [cell_of_row w1 xb 2 _ _ _ hx0]; rfl
  have c3 : w1.cell? ⟨xb, 3, none⟩ = some (.slice A len c) := by rw [cell_of_row w1 xb 3 _ _ _ hx0]; rfl
  have HB0 := Lib.hid (show Below w.heap.size w w1 from hb0)
  have HX := Lib.hid hx0
  have HM1 := Lib.hid (hM.old hb0)
  have HR := Lib.hid (rScRight_any k n r l A len c w1 (hM.old hb0) (by omega))
  clear hM hb0 hx0
  unfold scriptV at HR ⊢
  go_enter Tryd.func6, Tryd.ntmps6
  go_wp2_with fail
  refine HR.out.mono ?_
  rintro e w2 ⟨b, rfl, hb, hb2⟩
  have HB2 := Lib.hid (show Below w.heap.size w w2 from HB0.out.trans (hb2.mono HB0.out.size))
  have HX2 := Lib.hid ((hb2.block xb (lt_of_block HX.out)).trans HX.out)
  have HM2 := Lib.hid (HM1.out.old hb2)
  clear hb2 HR c0 c1 c2 c3 HX HM1 hw1 hxb
  obtain rfl | rfl := (by cases b <;> simp : b = false ∨ b = true)
  · have hno : ¬ rightSc k n r l := fun h => by have := hb.2 h; cases this
    clear hb
    go_wp2
    go_ret2
    exact ⟨HB2.out, .inr ⟨rfl, hno⟩⟩
  have hr : rightSc k n r l := hb.1 rfl
  clear hb
  have c0 : w2.cell? ⟨xb, 0, none⟩ = some (.int .i64 k) := by rw [cell_of_row w2 xb 0 _ _ _ HX2.out]; rfl
  have c1 : w2.cell? ⟨xb, 1, none⟩ = some (.int .i64 n) := by rw [cell_of_row w2 xb 1 _ _ _ HX2.out]; rfl
  have c2 : w2.cell? ⟨xb, 2, none⟩ = some (.int .i64 r) := by rw [cell_of_row w2 xb 2 _ _ _ HX2.out]; rfl
  have c3 : w2.cell? ⟨xb, 3, none⟩ = some (.slice A len c) := by rw [cell_of_row w2 xb 3 _ _ _ HX2.out]; rfl
  have hw1 : wrap64 (k - 1) = k - 1 := by have := hr.1; have := hr.2.1; unfold wrap64; omega
  have hw2 : wrap64 (n - 1) = n - 1 := by have := hr.2.2.1; have := hr.2.2.2.1; clear hw1; unfold wrap64; omega
  have HRR := Lib.hid hr
  have h0 : RowB w2 (some ⟨w2.heap.size, 0, none⟩) 3 3 (numsOf k n r (l.take 0)) (w2.alloc (.cells #[.int .i64 (k - 1), .int .i64 (n - 1), .int .i64 r] 3)) := by
    refine ⟨rfl, ?_, (Below.refl w2.heap.size w2).alloc (Nat.le_refl _) _⟩
    exact World.ownsRow_lit (base := w2.heap.size) (e := 3) (size := 1) w2 #[.int .i64 (k - 1), .int .i64 (n - 1), .int .i64 r] 3 (Nat.le_refl _) (by decide) rfl
  have H0 := Lib.hid h0
  have hxw := lt_of_block HX2.out
  have hxn : xb ≠ w2.heap.size := by omega
  clear hr h0
  --M0
  go_wp2
  --M1
  clear hw1 hw2 c0 c1 c2
  go_loopw [4, 25] (fun v j wr => ∃ (i : Nat) (B : Option Addr) (m d : Nat), i ≤ len ∧ j = .int .i64 i ∧ v = .slice B m d ∧ RowB w2 B m d (numsOf k n r (l.take i)) wr) (fun _ j _ => len - (intOf j).toNat)
  case atStart => exact ⟨0, _, 3, 3, Nat.zero_le _, rfl, rfl, H0.out⟩
  case round =>
    obtain ⟨i, B, m, d, hi, rfl, rfl, hrow⟩ := hrel
    clear c3
    by_cases hlt : i < len
    · have hii : (i : Int) < (len : Int) := by omega
      obtain ⟨ab, off, rfl, hab, hc⟩ := (HM2.out.below hrow.bel).row (by omega)
      obtain ⟨m0, m1⟩ := hc i hlt
      have habw : ab < wr.heap.size := Nat.lt_of_lt_of_le hab hrow.bel.size
      have habn : ab ≠ wr.heap.size := by omega
      have hst := nums_take k n r l i (by omega)
      have hmv : 0 ≤ (l.getD i default).1 ∧ (l.getD i default).1 < n := HRR.out.2.2.2.2.2.2 _ (by rw [← getM (by omega : i < l.length)]; exact List.getElem_mem _)
      have hn8 := HRR.out.2.2.2.1
      have HML := Lib.hid (show m = 3 + i by rw [← hrow.len, numsOf_len, List.length_take, hl]; omega)
      generalize (l.getD i default).1 = t at *
      generalize (l.getD i default).2 = p at *
      have hba := (Below.refl wr.heap.size wr).alloc (Nat.le_refl _) (.cells #[.int .i64 t, .bool p] 40)
      have hxa := heap_alloc_new wr (.cells #[.int .i64 t, .bool p] 40)
      obtain ⟨ub, hub⟩ : ∃ ub, wr.heap.size = ub := ⟨_, rfl⟩
      obtain ⟨wa, hwa⟩ : ∃ wa, wr.alloc (.cells #[.int .i64 t, .bool p] 40) = wa := ⟨_, rfl⟩
      rw [hwa] at hba hxa
      rw [hub] at hxa
      obtain ⟨wb, wc, wd, e1, e2, e3, e4, hbd⟩ := lit_map wa
      have hrd := (hrow.keep hba).keep hbd
      have a0 : wa.cell? ⟨ub, 0, none⟩ = some (.int .i64 t) := by rw [cell_of_row wa ub 0 _ _ _ hxa]; rfl
      have hxd := (hbd.block ub (lt_of_block hxa)).trans hxa
      have a1 : wd.cell? ⟨ub, 1, none⟩ = some (.bool p) := by rw [cell_of_row wd ub 1 _ _ _ hxd]; rfl
      have e4 := e4 p
      have hwt : wrap64 (t + addOf p) = t + addOf p := by unfold addOf wrap64; split <;> omega
      obtain ⟨B2, m2, d2, w5, hap, hrow2⟩ := hrd.one (t + addOf p) (by have := HML.out; omega)
      rw [← hst] at hrow2
      have HF := Lib.hid hrow2
      clear hc hrow hst hmv hn8 hba hxa hbd hrd hxd hrow2 hab
      generalize addOf p = ap at *
      obtain ⟨mb, hmb⟩ : ∃ mb, wa.heap.size = mb := ⟨_, rfl⟩
      rw [hmb] at e1 e2 e3 e4
      have HAP := Lib.hid hap
      clear hap
      --M2
      go_wp2_with (at_builtin; refine Lib.wpList_append_run _ rfl _ _ _ _ rfl _ _ rfl rfl _ _ HAP.out ?_; clear HAP)
      --M3
      go_roundw
      case rel => exact ⟨i + 1, _, _, _, by omega, by go_num, rfl, HF.out⟩
      case measure => simp [intOf]; omega
    · obtain rfl : i = len := by omega
      rw [List.take_of_length_le (by omega)] at hrow
      have hii : ¬ (i : Int) < (i : Int) := by omega
      have hin := Ints.of_own hrow.own
      obtain ⟨hnb, hnr⟩ := nums_bytes HRR.out
      have HN := Lib.hid (And.intro hnb hnr)
      have HBW := Lib.hid (show Below w.heap.size w wr from HB2.out.trans (hrow.bel.mono HB2.out.size))
      have HIN := Lib.hid hin
      have HML := Lib.hid (show m = 3 + i by rw [← hrow.len, numsOf_len, hl])
      have HNL := Lib.hid (show (numsOf k n r l).length = m by rw [numsOf_len, hl]; exact HML.out.symm)
      have hm9 : m ≤ 90003 := by have := HML.out; omega
      clear hin hnb hnr hrow H0 HM2 HX2
      generalize wr = wq at *
      --M4
      go_wp2
      go_loopw [7, 43] (fun v j wx => ∃ q : Nat, q ≤ m ∧ j = .int .i64 q ∧ v = strV ((bytesOf k n r l).take q) ∧ Below wq.heap.size wq wx) (fun _ j _ => m - (intOf j).toNat)
      case atStart => exact ⟨0, Nat.zero_le _, rfl, rfl, Below.refl _ _⟩
      case round =>
        obtain ⟨q, hq, rfl, rfl, hbx⟩ := hrel
        by_cases hqt : q < m
        · have hqi : (q : Int) < (m : Int) := by omega
          obtain ⟨gb, off, rfl, hgb, hc⟩ := (HIN.out.below hbx).row (by omega)
          have m0 := hc q hqt
          have HQT := Lib.hid hqt
          have hz := HN.out.2 ((numsOf k n r l).getD q 0) (by rw [List.getD_eq_getElem?_getD, List.getElem?_eq_getElem (by rw [HNL.out]; exact hqt)]; exact List.getElem_mem _)
          have hst : (bytesOf k n r l).take (q + 1) = (bytesOf k n r l).take q ++ [UInt8.ofNat ((numsOf k n r l).getD q 0).toNat] := by
            rw [HN.out.1, List.take_succ_eq_append_getElem (by rw [List.length_map, HNL.out]; exact hqt), List.getElem_map, List.getD_eq_getElem?_getD, List.getElem?_eq_getElem (by rw [HNL.out]; exact hqt)]
            rfl
          generalize (numsOf k n r l).getD q 0 = z at *
          have hu : IntKind.u8.wrap z = ((UInt8.ofNat z.toNat).toNat : Int) := by rw [u8_wrap hz.1 hz.2, u8_of (by omega)]; omega
          generalize UInt8.ofNat z.toNat = y at *
          have hlt2 : ((bytesOf k n r l).take q).length ≤ 90003 := by rw [List.length_take]; have := HML.out; omega
          generalize (bytesOf k n r l).take q = S at *
          have hcat := rsc_cat S [y]
          have hsz : ¬ 9223372036854775807 < (⟨S.toArray⟩ : ByteArray).size + (⟨[y].toArray⟩ : ByteArray).size := by
            have e1 : (⟨S.toArray⟩ : ByteArray).size = S.length := by simp [ByteArray.size]
            have e2 : (⟨[y].toArray⟩ : ByteArray).size = 1 := by simp [ByteArray.size]
            omega
          have hcv : (convert 47 9 (.slice (some ⟨wr.heap.size, 0, none⟩) 1 1)).run Tryd.prog (wr.alloc (.cells #[.int .u8 (y.toNat : Int)] 5)) = .ok (.string ⟨[y].toArray⟩) (wr.alloc (.cells #[.int .u8 (y.toNat : Int)] 5)) := run_convert_bytes_back (P := Tryd.prog) (wr.alloc (.cells #[.int .u8 (y.toNat : Int)] 5)) 47 9 5 ⟨wr.heap.size, 0, none⟩ 1 [y] Tryd.underlying47 Tryd.underlying5 Tryd.underlying9 (fun j hj => by
            obtain rfl : j = 0 := by simpa using hj
            rw [show (⟨wr.heap.size, 0, none⟩ : Addr).add 0 = ⟨wr.heap.size, 0, none⟩ from rfl, cell_of_row _ wr.heap.size 0 _ _ _ (heap_alloc_new wr _)]
            rfl)
          have HF := Lib.hid (And.intro hst (hbx.alloc hbx.size (.cells #[.int .u8 (y.toNat : Int)] 5)))
          clear hc hz hst hbx hgb
          unfold strV
          generalize (⟨S.toArray⟩ : ByteArray) = SB at *
          generalize (⟨[y].toArray⟩ : ByteArray) = YB at *
          --M5
          go_wp2
          --M6
          go_roundw
          case rel => exact ⟨q + 1, HQT.out, by go_num, by rw [HF.out.1], HF.out.2⟩
          case measure => have := HQT.out; simp [intOf]; omega
        · obtain rfl : q = m := by omega
          have hqi : ¬ (q : Int) < (q : Int) := by omega
          rw [List.take_of_length_le (by rw [HN.out.1, List.length_map, HNL.out]; exact Nat.le_refl _)]
          go_wp2
          go_ret2
          exact ⟨HBW.out.trans (hbx.mono HBW.out.size), .inl ⟨rfl, HRR.out⟩⟩
end Go.Proofs.YtlikbmbcjipolaaDoor
