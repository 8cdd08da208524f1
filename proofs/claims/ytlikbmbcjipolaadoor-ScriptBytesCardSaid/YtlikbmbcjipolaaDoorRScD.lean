/-
  The reference's ScriptDecode.
-/
import Derived.Test.YtlikbmbcjipolaaDoorScD
import Derived.Test.YtlikbmbcjipolaaDoorHeldH
import Derived.Lib.ConvBytes
namespace Go.Proofs.YtlikbmbcjipolaaDoor
set_option maxRecDepth 100000
open Go.RowKit Go.Sort
set_option linter.unusedVariables false
set_option linter.unusedSimpArgs false

theorem rsc_wrapI {x : Int} (h0 : 0 ≤ x) (h1 : x < 1000) : IntKind.i64.wrap x = x := by
  simp [IntKind.wrap, IntKind.signed, IntKind.bits]
  omega
theorem rsc_wraps (t : List UInt8) : IntKind.i64.wrap ((byteAt t 0 % 6 : Nat) : Int) = ((byteAt t 0 % 6 : Nat) : Int) ∧ IntKind.i64.wrap (((byteAt t 0 % 6 : Nat) : Int) + 1) = ((kOf t : Nat) : Int) ∧ IntKind.i64.wrap ((byteAt t 1 % 8 : Nat) : Int) = ((byteAt t 1 % 8 : Nat) : Int) ∧ IntKind.i64.wrap (((byteAt t 1 % 8 : Nat) : Int) + 1) = ((nOf t : Nat) : Int) ∧ IntKind.i64.wrap ((rOf t : Nat) : Int) = ((rOf t : Nat) : Int) := by
  unfold kOf nOf rOf
  refine ⟨rsc_wrapI (by omega) (by omega), ?_, rsc_wrapI (by omega) (by omega), ?_, rsc_wrapI (by omega) (by omega)⟩
  · rw [rsc_wrapI (by omega) (by omega)]; rfl
  · rw [rsc_wrapI (by omega) (by omega)]; rfl
theorem rscript_result {tmps : Array Value} {w : World} {rb : Nat} {k n r : Int} {v : Value} (h2 : tmps.getD 2 undef = .pointer (some ⟨rb, 0, none⟩))
    (hr : w.heap[rb]? = some (.cells #[.int .i64 k, .int .i64 n, .int .i64 r, v] 24 (0, 0))) :
    (results Tryd.f13 tmps).run Tryd.prog w = .ok (.agg #[.int .i64 k, .int .i64 n, .int .i64 r, v]) w := by
  have c0 : w.cell? ⟨rb, 0, none⟩ = some (.int .i64 k) := by rw [cell_of_row w rb 0 _ _ _ hr]; rfl
  have c1 : w.cell? ⟨rb, 1, none⟩ = some (.int .i64 n) := by rw [cell_of_row w rb 1 _ _ _ hr]; rfl
  have c2 : w.cell? ⟨rb, 2, none⟩ = some (.int .i64 r) := by rw [cell_of_row w rb 2 _ _ _ hr]; rfl
  have c3 : w.cell? ⟨rb, 3, none⟩ = some v := by rw [cell_of_row w rb 3 _ _ _ hr]; rfl
  simp only [Array.getD_eq_getD_getElem?] at h2
  simp [results, Tryd.results13, go_sem, h2, c0, c1, c2, c3]

set_option maxHeartbeats 4000000 in
theorem rScDecode_any (t : List UInt8) (ht : t.length ≤ 90000) (w : World) : Calls Tryd.prog 13 #[strV t] w (ToldScript t w) := by
  have hx0 := heap_alloc_new w (.cells #[.int .i64 0, .int .i64 0, .int .i64 0, .slice none 0 0] 24)
  have hb0 := (Below.refl w.heap.size w).alloc (Nat.le_refl _) (.cells #[.int .i64 0, .int .i64 0, .int .i64 0, .slice none 0 0] 24)
  obtain ⟨rb, hrb⟩ : ∃ rb, w.heap.size = rb := ⟨_, rfl⟩
  obtain ⟨w0, hw0⟩ : ∃ w0, w.alloc (.cells #[.int .i64 0, .int .i64 0, .int .i64 0, .slice none 0 0] 24) = w0 := ⟨_, rfl⟩
  have hs0 : w0.heap.size = rb + 1 := by rw [← hw0, World.size_alloc, hrb]
  rw [hw0, hrb] at hx0
  rw [hw0, hrb] at hb0
  have hx1 := heap_alloc_new w0 (.cells #[.int .u8 0, .int .u8 0, .int .u8 0] 5)
  have hb1 := hb0.alloc (by omega) (.cells #[.int .u8 0, .int .u8 0, .int .u8 0] 5)
  have hr1 := (Below.heap_alloc w0 (.cells #[.int .u8 0, .int .u8 0, .int .u8 0] 5) rb (by omega)).trans hx0
  obtain ⟨w1, hw1⟩ : ∃ w1, w0.alloc (.cells #[.int .u8 0, .int .u8 0, .int .u8 0] 5) = w1 := ⟨_, rfl⟩
  have hs1 : w1.heap.size = rb + 2 := by rw [← hw1, World.size_alloc, hs0]
  rw [hw1] at hx1 hb1 hr1
  rw [hs0] at hx1
  have hcp := run_copy_head (P := Tryd.prog) w1 47 9 3 5 (rb + 1) t 5 Tryd.underlying47 (by kernel_rfl) hx1
  obtain ⟨w2, hw2⟩ : ∃ w2, w1.setRow (rb + 1) (headC t) = w2 := ⟨_, rfl⟩
  have hs2 : w2.heap.size = rb + 2 := by rw [← hw2, setRow_size, hs1]
  have hx2 : w2.heap[rb + 1]? = some (.cells (headC t) 5 (0, 0)) := by rw [← hw2]; exact setRow_heap w1 (rb + 1) _ _ _ _ hx1
  have hr2 : w2.heap[rb]? = some (.cells #[.int .i64 0, .int .i64 0, .int .i64 0, .slice none 0 0] 24 (0, 0)) := by rw [← hw2, setRow_other _ _ _ _ (by omega)]; exact hr1
  have hb2 : Below rb w w2 := by
    refine ⟨by rw [← hw2]; exact hb1.os, by rw [← hw2]; exact hb1.tape, by rw [← hw2]; exact hb1.output, by rw [hs2]; omega, fun j hj => ?_⟩
    rw [← hw2, setRow_other _ _ _ _ (by omega)]
    exact hb1.block j hj
  rw [hw2] at hcp
  have c0 : w2.cell? ⟨rb + 1, 0, none⟩ = some (.int .u8 (byteAt t 0 : Nat)) := by rw [cell_of_row w2 (rb + 1) 0 _ _ _ hx2]; rfl
  have c1 : w2.cell? ⟨rb + 1, 1, none⟩ = some (.int .u8 (byteAt t 1 : Nat)) := by rw [cell_of_row w2 (rb + 1) 1 _ _ _ hx2]; rfl
  have c2 : w2.cell? ⟨rb + 1, 2, none⟩ = some (.int .u8 (byteAt t 2 : Nat)) := by rw [cell_of_row w2 (rb + 1) 2 _ _ _ hx2]; rfl
  have HB2 := Lib.hid hb2
  have HR2 := Lib.hid hr2
  have HS2 := Lib.hid hs2
  have hsz : (⟨t.toArray⟩ : ByteArray).size = t.length := by simp [ByteArray.size]
  have hxt : (⟨t.toArray⟩ : ByteArray).extract (min t.length 3) t.length = ⟨(t.drop 3).toArray⟩ := by
    rw [Lib.extract_eq]
    have e : t.drop (min t.length 3) = t.drop 3 := by
      by_cases h : t.length ≤ 3
      · rw [Nat.min_eq_left h, List.drop_eq_nil_of_le (Nat.le_refl _), List.drop_eq_nil_of_le h]
      · rw [Nat.min_eq_right (by omega)]
    simp [e]
    exact List.take_of_length_le (by rw [List.length_drop]; omega)
  have hm0 : (0 : Int) ≤ ((min t.length 3 : Nat) : Int) := by omega
  have hm1 : ((min t.length 3 : Nat) : Int) ≤ (t.length : Int) := by omega
  have hmn : mvsOf t = (t.drop 3).map (mvOf (nOf t)) := rfl
  have hkk := kOf_dims t
  have e0 : ((byteAt t 0 : Nat) : Int).tmod 6 = ((byteAt t 0 % 6 : Nat) : Int) := rfl
  have e1 : ((byteAt t 1 : Nat) : Int).tmod 8 = ((byteAt t 1 % 8 : Nat) : Int) := rfl
  have e2 : ((byteAt t 2 : Nat) : Int).tmod 6 = ((rOf t : Nat) : Int) := rfl
  have l0 : byteAt t 0 < 256 := UInt8.toNat_lt _
  have l1 : byteAt t 1 < 256 := UInt8.toNat_lt _
  have l2 : byteAt t 2 < 256 := UInt8.toNat_lt _
  have g0 : wrap64 ((byteAt t 0 % 6 : Nat) : Int) = ((byteAt t 0 % 6 : Nat) : Int) := by unfold wrap64; omega
  have HA0 := Lib.hid (show wrap64 ((byteAt t 0 % 6 : Nat) + 1 : Int) = ((kOf t : Nat) : Int) by clear g0; unfold kOf wrap64; omega)
  clear g0
  have HA1 := Lib.hid (show wrap64 ((byteAt t 1 % 8 : Nat) + 1 : Int) = ((nOf t : Nat) : Int) by unfold nOf wrap64; omega)
  have HI0 := Lib.hid (show wrap64 ((byteAt t 0 : Nat) : Int) = ((byteAt t 0 : Nat) : Int) by unfold wrap64; omega)
  have HI1 := Lib.hid (show wrap64 ((byteAt t 1 : Nat) : Int) = ((byteAt t 1 : Nat) : Int) by unfold wrap64; omega)
  have HI2 := Lib.hid (show wrap64 ((byteAt t 2 : Nat) : Int) = ((byteAt t 2 : Nat) : Int) by unfold wrap64; omega)
  have HKK := Lib.hid hkk
  have HMN := Lib.hid hmn
  have hml : (t.drop 3).length ≤ 90000 := by rw [List.length_drop]; omega
  have HFULL := Lib.hid (show ToldScript t w = fun e w' => Below w.heap.size w w' ∧ ∃ A c, e = .returned (scriptV (kOf t) (nOf t) (rOf t) A (mvsOf t).length c) ∧ Moves w' w'.heap.size A (mvsOf t).length (mvsOf t) from rfl)
  clear hb0 hx0 hx1 hb1 hr1 hw2 hx2 hs1 hr2 hb2 hkk hmn l0 l1 l2
  have HJ : Hid (IntKind.i64.wrap ((byteAt t 0 % 6 : Nat) : Int) = ((byteAt t 0 % 6 : Nat) : Int) ∧ IntKind.i64.wrap (((byteAt t 0 % 6 : Nat) : Int) + 1) = ((kOf t : Nat) : Int) ∧ IntKind.i64.wrap ((byteAt t 1 % 8 : Nat) : Int) = ((byteAt t 1 % 8 : Nat) : Int) ∧ IntKind.i64.wrap (((byteAt t 1 % 8 : Nat) : Int) + 1) = ((nOf t : Nat) : Int) ∧ IntKind.i64.wrap ((rOf t : Nat) : Int) = ((rOf t : Nat) : Int)) := Lib.hid (rsc_wraps t)
  generalize kOf t = k at *
  generalize nOf t = n at *
  generalize rOf t = r at *
  generalize mvsOf t = mv at *
  generalize t.drop 3 = ms at *
  generalize byteAt t 0 % 6 = z0 at *
  generalize byteAt t 1 % 8 = z1 at *
  generalize byteAt t 0 = y0 at *
  generalize byteAt t 1 = y1 at *
  generalize byteAt t 2 = y2 at *
  have hi0 := HI0.out
  have hi1 := HI1.out
  have hi2 := HI2.out
  have ha0 := HA0.out
  have ha1 := HA1.out
  have HMS := Lib.hid (index_byte ms)
  have hmz : (⟨ms.toArray⟩ : ByteArray).size = ms.length := by simp [ByteArray.size]
  have HMD := Lib.hid (show (⟨ms.toArray⟩ : ByteArray).data.toList = ms by simp)
  generalize (⟨ms.toArray⟩ : ByteArray) = MB at *
  unfold strV
  generalize hTB : (⟨t.toArray⟩ : ByteArray) = TB1 at *
  generalize min t.length 3 = mm at *
  generalize t.length = tl at *
  --MA
  have hz3 : w2.heap[rb + 2]? = none := by rw [Array.getElem?_eq_none]; omega
  have HHD := Lib.hid (show ∀ W : World, W.heap[rb + 1]? = w2.heap[rb + 1]? → W.cell? ⟨rb + 1, 0, none⟩ = some (.int .u8 (y0 : Nat)) ∧ W.cell? ⟨rb + 1, 1, none⟩ = some (.int .u8 (y1 : Nat)) ∧ W.cell? ⟨rb + 1, 2, none⟩ = some (.int .u8 (y2 : Nat)) from fun W h => ⟨(World.cell?_of_block (a := ⟨rb + 1, 0, none⟩) h).trans c0, (World.cell?_of_block (a := ⟨rb + 1, 1, none⟩) h).trans c1, (World.cell?_of_block (a := ⟨rb + 1, 2, none⟩) h).trans c2⟩)
  have HS3a := Lib.hid (HHD.out w2.drew rfl)
  have hxz : (w2.drew.alloc (.cells #[.int .i64 0, .int .i64 0, .int .i64 0, .slice none 0 0] 24)).heap[rb + 2]? = some (.cells #[.int .i64 0, .int .i64 0, .int .i64 0, .slice none 0 0] 24 (0, 0)) := by
    have h := heap_alloc_new w2.drew (.cells #[.int .i64 0, .int .i64 0, .int .i64 0, .slice none 0 0] 24)
    rw [show w2.drew.heap.size = rb + 2 from hs2] at h
    exact h
  have hoz : ∀ j, j < rb + 2 → (w2.drew.alloc (.cells #[.int .i64 0, .int .i64 0, .int .i64 0, .slice none 0 0] 24)).heap[j]? = w2.heap[j]? := fun j hj => Below.heap_alloc w2.drew _ j (by rw [show w2.drew.heap.size = rb + 2 from hs2]; exact hj)
  have hbz : Below rb w (w2.drew.alloc (.cells #[.int .i64 0, .int .i64 0, .int .i64 0, .slice none 0 0] 24)) := (below_drewN HB2.out 1).alloc (by rw [show (w2.drewN 1).heap.size = rb + 2 from hs2]; omega) _
  have hsz2 : (w2.drew.alloc (.cells #[.int .i64 0, .int .i64 0, .int .i64 0, .slice none 0 0] 24)).heap.size = rb + 3 := by rw [World.size_alloc]; exact congrArg (· + 1) hs2
  obtain ⟨wz, hwz⟩ : ∃ wz, w2.drew.alloc (.cells #[.int .i64 0, .int .i64 0, .int .i64 0, .slice none 0 0] 24) = wz := ⟨_, rfl⟩
  rw [hwz] at hxz hoz hbz hsz2
  have HS3b := Lib.hid (HHD.out wz (hoz _ (by omega)))
  have r0 : wz.cell? ⟨rb + 2, 0, none⟩ = some (.int .i64 0) := by rw [cell_of_row wz (rb + 2) 0 _ _ _ hxz]; rfl
  have r1 : wz.cell? ⟨rb + 2, 1, none⟩ = some (.int .i64 0) := by rw [cell_of_row wz (rb + 2) 1 _ _ _ hxz]; rfl
  have r2 : wz.cell? ⟨rb + 2, 2, none⟩ = some (.int .i64 0) := by rw [cell_of_row wz (rb + 2) 2 _ _ _ hxz]; rfl
  have r3 : wz.cell? ⟨rb + 2, 3, none⟩ = some (.slice none 0 0) := by rw [cell_of_row wz (rb + 2) 3 _ _ _ hxz]; rfl
  have fz0 := frozen_of_row wz (rb + 2) 0 _ _ hxz
  have fz1 := frozen_of_row wz (rb + 2) 1 _ _ hxz
  have fz2 := frozen_of_row wz (rb + 2) 2 _ _ hxz
  have fz3 := frozen_of_row wz (rb + 2) 3 _ _ hxz
  have q1 := heap_setCell_same _ (rb + 2) 0 _ _ (.int .i64 (k : Nat)) hxz
  have q2 := heap_setCell_same _ (rb + 2) 1 _ _ (.int .i64 (n : Nat)) q1
  have q3 := heap_setCell_same _ (rb + 2) 2 _ _ (.int .i64 (r : Nat)) q2
  have q4 := heap_setCell_same _ (rb + 2) 3 _ _ (.slice none 0 0) q3
  have ho3 : ∀ j, j < rb + 2 → ((((wz.setCell ⟨rb + 2, 0, none⟩ (.int .i64 (k : Nat))).setCell ⟨rb + 2, 1, none⟩ (.int .i64 (n : Nat))).setCell ⟨rb + 2, 2, none⟩ (.int .i64 (r : Nat))).setCell ⟨rb + 2, 3, none⟩ (.slice none 0 0)).heap[j]? = w2.heap[j]? := fun j hj => by
    have hne : j ≠ rb + 2 := by omega
    rw [heap_setCell_other _ ⟨rb + 2, 3, none⟩ j _ hne, heap_setCell_other _ ⟨rb + 2, 2, none⟩ j _ hne, heap_setCell_other _ ⟨rb + 2, 1, none⟩ j _ hne, heap_setCell_other _ ⟨rb + 2, 0, none⟩ j _ hne]
    exact hoz j hj
  have hb3 : Below rb w ((((wz.setCell ⟨rb + 2, 0, none⟩ (.int .i64 (k : Nat))).setCell ⟨rb + 2, 1, none⟩ (.int .i64 (n : Nat))).setCell ⟨rb + 2, 2, none⟩ (.int .i64 (r : Nat))).setCell ⟨rb + 2, 3, none⟩ (.slice none 0 0)) := (((hbz.setCell (p := ⟨rb + 2, 0, none⟩) (by show rb ≤ rb + 2; omega) _).setCell (p := ⟨rb + 2, 1, none⟩) (by show rb ≤ rb + 2; omega) _).setCell (p := ⟨rb + 2, 2, none⟩) (by show rb ≤ rb + 2; omega) _).setCell (p := ⟨rb + 2, 3, none⟩) (by show rb ≤ rb + 2; omega) _
  have HS3c := Lib.hid (HHD.out ((((wz.setCell ⟨rb + 2, 0, none⟩ (.int .i64 (k : Nat))).setCell ⟨rb + 2, 1, none⟩ (.int .i64 (n : Nat))).setCell ⟨rb + 2, 2, none⟩ (.int .i64 (r : Nat))).setCell ⟨rb + 2, 3, none⟩ (.slice none 0 0)) (ho3 _ (by omega)))
  have HW3 := Lib.hid (And.intro q4 (And.intro hb3 (And.intro ((ho3 rb (by omega)).trans HR2.out) (by simp [hsz2] : ((((wz.setCell ⟨rb + 2, 0, none⟩ (.int .i64 (k : Nat))).setCell ⟨rb + 2, 1, none⟩ (.int .i64 (n : Nat))).setCell ⟨rb + 2, 2, none⟩ (.int .i64 (r : Nat))).setCell ⟨rb + 2, 3, none⟩ (.slice none 0 0)).heap.size = rb + 3))))
  obtain ⟨j0, j1, j2, j3, j4⟩ := HJ.out
  clear q1 q2 q3 q4 ho3 hb3 hxz hoz hbz hsz2 c0 c1 c2 hz3
  go_enter Tryd.func13, Tryd.ntmps13
  --M0
  go_wp2
  --M1
  refine region_heldH (S := (fun u => u.cell? ⟨rb + 1, 0, none⟩ = some (.int .u8 (y0 : Nat)) ∧ u.cell? ⟨rb + 1, 1, none⟩ = some (.int .u8 (y1 : Nat)) ∧ u.cell? ⟨rb + 1, 2, none⟩ = some (.int .u8 (y2 : Nat)))) 20 rfl (by kernel_rfl) HS3a.out (fun hHeld => ?_)
  refine heldH_take (n := 19) (i := 0) (oi := _) (v := ?va0) (dst := some 12) rfl rfl rfl (by kernel_rfl) (by kernel_rfl) (by kernel_rfl) (fun _ _ _ h => h) (Or.inl ⟨by rfl, ?hya0⟩) (by assumption) ?resta0
  case hya0 => intro u hSu; (try dsimp only at hSu); go_simp; try (with_reducible rfl)
  simp only [Act.put, List.setIfInBounds_toArray, List.set_cons_zero, List.set_cons_succ]
  refine heldH_take (n := 18) (i := 1) (oi := _) (v := ?va1) (dst := some 13) rfl rfl rfl (by kernel_rfl) (by kernel_rfl) (by kernel_rfl) (fun _ _ _ h => h) (Or.inl ⟨by rfl, ?hya1⟩) (by assumption) ?resta1
  case hya1 => intro u hSu; (try dsimp only at hSu); go_simp; try (with_reducible rfl)
  simp only [Act.put, List.setIfInBounds_toArray, List.set_cons_zero, List.set_cons_succ]
  refine heldH_take (n := 17) (i := 2) (oi := _) (v := ?va2) (dst := some 14) rfl rfl rfl (by kernel_rfl) (by kernel_rfl) (by kernel_rfl) (fun _ _ _ h => h) (Or.inl ⟨by rfl, ?hya2⟩) (by assumption) ?resta2
  case hya2 => intro u hSu; (try dsimp only at hSu); go_simp; try (with_reducible rfl)
  simp only [Act.put, List.setIfInBounds_toArray, List.set_cons_zero, List.set_cons_succ]
  refine heldH_take (n := 16) (i := 3) (oi := _) (v := ?va3) (dst := some 15) rfl rfl rfl (by kernel_rfl) (by kernel_rfl) (by kernel_rfl) (fun _ _ _ h => h) (Or.inl ⟨by rfl, ?hya3⟩) (by assumption) ?resta3
  case hya3 => intro u hSu; (try dsimp only at hSu); go_simp; try (with_reducible rfl)
  simp only [Act.put, List.setIfInBounds_toArray, List.set_cons_zero, List.set_cons_succ]
  refine heldH_take (n := 15) (i := 4) (oi := _) (v := ?va4) (dst := some 16) rfl rfl rfl (by kernel_rfl) (by kernel_rfl) (by kernel_rfl) (fun _ _ _ h => h) (Or.inl ⟨by rfl, ?hya4⟩) (by assumption) ?resta4
  case hya4 => intro u hSu; (try dsimp only at hSu); go_simp; try (with_reducible rfl)
  simp only [Act.put, List.setIfInBounds_toArray, List.set_cons_zero, List.set_cons_succ]
  refine heldH_take (n := 14) (i := 5) (oi := _) (v := ?va5) (dst := some 17) rfl rfl rfl (by kernel_rfl) (by kernel_rfl) (by kernel_rfl) (fun _ _ _ h => h) (Or.inl ⟨by rfl, ?hya5⟩) (by assumption) ?resta5
  case hya5 => intro u hSu; (try dsimp only at hSu); go_simp; try (with_reducible rfl)
  simp only [Act.put, List.setIfInBounds_toArray, List.set_cons_zero, List.set_cons_succ]
  refine heldH_take (n := 13) (i := 6) (oi := _) (v := ?va6) (dst := some 18) rfl rfl rfl (by kernel_rfl) (by kernel_rfl) (by kernel_rfl) (fun _ _ _ h => h) (Or.inl ⟨by rfl, ?hya6⟩) (by assumption) ?resta6
  case hya6 => intro u hSu; (try dsimp only at hSu); go_simp; try (with_reducible rfl)
  simp only [Act.put, List.setIfInBounds_toArray, List.set_cons_zero, List.set_cons_succ]
  refine heldH_take (n := 12) (i := 7) (oi := _) (v := ?va7) (dst := some 19) rfl rfl rfl (by kernel_rfl) (by kernel_rfl) (by kernel_rfl) (fun _ _ _ h => h) (Or.inl ⟨by rfl, ?hya7⟩) (by assumption) ?resta7
  case hya7 => intro u hSu; (try dsimp only at hSu); go_simp; try (with_reducible rfl)
  simp only [Act.put, List.setIfInBounds_toArray, List.set_cons_zero, List.set_cons_succ]
  refine heldH_take (n := 11) (i := 8) (oi := _) (v := ?va8) (dst := some 20) rfl rfl rfl (by kernel_rfl) (by kernel_rfl) (by kernel_rfl) (fun _ _ _ h => h) (Or.inl ⟨by rfl, ?hya8⟩) (by assumption) ?resta8
  case hya8 => intro u hSu; (try dsimp only at hSu); go_simp; try (with_reducible rfl)
  simp only [Act.put, List.setIfInBounds_toArray, List.set_cons_zero, List.set_cons_succ]
  refine heldH_take (n := 10) (i := 9) (oi := _) (v := ?va9) (dst := some 21) rfl rfl rfl (by kernel_rfl) (by kernel_rfl) (by kernel_rfl) (fun _ _ _ h => h) (Or.inl ⟨by rfl, ?hya9⟩) (by assumption) ?resta9
  case hya9 => intro u hSu; (try dsimp only at hSu); go_simp; try (with_reducible rfl)
  simp only [Act.put, List.setIfInBounds_toArray, List.set_cons_zero, List.set_cons_succ]
  refine heldH_take (n := 9) (i := 10) (oi := _) (v := ?va10) (dst := some 22) rfl rfl rfl (by kernel_rfl) (by kernel_rfl) (by kernel_rfl) (fun _ _ _ h => h) (Or.inl ⟨by rfl, ?hya10⟩) (by assumption) ?resta10
  case hya10 => intro u hSu; (try dsimp only at hSu); go_simp; try (with_reducible rfl)
  simp only [Act.put, List.setIfInBounds_toArray, List.set_cons_zero, List.set_cons_succ]
  refine heldH_take (n := 8) (i := 11) (oi := _) (v := ?va11) (dst := some 23) rfl rfl rfl (by kernel_rfl) (by kernel_rfl) (by kernel_rfl) (fun _ _ _ h => h) (Or.inl ⟨by rfl, ?hya11⟩) (by assumption) ?resta11
  case hya11 => intro u hSu; (try dsimp only at hSu); go_simp; try (with_reducible rfl)
  simp only [Act.put, List.setIfInBounds_toArray, List.set_cons_zero, List.set_cons_succ]
  refine heldH_take (n := 7) (i := 12) (oi := _) (v := ?va12) (dst := some 24) rfl rfl rfl (by kernel_rfl) (by kernel_rfl) (by kernel_rfl) (fun _ _ _ h => h) (Or.inl ⟨by rfl, ?hya12⟩) (by assumption) ?resta12
  case hya12 => intro u hSu; (try dsimp only at hSu); go_simp; try (with_reducible rfl)
  simp only [Act.put, List.setIfInBounds_toArray, List.set_cons_zero, List.set_cons_succ]
  refine heldH_take (n := 6) (i := 13) (oi := _) (v := ?va13) (dst := some 25) rfl rfl rfl (by kernel_rfl) (by kernel_rfl) (by kernel_rfl) (fun _ _ _ h => h) (Or.inl ⟨by rfl, ?hya13⟩) (by assumption) ?resta13
  case hya13 => intro u hSu; (try dsimp only at hSu); go_simp; try (with_reducible rfl)
  simp only [Act.put, List.setIfInBounds_toArray, List.set_cons_zero, List.set_cons_succ]
  refine heldH_take (n := 5) (i := 14) (oi := _) (v := ?va14) (dst := some 26) rfl rfl rfl (by kernel_rfl) (by kernel_rfl) (by kernel_rfl) (fun _ _ _ h => h) (Or.inl ⟨by rfl, ?hya14⟩) (by assumption) ?resta14
  case hya14 => intro u hSu; (try dsimp only at hSu); go_simp; try (with_reducible rfl)
  simp only [Act.put, List.setIfInBounds_toArray, List.set_cons_zero, List.set_cons_succ]
  refine heldH_take (n := 4) (i := 15) (oi := _) (v := ?va15) (dst := some 27) rfl rfl rfl (by kernel_rfl) (by kernel_rfl) (by kernel_rfl) (fun _ _ _ h => h) (Or.inl ⟨by rfl, ?hya15⟩) (by assumption) ?resta15
  case hya15 => intro u hSu; (try dsimp only at hSu); go_simp; try (with_reducible rfl)
  simp only [Act.put, List.setIfInBounds_toArray, List.set_cons_zero, List.set_cons_succ]
  refine heldH_take (n := 3) (i := 16) (oi := _) (v := ?va16) (dst := some 28) rfl rfl rfl (by kernel_rfl) (by kernel_rfl) (by kernel_rfl) (fun _ _ _ h => h) (Or.inl ⟨by rfl, ?hya16⟩) (by assumption) ?resta16
  case hya16 => intro u hSu; (try dsimp only at hSu); go_simp; try (with_reducible rfl)
  simp only [Act.put, List.setIfInBounds_toArray, List.set_cons_zero, List.set_cons_succ]
  refine heldH_take (n := 2) (i := 17) (oi := _) (v := ?va17) (dst := some 29) rfl rfl rfl (by kernel_rfl) (by kernel_rfl) (by kernel_rfl) (fun _ _ _ h => h) (Or.inl ⟨by rfl, ?hya17⟩) (by assumption) ?resta17
  case hya17 => intro u hSu; (try dsimp only at hSu); go_simp; try (with_reducible rfl)
  simp only [Act.put, List.setIfInBounds_toArray, List.set_cons_zero, List.set_cons_succ]
  refine heldH_step (n := 1) (i := 18) (o := _) rfl (by kernel_rfl) rfl (fun K hK => ?_)
  have HK2 := Lib.hid hK
  clear hK
  go_simp
  refine HK2.out _ _ HS3b.out (fun hHeld => ?_)
  clear HK2 K
  --MS
  refine heldH_step (n := 0) (i := 19) (o := _) rfl (by kernel_rfl) rfl (fun K hK => ?_)
  have HK2 := Lib.hid hK
  clear hK
  go_simp
  refine HK2.out _ _ HS3c.out (fun hHeld => ?_)
  clear HK2 K
  refine wpAnyH_done (by kernel_rfl) ?_ _
  --M2
  obtain ⟨q4, hb3, hr3, hs3⟩ := HW3.out
  obtain ⟨w3, hw3⟩ : ∃ w3, ((((wz.setCell ⟨rb + 2, 0, none⟩ (.int .i64 (k : Nat))).setCell ⟨rb + 2, 1, none⟩ (.int .i64 (n : Nat))).setCell ⟨rb + 2, 2, none⟩ (.int .i64 (r : Nat))).setCell ⟨rb + 2, 3, none⟩ (.slice none 0 0)) = w3 := ⟨_, rfl⟩
  rw [hw3] at q4 hb3 hr3 hs3 ⊢
  have hcv := Lib.run_convert_string_bytes (P := Tryd.prog) w3 9 47 5 MB Tryd.underlying9 Tryd.underlying47 Tryd.underlying5
  have hbo := Lib.bytesWorld_at_old w3 5 MB
  have hbs := Lib.bytesWorld_size w3 5 MB
  have hbc := Lib.bytesWorld_cell w3 5 MB
  have hbl : Below w3.heap.size w3 (Lib.bytesWorld w3 5 MB) := old_bytes (.inr ⟨_, rfl⟩)
  obtain ⟨wy, hwy⟩ : ∃ wy, Lib.bytesWorld w3 5 MB = wy := ⟨_, rfl⟩
  obtain ⟨cp, hcp2⟩ : ∃ cp, grownCap w3 MB.size 0 5 = cp := ⟨_, rfl⟩
  rw [hwy] at hcv hbo hbs hbc hbl
  rw [hcp2] at hcv
  rw [HMD.out, hmz] at hbc
  rw [hs3] at hcv hbo hbs hbc
  have HBY := Lib.hid (show ∀ W : World, W.heap[rb + 3]? = wy.heap[rb + 3]? → ∀ j, j < ms.length → W.cell? ⟨rb + 3, j, none⟩ = some (.int .u8 ((ms.getD j 0).toNat : Int)) from fun W h j hj => (World.cell?_of_block (a := ⟨rb + 3, j, none⟩) h).trans (hbc j hj))
  have hI : DecInv w (rb + 2 + 2) rb (rb + 2) k n r ms 0 [] none 0 wy := by
    refine ⟨⟨rfl, World.ownsRow_nil _ _ _ _, ?_, by omega, by omega⟩, rfl, ?_, ?_⟩
    · rw [hrb]; exact hb3.trans (hbl.mono (by rw [hs3]; omega))
    · exact (hbo (rb + 2) (by omega)).trans q4
    · exact (hbo rb (by omega)).trans hr3
  have HI := Lib.hid hI
  clear r0 r1 r2 r3 fz0 fz1 fz2 fz3 hwz HW3 q4 hb3 hr3 hbo hbs hbc hbl hI j0 j1 j2 j3 j4 HJ HS3a HS3b HS3c HHD hw3 hwy
  --M3
  go_wp2
  --M4
  clear e0 e1 e2 hcp hm0 hm1 hxt hi0 hi1 hi2 ha0 ha1 HA0 HA1 HI0 HI1 HI2 hs0 hcv hs3 HB2 HR2 HS2 hw0 hs2
  obtain ⟨sb, hsb⟩ : ∃ sb, rb + 2 = sb := ⟨_, rfl⟩
  have HRS := Lib.hid (show rb < sb by omega)
  have HRB := Lib.hid hrb
  have hsb3 : rb + 3 = sb + 1 := by omega
  rw [hsb3] at HBY ⊢
  rw [hsb] at HI ⊢
  clear hsb3 hsb hrb
  go_loopw [35] (fun j wr => ∃ (i : Nat) (l : List (Int × Bool)) (A : Option Addr) (c : Nat), i ≤ ms.length ∧ j = .int .i64 i ∧ DecInv w (sb + 2) rb sb k n r ms i l A c wr ∧ wr.heap[sb + 1]? = wy.heap[sb + 1]?) (fun j _ => ms.length - (intOf j).toNat)
  case atStart => exact ⟨0, [], none, 0, Nat.zero_le _, rfl, HI.out, rfl⟩
  case round =>
    obtain ⟨i, l, A, c, hin, rfl, hJ, hby⟩ := hrel
    clear HI
    by_cases hlt : i < ms.length
    · have hii : (i : Int) < (ms.length : Int) := by omega
      have hi0 : (0 : Int) ≤ (i : Int) := by omega
      have cb := HBY.out wr hby i hlt
      have hsaid : (ms.take (i + 1)).map (mvOf n) = l ++ [mvOf n (ms.getD i 0)] := by
        rw [List.take_succ_eq_append_getElem hlt, List.map_append, hJ.said]
        have e : ms.getD i 0 = ms[i] := by rw [List.getD_eq_getElem?_getD, List.getElem?_eq_getElem hlt]; rfl
        rw [e]; rfl
      have hfew : l.length ≤ 90000 := by rw [hJ.said, List.length_map, List.length_take]; omega
      have hmo : mvOf n (ms.getD i 0) = if 224 ≤ (ms.getD i 0).toNat then (((((ms.getD i 0).toNat - 224) % n : Nat) : Int), true) else ((((ms.getD i 0).toNat % n : Nat) : Int), false) := rfl
      generalize mvOf n (ms.getD i 0) = x at *
      have hb256 := UInt8.toNat_lt (ms.getD i 0)
      generalize (ms.getD i 0).toNat = b at *
      have hn0 : ((n : Nat) : Int) ≠ 0 := by have := HKK.out.2.2.1; omega
      have hn00 : ¬ n = 0 := by have := HKK.out.2.2.1; omega
      have hsw : sb < wr.heap.size := lt_of_block hJ.s
      have S0 : ∀ W : World, W.heap[sb]? = some (.cells #[.int .i64 (k : Nat), .int .i64 (n : Nat), .int .i64 (r : Nat), .slice A l.length c] 24 (0, 0)) → W.cell? ⟨sb, 1, none⟩ = some (.int .i64 (n : Nat)) ∧ W.cell? ⟨sb, 3, none⟩ = some (.slice A l.length c) := fun W h => ⟨by rw [cell_of_row W sb 1 _ _ _ h]; rfl, by rw [cell_of_row W sb 3 _ _ _ h]; rfl⟩
      have HS0 := Lib.hid (show wr.drew.cell? ⟨sb, 1, none⟩ = some (.int .i64 (n : Nat)) ∧ wr.drew.cell? ⟨sb, 3, none⟩ = some (.slice A l.length c) from S0 wr.drew hJ.s)
      have HKR0 := Lib.hid (show RowV w (sb + 2) A l.length c l wr.drew from ⟨rfl, hJ.row.own.drew, below_drewN hJ.row.bel 1, hJ.row.lo, hJ.row.hi⟩)
      have HS := Lib.hid S0
      have HSW := Lib.hid (show sb < wr.drew.heap.size from hsw)
      have HJJ := Lib.hid hJ
      have HBB := Lib.hid hby
      have HFEW := Lib.hid hfew
      have HSAID := Lib.hid hsaid
      have HLT := Lib.hid hlt
      clear hJ hsaid hfew S0 hlt hsw hby
      by_cases h224 : b < 224
      · have hbi : (b : Int) < 224 := by omega
        rw [if_neg (by omega)] at hmo
        have HKR := HKR0.out
        have HSA := Lib.hid (HS.out (wr.drew.alloc (.cells #[.int .i64 x.1, .bool x.2] 40)) ((Below.heap_alloc wr.drew _ sb HSW.out).trans HJJ.out.s))
        obtain ⟨A6, c6, w6, hr6, hrow6, hk6⟩ := HKR.oneK x (by have := HFEW.out; omega)
        have hs6 := (hk6 sb (by omega)).trans (show wr.drew.heap[sb]? = _ from HJJ.out.s)
        have hr6b := (hk6 rb (by have := HRS.out; omega)).trans (show wr.drew.heap[rb]? = _ from HJJ.out.res)
        have hb6 := (hk6 (sb + 1) (by omega)).trans (show wr.drew.heap[sb + 1]? = _ from HBB.out)
        have HS6 := Lib.hid (And.intro (HS.out w6 hs6) (And.intro (frozen_of_row w6 sb 3 _ _ hs6) (And.intro hs6 (And.intro hr6b hb6))))
        have HRR := Lib.hid hr6
        have HROW := Lib.hid hrow6
        clear hr6 hrow6 hk6 hs6 hr6b hb6 HKR
        have hw1 := rsc_wrapI (x := (b : Int)) (by omega) (by omega)
        have e3 : ((b : Int)).tmod ((n : Nat) : Int) = ((b % n : Nat) : Int) := rfl
        subst hmo
        generalize b % n = z at *
        clear h224
        --MR11
        go_wp2
        --MU11
        refine region_heldL (L := 11) (S := (fun u => u.cell? ⟨sb, 1, none⟩ = some (.int .i64 (n : Nat)) ∧ u.cell? ⟨sb, 3, none⟩ = some (.slice A l.length c))) 12 rfl (by kernel_rfl) HS0.out (fun hHeld => ?_)
        refine heldL_take (n := 11) (i := 0) (oi := _) (v := ?v11_0) (dst := some 41) rfl rfl rfl (by kernel_rfl) (by kernel_rfl) (by kernel_rfl) (by kernel_rfl) (by kernel_rfl) (fun _ _ _ h => h) (Or.inl ⟨by rfl, ?hy11_0⟩) (by assumption) ?rest11_0
        case hy11_0 => intro u hSu; (try dsimp only at hSu); go_simp; try (with_reducible rfl)
        simp only [Act.put, List.setIfInBounds_toArray, List.set_cons_zero, List.set_cons_succ]
        refine heldL_take (n := 10) (i := 1) (oi := _) (v := ?v11_1) (dst := some 42) rfl rfl rfl (by kernel_rfl) (by kernel_rfl) (by kernel_rfl) (by kernel_rfl) (by kernel_rfl) (fun _ _ _ h => h) (Or.inl ⟨by rfl, ?hy11_1⟩) (by assumption) ?rest11_1
        case hy11_1 => intro u hSu; (try dsimp only at hSu); go_simp; try (with_reducible rfl)
        simp only [Act.put, List.setIfInBounds_toArray, List.set_cons_zero, List.set_cons_succ]
        refine heldL_take (n := 9) (i := 2) (oi := _) (v := ?v11_2) (dst := some 43) rfl rfl rfl (by kernel_rfl) (by kernel_rfl) (by kernel_rfl) (by kernel_rfl) (by kernel_rfl) (fun _ _ _ h => h) (Or.inl ⟨by rfl, ?hy11_2⟩) (by assumption) ?rest11_2
        case hy11_2 => intro u hSu; (try dsimp only at hSu); go_simp; try (with_reducible rfl)
        simp only [Act.put, List.setIfInBounds_toArray, List.set_cons_zero, List.set_cons_succ]
        refine heldL_take (n := 8) (i := 3) (oi := _) (v := ?v11_3) (dst := some 44) rfl rfl rfl (by kernel_rfl) (by kernel_rfl) (by kernel_rfl) (by kernel_rfl) (by kernel_rfl) (fun _ _ _ h => h) (Or.inl ⟨by rfl, ?hy11_3⟩) (by assumption) ?rest11_3
        case hy11_3 => intro u hSu; (try dsimp only at hSu); go_simp; try (with_reducible rfl)
        simp only [Act.put, List.setIfInBounds_toArray, List.set_cons_zero, List.set_cons_succ]
        refine heldL_take (n := 7) (i := 4) (oi := _) (v := ?v11_4) (dst := some 45) rfl rfl rfl (by kernel_rfl) (by kernel_rfl) (by kernel_rfl) (by kernel_rfl) (by kernel_rfl) (fun _ _ _ h => h) (Or.inl ⟨by rfl, ?hy11_4⟩) (by assumption) ?rest11_4
        case hy11_4 => intro u hSu; (try dsimp only at hSu); go_simp; try (with_reducible rfl)
        simp only [Act.put, List.setIfInBounds_toArray, List.set_cons_zero, List.set_cons_succ]
        refine heldL_take (n := 6) (i := 5) (oi := _) (v := ?v11_5) (dst := some 46) rfl rfl rfl (by kernel_rfl) (by kernel_rfl) (by kernel_rfl) (by kernel_rfl) (by kernel_rfl) (fun _ _ _ h => h) (Or.inl ⟨by rfl, ?hy11_5⟩) (by assumption) ?rest11_5
        case hy11_5 => intro u hSu; (try dsimp only at hSu); go_simp; try (with_reducible rfl)
        simp only [Act.put, List.setIfInBounds_toArray, List.set_cons_zero, List.set_cons_succ]
        refine heldL_take (n := 5) (i := 6) (oi := _) (v := ?v11_6) (dst := some 47) rfl rfl rfl (by kernel_rfl) (by kernel_rfl) (by kernel_rfl) (by kernel_rfl) (by kernel_rfl) (fun _ _ _ h => h) (Or.inl ⟨by rfl, ?hy11_6⟩) (by assumption) ?rest11_6
        case hy11_6 => intro u hSu; (try dsimp only at hSu); go_simp; try (with_reducible rfl)
        simp only [Act.put, List.setIfInBounds_toArray, List.set_cons_zero, List.set_cons_succ]
        refine heldL_take (n := 4) (i := 7) (oi := _) (v := ?v11_7) (dst := some 48) rfl rfl rfl (by kernel_rfl) (by kernel_rfl) (by kernel_rfl) (by kernel_rfl) (by kernel_rfl) (fun _ _ _ h => h) (Or.inl ⟨by rfl, ?hy11_7⟩) (by assumption) ?rest11_7
        case hy11_7 => intro u hSu; (try dsimp only at hSu); go_simp; try (with_reducible rfl)
        simp only [Act.put, List.setIfInBounds_toArray, List.set_cons_zero, List.set_cons_succ]
        refine heldL_step (n := 3) (i := 8) (o := _) rfl (by kernel_rfl) rfl (fun K hK => ?_)
        have HK2 := Lib.hid hK
        clear hK
        go_simp
        refine HK2.out _ _ HSA.out (fun hHeld => ?_)
        clear HK2 K
        refine heldL_step (n := 2) (i := 9) (o := _) rfl (by kernel_rfl) rfl (fun K hK => ?_)
        have HK2 := Lib.hid hK
        clear hK
        refine sc_append_eq (by rfl) (.tmp 42) (.tmp 49) (by rfl) (by rfl) (by rfl) HRR.out ?_
        refine HK2.out _ _ HS6.out.1 (fun hHeld => ?_)
        clear HK2 K
        simp only [Act.put, List.setIfInBounds_toArray, List.set_cons_zero, List.set_cons_succ]
        refine heldL_step (n := 1) (i := 10) (o := _) rfl (by kernel_rfl) rfl (fun K hK => ?_)
        have HK2 := Lib.hid hK
        clear hK
        go_simp
        refine HK2.out _ _ HS6.out.1 (fun hHeld => ?_)
        clear HK2 K
        refine heldL_last (n := 0) (o := _) rfl (by kernel_rfl) (by kernel_rfl) (by decide) rfl (fun K hK => ?_)
        have HK2 := Lib.hid hK
        clear hK
        obtain ⟨⟨q1, q3⟩, qf, qb⟩ := HS6.out
        go_simp
        refine HK2.out _ _ ?_
        clear HK2
        --MT11
        go_wp2
        go_roundw
        case rel =>
          refine ⟨i + 1, l ++ [(((z : Nat) : Int), false)], A6, c6, by have := HLT.out; omega, by go_num, ?_, (heap_setCell_other w6 ⟨sb, 3, none⟩ (sb + 1) _ (by show sb + 1 ≠ sb; omega)).trans qb.2.2⟩
          have hrow := HROW.out
          refine ⟨⟨rfl, ?_, hrow.bel.setCell (p := ⟨sb, 3, none⟩) (show w.heap.size ≤ sb by have := HRS.out; have := HRB.out; omega) _, hrow.lo, by simpa using hrow.hi⟩, HSAID.out.symm, ?_, ?_⟩
          · rw [List.length_append]; exact ownsRow_setCell_below hrow.own (a := ⟨sb, 3, none⟩) (by show sb < sb + 2; omega) _
          · rw [List.length_append]; exact heap_setCell_same _ sb 3 _ _ (.slice A6 (l.length + 1) c6) qb.1
          · exact (heap_setCell_other w6 ⟨sb, 3, none⟩ rb _ (by have := HRS.out; show rb ≠ sb; omega)).trans qb.2.1
        case measure => simp [intOf]; omega
      · have hbi : ¬ (b : Int) < 224 := by omega
        rw [if_pos (by omega)] at hmo
        have HKR := HKR0.out
        have HSA := Lib.hid (HS.out (wr.drew.alloc (.cells #[.int .i64 x.1, .bool x.2] 40)) ((Below.heap_alloc wr.drew _ sb HSW.out).trans HJJ.out.s))
        obtain ⟨A6, c6, w6, hr6, hrow6, hk6⟩ := HKR.oneK x (by have := HFEW.out; omega)
        have hs6 := (hk6 sb (by omega)).trans (show wr.drew.heap[sb]? = _ from HJJ.out.s)
        have hr6b := (hk6 rb (by have := HRS.out; omega)).trans (show wr.drew.heap[rb]? = _ from HJJ.out.res)
        have hb6 := (hk6 (sb + 1) (by omega)).trans (show wr.drew.heap[sb + 1]? = _ from HBB.out)
        have HS6 := Lib.hid (And.intro (HS.out w6 hs6) (And.intro (frozen_of_row w6 sb 3 _ _ hs6) (And.intro hs6 (And.intro hr6b hb6))))
        have HRR := Lib.hid hr6
        have HROW := Lib.hid hrow6
        clear hr6 hrow6 hk6 hs6 hr6b hb6 HKR
        have hw1 := rsc_wrapI (x := (b : Int)) (by omega) (by omega)
        have hw2 : IntKind.i64.wrap ((b : Int) - 224) = ((b - 224 : Nat) : Int) := by rw [rsc_wrapI (by omega) (by omega)]; omega
        have e3 : (((b - 224 : Nat) : Int)).tmod ((n : Nat) : Int) = (((b - 224) % n : Nat) : Int) := rfl
        subst hmo
        generalize (b - 224) % n = z at *
        generalize ((b - 224 : Nat) : Int) = y at *
        clear h224
        --MR12
        go_wp2
        --MU12
        refine region_heldL (L := 12) (S := (fun u => u.cell? ⟨sb, 1, none⟩ = some (.int .i64 (n : Nat)) ∧ u.cell? ⟨sb, 3, none⟩ = some (.slice A l.length c))) 13 rfl (by kernel_rfl) HS0.out (fun hHeld => ?_)
        refine heldL_take (n := 12) (i := 0) (oi := _) (v := ?v12_0) (dst := some 52) rfl rfl rfl (by kernel_rfl) (by kernel_rfl) (by kernel_rfl) (by kernel_rfl) (by kernel_rfl) (fun _ _ _ h => h) (Or.inl ⟨by rfl, ?hy12_0⟩) (by assumption) ?rest12_0
        case hy12_0 => intro u hSu; (try dsimp only at hSu); go_simp; try (with_reducible rfl)
        simp only [Act.put, List.setIfInBounds_toArray, List.set_cons_zero, List.set_cons_succ]
        refine heldL_take (n := 11) (i := 1) (oi := _) (v := ?v12_1) (dst := some 53) rfl rfl rfl (by kernel_rfl) (by kernel_rfl) (by kernel_rfl) (by kernel_rfl) (by kernel_rfl) (fun _ _ _ h => h) (Or.inl ⟨by rfl, ?hy12_1⟩) (by assumption) ?rest12_1
        case hy12_1 => intro u hSu; (try dsimp only at hSu); go_simp; try (with_reducible rfl)
        simp only [Act.put, List.setIfInBounds_toArray, List.set_cons_zero, List.set_cons_succ]
        refine heldL_take (n := 10) (i := 2) (oi := _) (v := ?v12_2) (dst := some 54) rfl rfl rfl (by kernel_rfl) (by kernel_rfl) (by kernel_rfl) (by kernel_rfl) (by kernel_rfl) (fun _ _ _ h => h) (Or.inl ⟨by rfl, ?hy12_2⟩) (by assumption) ?rest12_2
        case hy12_2 => intro u hSu; (try dsimp only at hSu); go_simp; try (with_reducible rfl)
        simp only [Act.put, List.setIfInBounds_toArray, List.set_cons_zero, List.set_cons_succ]
        refine heldL_take (n := 9) (i := 3) (oi := _) (v := ?v12_3) (dst := some 55) rfl rfl rfl (by kernel_rfl) (by kernel_rfl) (by kernel_rfl) (by kernel_rfl) (by kernel_rfl) (fun _ _ _ h => h) (Or.inl ⟨by rfl, ?hy12_3⟩) (by assumption) ?rest12_3
        case hy12_3 => intro u hSu; (try dsimp only at hSu); go_simp; try (with_reducible rfl)
        simp only [Act.put, List.setIfInBounds_toArray, List.set_cons_zero, List.set_cons_succ]
        refine heldL_take (n := 8) (i := 4) (oi := _) (v := ?v12_4) (dst := some 56) rfl rfl rfl (by kernel_rfl) (by kernel_rfl) (by kernel_rfl) (by kernel_rfl) (by kernel_rfl) (fun _ _ _ h => h) (Or.inl ⟨by rfl, ?hy12_4⟩) (by assumption) ?rest12_4
        case hy12_4 => intro u hSu; (try dsimp only at hSu); go_simp; try (with_reducible rfl)
        simp only [Act.put, List.setIfInBounds_toArray, List.set_cons_zero, List.set_cons_succ]
        refine heldL_take (n := 7) (i := 5) (oi := _) (v := ?v12_5) (dst := some 57) rfl rfl rfl (by kernel_rfl) (by kernel_rfl) (by kernel_rfl) (by kernel_rfl) (by kernel_rfl) (fun _ _ _ h => h) (Or.inl ⟨by rfl, ?hy12_5⟩) (by assumption) ?rest12_5
        case hy12_5 => intro u hSu; (try dsimp only at hSu); go_simp; try (with_reducible rfl)
        simp only [Act.put, List.setIfInBounds_toArray, List.set_cons_zero, List.set_cons_succ]
        refine heldL_take (n := 6) (i := 6) (oi := _) (v := ?v12_6) (dst := some 58) rfl rfl rfl (by kernel_rfl) (by kernel_rfl) (by kernel_rfl) (by kernel_rfl) (by kernel_rfl) (fun _ _ _ h => h) (Or.inl ⟨by rfl, ?hy12_6⟩) (by assumption) ?rest12_6
        case hy12_6 => intro u hSu; (try dsimp only at hSu); go_simp; try (with_reducible rfl)
        simp only [Act.put, List.setIfInBounds_toArray, List.set_cons_zero, List.set_cons_succ]
        refine heldL_take (n := 5) (i := 7) (oi := _) (v := ?v12_7) (dst := some 59) rfl rfl rfl (by kernel_rfl) (by kernel_rfl) (by kernel_rfl) (by kernel_rfl) (by kernel_rfl) (fun _ _ _ h => h) (Or.inl ⟨by rfl, ?hy12_7⟩) (by assumption) ?rest12_7
        case hy12_7 => intro u hSu; (try dsimp only at hSu); go_simp; try (with_reducible rfl)
        simp only [Act.put, List.setIfInBounds_toArray, List.set_cons_zero, List.set_cons_succ]
        refine heldL_take (n := 4) (i := 8) (oi := _) (v := ?v12_8) (dst := some 60) rfl rfl rfl (by kernel_rfl) (by kernel_rfl) (by kernel_rfl) (by kernel_rfl) (by kernel_rfl) (fun _ _ _ h => h) (Or.inl ⟨by rfl, ?hy12_8⟩) (by assumption) ?rest12_8
        case hy12_8 => intro u hSu; (try dsimp only at hSu); go_simp; try (with_reducible rfl)
        simp only [Act.put, List.setIfInBounds_toArray, List.set_cons_zero, List.set_cons_succ]
        refine heldL_step (n := 3) (i := 9) (o := _) rfl (by kernel_rfl) rfl (fun K hK => ?_)
        have HK2 := Lib.hid hK
        clear hK
        go_simp
        refine HK2.out _ _ HSA.out (fun hHeld => ?_)
        clear HK2 K
        refine heldL_step (n := 2) (i := 10) (o := _) rfl (by kernel_rfl) rfl (fun K hK => ?_)
        have HK2 := Lib.hid hK
        clear hK
        refine sc_append_eq (by rfl) (.tmp 53) (.tmp 61) (by rfl) (by rfl) (by rfl) HRR.out ?_
        refine HK2.out _ _ HS6.out.1 (fun hHeld => ?_)
        clear HK2 K
        simp only [Act.put, List.setIfInBounds_toArray, List.set_cons_zero, List.set_cons_succ]
        refine heldL_step (n := 1) (i := 11) (o := _) rfl (by kernel_rfl) rfl (fun K hK => ?_)
        have HK2 := Lib.hid hK
        clear hK
        go_simp
        refine HK2.out _ _ HS6.out.1 (fun hHeld => ?_)
        clear HK2 K
        refine heldL_last (n := 0) (o := _) rfl (by kernel_rfl) (by kernel_rfl) (by decide) rfl (fun K hK => ?_)
        have HK2 := Lib.hid hK
        clear hK
        obtain ⟨⟨q1, q3⟩, qf, qb⟩ := HS6.out
        go_simp
        refine HK2.out _ _ ?_
        clear HK2
        --MT12
        go_wp2
        go_roundw
        case rel =>
          refine ⟨i + 1, l ++ [(((z : Nat) : Int), true)], A6, c6, by have := HLT.out; omega, by go_num, ?_, (heap_setCell_other w6 ⟨sb, 3, none⟩ (sb + 1) _ (by show sb + 1 ≠ sb; omega)).trans qb.2.2⟩
          have hrow := HROW.out
          refine ⟨⟨rfl, ?_, hrow.bel.setCell (p := ⟨sb, 3, none⟩) (show w.heap.size ≤ sb by have := HRS.out; have := HRB.out; omega) _, hrow.lo, by simpa using hrow.hi⟩, HSAID.out.symm, ?_, ?_⟩
          · rw [List.length_append]; exact ownsRow_setCell_below hrow.own (a := ⟨sb, 3, none⟩) (by show sb < sb + 2; omega) _
          · rw [List.length_append]; exact heap_setCell_same _ sb 3 _ _ (.slice A6 (l.length + 1) c6) qb.1
          · exact (heap_setCell_other w6 ⟨sb, 3, none⟩ rb _ (by have := HRS.out; show rb ≠ sb; omega)).trans qb.2.1
        case measure => simp [intOf]; omega
    · obtain rfl : i = ms.length := by omega
      have hii : ¬ (ms.length : Int) < (ms.length : Int) := by omega
      have hl : l = mv := by rw [hJ.said, List.take_of_length_le (Nat.le_refl _)]; exact HMN.out.symm
      subst hl
      have hs := hJ.s
      have hr := hJ.res
      have s0 : wr.cell? ⟨sb, 0, none⟩ = some (.int .i64 (k : Nat)) := by rw [cell_of_row wr sb 0 _ _ _ hs]; rfl
      have s1 : wr.cell? ⟨sb, 1, none⟩ = some (.int .i64 (n : Nat)) := by rw [cell_of_row wr sb 1 _ _ _ hs]; rfl
      have s2 : wr.cell? ⟨sb, 2, none⟩ = some (.int .i64 (r : Nat)) := by rw [cell_of_row wr sb 2 _ _ _ hs]; rfl
      have s3 : wr.cell? ⟨sb, 3, none⟩ = some (.slice A l.length c) := by rw [cell_of_row wr sb 3 _ _ _ hs]; rfl
      have r0 : wr.cell? ⟨rb, 0, none⟩ = some (.int .i64 0) := by rw [cell_of_row wr rb 0 _ _ _ hr]; rfl
      have r1 : wr.cell? ⟨rb, 1, none⟩ = some (.int .i64 0) := by rw [cell_of_row wr rb 1 _ _ _ hr]; rfl
      have r2 : wr.cell? ⟨rb, 2, none⟩ = some (.int .i64 0) := by rw [cell_of_row wr rb 2 _ _ _ hr]; rfl
      have r3 : wr.cell? ⟨rb, 3, none⟩ = some (.slice none 0 0) := by rw [cell_of_row wr rb 3 _ _ _ hr]; rfl
      have f0 := frozen_of_row wr rb 0 _ _ hr
      have f1 := frozen_of_row wr rb 1 _ _ hr
      have f2 := frozen_of_row wr rb 2 _ _ hr
      have f3 := frozen_of_row wr rb 3 _ _ hr
      have q1 := heap_setCell_same _ rb 0 _ _ (.int .i64 (k : Nat)) hr
      have q2 := heap_setCell_same _ rb 1 _ _ (.int .i64 (n : Nat)) q1
      have q3 := heap_setCell_same _ rb 2 _ _ (.int .i64 (r : Nat)) q2
      have q4 := heap_setCell_same _ rb 3 _ _ (.slice A l.length c) q3
      have hlo : w.heap.size ≤ rb := Nat.le_of_eq HRB.out
      have hbel : Below w.heap.size w ((((wr.setCell ⟨rb, 0, none⟩ (.int .i64 (k : Nat))).setCell ⟨rb, 1, none⟩ (.int .i64 (n : Nat))).setCell ⟨rb, 2, none⟩ (.int .i64 (r : Nat))).setCell ⟨rb, 3, none⟩ (.slice A l.length c)) := (((hJ.row.bel.setCell (p := ⟨rb, 0, none⟩) hlo _).setCell (p := ⟨rb, 1, none⟩) hlo _).setCell (p := ⟨rb, 2, none⟩) hlo _).setCell (p := ⟨rb, 3, none⟩) hlo _
      have hrb1 : rb < sb + 2 := by have := HRS.out; omega
      have hown := ownsRow_setCell_below (ownsRow_setCell_below (ownsRow_setCell_below (ownsRow_setCell_below hJ.row.own (a := ⟨rb, 0, none⟩) hrb1 (.int .i64 (k : Nat))) (a := ⟨rb, 1, none⟩) hrb1 (.int .i64 (n : Nat))) (a := ⟨rb, 2, none⟩) hrb1 (.int .i64 (r : Nat))) (a := ⟨rb, 3, none⟩) hrb1 (.slice A l.length c)
      have HFI := Lib.hid (And.intro q4 (And.intro hbel (moves_own hown rfl)))
      clear hJ hs hr q1 q2 q3 q4 hbel hown
      go_wp2
      --M3
      refine bodyPost_ret (rscript_result rfl HFI.out.1) rfl ?_
      rw [HFULL.out]
      exact ⟨HFI.out.2.1, A, c, rfl, HFI.out.2.2⟩
end Go.Proofs.YtlikbmbcjipolaaDoor
