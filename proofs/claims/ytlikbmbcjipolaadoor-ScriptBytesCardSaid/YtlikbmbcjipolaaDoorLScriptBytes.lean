/-
  Scripts as bytes: the reference's.
-/
import Derived.Test.YtlikbmbcjipolaaDoorRScF
import Derived.Test.YtlikbmbcjipolaaDoorRScD
import Derived.Test.YtlikbmbcjipolaaDoorLScript
import Derived.Test.YtlikbmbcjipolaaDoorBare
import Derived.Test.YtlikbmbcjipolaaDoorHeldH
namespace Go.Proofs.YtlikbmbcjipolaaDoor
set_option maxRecDepth 100000
open Go.RowKit Go.Sort
set_option linter.unusedVariables false
set_option linter.unusedSimpArgs false

theorem sb_nil (w : World) : Calls Tryd.prog 8 #[.nilIface, .int .i64 0] w fun e w' => e = .returned (.bool true) ∧ Below w.heap.size w w' := by
  refine (bare_nil w).mono ?_
  rintro e w' ⟨he, rfl⟩
  exact ⟨he, Below.refl _ _⟩
theorem sb_errno (k : Int) (w : World) (hg : ErrVar w) : Calls Tryd.prog 8 #[.iface 25 (.int .i64 k), .int .i64 k] w fun e w' => e = .returned (.bool true) ∧ Below w.heap.size w w' := by
  refine (bare_errno k w hg).mono ?_
  rintro e w' ⟨he, hb⟩
  exact ⟨he, (Below.refl _ _).grown hb (Nat.le_refl _) (by intro k hk; cases hk)⟩
theorem sb_errVar {w w' : World} (hg : ErrVar w) (hb : Below w.heap.size w w') : ErrVar w' :=
  (World.cell?_of_block (a := ⟨1, 0, none⟩) (hb.block _ (World.block_lt_of_cell? w _ hg))).trans hg
set_option maxHeartbeats 2000000 in
/-- Two scripts that are the same. -/
theorem rSame_any (k n r : Int) (l : List (Int × Bool)) (A A' : Option Addr) (len c c' : Nat) (w : World) (hM : Moves w w.heap.size A len l) (hM' : Moves w w.heap.size A' len l) (hlen : len ≤ 900000) :
    Calls Tryd.prog 11 #[scriptV k n r A len c, scriptV k n r A' len c'] w fun e w' => e = .returned (.bool true) ∧ Below w.heap.size w w' := by
  have hb0 := (Below.refl w.heap.size w).alloc (Nat.le_refl _) (.cells #[.int .i64 k, .int .i64 n, .int .i64 r, .slice A len c] 24)
  have hx0 := heap_alloc_new w (.cells #[.int .i64 k, .int .i64 n, .int .i64 r, .slice A len c] 24)
  obtain ⟨w1, hw1⟩ : ∃ w1, w.alloc (.cells #[.int .i64 k, .int .i64 n, .int .i64 r, .slice A len c] 24) = w1 := ⟨_, rfl⟩
  rw [hw1] at hx0 hb0
  have hb1 := hb0.alloc hb0.size (.cells #[.int .i64 k, .int .i64 n, .int .i64 r, .slice A' len c'] 24)
  have hb1' := (Below.refl w1.heap.size w1).alloc (Nat.le_refl _) (.cells #[.int .i64 k, .int .i64 n, .int .i64 r, .slice A' len c'] 24)
  have hx1 := heap_alloc_new w1 (.cells #[.int .i64 k, .int .i64 n, .int .i64 r, .slice A' len c'] 24)
  obtain ⟨w2, hw2⟩ : ∃ w2, w1.alloc (.cells #[.int .i64 k, .int .i64 n, .int .i64 r, .slice A' len c'] 24) = w2 := ⟨_, rfl⟩
  rw [hw2] at hx1 hb1 hb1'
  have hx0 := (hb1'.block _ (lt_of_block hx0)).trans hx0
  have hm1 := hM.old hb1
  have hm2 := hM'.old hb1
  obtain ⟨xb, hxb⟩ : ∃ xb, w.heap.size = xb := ⟨_, rfl⟩
  obtain ⟨yb, hyb⟩ : ∃ yb, w1.heap.size = yb := ⟨_, rfl⟩
  rw [hxb] at hx0
  rw [hyb] at hx1
  have c0 : w2.cell? ⟨xb, 0, none⟩ = some (.int .i64 k) := by rw [cell_of_row w2 xb 0 _ _ _ hx0]; rfl
  have c1 : w2.cell? ⟨xb, 1, none⟩ = some (.int .i64 n) := by rw [cell_of_row w2 xb 1 _ _ _ hx0]; rfl
  have c2 : w2.cell? ⟨xb, 2, none⟩ = some (.int .i64 r) := by rw [cell_of_row w2 xb 2 _ _ _ hx0]; rfl
  have c3 : w2.cell? ⟨xb, 3, none⟩ = some (.slice A len c) := by rw [cell_of_row w2 xb 3 _ _ _ hx0]; rfl
  have d0 : w2.cell? ⟨yb, 0, none⟩ = some (.int .i64 k) := by rw [cell_of_row w2 yb 0 _ _ _ hx1]; rfl
  have d1 : w2.cell? ⟨yb, 1, none⟩ = some (.int .i64 n) := by rw [cell_of_row w2 yb 1 _ _ _ hx1]; rfl
  have d2 : w2.cell? ⟨yb, 2, none⟩ = some (.int .i64 r) := by rw [cell_of_row w2 yb 2 _ _ _ hx1]; rfl
  have d3 : w2.cell? ⟨yb, 3, none⟩ = some (.slice A' len c') := by rw [cell_of_row w2 yb 3 _ _ _ hx1]; rfl
  have HQ := Lib.hid (equalM_same A A' len c c' l w2 (by omega) hm1 hm2)
  have HB := Lib.hid (show Below w.heap.size w w2 from hb1)
  have k1 : (k == k) = true := by simp
  have k2 : (n == n) = true := by simp
  have k3 : (r == r) = true := by simp
  clear hM hM' hb0 hb1 hb1' hx0 hx1 hm1 hm2
  unfold scriptV
  go_enter Tryd.func11, Tryd.ntmps11
  --M0
  go_wp2_with fail
  refine HQ.out.mono ?_
  rintro e w4 ⟨rfl, q, rfl⟩
  go_wp2
  go_ret
  exact ⟨rfl, below_drewN HB.out q⟩
theorem sb_cells {w : World} {b : Nat} {k n r : Int} {A : Option Addr} {len c : Nat} {T : TypeId} {q : Nat × Nat} (h : w.heap[b]? = some (.cells #[.int .i64 k, .int .i64 n, .int .i64 r, .slice A len c] T q)) :
    w.cell? ⟨b, 0, none⟩ = some (.int .i64 k) ∧ w.cell? ⟨b, 1, none⟩ = some (.int .i64 n) ∧ w.cell? ⟨b, 2, none⟩ = some (.int .i64 r) ∧ w.cell? ⟨b, 3, none⟩ = some (.slice A len c) :=
  ⟨by rw [cell_of_row w b 0 _ _ _ h]; rfl, by rw [cell_of_row w b 1 _ _ _ h]; rfl, by rw [cell_of_row w b 2 _ _ _ h]; rfl, by rw [cell_of_row w b 3 _ _ _ h]; rfl⟩
set_option maxHeartbeats 8000000 in
theorem scriptBytes_list {w : World} (hg : ErrVar w) (k n r : Int) (l : List (Int × Bool)) (A : Option Addr) (len c : Nat) (hM : Moves w w.heap.size A len l) (t : List UInt8) (hbig : len + t.length ≤ 9223372036854775807) :
    Calls Tryd.prog 3 #[scriptV k n r A len c, strV t] w fun e w' => e = .returned (.bool true) ∧ Below w.heap.size w w' := by
  have hl := hM.len
  have hb0 := (Below.refl w.heap.size w).alloc (Nat.le_refl _) (.cells #[.int .i64 k, .int .i64 n, .int .i64 r, .slice A len c] 24)
  have hx0 := heap_alloc_new w (.cells #[.int .i64 k, .int .i64 n, .int .i64 r, .slice A len c] 24)
  obtain ⟨w1, hw1⟩ : ∃ w1, w.alloc (.cells #[.int .i64 k, .int .i64 n, .int .i64 r, .slice A len c] 24) = w1 := ⟨_, rfl⟩
  rw [hw1] at hx0 hb0
  have HEND := Lib.hid (fun (w' : World) (hb : Below w1.heap.size w1 w') => hb0.trans (hb.mono hb0.size))
  have HEV := Lib.hid (fun (w' : World) (hb : Below w1.heap.size w1 w') => sb_errVar hg (hb0.trans (hb.mono hb0.size)))
  have HML := Lib.hid (fun (w' : World) (hb : Below w1.heap.size w1 w') => hM.old (hb0.trans (hb.mono hb0.size)))
  obtain ⟨xb, hxb⟩ : ∃ xb, w.heap.size = xb := ⟨_, rfl⟩
  rw [hxb] at hx0
  have HCB := Lib.hid (fun (w' : World) (hb : Below w1.heap.size w1 w') => sb_cells ((hb.block xb (lt_of_block hx0)).trans hx0))
  obtain ⟨z0, z1, z2, z3⟩ := HCB.out w1 (Below.refl _ _)
  have HLEN := Lib.hid hl
  have hwr : wrap64 ((len : Int) + (t.length : Int)) = ((len + t.length : Nat) : Int) := by unfold wrap64; omega
  have HWR := Lib.hid hwr
  clear hM hb0 hx0 hl hg
  unfold scriptV strV
  go_enter Tryd.func3, Tryd.ntmps3
  by_cases h8 : 600 < len + t.length
  · have hgt : (600 : Int) < ((len + t.length : Nat) : Int) := by omega
    clear h8 HLEN hbig HWR
    generalize len + t.length = q at *
    --M0
    go_wp2
    go_ret
    exact ⟨rfl, HEND.out _ (Below.refl _ _)⟩
  have hgt : ¬ (600 : Int) < ((len + t.length : Nat) : Int) := by omega
  have HLL := Lib.hid (show len ≤ 600 by omega)
  have HTL := Lib.hid (show t.length ≤ 600 by omega)
  have HE1 := Lib.hid (rScEncode_any k n r l A len c w1 (HML.out _ (Below.refl _ _)) (by omega))
  unfold RToldBytes scriptV strV at HE1
  have HR1 := Lib.hid (fun (w' : World) (hb : Below w1.heap.size w1 w') => scRight_any k n r l A len c w' (HML.out _ hb) (by have := HLL.out; omega))
  have HR2 := Lib.hid (fun (w' : World) (hb : Below w1.heap.size w1 w') => rScRight_any k n r l A len c w' (HML.out _ hb) (by have := HLL.out; omega))
  unfold ToldRightSc scriptV at HR1 HR2
  have HD1 := Lib.hid (fun w => scDecode_any t (by have := HTL.out; omega) w)
  have HD2 := Lib.hid (fun w => rScDecode_any t (by have := HTL.out; omega) w)
  unfold ToldScript scriptV strV at HD1 HD2
  clear h8 hbig
  generalize hq : len + t.length = q at *
  --M1
  go_wp2_with fail
  refine HE1.out.mono ?_
  rintro e w2 ⟨hb2, hcase⟩
  have HB2 := Lib.hid hb2
  clear hb2 HE1 hw1 hxb z0 z1 z2 z3 hgt hwr HWR hq
  obtain ⟨c0, c1, c2, c3⟩ := HCB.out w2 HB2.out
  have HE2 := Lib.hid (scEncode_any k n r l A len c w2 (HML.out _ HB2.out) (by have := HLL.out; omega))
  unfold ToldBytes scriptV strV at HE2
  rcases hcase with ⟨rfl, hr⟩ | ⟨rfl, hno⟩
  · have HRR := Lib.hid hr
    clear hr
    generalize (⟨(bytesOf k n r l).toArray⟩ : ByteArray) = BU at *
    --M2
    go_wp2_with fail
    refine HE2.out.mono ?_
    rintro e w4 ⟨hb4, ⟨rfl, _⟩ | ⟨rfl, hno⟩⟩
    rotate_left
    · exact absurd HRR.out hno
    have HB3e := Lib.hid (HB2.out.trans (hb4.mono HB2.out.size))
    clear hb4 HE2 c0 c1 c2 c3
    have HB4 := Lib.hid (show Below w1.heap.size w1 w4.drew from below_drewN HB3e.out 1)
    clear HB3e
    have HBA := Lib.hid (sb_nil w4.drew)
    --MAp
    go_wp2
    refine region_heldH (S := (fun u => u.cell? ⟨xb, 0, none⟩ = some (.int .i64 k) ∧ u.cell? ⟨xb, 1, none⟩ = some (.int .i64 n) ∧ u.cell? ⟨xb, 2, none⟩ = some (.int .i64 r) ∧ u.cell? ⟨xb, 3, none⟩ = some (.slice A len c))) 23 rfl (by kernel_rfl) (HCB.out w4.drew HB4.out) (fun hHeld => ?_)
    refine heldH_take (n := 22) (i := 0) (oi := _) (v := ?vp0) (dst := some 26) rfl rfl rfl (by kernel_rfl) (by kernel_rfl) (by kernel_rfl) (fun _ _ _ h => h) (Or.inl ⟨by rfl, ?hyp0⟩) (by assumption) ?restp0
    case hyp0 => intro u hSu; (try dsimp only at hSu); go_simp; try (with_reducible rfl)
    simp only [Act.put, List.setIfInBounds_toArray, List.set_cons_zero, List.set_cons_succ]
    refine heldH_take (n := 21) (i := 1) (oi := _) (v := ?vp1) (dst := some 27) rfl rfl rfl (by kernel_rfl) (by kernel_rfl) (by kernel_rfl) (fun _ _ _ h => h) (Or.inl ⟨by rfl, ?hyp1⟩) (by assumption) ?restp1
    case hyp1 => intro u hSu; (try dsimp only at hSu); go_simp; try (with_reducible rfl)
    simp only [Act.put, List.setIfInBounds_toArray, List.set_cons_zero, List.set_cons_succ]
    refine heldH_step (n := 20) (i := 2) (o := _) rfl (by kernel_rfl) rfl (fun K hK => ?_)
    have HK2 := Lib.hid hK
    clear hK
    go_simp
    refine (HBA.out).mono ?_
    rintro e w5 ⟨rfl, hb5⟩
    have HB5 := Lib.hid (HB4.out.trans (hb5.mono HB4.out.size))
    have HS5 := Lib.hid (HCB.out _ HB5.out)
    clear hb5 HBA
    have HR5 := Lib.hid (HR1.out w5 HB5.out)
    clear HR1
    go_simp
    refine HK2.out _ _ HS5.out (fun hHeld => ?_)
    clear HK2 K
    refine heldH_take (n := 19) (i := 3) (oi := _) (v := ?vp3) (dst := some 29) rfl rfl rfl (by kernel_rfl) (by kernel_rfl) (by kernel_rfl) (fun _ _ _ h => h) (Or.inl ⟨by rfl, ?hyp3⟩) (by assumption) ?restp3
    case hyp3 => intro u hSu; (try dsimp only at hSu); go_simp; try (with_reducible rfl)
    simp only [Act.put, List.setIfInBounds_toArray, List.set_cons_zero, List.set_cons_succ]
    refine heldH_take (n := 18) (i := 4) (oi := _) (v := ?vp4) (dst := some 30) rfl rfl rfl (by kernel_rfl) (by kernel_rfl) (by kernel_rfl) (fun _ _ _ h => h) (Or.inl ⟨by rfl, ?hyp4⟩) (by assumption) ?restp4
    case hyp4 => intro u hSu; (try dsimp only at hSu); go_simp; try (with_reducible rfl)
    simp only [Act.put, List.setIfInBounds_toArray, List.set_cons_zero, List.set_cons_succ]
    refine heldH_take (n := 17) (i := 5) (oi := _) (v := ?vp5) (dst := some 31) rfl rfl rfl (by kernel_rfl) (by kernel_rfl) (by kernel_rfl) (fun _ _ _ h => h) (Or.inl ⟨by rfl, ?hyp5⟩) (by assumption) ?restp5
    case hyp5 => intro u hSu; (try dsimp only at hSu); go_simp; try (with_reducible rfl)
    simp only [Act.put, List.setIfInBounds_toArray, List.set_cons_zero, List.set_cons_succ]
    refine heldH_take (n := 16) (i := 6) (oi := _) (v := ?vp6) (dst := some 32) rfl rfl rfl (by kernel_rfl) (by kernel_rfl) (by kernel_rfl) (fun _ _ _ h => h) (Or.inl ⟨by rfl, ?hyp6⟩) (by assumption) ?restp6
    case hyp6 => intro u hSu; (try dsimp only at hSu); go_simp; try (with_reducible rfl)
    simp only [Act.put, List.setIfInBounds_toArray, List.set_cons_zero, List.set_cons_succ]
    refine heldH_take (n := 15) (i := 7) (oi := _) (v := ?vp7) (dst := some 33) rfl rfl rfl (by kernel_rfl) (by kernel_rfl) (by kernel_rfl) (fun _ _ _ h => h) (Or.inl ⟨by rfl, ?hyp7⟩) (by assumption) ?restp7
    case hyp7 => intro u hSu; (try dsimp only at hSu); go_simp; try (with_reducible rfl)
    simp only [Act.put, List.setIfInBounds_toArray, List.set_cons_zero, List.set_cons_succ]
    refine heldH_take (n := 14) (i := 8) (oi := _) (v := ?vp8) (dst := some 34) rfl rfl rfl (by kernel_rfl) (by kernel_rfl) (by kernel_rfl) (fun _ _ _ h => h) (Or.inl ⟨by rfl, ?hyp8⟩) (by assumption) ?restp8
    case hyp8 => intro u hSu; (try dsimp only at hSu); go_simp; try (with_reducible rfl)
    simp only [Act.put, List.setIfInBounds_toArray, List.set_cons_zero, List.set_cons_succ]
    refine heldH_take (n := 13) (i := 9) (oi := _) (v := ?vp9) (dst := some 35) rfl rfl rfl (by kernel_rfl) (by kernel_rfl) (by kernel_rfl) (fun _ _ _ h => h) (Or.inl ⟨by rfl, ?hyp9⟩) (by assumption) ?restp9
    case hyp9 => intro u hSu; (try dsimp only at hSu); go_simp; try (with_reducible rfl)
    simp only [Act.put, List.setIfInBounds_toArray, List.set_cons_zero, List.set_cons_succ]
    refine heldH_take (n := 12) (i := 11) (oi := _) (v := ?vp11) (dst := some 37) rfl rfl rfl (by kernel_rfl) (by kernel_rfl) (by kernel_rfl) (fun _ _ _ h => h) (Or.inl ⟨by rfl, ?hyp11⟩) (by assumption) ?restp11
    case hyp11 => intro u hSu; (try dsimp only at hSu); go_simp; try (with_reducible rfl)
    simp only [Act.put, List.setIfInBounds_toArray, List.set_cons_zero, List.set_cons_succ]
    refine heldH_step (n := 11) (i := 10) (o := _) rfl (by kernel_rfl) rfl (fun K hK => ?_)
    have HK2 := Lib.hid hK
    clear hK
    go_simp
    refine (HR5.out).mono ?_
    rintro e w6 ⟨b6, rfl, hb6b, hb6⟩
    obtain rfl : b6 = true := hb6b.2 HRR.out
    have HB6 := Lib.hid (HB5.out.trans (hb6.mono HB5.out.size))
    have HS6 := Lib.hid (HCB.out _ HB6.out)
    clear hb6 HR5 hb6b
    have HR6 := Lib.hid (HR2.out w6 HB6.out)
    clear HR2
    go_simp
    refine HK2.out _ _ HS6.out (fun hHeld => ?_)
    clear HK2 K
    refine heldH_step (n := 10) (i := 12) (o := _) rfl (by kernel_rfl) rfl (fun K hK => ?_)
    have HK2 := Lib.hid hK
    clear hK
    go_simp
    refine (HR6.out).mono ?_
    rintro e w7 ⟨b7, rfl, hb7b, hb7⟩
    obtain rfl : b7 = true := hb7b.2 HRR.out
    have HB7 := Lib.hid (HB6.out.trans (hb7.mono HB6.out.size))
    have HS7 := Lib.hid (HCB.out _ HB7.out)
    clear hb7 HR6 hb7b
    have HD7 := Lib.hid (HD1.out w7)
    clear HD1
    go_simp
    refine HK2.out _ _ HS7.out (fun hHeld => ?_)
    clear HK2 K
    refine heldH_take (n := 9) (i := 13) (oi := _) (v := ?vp13) (dst := some 39) rfl rfl rfl (by kernel_rfl) (by kernel_rfl) (by kernel_rfl) (fun _ _ _ h => h) (Or.inl ⟨by rfl, ?hyp13⟩) (by assumption) ?restp13
    case hyp13 => intro u hSu; (try dsimp only at hSu); go_simp; try (with_reducible rfl)
    simp only [Act.put, List.setIfInBounds_toArray, List.set_cons_zero, List.set_cons_succ]
    refine heldH_take (n := 8) (i := 14) (oi := _) (v := ?vp14) (dst := some 40) rfl rfl rfl (by kernel_rfl) (by kernel_rfl) (by kernel_rfl) (fun _ _ _ h => h) (Or.inl ⟨by rfl, ?hyp14⟩) (by assumption) ?restp14
    case hyp14 => intro u hSu; (try dsimp only at hSu); go_simp; try (with_reducible rfl)
    simp only [Act.put, List.setIfInBounds_toArray, List.set_cons_zero, List.set_cons_succ]
    refine heldH_take (n := 7) (i := 15) (oi := _) (v := ?vp15) (dst := some 41) rfl rfl rfl (by kernel_rfl) (by kernel_rfl) (by kernel_rfl) (fun _ _ _ h => h) (Or.inl ⟨by rfl, ?hyp15⟩) (by assumption) ?restp15
    case hyp15 => intro u hSu; (try dsimp only at hSu); go_simp; try (with_reducible rfl)
    simp only [Act.put, List.setIfInBounds_toArray, List.set_cons_zero, List.set_cons_succ]
    refine heldH_take (n := 6) (i := 16) (oi := _) (v := ?vp16) (dst := some 42) rfl rfl rfl (by kernel_rfl) (by kernel_rfl) (by kernel_rfl) (fun _ _ _ h => h) (Or.inl ⟨by rfl, ?hyp16⟩) (by assumption) ?restp16
    case hyp16 => intro u hSu; (try dsimp only at hSu); go_simp; try (with_reducible rfl)
    simp only [Act.put, List.setIfInBounds_toArray, List.set_cons_zero, List.set_cons_succ]
    refine heldH_take (n := 5) (i := 18) (oi := _) (v := ?vp18) (dst := some 44) rfl rfl rfl (by kernel_rfl) (by kernel_rfl) (by kernel_rfl) (fun _ _ _ h => h) (Or.inl ⟨by rfl, ?hyp18⟩) (by assumption) ?restp18
    case hyp18 => intro u hSu; (try dsimp only at hSu); go_simp; try (with_reducible rfl)
    simp only [Act.put, List.setIfInBounds_toArray, List.set_cons_zero, List.set_cons_succ]
    refine heldH_step (n := 4) (i := 17) (o := _) rfl (by kernel_rfl) rfl (fun K hK => ?_)
    have HK2 := Lib.hid hK
    clear hK
    go_simp
    refine (HD7.out).mono ?_
    rintro e w8 ⟨hb8, A8, c8, rfl, hM8⟩
    have HB8 := Lib.hid (HB7.out.trans (hb8.mono HB7.out.size))
    have HS8 := Lib.hid (HCB.out _ HB8.out)
    clear hb8 HD7
    have HM8 := Lib.hid hM8
    have HD8 := Lib.hid (HD2.out w8)
    clear HD2 hM8
    go_simp
    refine HK2.out _ _ HS8.out (fun hHeld => ?_)
    clear HK2 K
    refine heldH_step (n := 3) (i := 19) (o := _) rfl (by kernel_rfl) rfl (fun K hK => ?_)
    have HK2 := Lib.hid hK
    clear hK
    go_simp
    refine (HD8.out).mono ?_
    rintro e w9 ⟨hb9, A9, c9, rfl, hM9⟩
    have HQ9 := Lib.hid (rSame_any (kOf t : Nat) (nOf t : Nat) (rOf t : Nat) (mvsOf t) A8 A9 (mvsOf t).length c8 c9 w9 (HM8.out.old hb9) hM9 (by rw [mvsOf_len]; have := HTL.out; omega))
    unfold scriptV at HQ9
    have HB9 := Lib.hid (HB8.out.trans (hb9.mono HB8.out.size))
    have HS9 := Lib.hid (HCB.out _ HB9.out)
    clear hb9 HD8 hM9
    go_simp
    refine HK2.out _ _ HS9.out (fun hHeld => ?_)
    clear HK2 K
    refine heldH_step (n := 2) (i := 20) (o := _) rfl (by kernel_rfl) rfl (fun K hK => ?_)
    have HK2 := Lib.hid hK
    clear hK
    go_simp
    refine (HQ9.out).mono ?_
    rintro e w10 ⟨rfl, hb10⟩
    have HB10 := Lib.hid (HB9.out.trans (hb10.mono HB9.out.size))
    have HS10 := Lib.hid (HCB.out _ HB10.out)
    clear hb10 HQ9
    go_simp
    refine HK2.out _ _ HS10.out (fun hHeld => ?_)
    clear HK2 K
    refine heldH_take (n := 1) (i := 21) (oi := _) (v := ?vp21) (dst := some 47) rfl rfl rfl (by kernel_rfl) (by kernel_rfl) (by kernel_rfl) (fun _ _ _ h => h) (Or.inl ⟨by rfl, ?hyp21⟩) (by assumption) ?restp21
    case hyp21 => intro u hSu; (try dsimp only at hSu); go_simp; try (with_reducible rfl)
    simp only [Act.put, List.setIfInBounds_toArray, List.set_cons_zero, List.set_cons_succ]
    refine heldH_take (n := 0) (i := 22) (oi := _) (v := ?vp22) (dst := some 4) rfl rfl rfl (by kernel_rfl) (by kernel_rfl) (by kernel_rfl) (fun _ _ _ h => h) (Or.inl ⟨by rfl, ?hyp22⟩) (by assumption) ?restp22
    case hyp22 => intro u hSu; (try dsimp only at hSu); go_simp; try (with_reducible rfl)
    simp only [Act.put, List.setIfInBounds_toArray, List.set_cons_zero, List.set_cons_succ]
    refine wpAnyH_done (by kernel_rfl) ?_ _
    --MBp
    go_wp2
    go_ret
    exact ⟨rfl, HEND.out _ HB10.out⟩
  · have HNO := Lib.hid hno
    clear hno
    --M3
    go_wp2_with fail
    refine HE2.out.mono ?_
    rintro e w4 ⟨hb4, ⟨rfl, hr⟩ | ⟨rfl, _⟩⟩
    · exact absurd hr HNO.out
    have HB3e := Lib.hid (HB2.out.trans (hb4.mono HB2.out.size))
    clear hb4 HE2 c0 c1 c2 c3
    have HB4 := Lib.hid (show Below w1.heap.size w1 w4.drew from below_drewN HB3e.out 1)
    clear HB3e
    have HBA := Lib.hid (sb_errno 1 w4.drew (HEV.out _ HB4.out))
    --MAn
    go_wp2
    refine region_heldH (S := (fun u => u.cell? ⟨xb, 0, none⟩ = some (.int .i64 k) ∧ u.cell? ⟨xb, 1, none⟩ = some (.int .i64 n) ∧ u.cell? ⟨xb, 2, none⟩ = some (.int .i64 r) ∧ u.cell? ⟨xb, 3, none⟩ = some (.slice A len c))) 23 rfl (by kernel_rfl) (HCB.out w4.drew HB4.out) (fun hHeld => ?_)
    refine heldH_take (n := 22) (i := 0) (oi := _) (v := ?vn0) (dst := some 26) rfl rfl rfl (by kernel_rfl) (by kernel_rfl) (by kernel_rfl) (fun _ _ _ h => h) (Or.inl ⟨by rfl, ?hyn0⟩) (by assumption) ?restn0
    case hyn0 => intro u hSu; (try dsimp only at hSu); go_simp; try (with_reducible rfl)
    simp only [Act.put, List.setIfInBounds_toArray, List.set_cons_zero, List.set_cons_succ]
    refine heldH_take (n := 21) (i := 1) (oi := _) (v := ?vn1) (dst := some 27) rfl rfl rfl (by kernel_rfl) (by kernel_rfl) (by kernel_rfl) (fun _ _ _ h => h) (Or.inl ⟨by rfl, ?hyn1⟩) (by assumption) ?restn1
    case hyn1 => intro u hSu; (try dsimp only at hSu); go_simp; try (with_reducible rfl)
    simp only [Act.put, List.setIfInBounds_toArray, List.set_cons_zero, List.set_cons_succ]
    refine heldH_step (n := 20) (i := 2) (o := _) rfl (by kernel_rfl) rfl (fun K hK => ?_)
    have HK2 := Lib.hid hK
    clear hK
    go_simp
    refine (HBA.out).mono ?_
    rintro e w5 ⟨rfl, hb5⟩
    have HB5 := Lib.hid (HB4.out.trans (hb5.mono HB4.out.size))
    have HS5 := Lib.hid (HCB.out _ HB5.out)
    clear hb5 HBA
    have HR5 := Lib.hid (HR1.out w5 HB5.out)
    clear HR1
    go_simp
    refine HK2.out _ _ HS5.out (fun hHeld => ?_)
    clear HK2 K
    refine heldH_take (n := 19) (i := 3) (oi := _) (v := ?vn3) (dst := some 29) rfl rfl rfl (by kernel_rfl) (by kernel_rfl) (by kernel_rfl) (fun _ _ _ h => h) (Or.inl ⟨by rfl, ?hyn3⟩) (by assumption) ?restn3
    case hyn3 => intro u hSu; (try dsimp only at hSu); go_simp; try (with_reducible rfl)
    simp only [Act.put, List.setIfInBounds_toArray, List.set_cons_zero, List.set_cons_succ]
    refine heldH_take (n := 18) (i := 4) (oi := _) (v := ?vn4) (dst := some 30) rfl rfl rfl (by kernel_rfl) (by kernel_rfl) (by kernel_rfl) (fun _ _ _ h => h) (Or.inl ⟨by rfl, ?hyn4⟩) (by assumption) ?restn4
    case hyn4 => intro u hSu; (try dsimp only at hSu); go_simp; try (with_reducible rfl)
    simp only [Act.put, List.setIfInBounds_toArray, List.set_cons_zero, List.set_cons_succ]
    refine heldH_take (n := 17) (i := 5) (oi := _) (v := ?vn5) (dst := some 31) rfl rfl rfl (by kernel_rfl) (by kernel_rfl) (by kernel_rfl) (fun _ _ _ h => h) (Or.inl ⟨by rfl, ?hyn5⟩) (by assumption) ?restn5
    case hyn5 => intro u hSu; (try dsimp only at hSu); go_simp; try (with_reducible rfl)
    simp only [Act.put, List.setIfInBounds_toArray, List.set_cons_zero, List.set_cons_succ]
    refine heldH_take (n := 16) (i := 6) (oi := _) (v := ?vn6) (dst := some 32) rfl rfl rfl (by kernel_rfl) (by kernel_rfl) (by kernel_rfl) (fun _ _ _ h => h) (Or.inl ⟨by rfl, ?hyn6⟩) (by assumption) ?restn6
    case hyn6 => intro u hSu; (try dsimp only at hSu); go_simp; try (with_reducible rfl)
    simp only [Act.put, List.setIfInBounds_toArray, List.set_cons_zero, List.set_cons_succ]
    refine heldH_take (n := 15) (i := 7) (oi := _) (v := ?vn7) (dst := some 33) rfl rfl rfl (by kernel_rfl) (by kernel_rfl) (by kernel_rfl) (fun _ _ _ h => h) (Or.inl ⟨by rfl, ?hyn7⟩) (by assumption) ?restn7
    case hyn7 => intro u hSu; (try dsimp only at hSu); go_simp; try (with_reducible rfl)
    simp only [Act.put, List.setIfInBounds_toArray, List.set_cons_zero, List.set_cons_succ]
    refine heldH_take (n := 14) (i := 8) (oi := _) (v := ?vn8) (dst := some 34) rfl rfl rfl (by kernel_rfl) (by kernel_rfl) (by kernel_rfl) (fun _ _ _ h => h) (Or.inl ⟨by rfl, ?hyn8⟩) (by assumption) ?restn8
    case hyn8 => intro u hSu; (try dsimp only at hSu); go_simp; try (with_reducible rfl)
    simp only [Act.put, List.setIfInBounds_toArray, List.set_cons_zero, List.set_cons_succ]
    refine heldH_take (n := 13) (i := 9) (oi := _) (v := ?vn9) (dst := some 35) rfl rfl rfl (by kernel_rfl) (by kernel_rfl) (by kernel_rfl) (fun _ _ _ h => h) (Or.inl ⟨by rfl, ?hyn9⟩) (by assumption) ?restn9
    case hyn9 => intro u hSu; (try dsimp only at hSu); go_simp; try (with_reducible rfl)
    simp only [Act.put, List.setIfInBounds_toArray, List.set_cons_zero, List.set_cons_succ]
    refine heldH_take (n := 12) (i := 11) (oi := _) (v := ?vn11) (dst := some 37) rfl rfl rfl (by kernel_rfl) (by kernel_rfl) (by kernel_rfl) (fun _ _ _ h => h) (Or.inl ⟨by rfl, ?hyn11⟩) (by assumption) ?restn11
    case hyn11 => intro u hSu; (try dsimp only at hSu); go_simp; try (with_reducible rfl)
    simp only [Act.put, List.setIfInBounds_toArray, List.set_cons_zero, List.set_cons_succ]
    refine heldH_step (n := 11) (i := 10) (o := _) rfl (by kernel_rfl) rfl (fun K hK => ?_)
    have HK2 := Lib.hid hK
    clear hK
    go_simp
    refine (HR5.out).mono ?_
    rintro e w6 ⟨b6, rfl, hb6b, hb6⟩
    obtain rfl : b6 = false := Bool.eq_false_iff.2 fun h => HNO.out (hb6b.1 h)
    have HB6 := Lib.hid (HB5.out.trans (hb6.mono HB5.out.size))
    have HS6 := Lib.hid (HCB.out _ HB6.out)
    clear hb6 HR5 hb6b
    have HR6 := Lib.hid (HR2.out w6 HB6.out)
    clear HR2
    go_simp
    refine HK2.out _ _ HS6.out (fun hHeld => ?_)
    clear HK2 K
    refine heldH_step (n := 10) (i := 12) (o := _) rfl (by kernel_rfl) rfl (fun K hK => ?_)
    have HK2 := Lib.hid hK
    clear hK
    go_simp
    refine (HR6.out).mono ?_
    rintro e w7 ⟨b7, rfl, hb7b, hb7⟩
    obtain rfl : b7 = false := Bool.eq_false_iff.2 fun h => HNO.out (hb7b.1 h)
    have HB7 := Lib.hid (HB6.out.trans (hb7.mono HB6.out.size))
    have HS7 := Lib.hid (HCB.out _ HB7.out)
    clear hb7 HR6 hb7b
    have HD7 := Lib.hid (HD1.out w7)
    clear HD1
    go_simp
    refine HK2.out _ _ HS7.out (fun hHeld => ?_)
    clear HK2 K
    refine heldH_take (n := 9) (i := 13) (oi := _) (v := ?vn13) (dst := some 39) rfl rfl rfl (by kernel_rfl) (by kernel_rfl) (by kernel_rfl) (fun _ _ _ h => h) (Or.inl ⟨by rfl, ?hyn13⟩) (by assumption) ?restn13
    case hyn13 => intro u hSu; (try dsimp only at hSu); go_simp; try (with_reducible rfl)
    simp only [Act.put, List.setIfInBounds_toArray, List.set_cons_zero, List.set_cons_succ]
    refine heldH_take (n := 8) (i := 14) (oi := _) (v := ?vn14) (dst := some 40) rfl rfl rfl (by kernel_rfl) (by kernel_rfl) (by kernel_rfl) (fun _ _ _ h => h) (Or.inl ⟨by rfl, ?hyn14⟩) (by assumption) ?restn14
    case hyn14 => intro u hSu; (try dsimp only at hSu); go_simp; try (with_reducible rfl)
    simp only [Act.put, List.setIfInBounds_toArray, List.set_cons_zero, List.set_cons_succ]
    refine heldH_take (n := 7) (i := 15) (oi := _) (v := ?vn15) (dst := some 41) rfl rfl rfl (by kernel_rfl) (by kernel_rfl) (by kernel_rfl) (fun _ _ _ h => h) (Or.inl ⟨by rfl, ?hyn15⟩) (by assumption) ?restn15
    case hyn15 => intro u hSu; (try dsimp only at hSu); go_simp; try (with_reducible rfl)
    simp only [Act.put, List.setIfInBounds_toArray, List.set_cons_zero, List.set_cons_succ]
    refine heldH_take (n := 6) (i := 16) (oi := _) (v := ?vn16) (dst := some 42) rfl rfl rfl (by kernel_rfl) (by kernel_rfl) (by kernel_rfl) (fun _ _ _ h => h) (Or.inl ⟨by rfl, ?hyn16⟩) (by assumption) ?restn16
    case hyn16 => intro u hSu; (try dsimp only at hSu); go_simp; try (with_reducible rfl)
    simp only [Act.put, List.setIfInBounds_toArray, List.set_cons_zero, List.set_cons_succ]
    refine heldH_take (n := 5) (i := 18) (oi := _) (v := ?vn18) (dst := some 44) rfl rfl rfl (by kernel_rfl) (by kernel_rfl) (by kernel_rfl) (fun _ _ _ h => h) (Or.inl ⟨by rfl, ?hyn18⟩) (by assumption) ?restn18
    case hyn18 => intro u hSu; (try dsimp only at hSu); go_simp; try (with_reducible rfl)
    simp only [Act.put, List.setIfInBounds_toArray, List.set_cons_zero, List.set_cons_succ]
    refine heldH_step (n := 4) (i := 17) (o := _) rfl (by kernel_rfl) rfl (fun K hK => ?_)
    have HK2 := Lib.hid hK
    clear hK
    go_simp
    refine (HD7.out).mono ?_
    rintro e w8 ⟨hb8, A8, c8, rfl, hM8⟩
    have HB8 := Lib.hid (HB7.out.trans (hb8.mono HB7.out.size))
    have HS8 := Lib.hid (HCB.out _ HB8.out)
    clear hb8 HD7
    have HM8 := Lib.hid hM8
    have HD8 := Lib.hid (HD2.out w8)
    clear HD2 hM8
    go_simp
    refine HK2.out _ _ HS8.out (fun hHeld => ?_)
    clear HK2 K
    refine heldH_step (n := 3) (i := 19) (o := _) rfl (by kernel_rfl) rfl (fun K hK => ?_)
    have HK2 := Lib.hid hK
    clear hK
    go_simp
    refine (HD8.out).mono ?_
    rintro e w9 ⟨hb9, A9, c9, rfl, hM9⟩
    have HQ9 := Lib.hid (rSame_any (kOf t : Nat) (nOf t : Nat) (rOf t : Nat) (mvsOf t) A8 A9 (mvsOf t).length c8 c9 w9 (HM8.out.old hb9) hM9 (by rw [mvsOf_len]; have := HTL.out; omega))
    unfold scriptV at HQ9
    have HB9 := Lib.hid (HB8.out.trans (hb9.mono HB8.out.size))
    have HS9 := Lib.hid (HCB.out _ HB9.out)
    clear hb9 HD8 hM9
    go_simp
    refine HK2.out _ _ HS9.out (fun hHeld => ?_)
    clear HK2 K
    refine heldH_step (n := 2) (i := 20) (o := _) rfl (by kernel_rfl) rfl (fun K hK => ?_)
    have HK2 := Lib.hid hK
    clear hK
    go_simp
    refine (HQ9.out).mono ?_
    rintro e w10 ⟨rfl, hb10⟩
    have HB10 := Lib.hid (HB9.out.trans (hb10.mono HB9.out.size))
    have HS10 := Lib.hid (HCB.out _ HB10.out)
    clear hb10 HQ9
    go_simp
    refine HK2.out _ _ HS10.out (fun hHeld => ?_)
    clear HK2 K
    refine heldH_take (n := 1) (i := 21) (oi := _) (v := ?vn21) (dst := some 47) rfl rfl rfl (by kernel_rfl) (by kernel_rfl) (by kernel_rfl) (fun _ _ _ h => h) (Or.inl ⟨by rfl, ?hyn21⟩) (by assumption) ?restn21
    case hyn21 => intro u hSu; (try dsimp only at hSu); go_simp; try (with_reducible rfl)
    simp only [Act.put, List.setIfInBounds_toArray, List.set_cons_zero, List.set_cons_succ]
    refine heldH_take (n := 0) (i := 22) (oi := _) (v := ?vn22) (dst := some 4) rfl rfl rfl (by kernel_rfl) (by kernel_rfl) (by kernel_rfl) (fun _ _ _ h => h) (Or.inl ⟨by rfl, ?hyn22⟩) (by assumption) ?restn22
    case hyn22 => intro u hSu; (try dsimp only at hSu); go_simp; try (with_reducible rfl)
    simp only [Act.put, List.setIfInBounds_toArray, List.set_cons_zero, List.set_cons_succ]
    refine wpAnyH_done (by kernel_rfl) ?_ _
    --MBn
    go_wp2
    go_ret
    exact ⟨rfl, HEND.out _ HB10.out⟩
theorem scriptBytes_any {w : World} (hg : ErrVar w) (k n r : Int) (l : List (Int × Bool)) (A : Option Addr) (len c : Nat) (hM : Moves w w.heap.size A len l) (t : ByteArray) (hlen : len ≤ 17592186044416) (ht : t.size ≤ 140737488355328) :
    Calls Tryd.prog 3 #[scriptV k n r A len c, .string t] w fun e w' => e = .returned (.bool true) ∧ Below w.heap.size w w' := by
  have h := scriptBytes_list hg k n r l A len c hM t.data.toList (by rw [← Lib.size_eq]; omega)
  unfold strV at h
  rw [show (⟨t.data.toList.toArray⟩ : ByteArray) = t from Lib.mk_data t] at h
  exact h
end Go.Proofs.YtlikbmbcjipolaaDoor
