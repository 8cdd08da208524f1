/-
  WHAT IS WRITTEN IS READ; any bytes are a script that may be, and is read so again, once it is written.
-/
import Derived.Test.YtlikbmbcjipolaaDoorLScript
import Derived.Test.YtlikbmbcjipolaaDoorHeldH
namespace Go.Proofs.YtlikbmbcjipolaaDoor
set_option maxRecDepth 100000
open Go.RowKit Go.Sort
set_option linter.unusedVariables false
set_option linter.unusedSimpArgs false

set_option maxHeartbeats 2000000 in
/-- Two scripts that are the same. -/
theorem scSame_any (k n r : Int) (l : List (Int × Bool)) (A A' : Option Addr) (len c c' : Nat) (w : World) (hM : Moves w w.heap.size A len l) (hM' : Moves w w.heap.size A' len l) (hlen : len ≤ 900000) :
    Calls Tryd.prog 15 #[scriptV k n r A len c, scriptV k n r A' len c'] w fun e w' => e = .returned (.bool true) ∧ Below w.heap.size w w' := by
  have hb0 := (Below.refl w.heap.size w).alloc (Nat.le_refl _) (.cells #[.int .i64 k, .int .i64 n, .int .i64 r, .slice A len c] 24)
  have hx0 := heap_alloc_new w (.cells #[.int .i64 k, .int .i64 n, .int .i64 r, .slice A len c] 24)
  obtain ⟨w1, hw1⟩ : ∃ w1, w.alloc (.cells #[.int .i64 k, .int .i64 n, .int .i64 r, .slice A len c] 24) = w1 := ⟨_, rfl⟩
  rw [hw1] at hx0 hb0
  have hb1 := hb0.alloc hb0.size (.cells #[.int .i64 k, .int .i64 n, .int .i64 r, .slice A' len c'] 24)
  have hb1' := (Below.refl w1.heap.size w1).alloc (Nat.le_refl _) (.cells #[.int .i64 k, .int .i64 n, .int .i64 r, .slice A' len c'] 24)
  have hx1 := heap_alloc_new w1 (.cells #[.int .i64 k, .int .i64 n, .int .i64 r, .slice A' len c'] 24)
  obtain ⟨w2, hw2⟩ : ∃ w2, w1.alloc (.cells #[.int .i64 k, .int .i64 n, .int .i64 r, .slice A' len c'] 24) = w2 := ⟨_, rfl⟩
  rw [hw2] at hx1 hb1 hb1'
  have hx0 := (hb1'.block _ (lt_of_block hx0)).trans hx0
  have hm1 := hM.old hb1
  have hm2 := hM'.old hb1
  obtain ⟨xb, hxb⟩ : ∃ xb, w.heap.size = xb := ⟨_, rfl⟩
  obtain ⟨yb, hyb⟩ : ∃ yb, w1.heap.size = yb := ⟨_, rfl⟩
  rw [hxb] at hx0
  rw [hyb] at hx1
  have c0 : w2.cell? ⟨xb, 0, none⟩ = some (.int .i64 k) := by rw [cell_of_row w2 xb 0 _ _ _ hx0]; rfl
  have c1 : w2.cell? ⟨xb, 1, none⟩ = some (.int .i64 n) := by rw [cell_of_row w2 xb 1 _ _ _ hx0]; rfl
  have c2 : w2.cell? ⟨xb, 2, none⟩ = some (.int .i64 r) := by rw [cell_of_row w2 xb 2 _ _ _ hx0]; rfl
  have c3 : w2.cell? ⟨xb, 3, none⟩ = some (.slice A len c) := by rw [cell_of_row w2 xb 3 _ _ _ hx0]; rfl
  have d0 : w2.cell? ⟨yb, 0, none⟩ = some (.int .i64 k) := by rw [cell_of_row w2 yb 0 _ _ _ hx1]; rfl
  have d1 : w2.cell? ⟨yb, 1, none⟩ = some (.int .i64 n) := by rw [cell_of_row w2 yb 1 _ _ _ hx1]; rfl
  have d2 : w2.cell? ⟨yb, 2, none⟩ = some (.int .i64 r) := by rw [cell_of_row w2 yb 2 _ _ _ hx1]; rfl
  have d3 : w2.cell? ⟨yb, 3, none⟩ = some (.slice A' len c') := by rw [cell_of_row w2 yb 3 _ _ _ hx1]; rfl
  have HQ := Lib.hid (equalM_same A A' len c c' l w2 (by omega) hm1 hm2)
  have HB := Lib.hid (show Below w.heap.size w w2 from hb1)
  have k1 : (k == k) = true := by simp
  have k2 : (n == n) = true := by simp
  have k3 : (r == r) = true := by simp
  clear hM hM' hb0 hb1 hb1' hx0 hx1 hm1 hm2
  unfold scriptV
  go_enter Tryd.func15, Tryd.ntmps15
  --M0
  go_wp2_with fail
  refine HQ.out.mono ?_
  rintro e w4 ⟨rfl, q, rfl⟩
  go_wp2
  go_ret
  exact ⟨rfl, below_drewN HB.out q⟩
/-- The walk of ScriptBack. -/
theorem sc_cells {w : World} {b : Nat} {k n r : Int} {A : Option Addr} {len c : Nat} {T : TypeId} {q : Nat × Nat} (h : w.heap[b]? = some (.cells #[.int .i64 k, .int .i64 n, .int .i64 r, .slice A len c] T q)) :
    w.cell? ⟨b, 0, none⟩ = some (.int .i64 k) ∧ w.cell? ⟨b, 1, none⟩ = some (.int .i64 n) ∧ w.cell? ⟨b, 2, none⟩ = some (.int .i64 r) ∧ w.cell? ⟨b, 3, none⟩ = some (.slice A len c) :=
  ⟨by rw [cell_of_row w b 0 _ _ _ h]; rfl, by rw [cell_of_row w b 1 _ _ _ h]; rfl, by rw [cell_of_row w b 2 _ _ _ h]; rfl, by rw [cell_of_row w b 3 _ _ _ h]; rfl⟩
theorem sc_wrapI {x : Int} (h0 : 0 ≤ x) (h1 : x < 1000) : IntKind.i64.wrap x = x := by
  simp [IntKind.wrap, IntKind.signed, IntKind.bits]
  omega
set_option maxHeartbeats 8000000 in
theorem scriptBack_list {w : World} (k n r : Int) (l : List (Int × Bool)) (A : Option Addr) (len c : Nat) (hM : Moves w w.heap.size A len l) (t : List UInt8) (hbig : len + t.length ≤ 9223372036854775807) :
    Calls Tryd.prog 4 #[scriptV k n r A len c, strV t] w fun e w' => e = .returned (.bool true) ∧ Below w.heap.size w w' := by
  have hl := hM.len
  have hb0 := (Below.refl w.heap.size w).alloc (Nat.le_refl _) (.cells #[.int .i64 k, .int .i64 n, .int .i64 r, .slice A len c] 24)
  have hx0 := heap_alloc_new w (.cells #[.int .i64 k, .int .i64 n, .int .i64 r, .slice A len c] 24)
  obtain ⟨w1, hw1⟩ : ∃ w1, w.alloc (.cells #[.int .i64 k, .int .i64 n, .int .i64 r, .slice A len c] 24) = w1 := ⟨_, rfl⟩
  rw [hw1] at hx0 hb0
  have HEND := Lib.hid (fun (w' : World) (hb : Below w1.heap.size w1 w') => hb0.trans (hb.mono hb0.size))
  have HML := Lib.hid (fun (w' : World) (hb : Below w1.heap.size w1 w') => hM.old (hb0.trans (hb.mono hb0.size)))
  obtain ⟨xb, hxb⟩ : ∃ xb, w.heap.size = xb := ⟨_, rfl⟩
  rw [hxb] at hx0
  have HCB := Lib.hid (fun (w' : World) (hb : Below w1.heap.size w1 w') => sc_cells ((hb.block xb (lt_of_block hx0)).trans hx0))
  obtain ⟨z0, z1, z2, z3⟩ := HCB.out w1 (Below.refl _ _)
  have HS := Lib.hid (scripted_true w1)
  have HLEN := Lib.hid hl
  have hwr : wrap64 ((len : Int) + (t.length : Int)) = ((len + t.length : Nat) : Int) := by unfold wrap64; omega
  have HWR := Lib.hid hwr
  clear hM hb0 hx0 hl hwr
  unfold scriptV strV
  go_enter Tryd.func4, Tryd.ntmps4
  go_wp2_with fail
  refine HS.out.mono ?_
  rintro e w2 ⟨rfl, hb2⟩
  have HB2 := Lib.hid hb2
  clear hb2 HS hw1 hxb z0 z1 z2 z3
  obtain ⟨c0, c1, c2, c3⟩ := HCB.out w2 HB2.out
  have hwr := HWR.out
  --M0
  by_cases h8 : 800 < len + t.length
  · have hgt : (800 : Int) < ((len + t.length : Nat) : Int) := by omega
    clear h8 HLEN hbig
    generalize len + t.length = q at *
    go_wp2
    go_ret
    exact ⟨rfl, HEND.out _ HB2.out⟩
  have hgt : ¬ (800 : Int) < ((len + t.length : Nat) : Int) := by omega
  have HLL := Lib.hid (show len ≤ 800 by omega)
  have HTL0 := Lib.hid (show t.length ≤ 800 by omega)
  have HR := Lib.hid (scRight_any k n r l A len c w2 (HML.out _ HB2.out) (by omega))
  unfold ToldRightSc scriptV at HR
  clear h8 hbig
  generalize hq : len + t.length = q at *
  go_wp2_with fail
  refine HR.out.mono ?_
  rintro e w3 ⟨b, rfl, hb, hb3⟩
  have HB3 := Lib.hid (HB2.out.trans (hb3.mono HB2.out.size))
  clear hb3 HR c0 c1 c2 c3 hgt hwr HWR hq
  obtain rfl | rfl := (by cases b <;> simp : b = false ∨ b = true)
  · clear hb
    have HDT := Lib.hid (scDecode_any t (by have := HTL0.out; omega) w3)
    unfold ToldScript scriptV strV at HDT
    have hrx := script_right t
    have hlx := mvsOf_len t
    have hrb := read_bytes hrx
    have hbl := bytesOf_len (kOf t) (nOf t) (rOf t) (mvsOf t)
    have HDB := Lib.hid (fun w => scDecode_any (bytesOf (kOf t) (nOf t) (rOf t) (mvsOf t)) (by have := HTL0.out; omega) w)
    unfold ToldScript scriptV strV at HDB
    rw [hrb.1, hrb.2.1, hrb.2.2.1, hrb.2.2.2] at HDB
    have HTL := Lib.hid (show (mvsOf t).length ≤ 900000 ∧ (bytesOf (kOf t) (nOf t) (rOf t) (mvsOf t)).length = max 3 t.length by have := HTL0.out; omega)
    have HRX := Lib.hid hrx
    clear hrx hlx hrb hbl
    generalize kOf t = kx at *
    generalize nOf t = nx at *
    generalize rOf t = rx at *
    generalize mvsOf t = mx at *
    have HEB := Lib.hid (fun (w : World) A c (h : Moves w w.heap.size A mx.length mx) => scEncode_any (kx : Nat) (nx : Nat) (rx : Nat) mx A mx.length c w h (by have := HTL.out; omega))
    unfold ToldBytes scriptV strV at HEB
    have hsb : (⟨(bytesOf (kx : Nat) (nx : Nat) (rx : Nat) mx).toArray⟩ : ByteArray).size = (bytesOf (kx : Nat) (nx : Nat) (rx : Nat) mx).length := by simp [ByteArray.size]
    have hst : (⟨t.toArray⟩ : ByteArray).size = t.length := by simp [ByteArray.size]
    rw [HTL.out.2] at hsb
    have HSB := Lib.hid hsb
    have HST := Lib.hid hst
    clear hsb hst
    generalize (⟨(bytesOf (kx : Nat) (nx : Nat) (rx : Nat) mx).toArray⟩ : ByteArray) = BX at *
    generalize (⟨t.toArray⟩ : ByteArray) = TB at *
    --MT0n
    go_wp2_with fail
    refine HDT.out.mono ?_
    rintro e w5 ⟨hb5, A5, c5, rfl, hM5⟩
    have HE5 := Lib.hid (HEND.out _ (HB3.out.trans (hb5.mono HB3.out.size)))
    clear hb5 HDT
    have hba := (Below.refl w5.heap.size w5).alloc (Nat.le_refl _) (.cells #[.int .i64 (kx : Nat), .int .i64 (nx : Nat), .int .i64 (rx : Nat), .slice A5 mx.length c5] 24)
    have hxa := heap_alloc_new w5 (.cells #[.int .i64 (kx : Nat), .int .i64 (nx : Nat), .int .i64 (rx : Nat), .slice A5 mx.length c5] 24)
    obtain ⟨yb, hyb⟩ : ∃ yb, w5.heap.size = yb := ⟨_, rfl⟩
    obtain ⟨w6, hw6⟩ : ∃ w6, w5.alloc (.cells #[.int .i64 (kx : Nat), .int .i64 (nx : Nat), .int .i64 (rx : Nat), .slice A5 mx.length c5] 24) = w6 := ⟨_, rfl⟩
    rw [hw6] at hba hxa
    have HE6 := Lib.hid (show Below w.heap.size w w6 from HE5.out.trans (hba.mono HE5.out.size))
    rw [hyb] at hxa
    have HM6 := hM5.old hba
    have HCX := Lib.hid (fun (w' : World) (hb : Below w6.heap.size w6 w') => sc_cells ((hb.block yb (lt_of_block hxa)).trans hxa))
    have HMX := Lib.hid (fun (w' : World) (hb : Below w6.heap.size w6 w') => HM6.old hb)
    have HE7 := Lib.hid (HEB.out w6 A5 c5 HM6)
    obtain ⟨y0, y1, y2, y3⟩ := HCX.out w6 (Below.refl _ _)
    clear hM5 hba hxa HEB HE5 HM6
    go_wp2_with fail
    refine HE7.out.mono ?_
    rintro e w7 ⟨hb7, ⟨rfl, _⟩ | ⟨rfl, hno⟩⟩
    rotate_left
    · exact absurd HRX.out hno
    clear y0 y1 y2 y3 hw6 hyb HE7
    have HB7 := Lib.hid (show Below w6.heap.size w6 w7.drew from below_drewN hb7 1)
    have HR7 := Lib.hid (fun w (hb : Below w6.heap.size w6 w) => scRight_any (kx : Nat) (nx : Nat) (rx : Nat) mx A5 mx.length c5 w (HMX.out _ hb) (by have := HTL.out; omega))
    have HR7 := Lib.hid (HR7.out w7.drew HB7.out)
    unfold ToldRightSc scriptV at HR7
    clear hb7
    go_wp2
    refine region_heldH (S := (fun u => u.cell? ⟨yb, 0, none⟩ = some (.int .i64 (kx : Nat)) ∧ u.cell? ⟨yb, 1, none⟩ = some (.int .i64 (nx : Nat)) ∧ u.cell? ⟨yb, 2, none⟩ = some (.int .i64 (rx : Nat)) ∧ u.cell? ⟨yb, 3, none⟩ = some (.slice A5 mx.length c5))) 22 rfl (by kernel_rfl) (HCX.out w7.drew HB7.out) (fun hHeld => ?_)
    --MH2n
    refine heldH_take (n := 21) (i := 0) (oi := _) (v := ?vn0) (dst := some 53) rfl rfl rfl (by kernel_rfl) (by kernel_rfl) (by kernel_rfl) (fun _ _ _ h => h) (Or.inl ⟨by rfl, ?hyn0⟩) (by assumption) ?restn0
    case hyn0 => intro u hSu; (try dsimp only at hSu); go_simp; try (with_reducible rfl)
    simp only [Act.put, List.setIfInBounds_toArray, List.set_cons_zero, List.set_cons_succ]
    refine heldH_take (n := 20) (i := 1) (oi := _) (v := ?vn1) (dst := some 54) rfl rfl rfl (by kernel_rfl) (by kernel_rfl) (by kernel_rfl) (fun _ _ _ h => h) (Or.inl ⟨by rfl, ?hyn1⟩) (by assumption) ?restn1
    case hyn1 => intro u hSu; (try dsimp only at hSu); go_simp; try (with_reducible rfl)
    simp only [Act.put, List.setIfInBounds_toArray, List.set_cons_zero, List.set_cons_succ]
    refine heldH_take (n := 19) (i := 2) (oi := _) (v := ?vn2) (dst := some 55) rfl rfl rfl (by kernel_rfl) (by kernel_rfl) (by kernel_rfl) (fun _ _ _ h => h) (Or.inl ⟨by rfl, ?hyn2⟩) (by assumption) ?restn2
    case hyn2 => intro u hSu; (try dsimp only at hSu); go_simp; try (with_reducible rfl)
    simp only [Act.put, List.setIfInBounds_toArray, List.set_cons_zero, List.set_cons_succ]
    refine heldH_take (n := 18) (i := 3) (oi := _) (v := ?vn3) (dst := some 56) rfl rfl rfl (by kernel_rfl) (by kernel_rfl) (by kernel_rfl) (fun _ _ _ h => h) (Or.inl ⟨by rfl, ?hyn3⟩) (by assumption) ?restn3
    case hyn3 => intro u hSu; (try dsimp only at hSu); go_simp; try (with_reducible rfl)
    simp only [Act.put, List.setIfInBounds_toArray, List.set_cons_zero, List.set_cons_succ]
    refine heldH_step (n := 17) (i := 4) (o := _) rfl (by kernel_rfl) rfl (fun K hK => ?_)
    have HK2 := Lib.hid hK
    clear hK
    go_simp
    refine (HR7.out).mono ?_
    rintro e w8 ⟨b8, rfl, hb8, hbb8⟩
    obtain rfl : b8 = true := hb8.2 HRX.out
    have HB8 := Lib.hid (HB7.out.trans (hbb8.mono HB7.out.size))
    have HS8 := Lib.hid (HCX.out _ HB8.out)
    have HD8 := Lib.hid (HDB.out w8)
    clear hb8 hbb8 HR7
    go_simp
    refine HK2.out _ _ HS8.out (fun hHeld => ?_)
    clear HK2 K
    refine heldH_take (n := 16) (i := 5) (oi := _) (v := ?vn5) (dst := some 58) rfl rfl rfl (by kernel_rfl) (by kernel_rfl) (by kernel_rfl) (fun _ _ _ h => h) (Or.inl ⟨by rfl, ?hyn5⟩) (by assumption) ?restn5
    case hyn5 => intro u hSu; (try dsimp only at hSu); go_simp; try (with_reducible rfl)
    simp only [Act.put, List.setIfInBounds_toArray, List.set_cons_zero, List.set_cons_succ]
    refine heldH_take (n := 15) (i := 6) (oi := _) (v := ?vn6) (dst := some 59) rfl rfl rfl (by kernel_rfl) (by kernel_rfl) (by kernel_rfl) (fun _ _ _ h => h) (Or.inl ⟨by rfl, ?hyn6⟩) (by assumption) ?restn6
    case hyn6 => intro u hSu; (try dsimp only at hSu); go_simp; try (with_reducible rfl)
    simp only [Act.put, List.setIfInBounds_toArray, List.set_cons_zero, List.set_cons_succ]
    refine heldH_take (n := 14) (i := 7) (oi := _) (v := ?vn7) (dst := some 60) rfl rfl rfl (by kernel_rfl) (by kernel_rfl) (by kernel_rfl) (fun _ _ _ h => h) (Or.inl ⟨by rfl, ?hyn7⟩) (by assumption) ?restn7
    case hyn7 => intro u hSu; (try dsimp only at hSu); go_simp; try (with_reducible rfl)
    simp only [Act.put, List.setIfInBounds_toArray, List.set_cons_zero, List.set_cons_succ]
    refine heldH_take (n := 13) (i := 8) (oi := _) (v := ?vn8) (dst := some 61) rfl rfl rfl (by kernel_rfl) (by kernel_rfl) (by kernel_rfl) (fun _ _ _ h => h) (Or.inl ⟨by rfl, ?hyn8⟩) (by assumption) ?restn8
    case hyn8 => intro u hSu; (try dsimp only at hSu); go_simp; try (with_reducible rfl)
    simp only [Act.put, List.setIfInBounds_toArray, List.set_cons_zero, List.set_cons_succ]
    refine heldH_take (n := 12) (i := 10) (oi := _) (v := ?vn10) (dst := some 63) rfl rfl rfl (by kernel_rfl) (by kernel_rfl) (by kernel_rfl) (fun _ _ _ h => h) (Or.inl ⟨by rfl, ?hyn10⟩) (by assumption) ?restn10
    case hyn10 => intro u hSu; (try dsimp only at hSu); go_simp; try (with_reducible rfl)
    simp only [Act.put, List.setIfInBounds_toArray, List.set_cons_zero, List.set_cons_succ]
    refine heldH_step (n := 11) (i := 9) (o := _) rfl (by kernel_rfl) rfl (fun K hK => ?_)
    have HK2 := Lib.hid hK
    clear hK
    go_simp
    refine (HD8.out).mono ?_
    rintro e w9 ⟨hb9, A9, c9, rfl, hM9⟩
    have HB9 := Lib.hid (HB8.out.trans (hb9.mono HB8.out.size))
    have HS9 := Lib.hid (HCX.out _ HB9.out)
    have HQ9 := Lib.hid (scSame_any (kx : Nat) (nx : Nat) (rx : Nat) mx A9 A5 mx.length c9 c5 w9 hM9 (HMX.out _ HB9.out) (by have := HTL.out; omega))
    unfold scriptV at HQ9
    clear hb9 hM9 HD8
    go_simp
    refine HK2.out _ _ HS9.out (fun hHeld => ?_)
    clear HK2 K
    refine heldH_step (n := 10) (i := 11) (o := _) rfl (by kernel_rfl) rfl (fun K hK => ?_)
    have HK2 := Lib.hid hK
    clear hK
    go_simp
    refine (HQ9.out).mono ?_
    rintro e w10 ⟨rfl, hb10⟩
    have HB10 := Lib.hid (HB9.out.trans (hb10.mono HB9.out.size))
    have HS10 := Lib.hid (HCX.out _ HB10.out)
    clear hb10 HQ9
    go_simp
    refine HK2.out _ _ HS10.out (fun hHeld => ?_)
    clear HK2 K
    refine heldH_take (n := 9) (i := 12) (oi := _) (v := ?vn12) (dst := some 65) rfl rfl rfl (by kernel_rfl) (by kernel_rfl) (by kernel_rfl) (fun _ _ _ h => h) (Or.inl ⟨by rfl, ?hyn12⟩) (by assumption) ?restn12
    case hyn12 => intro u hSu; (try dsimp only at hSu); go_simp; try (with_reducible rfl)
    simp only [Act.put, List.setIfInBounds_toArray, List.set_cons_zero, List.set_cons_succ]
    refine heldH_take (n := 8) (i := 13) (oi := _) (v := ?vn13) (dst := some 66) rfl rfl rfl (by kernel_rfl) (by kernel_rfl) (by kernel_rfl) (fun _ _ _ h => h) (Or.inl ⟨by rfl, ?hyn13⟩) (by assumption) ?restn13
    case hyn13 => intro u hSu; (try dsimp only at hSu); go_simp; try (with_reducible rfl)
    simp only [Act.put, List.setIfInBounds_toArray, List.set_cons_zero, List.set_cons_succ]
    refine heldH_take (n := 7) (i := 14) (oi := _) (v := ?vn14) (dst := some 67) rfl rfl rfl (by kernel_rfl) (by kernel_rfl) (by kernel_rfl) (fun _ _ _ h => h) (Or.inl ⟨by rfl, ?hyn14⟩) (by assumption) ?restn14
    case hyn14 => intro u hSu; (try dsimp only at hSu); go_simp; try (with_reducible rfl)
    simp only [Act.put, List.setIfInBounds_toArray, List.set_cons_zero, List.set_cons_succ]
    refine heldH_take (n := 6) (i := 16) (oi := _) (v := ?vn16) (dst := some 69) rfl rfl rfl (by kernel_rfl) (by kernel_rfl) (by kernel_rfl) (fun _ _ _ h => h) (Or.inl ⟨by rfl, ?hyn16⟩) (by assumption) ?restn16
    case hyn16 => intro u hSu; (try dsimp only at hSu); go_simp; try (with_reducible rfl)
    simp only [Act.put, List.setIfInBounds_toArray, List.set_cons_zero, List.set_cons_succ]
    refine heldH_take (n := 5) (i := 15) (oi := _) (v := ?vn15) (dst := some 68) rfl rfl rfl (by kernel_rfl) (by kernel_rfl) (by kernel_rfl) (fun _ _ _ h => h) (Or.inl ⟨by rfl, ?hyn15⟩) (by assumption) ?restn15
    case hyn15 => intro u hSu; (try dsimp only at hSu); go_simp; try (with_reducible rfl)
    simp only [Act.put, List.setIfInBounds_toArray, List.set_cons_zero, List.set_cons_succ]
    refine heldH_take (n := 4) (i := 17) (oi := _) (v := ?vn17) (dst := some 70) rfl rfl rfl (by kernel_rfl) (by kernel_rfl) (by kernel_rfl) (fun _ _ _ h => h) (Or.inl ⟨by rfl, ?hyn17⟩) (by assumption) ?restn17
    case hyn17 => intro u hSu; (try dsimp only at hSu); go_simp; try (with_reducible rfl)
    simp only [Act.put, List.setIfInBounds_toArray, List.set_cons_zero, List.set_cons_succ]
    --MH3n
    refine heldH_step (n := 3) (i := 18) (o := _) rfl (by kernel_rfl) rfl (fun K hK => ?_)
    have HK2 := Lib.hid hK
    clear hK
    go_simp
    refine HK2.out _ _ HS10.out (fun hHeld => ?_)
    clear HK2 K
    refine heldH_take (n := 2) (i := 19) (oi := _) (v := ?vn19) (dst := some 72) rfl rfl rfl (by kernel_rfl) (by kernel_rfl) (by kernel_rfl) (fun _ _ _ h => h) (Or.inl ⟨by rfl, ?hyn19⟩) (by assumption) ?restn19
    case hyn19 => intro u hSu; (try dsimp only at hSu); go_simp; try (with_reducible rfl)
    simp only [Act.put, List.setIfInBounds_toArray, List.set_cons_zero, List.set_cons_succ]
    refine heldH_take (n := 1) (i := 20) (oi := _) (v := ?vn20) (dst := some 73) rfl rfl rfl (by kernel_rfl) (by kernel_rfl) (by kernel_rfl) (fun _ _ _ h => h) (Or.inl ⟨by rfl, ?hyn20⟩) (by assumption) ?restn20
    case hyn20 => intro u hSu; (try dsimp only at hSu); go_simp; try (with_reducible rfl)
    simp only [Act.put, List.setIfInBounds_toArray, List.set_cons_zero, List.set_cons_succ]
    refine heldH_take (n := 0) (i := 21) (oi := _) (v := ?vn21) (dst := some 4) rfl rfl rfl (by kernel_rfl) (by kernel_rfl) (by kernel_rfl) (fun _ _ _ h => h) (Or.inl ⟨by rfl, ?hyn21⟩) (by assumption) ?restn21
    case hyn21 => intro u hSu; (try dsimp only at hSu); go_simp; try (with_reducible rfl)
    simp only [Act.put, List.setIfInBounds_toArray, List.set_cons_zero, List.set_cons_succ]
    refine wpAnyH_done (by kernel_rfl) ?_ _
    go_wp2
    --MT1n
    have hmx : ((BX.size : Int) == max 3 (TB.size : Int)) = true := by rw [HSB.out, HST.out, beq_iff_eq]; omega
    rw [hmx]
    go_ret
    exact ⟨rfl, HE6.out.trans (HB10.out.mono HE6.out.size)⟩
  · have hr := hb.1 rfl
    clear hb
    obtain ⟨c0, c1, c2, c3⟩ := HCB.out w3 HB3.out
    have HE := Lib.hid (scEncode_any k n r l A len c w3 (HML.out _ HB3.out) (by have := HLL.out; omega))
    unfold ToldBytes scriptV strV at HE
    have HRD := Lib.hid (read_bytes hr)
    have HD8 := Lib.hid (fun w => scDecode_any (bytesOf k n r l) (by rw [bytesOf_len]; have := HLL.out; have := HLEN.out; omega) w)
    unfold ToldScript scriptV strV at HD8
    have hsz : (⟨(bytesOf k n r l).toArray⟩ : ByteArray).size = 3 + len := by rw [← HLEN.out, ← bytesOf_len k n r l]; simp [ByteArray.size]
    have hw3 : IntKind.i64.wrap (3 + (len : Int)) = 3 + (len : Int) := sc_wrapI (by have := HLL.out; omega) (by have := HLL.out; omega)
    have HSZ := Lib.hid hsz
    have HRR := Lib.hid hr
    have HW3 := Lib.hid hw3
    clear hsz hr hw3
    go_wp2_with fail
    refine HE.out.mono ?_
    rintro e w4 ⟨hb4, ⟨rfl, _⟩ | ⟨rfl, hno⟩⟩
    rotate_left
    · exact absurd HRR.out hno
    have HB4 := Lib.hid (show Below w1.heap.size w1 w4.drew from below_drewN (HB3.out.trans (hb4.mono HB3.out.size)) 1)
    clear hb4 HE c0 c1 c2 c3
    have HD8 := Lib.hid (HD8.out w4.drew)
    have hw3 := HW3.out
    have hsz : ((⟨(bytesOf k n r l).toArray⟩ : ByteArray).size != 3 + (len : Int)) = false := by rw [HSZ.out]; simp
    generalize (⟨(bytesOf k n r l).toArray⟩ : ByteArray) = BU at *
    go_wp2
    refine region_heldH (S := (fun u => u.cell? ⟨xb, 0, none⟩ = some (.int .i64 k) ∧ u.cell? ⟨xb, 1, none⟩ = some (.int .i64 n) ∧ u.cell? ⟨xb, 2, none⟩ = some (.int .i64 r) ∧ u.cell? ⟨xb, 3, none⟩ = some (.slice A len c))) 19 rfl (by kernel_rfl) (HCB.out w4.drew HB4.out) (fun hHeld => ?_)
    --MH0
    refine heldH_take (n := 18) (i := 0) (oi := _) (v := ?vp0) (dst := some 27) rfl rfl rfl (by kernel_rfl) (by kernel_rfl) (by kernel_rfl) (fun _ _ _ h => h) (Or.inl ⟨by rfl, ?hyp0⟩) (by assumption) ?restp0
    case hyp0 => intro u hSu; (try dsimp only at hSu); go_simp; try (with_reducible rfl)
    simp only [Act.put, List.setIfInBounds_toArray, List.set_cons_zero, List.set_cons_succ]
    refine heldH_take (n := 17) (i := 1) (oi := _) (v := ?vp1) (dst := some 28) rfl rfl rfl (by kernel_rfl) (by kernel_rfl) (by kernel_rfl) (fun _ _ _ h => h) (Or.inl ⟨by rfl, ?hyp1⟩) (by assumption) ?restp1
    case hyp1 => intro u hSu; (try dsimp only at hSu); go_simp; try (with_reducible rfl)
    simp only [Act.put, List.setIfInBounds_toArray, List.set_cons_zero, List.set_cons_succ]
    refine heldH_take (n := 16) (i := 2) (oi := _) (v := ?vp2) (dst := some 29) rfl rfl rfl (by kernel_rfl) (by kernel_rfl) (by kernel_rfl) (fun _ _ _ h => h) (Or.inl ⟨by rfl, ?hyp2⟩) (by assumption) ?restp2
    case hyp2 => intro u hSu; (try dsimp only at hSu); go_simp; try (with_reducible rfl)
    simp only [Act.put, List.setIfInBounds_toArray, List.set_cons_zero, List.set_cons_succ]
    refine heldH_take (n := 15) (i := 3) (oi := _) (v := ?vp3) (dst := some 30) rfl rfl rfl (by kernel_rfl) (by kernel_rfl) (by kernel_rfl) (fun _ _ _ h => h) (Or.inl ⟨by rfl, ?hyp3⟩) (by assumption) ?restp3
    case hyp3 => intro u hSu; (try dsimp only at hSu); go_simp; try (with_reducible rfl)
    simp only [Act.put, List.setIfInBounds_toArray, List.set_cons_zero, List.set_cons_succ]
    refine heldH_take (n := 14) (i := 4) (oi := _) (v := ?vp4) (dst := some 31) rfl rfl rfl (by kernel_rfl) (by kernel_rfl) (by kernel_rfl) (fun _ _ _ h => h) (Or.inl ⟨by rfl, ?hyp4⟩) (by assumption) ?restp4
    case hyp4 => intro u hSu; (try dsimp only at hSu); go_simp; try (with_reducible rfl)
    simp only [Act.put, List.setIfInBounds_toArray, List.set_cons_zero, List.set_cons_succ]
    refine heldH_take (n := 13) (i := 5) (oi := _) (v := ?vp5) (dst := some 32) rfl rfl rfl (by kernel_rfl) (by kernel_rfl) (by kernel_rfl) (fun _ _ _ h => h) (Or.inl ⟨by rfl, ?hyp5⟩) (by assumption) ?restp5
    case hyp5 => intro u hSu; (try dsimp only at hSu); go_simp; try (with_reducible rfl)
    simp only [Act.put, List.setIfInBounds_toArray, List.set_cons_zero, List.set_cons_succ]
    refine heldH_take (n := 12) (i := 6) (oi := _) (v := ?vp6) (dst := some 33) rfl rfl rfl (by kernel_rfl) (by kernel_rfl) (by kernel_rfl) (fun _ _ _ h => h) (Or.inl ⟨by rfl, ?hyp6⟩) (by assumption) ?restp6
    case hyp6 => intro u hSu; (try dsimp only at hSu); go_simp; try (with_reducible rfl)
    simp only [Act.put, List.setIfInBounds_toArray, List.set_cons_zero, List.set_cons_succ]
    refine heldH_take (n := 11) (i := 7) (oi := _) (v := ?vp7) (dst := some 34) rfl rfl rfl (by kernel_rfl) (by kernel_rfl) (by kernel_rfl) (fun _ _ _ h => h) (Or.inl ⟨by rfl, ?hyp7⟩) (by assumption) ?restp7
    case hyp7 => intro u hSu; (try dsimp only at hSu); go_simp; try (with_reducible rfl)
    simp only [Act.put, List.setIfInBounds_toArray, List.set_cons_zero, List.set_cons_succ]
    refine heldH_take (n := 10) (i := 8) (oi := _) (v := ?vp8) (dst := some 35) rfl rfl rfl (by kernel_rfl) (by kernel_rfl) (by kernel_rfl) (fun _ _ _ h => h) (Or.inl ⟨by rfl, ?hyp8⟩) (by assumption) ?restp8
    case hyp8 => intro u hSu; (try dsimp only at hSu); go_simp; try (with_reducible rfl)
    simp only [Act.put, List.setIfInBounds_toArray, List.set_cons_zero, List.set_cons_succ]
    refine heldH_take (n := 9) (i := 9) (oi := _) (v := ?vp9) (dst := some 36) rfl rfl rfl (by kernel_rfl) (by kernel_rfl) (by kernel_rfl) (fun _ _ _ h => h) (Or.inl ⟨by rfl, ?hyp9⟩) (by assumption) ?restp9
    case hyp9 => intro u hSu; (try dsimp only at hSu); go_simp; try (with_reducible rfl)
    simp only [Act.put, List.setIfInBounds_toArray, List.set_cons_zero, List.set_cons_succ]
    refine heldH_take (n := 8) (i := 10) (oi := _) (v := ?vp10) (dst := some 37) rfl rfl rfl (by kernel_rfl) (by kernel_rfl) (by kernel_rfl) (fun _ _ _ h => h) (Or.inl ⟨by rfl, ?hyp10⟩) (by assumption) ?restp10
    case hyp10 => intro u hSu; (try dsimp only at hSu); go_simp; try (with_reducible rfl)
    simp only [Act.put, List.setIfInBounds_toArray, List.set_cons_zero, List.set_cons_succ]
    refine heldH_take (n := 7) (i := 11) (oi := _) (v := ?vp11) (dst := some 38) rfl rfl rfl (by kernel_rfl) (by kernel_rfl) (by kernel_rfl) (fun _ _ _ h => h) (Or.inl ⟨by rfl, ?hyp11⟩) (by assumption) ?restp11
    case hyp11 => intro u hSu; (try dsimp only at hSu); go_simp; try (with_reducible rfl)
    simp only [Act.put, List.setIfInBounds_toArray, List.set_cons_zero, List.set_cons_succ]
    refine heldH_take (n := 6) (i := 12) (oi := _) (v := ?vp12) (dst := some 39) rfl rfl rfl (by kernel_rfl) (by kernel_rfl) (by kernel_rfl) (fun _ _ _ h => h) (Or.inl ⟨by rfl, ?hyp12⟩) (by assumption) ?restp12
    case hyp12 => intro u hSu; (try dsimp only at hSu); go_simp; try (with_reducible rfl)
    simp only [Act.put, List.setIfInBounds_toArray, List.set_cons_zero, List.set_cons_succ]
    refine heldH_take (n := 5) (i := 13) (oi := _) (v := ?vp13) (dst := some 40) rfl rfl rfl (by kernel_rfl) (by kernel_rfl) (by kernel_rfl) (fun _ _ _ h => h) (Or.inl ⟨by rfl, ?hyp13⟩) (by assumption) ?restp13
    case hyp13 => intro u hSu; (try dsimp only at hSu); go_simp; try (with_reducible rfl)
    simp only [Act.put, List.setIfInBounds_toArray, List.set_cons_zero, List.set_cons_succ]
    refine heldH_take (n := 4) (i := 15) (oi := _) (v := ?vp15) (dst := some 42) rfl rfl rfl (by kernel_rfl) (by kernel_rfl) (by kernel_rfl) (fun _ _ _ h => h) (Or.inl ⟨by rfl, ?hyp15⟩) (by assumption) ?restp15
    case hyp15 => intro u hSu; (try dsimp only at hSu); go_simp; try (with_reducible rfl)
    simp only [Act.put, List.setIfInBounds_toArray, List.set_cons_zero, List.set_cons_succ]
    refine heldH_step (n := 3) (i := 14) (o := _) rfl (by kernel_rfl) rfl (fun K hK => ?_)
    have HK2 := Lib.hid hK
    clear hK
    go_simp
    refine (HD8.out).mono ?_
    rintro e w5 ⟨hb5, A5, c5, rfl, hM5⟩
    have HB5 := Lib.hid (HB4.out.trans (hb5.mono HB4.out.size))
    have HS5 := Lib.hid (HCB.out _ HB5.out)
    rw [HRD.out.2.2.2, HLEN.out] at hM5
    rw [HRD.out.1, HRD.out.2.1, HRD.out.2.2.1, HRD.out.2.2.2, HLEN.out]
    have HQ5 := Lib.hid (scSame_any k n r l A5 A len c5 c w5 hM5 (HML.out _ HB5.out) (by have := HLL.out; omega))
    unfold scriptV at HQ5
    clear hb5 hM5 HD8
    go_simp
    refine HK2.out _ _ HS5.out (fun hHeld => ?_)
    clear HK2 K
    --MH1
    refine heldH_step (n := 2) (i := 16) (o := _) rfl (by kernel_rfl) rfl (fun K hK => ?_)
    have HK2 := Lib.hid hK
    clear hK
    go_simp
    refine (HQ5.out).mono ?_
    rintro e w6 ⟨rfl, hb6⟩
    have HB6 := Lib.hid (HB5.out.trans (hb6.mono HB5.out.size))
    have HS6 := Lib.hid (HCB.out _ HB6.out)
    clear hb6 HQ5
    go_simp
    refine HK2.out _ _ HS6.out (fun hHeld => ?_)
    clear HK2 K
    refine heldH_take (n := 1) (i := 17) (oi := _) (v := ?vp17) (dst := some 44) rfl rfl rfl (by kernel_rfl) (by kernel_rfl) (by kernel_rfl) (fun _ _ _ h => h) (Or.inl ⟨by rfl, ?hyp17⟩) (by assumption) ?restp17
    case hyp17 => intro u hSu; (try dsimp only at hSu); go_simp; try (with_reducible rfl)
    simp only [Act.put, List.setIfInBounds_toArray, List.set_cons_zero, List.set_cons_succ]
    refine heldH_take (n := 0) (i := 18) (oi := _) (v := ?vp18) (dst := some 45) rfl rfl rfl (by kernel_rfl) (by kernel_rfl) (by kernel_rfl) (fun _ _ _ h => h) (Or.inl ⟨by rfl, ?hyp18⟩) (by assumption) ?restp18
    case hyp18 => intro u hSu; (try dsimp only at hSu); go_simp; try (with_reducible rfl)
    simp only [Act.put, List.setIfInBounds_toArray, List.set_cons_zero, List.set_cons_succ]
    refine wpAnyH_done (by kernel_rfl) ?_ _
    clear HD8
    --MT2
    have HDT := Lib.hid (scDecode_any t (by have := HTL0.out; omega) w6)
    unfold ToldScript scriptV strV at HDT
    have hrx := script_right t
    have hlx := mvsOf_len t
    have hrb := read_bytes hrx
    have hbl := bytesOf_len (kOf t) (nOf t) (rOf t) (mvsOf t)
    have HDB := Lib.hid (fun w => scDecode_any (bytesOf (kOf t) (nOf t) (rOf t) (mvsOf t)) (by have := HTL0.out; omega) w)
    unfold ToldScript scriptV strV at HDB
    rw [hrb.1, hrb.2.1, hrb.2.2.1, hrb.2.2.2] at HDB
    have HTL := Lib.hid (show (mvsOf t).length ≤ 900000 ∧ (bytesOf (kOf t) (nOf t) (rOf t) (mvsOf t)).length = max 3 t.length by have := HTL0.out; omega)
    have HRX := Lib.hid hrx
    clear hrx hlx hrb hbl
    generalize kOf t = kx at *
    generalize nOf t = nx at *
    generalize rOf t = rx at *
    generalize mvsOf t = mx at *
    have HEB := Lib.hid (fun (w : World) A c (h : Moves w w.heap.size A mx.length mx) => scEncode_any (kx : Nat) (nx : Nat) (rx : Nat) mx A mx.length c w h (by have := HTL.out; omega))
    unfold ToldBytes scriptV strV at HEB
    have hsb : (⟨(bytesOf (kx : Nat) (nx : Nat) (rx : Nat) mx).toArray⟩ : ByteArray).size = (bytesOf (kx : Nat) (nx : Nat) (rx : Nat) mx).length := by simp [ByteArray.size]
    have hst : (⟨t.toArray⟩ : ByteArray).size = t.length := by simp [ByteArray.size]
    rw [HTL.out.2] at hsb
    have HSB := Lib.hid hsb
    have HST := Lib.hid hst
    clear hsb hst
    generalize (⟨(bytesOf (kx : Nat) (nx : Nat) (rx : Nat) mx).toArray⟩ : ByteArray) = BX at *
    generalize (⟨t.toArray⟩ : ByteArray) = TB at *
    --MT0y
    go_wp2_with fail
    refine HDT.out.mono ?_
    rintro e w5 ⟨hb5, A5, c5, rfl, hM5⟩
    have HE5 := Lib.hid (HEND.out _ (HB6.out.trans (hb5.mono HB6.out.size)))
    clear hb5 HDT
    have hba := (Below.refl w5.heap.size w5).alloc (Nat.le_refl _) (.cells #[.int .i64 (kx : Nat), .int .i64 (nx : Nat), .int .i64 (rx : Nat), .slice A5 mx.length c5] 24)
    have hxa := heap_alloc_new w5 (.cells #[.int .i64 (kx : Nat), .int .i64 (nx : Nat), .int .i64 (rx : Nat), .slice A5 mx.length c5] 24)
    obtain ⟨yb, hyb⟩ : ∃ yb, w5.heap.size = yb := ⟨_, rfl⟩
    obtain ⟨w6, hw6⟩ : ∃ w6, w5.alloc (.cells #[.int .i64 (kx : Nat), .int .i64 (nx : Nat), .int .i64 (rx : Nat), .slice A5 mx.length c5] 24) = w6 := ⟨_, rfl⟩
    rw [hw6] at hba hxa
    have HE6 := Lib.hid (show Below w.heap.size w w6 from HE5.out.trans (hba.mono HE5.out.size))
    rw [hyb] at hxa
    have HM6 := hM5.old hba
    have HCX := Lib.hid (fun (w' : World) (hb : Below w6.heap.size w6 w') => sc_cells ((hb.block yb (lt_of_block hxa)).trans hxa))
    have HMX := Lib.hid (fun (w' : World) (hb : Below w6.heap.size w6 w') => HM6.old hb)
    have HE7 := Lib.hid (HEB.out w6 A5 c5 HM6)
    obtain ⟨y0, y1, y2, y3⟩ := HCX.out w6 (Below.refl _ _)
    clear hM5 hba hxa HEB HE5 HM6
    go_wp2_with fail
    refine HE7.out.mono ?_
    rintro e w7 ⟨hb7, ⟨rfl, _⟩ | ⟨rfl, hno⟩⟩
    rotate_left
    · exact absurd HRX.out hno
    clear y0 y1 y2 y3 hw6 hyb HE7
    have HB7 := Lib.hid (show Below w6.heap.size w6 w7.drew from below_drewN hb7 1)
    have HR7 := Lib.hid (fun w (hb : Below w6.heap.size w6 w) => scRight_any (kx : Nat) (nx : Nat) (rx : Nat) mx A5 mx.length c5 w (HMX.out _ hb) (by have := HTL.out; omega))
    have HR7 := Lib.hid (HR7.out w7.drew HB7.out)
    unfold ToldRightSc scriptV at HR7
    clear hb7
    go_wp2
    refine region_heldH (S := (fun u => u.cell? ⟨yb, 0, none⟩ = some (.int .i64 (kx : Nat)) ∧ u.cell? ⟨yb, 1, none⟩ = some (.int .i64 (nx : Nat)) ∧ u.cell? ⟨yb, 2, none⟩ = some (.int .i64 (rx : Nat)) ∧ u.cell? ⟨yb, 3, none⟩ = some (.slice A5 mx.length c5))) 22 rfl (by kernel_rfl) (HCX.out w7.drew HB7.out) (fun hHeld => ?_)
    --MH2y
    refine heldH_take (n := 21) (i := 0) (oi := _) (v := ?vy0) (dst := some 53) rfl rfl rfl (by kernel_rfl) (by kernel_rfl) (by kernel_rfl) (fun _ _ _ h => h) (Or.inl ⟨by rfl, ?hyy0⟩) (by assumption) ?resty0
    case hyy0 => intro u hSu; (try dsimp only at hSu); go_simp; try (with_reducible rfl)
    simp only [Act.put, List.setIfInBounds_toArray, List.set_cons_zero, List.set_cons_succ]
    refine heldH_take (n := 20) (i := 1) (oi := _) (v := ?vy1) (dst := some 54) rfl rfl rfl (by kernel_rfl) (by kernel_rfl) (by kernel_rfl) (fun _ _ _ h => h) (Or.inl ⟨by rfl, ?hyy1⟩) (by assumption) ?resty1
    case hyy1 => intro u hSu; (try dsimp only at hSu); go_simp; try (with_reducible rfl)
    simp only [Act.put, List.setIfInBounds_toArray, List.set_cons_zero, List.set_cons_succ]
    refine heldH_take (n := 19) (i := 2) (oi := _) (v := ?vy2) (dst := some 55) rfl rfl rfl (by kernel_rfl) (by kernel_rfl) (by kernel_rfl) (fun _ _ _ h => h) (Or.inl ⟨by rfl, ?hyy2⟩) (by assumption) ?resty2
    case hyy2 => intro u hSu; (try dsimp only at hSu); go_simp; try (with_reducible rfl)
    simp only [Act.put, List.setIfInBounds_toArray, List.set_cons_zero, List.set_cons_succ]
    refine heldH_take (n := 18) (i := 3) (oi := _) (v := ?vy3) (dst := some 56) rfl rfl rfl (by kernel_rfl) (by kernel_rfl) (by kernel_rfl) (fun _ _ _ h => h) (Or.inl ⟨by rfl, ?hyy3⟩) (by assumption) ?resty3
    case hyy3 => intro u hSu; (try dsimp only at hSu); go_simp; try (with_reducible rfl)
    simp only [Act.put, List.setIfInBounds_toArray, List.set_cons_zero, List.set_cons_succ]
    refine heldH_step (n := 17) (i := 4) (o := _) rfl (by kernel_rfl) rfl (fun K hK => ?_)
    have HK2 := Lib.hid hK
    clear hK
    go_simp
    refine (HR7.out).mono ?_
    rintro e w8 ⟨b8, rfl, hb8, hbb8⟩
    obtain rfl : b8 = true := hb8.2 HRX.out
    have HB8 := Lib.hid (HB7.out.trans (hbb8.mono HB7.out.size))
    have HS8 := Lib.hid (HCX.out _ HB8.out)
    have HD8 := Lib.hid (HDB.out w8)
    clear hb8 hbb8 HR7
    go_simp
    refine HK2.out _ _ HS8.out (fun hHeld => ?_)
    clear HK2 K
    refine heldH_take (n := 16) (i := 5) (oi := _) (v := ?vy5) (dst := some 58) rfl rfl rfl (by kernel_rfl) (by kernel_rfl) (by kernel_rfl) (fun _ _ _ h => h) (Or.inl ⟨by rfl, ?hyy5⟩) (by assumption) ?resty5
    case hyy5 => intro u hSu; (try dsimp only at hSu); go_simp; try (with_reducible rfl)
    simp only [Act.put, List.setIfInBounds_toArray, List.set_cons_zero, List.set_cons_succ]
    refine heldH_take (n := 15) (i := 6) (oi := _) (v := ?vy6) (dst := some 59) rfl rfl rfl (by kernel_rfl) (by kernel_rfl) (by kernel_rfl) (fun _ _ _ h => h) (Or.inl ⟨by rfl, ?hyy6⟩) (by assumption) ?resty6
    case hyy6 => intro u hSu; (try dsimp only at hSu); go_simp; try (with_reducible rfl)
    simp only [Act.put, List.setIfInBounds_toArray, List.set_cons_zero, List.set_cons_succ]
    refine heldH_take (n := 14) (i := 7) (oi := _) (v := ?vy7) (dst := some 60) rfl rfl rfl (by kernel_rfl) (by kernel_rfl) (by kernel_rfl) (fun _ _ _ h => h) (Or.inl ⟨by rfl, ?hyy7⟩) (by assumption) ?resty7
    case hyy7 => intro u hSu; (try dsimp only at hSu); go_simp; try (with_reducible rfl)
    simp only [Act.put, List.setIfInBounds_toArray, List.set_cons_zero, List.set_cons_succ]
    refine heldH_take (n := 13) (i := 8) (oi := _) (v := ?vy8) (dst := some 61) rfl rfl rfl (by kernel_rfl) (by kernel_rfl) (by kernel_rfl) (fun _ _ _ h => h) (Or.inl ⟨by rfl, ?hyy8⟩) (by assumption) ?resty8
    case hyy8 => intro u hSu; (try dsimp only at hSu); go_simp; try (with_reducible rfl)
    simp only [Act.put, List.setIfInBounds_toArray, List.set_cons_zero, List.set_cons_succ]
    refine heldH_take (n := 12) (i := 10) (oi := _) (v := ?vy10) (dst := some 63) rfl rfl rfl (by kernel_rfl) (by kernel_rfl) (by kernel_rfl) (fun _ _ _ h => h) (Or.inl ⟨by rfl, ?hyy10⟩) (by assumption) ?resty10
    case hyy10 => intro u hSu; (try dsimp only at hSu); go_simp; try (with_reducible rfl)
    simp only [Act.put, List.setIfInBounds_toArray, List.set_cons_zero, List.set_cons_succ]
    refine heldH_step (n := 11) (i := 9) (o := _) rfl (by kernel_rfl) rfl (fun K hK => ?_)
    have HK2 := Lib.hid hK
    clear hK
    go_simp
    refine (HD8.out).mono ?_
    rintro e w9 ⟨hb9, A9, c9, rfl, hM9⟩
    have HB9 := Lib.hid (HB8.out.trans (hb9.mono HB8.out.size))
    have HS9 := Lib.hid (HCX.out _ HB9.out)
    have HQ9 := Lib.hid (scSame_any (kx : Nat) (nx : Nat) (rx : Nat) mx A9 A5 mx.length c9 c5 w9 hM9 (HMX.out _ HB9.out) (by have := HTL.out; omega))
    unfold scriptV at HQ9
    clear hb9 hM9 HD8
    go_simp
    refine HK2.out _ _ HS9.out (fun hHeld => ?_)
    clear HK2 K
    refine heldH_step (n := 10) (i := 11) (o := _) rfl (by kernel_rfl) rfl (fun K hK => ?_)
    have HK2 := Lib.hid hK
    clear hK
    go_simp
    refine (HQ9.out).mono ?_
    rintro e w10 ⟨rfl, hb10⟩
    have HB10 := Lib.hid (HB9.out.trans (hb10.mono HB9.out.size))
    have HS10 := Lib.hid (HCX.out _ HB10.out)
    clear hb10 HQ9
    go_simp
    refine HK2.out _ _ HS10.out (fun hHeld => ?_)
    clear HK2 K
    refine heldH_take (n := 9) (i := 12) (oi := _) (v := ?vy12) (dst := some 65) rfl rfl rfl (by kernel_rfl) (by kernel_rfl) (by kernel_rfl) (fun _ _ _ h => h) (Or.inl ⟨by rfl, ?hyy12⟩) (by assumption) ?resty12
    case hyy12 => intro u hSu; (try dsimp only at hSu); go_simp; try (with_reducible rfl)
    simp only [Act.put, List.setIfInBounds_toArray, List.set_cons_zero, List.set_cons_succ]
    refine heldH_take (n := 8) (i := 13) (oi := _) (v := ?vy13) (dst := some 66) rfl rfl rfl (by kernel_rfl) (by kernel_rfl) (by kernel_rfl) (fun _ _ _ h => h) (Or.inl ⟨by rfl, ?hyy13⟩) (by assumption) ?resty13
    case hyy13 => intro u hSu; (try dsimp only at hSu); go_simp; try (with_reducible rfl)
    simp only [Act.put, List.setIfInBounds_toArray, List.set_cons_zero, List.set_cons_succ]
    refine heldH_take (n := 7) (i := 14) (oi := _) (v := ?vy14) (dst := some 67) rfl rfl rfl (by kernel_rfl) (by kernel_rfl) (by kernel_rfl) (fun _ _ _ h => h) (Or.inl ⟨by rfl, ?hyy14⟩) (by assumption) ?resty14
    case hyy14 => intro u hSu; (try dsimp only at hSu); go_simp; try (with_reducible rfl)
    simp only [Act.put, List.setIfInBounds_toArray, List.set_cons_zero, List.set_cons_succ]
    refine heldH_take (n := 6) (i := 16) (oi := _) (v := ?vy16) (dst := some 69) rfl rfl rfl (by kernel_rfl) (by kernel_rfl) (by kernel_rfl) (fun _ _ _ h => h) (Or.inl ⟨by rfl, ?hyy16⟩) (by assumption) ?resty16
    case hyy16 => intro u hSu; (try dsimp only at hSu); go_simp; try (with_reducible rfl)
    simp only [Act.put, List.setIfInBounds_toArray, List.set_cons_zero, List.set_cons_succ]
    refine heldH_take (n := 5) (i := 15) (oi := _) (v := ?vy15) (dst := some 68) rfl rfl rfl (by kernel_rfl) (by kernel_rfl) (by kernel_rfl) (fun _ _ _ h => h) (Or.inl ⟨by rfl, ?hyy15⟩) (by assumption) ?resty15
    case hyy15 => intro u hSu; (try dsimp only at hSu); go_simp; try (with_reducible rfl)
    simp only [Act.put, List.setIfInBounds_toArray, List.set_cons_zero, List.set_cons_succ]
    refine heldH_take (n := 4) (i := 17) (oi := _) (v := ?vy17) (dst := some 70) rfl rfl rfl (by kernel_rfl) (by kernel_rfl) (by kernel_rfl) (fun _ _ _ h => h) (Or.inl ⟨by rfl, ?hyy17⟩) (by assumption) ?resty17
    case hyy17 => intro u hSu; (try dsimp only at hSu); go_simp; try (with_reducible rfl)
    simp only [Act.put, List.setIfInBounds_toArray, List.set_cons_zero, List.set_cons_succ]
    --MH3y
    refine heldH_step (n := 3) (i := 18) (o := _) rfl (by kernel_rfl) rfl (fun K hK => ?_)
    have HK2 := Lib.hid hK
    clear hK
    go_simp
    refine HK2.out _ _ HS10.out (fun hHeld => ?_)
    clear HK2 K
    refine heldH_take (n := 2) (i := 19) (oi := _) (v := ?vy19) (dst := some 72) rfl rfl rfl (by kernel_rfl) (by kernel_rfl) (by kernel_rfl) (fun _ _ _ h => h) (Or.inl ⟨by rfl, ?hyy19⟩) (by assumption) ?resty19
    case hyy19 => intro u hSu; (try dsimp only at hSu); go_simp; try (with_reducible rfl)
    simp only [Act.put, List.setIfInBounds_toArray, List.set_cons_zero, List.set_cons_succ]
    refine heldH_take (n := 1) (i := 20) (oi := _) (v := ?vy20) (dst := some 73) rfl rfl rfl (by kernel_rfl) (by kernel_rfl) (by kernel_rfl) (fun _ _ _ h => h) (Or.inl ⟨by rfl, ?hyy20⟩) (by assumption) ?resty20
    case hyy20 => intro u hSu; (try dsimp only at hSu); go_simp; try (with_reducible rfl)
    simp only [Act.put, List.setIfInBounds_toArray, List.set_cons_zero, List.set_cons_succ]
    refine heldH_take (n := 0) (i := 21) (oi := _) (v := ?vy21) (dst := some 4) rfl rfl rfl (by kernel_rfl) (by kernel_rfl) (by kernel_rfl) (fun _ _ _ h => h) (Or.inl ⟨by rfl, ?hyy21⟩) (by assumption) ?resty21
    case hyy21 => intro u hSu; (try dsimp only at hSu); go_simp; try (with_reducible rfl)
    simp only [Act.put, List.setIfInBounds_toArray, List.set_cons_zero, List.set_cons_succ]
    refine wpAnyH_done (by kernel_rfl) ?_ _
    go_wp2
    --MT1y
    have hmx : ((BX.size : Int) == max 3 (TB.size : Int)) = true := by rw [HSB.out, HST.out, beq_iff_eq]; omega
    rw [hmx]
    go_ret
    exact ⟨rfl, HE6.out.trans (HB10.out.mono HE6.out.size)⟩
theorem scriptBack_any {w : World} (k n r : Int) (l : List (Int × Bool)) (A : Option Addr) (len c : Nat) (hM : Moves w w.heap.size A len l) (t : ByteArray) (hlen : len ≤ 17592186044416) (ht : t.size ≤ 140737488355328) :
    Calls Tryd.prog 4 #[scriptV k n r A len c, .string t] w fun e w' => e = .returned (.bool true) ∧ Below w.heap.size w w' := by
  have h := scriptBack_list k n r l A len c hM t.data.toList (by rw [← Lib.size_eq]; omega)
  unfold strV at h
  rw [show (⟨t.data.toList.toArray⟩ : ByteArray) = t from Lib.mk_data t] at h
  exact h
end Go.Proofs.YtlikbmbcjipolaaDoor
