/-
  script: decodeMove.
-/
import Derived.Test.YtlikbmbcjipolaaDoorScA
import Derived.Laws.ResultCell
namespace Go.Proofs.YtlikbmbcjipolaaDoor
set_option maxRecDepth 100000
open Go.RowKit Go.Sort
set_option linter.unusedVariables false
set_option linter.unusedSimpArgs false

set_option maxHeartbeats 1000000 in
theorem decMv_any (b : UInt8) (n : Nat) (n1 : 1 ≤ n) (n8 : n ≤ 8) (w : World) : Calls Tryd.prog 27 #[.int .u8 (b.toNat : Int), .int .i64 (n : Nat)] w fun e w' => e = .returned (moveV (mvOf n b)) ∧ Below w.heap.size w w' := by
  have hlt := UInt8.toNat_lt b
  have hx0 := heap_alloc_new w (.cells #[.int .i64 0, .bool false] 40)
  have hb0 := (Below.refl w.heap.size w).alloc (Nat.le_refl _) (.cells #[.int .i64 0, .bool false] 40)
  obtain ⟨xb, hxb⟩ : ∃ xb, w.heap.size = xb := ⟨_, rfl⟩
  obtain ⟨w1, hw1⟩ : ∃ w1, w.alloc (.cells #[.int .i64 0, .bool false] 40) = w1 := ⟨_, rfl⟩
  rw [hw1, hxb] at hx0
  rw [hw1, hxb] at hb0
  have c0 : w1.cell? ⟨xb, 0, none⟩ = some (.int .i64 0) := by rw [cell_of_row w1 xb 0 _ _ _ hx0]; rfl
  have c1 : w1.cell? ⟨xb, 1, none⟩ = some (.bool false) := by rw [cell_of_row w1 xb 1 _ _ _ hx0]; rfl
  have f0 := frozen_of_row w1 xb 0 _ _ hx0
  have f1 := frozen_of_row w1 xb 1 _ _ hx0
  have HX := Lib.hid hx0
  have HB := Lib.hid hb0
  have fin : ∀ (v : Int × Bool) (tmps : Array Value), tmps.getD 4 undef = .pointer (some ⟨xb, 0, none⟩) → (results Tryd.f27 tmps).run Tryd.prog ((w1.setCell ⟨xb, 0, none⟩ (.int .i64 v.1)).setCell ⟨xb, 1, none⟩ (.bool v.2)) = .ok (moveV v) ((w1.setCell ⟨xb, 0, none⟩ (.int .i64 v.1)).setCell ⟨xb, 1, none⟩ (.bool v.2)) := by
    intro v tmps h4
    have r1 := heap_setCell_same _ _ 0 _ _ (.int .i64 v.1) HX.out
    have r2 := heap_setCell_same _ _ 1 _ _ (.bool v.2) r1
    have k0 := cell_of_row _ xb 0 _ _ _ r2
    have k1 := cell_of_row _ xb 1 _ _ _ r2
    simp only [Array.getD_eq_getD_getElem?] at h4
    simp [results, Tryd.results27, go_sem, h4, moveV, World.cell?_setCell_same, k0, k1]
  have hbel : ∀ (v : Int × Bool), Below xb w ((w1.setCell ⟨xb, 0, none⟩ (.int .i64 v.1)).setCell ⟨xb, 1, none⟩ (.bool v.2)) := fun v => (hb0.setCell (p := ⟨xb, 0, none⟩) (Nat.le_refl _) _).setCell (p := ⟨xb, 1, none⟩) (Nat.le_refl _) _
  have FIN := Lib.hid fin
  have HBE := Lib.hid hbel
  have hn0 : ((n : Nat) : Int) ≠ 0 := by omega
  clear hx0 hb0 fin hbel
  by_cases h : 224 ≤ b.toNat
  · have hi : (224 : Int) ≤ (b.toNat : Int) := by omega
    have e1 : IntKind.u8.wrap ((b.toNat : Int) - 224) = ((b.toNat - 224 : Nat) : Int) := by rw [u8_wrap (by omega) (by omega)]; omega
    have e3 : (((b.toNat - 224 : Nat) : Int)).tmod ((n : Nat) : Int) = (((b.toNat - 224) % n : Nat) : Int) := rfl
    have hm : mvOf n b = ((((b.toNat - 224) % n : Nat) : Int), true) := by unfold mvOf; rw [if_pos h]
    rw [hm]
    generalize (b.toNat - 224) % n = z at *
    have e2 : wrap64 ((b.toNat - 224 : Nat) : Int) = ((b.toNat - 224 : Nat) : Int) := by unfold wrap64; omega
    generalize ((b.toNat - 224 : Nat) : Int) = y at *
    clear hm h hlt
    go_enter Tryd.func27, Tryd.ntmps27
    go_wp2
    --MA
    exact bodyPost_ret (FIN.out ((z : Nat), true) _ rfl) rfl ⟨rfl, by first | exact HBE.out ((z : Nat), true) | (rw [hxb]; exact HBE.out ((z : Nat), true))⟩
  · have hi : ¬ (224 : Int) ≤ (b.toNat : Int) := by omega
    have e2 : wrap64 (b.toNat : Int) = (b.toNat : Int) := by unfold wrap64; omega
    have e3 : ((b.toNat : Int)).tmod ((n : Nat) : Int) = ((b.toNat % n : Nat) : Int) := rfl
    have hm : mvOf n b = (((b.toNat % n : Nat) : Int), false) := by unfold mvOf; rw [if_neg h]
    rw [hm]
    generalize b.toNat % n = z at *
    generalize (b.toNat : Int) = y at *
    clear hm h hlt
    go_enter Tryd.func27, Tryd.ntmps27
    go_wp2
    --MB
    exact bodyPost_ret (FIN.out ((z : Nat), false) _ rfl) rfl ⟨rfl, by first | exact HBE.out ((z : Nat), false) | (rw [hxb]; exact HBE.out ((z : Nat), false))⟩
end Go.Proofs.YtlikbmbcjipolaaDoor
