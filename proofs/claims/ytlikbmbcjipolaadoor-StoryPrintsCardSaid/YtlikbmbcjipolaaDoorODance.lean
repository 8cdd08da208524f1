/-
  dance: barriers of all kinds.
-/
import Derived.Test.YtlikbmbcjipolaaDoorCSmall
import Derived.Test.YtlikbmbcjipolaaDoorCStr
import Derived.Test.YtlikbmbcjipolaaDoorORowI
import Derived.Deep.WholeRow
import Derived.Laws.Rows
import Derived.Laws.ResultCell
namespace Go.Proofs.YtlikbmbcjipolaaDoor
set_option maxRecDepth 100000
open Go.RowKit Go.Shelf Go.Sort
set_option linter.unusedVariables false
set_option linter.unusedSimpArgs false

/-- What a kind is called (bytes). -/
def nameK : Nat → Value
  | 0 => .string { data := #[] }
  | 1 => .string { data := #[99, 101, 110, 116, 114, 97, 108] }
  | 2 => .string { data := #[99, 111, 109, 98, 105, 110, 101] }
  | 3 => .string { data := #[115, 116, 97, 116, 105, 99] }
  | 4 => .string { data := #[115, 112, 114, 101, 97, 100] }
  | 5 => .string { data := #[116, 111, 117, 114, 110, 101, 121] }
  | _ => .string { data := #[109, 99, 115] }
abbrev fn0 (f : Nat) : Value := .func (.func f) #[] #[]
abbrev makersZ : Array Value := #[.string { data := #[] }, .nilFunc, .nilFunc, .string { data := #[] }, .nilFunc, .nilFunc, .string { data := #[] }, .nilFunc, .nilFunc, .string { data := #[] }, .nilFunc, .nilFunc, .string { data := #[] }, .nilFunc, .nilFunc, .string { data := #[] }, .nilFunc, .nilFunc, .string { data := #[] }, .nilFunc, .nilFunc]
abbrev makersV : Array Value := #[.string { data := #[] }, .nilFunc, .nilFunc, .string { data := #[99, 101, 110, 116, 114, 97, 108] }, .func (.func 44) #[] #[], .func (.func 45) #[] #[], .string { data := #[99, 111, 109, 98, 105, 110, 101] }, .func (.func 46) #[] #[], .func (.func 47) #[] #[], .string { data := #[115, 116, 97, 116, 105, 99] }, .func (.func 48) #[] #[], .func (.func 49) #[] #[],
  .string { data := #[115, 112, 114, 101, 97, 100] }, .func (.func 50) #[] #[], .func (.func 51) #[] #[], .string { data := #[116, 111, 117, 114, 110, 101, 121] }, .func (.func 52) #[] #[], .func (.func 53) #[] #[], .string { data := #[109, 99, 115] }, .func (.func 54) #[] #[], .func (.func 55) #[] #[]]
/-- A whole value into the block that was made last, as a move of a walk. -/
theorem wp_store_new {P : Program} {op : Oper} {a : Act} {K : Act → World → Prop} {Q : Exit → Act → World → Prop} (w : World) (ty : TypeId) (x y : Operand) (ho : op.op = .store ty x y) (c cells : Array Value) (hx : a.eval x = .pointer (some ⟨w.heap.size, 0, none⟩)) (hy : a.eval y = .agg cells)
    (hi : (P.info? ty).map (·.size) = some cells.size) (hc : c.size = cells.size) (h1 : cells.all (·.oneCell') = true) (h : K (a.put op.dst undef) (w.alloc (.cells cells ty))) : op.wp P a (w.alloc (.cells c ty)) K Q := by
  unfold Oper.wp execOp
  simp only [ho, hx, hy, Sem.run_bind, Sem.run_pure, Result.andThen_ok, run_storeAt_new w ty c cells hi hc h1]
  exact h
theorem wpList_store_new {P : Program} {ops : Array Oper} {rest : List Oper} {op : Oper} {a : Act} {Q : Exit → Act → World → Prop} (w : World) (hgd : op.guard = none) (ty : TypeId) (x y : Operand) (ho : op.op = .store ty x y) (c cells : Array Value) (hx : a.eval x = .pointer (some ⟨w.heap.size, 0, none⟩)) (hy : a.eval y = .agg cells)
    (hi : (P.info? ty).map (·.size) = some cells.size) (hc : c.size = cells.size) (h1 : cells.all (·.oneCell') = true) (h : wpList P ops Q rest (a.put op.dst undef) (w.alloc (.cells cells ty))) : wpList P ops Q (op :: rest) a (w.alloc (.cells c ty)) :=
  wpList_plain hgd fun _ hK => wp_store_new w ty x y ho c cells hx hy hi hc h1 (hK _ _ h)

set_option maxHeartbeats 400000 in
theorem makers_any {w : World} : Calls Tryd.prog 38 #[] w fun e w' => e = .returned (.agg makersV) ∧ Below w.heap.size w w' := by
  have hb := (Below.refl w.heap.size w).alloc (Nat.le_refl _) (.cells makersV 90)
  have HB := Lib.hid hb
  clear hb
  go_enter Tryd.func38, Tryd.ntmps38
  go_wp2_with (refine wpList_store_new w rfl 90 _ _ rfl makersZ makersV rfl rfl (by kernel_rfl) rfl (by kernel_rfl) ?_)
  refine bodyPost_ret (v := .agg makersV) ?_ rfl ⟨rfl, HB.out⟩
  exact results_cell_row (fn := Tryd.f38) (p := 0) (ty := 90) (g := w.heap.size) (t := 90) (cs := makersV) (fr := (0, 0)) (by kernel_rfl) _ _ (d := _) (by rfl) (heap_alloc_new w _) Tryd.underlying90 rfl (by kernel_rfl)

theorem run_store_fn (P : Program) (w : World) (a : Addr) (f : Fn) (x y : Array Value) (m : Mode) :
    (store a (.func f x y) m).run P w = match w.cell? a with
      | some _ => if w.frozen? a then .halt (.unsupported (.unsafePointer "a write to bytes that a string shares")) w else .ok () (w.setCell a (.func f x y))
      | none => match w.farStore P a (.func f x y) (m == .atomic) with
        | .ok (w', _) => .ok () w'
        | .error h => .halt h w := run_store P w a _ m rfl
attribute [local go_sem] run_store_fn
/-- A kind's maker. -/
def makK (k : Nat) : Array Value := #[makersV.getD (3 * k) undef, makersV.getD (3 * k + 1) undef, makersV.getD (3 * k + 2) undef]
theorem index_k (k : Nat) (h : k = 1 ∨ k = 2 ∨ k = 3 ∨ k = 4 ∨ k = 5 ∨ k = 6) (W : World) : Sem.run Tryd.prog (Instr.index 90 (.agg makersV) (.int .i64 (k : Nat))) W = .ok (.agg (makK k)) W := by
  rcases h with rfl | rfl | rfl | rfl | rfl | rfl <;> kernel_rfl
set_option maxHeartbeats 1000000 in
theorem of1_any {w : World} : Calls Tryd.prog 33 #[.int .i64 1] w fun e w' => e = .returned (.tuple #[.agg (makK 1), .nilIface]) ∧ Below w.heap.size w w' := by
  have f0 := heap_alloc_new w (.cells #[.string { data := #[] }, .nilFunc, .nilFunc] 79)
  have hb0 := (Below.refl w.heap.size w).alloc (Nat.le_refl _) (.cells #[.string { data := #[] }, .nilFunc, .nilFunc] 79)
  have hz0 : (w.alloc (.cells #[.string { data := #[] }, .nilFunc, .nilFunc] 79)).heap.size = w.heap.size + 1 := World.size_alloc _ _
  have HF := Lib.hid f0
  have HB := Lib.hid hb0
  have HZ := Lib.hid hz0
  clear f0 hb0 hz0
  go_enter Tryd.func33, Tryd.ntmps33
  go_wp2_with fail
  refine makers_any.mono ?_
  rintro e w1 ⟨rfl, hb1⟩
  have h1 := (hb1.block w.heap.size (by rw [HZ.out]; omega)).trans HF.out
  have c0 : w1.cell? ⟨w.heap.size, 0, none⟩ = some (.string { data := #[] }) := (cell_of_row _ _ 0 _ _ _ h1).trans rfl
  have c1 : w1.cell? ⟨w.heap.size, 1, none⟩ = some .nilFunc := (cell_of_row _ _ 1 _ _ _ h1).trans rfl
  have c2 : w1.cell? ⟨w.heap.size, 2, none⟩ = some .nilFunc := (cell_of_row _ _ 2 _ _ _ h1).trans rfl
  have g0 : w1.frozen? ⟨w.heap.size, 0, none⟩ = false := frozen_of_row _ _ 0 _ _ h1
  have g1 : w1.frozen? ⟨w.heap.size, 1, none⟩ = false := frozen_of_row _ _ 1 _ _ h1
  have g2 : w1.frozen? ⟨w.heap.size, 2, none⟩ = false := frozen_of_row _ _ 2 _ _ h1
  have HR := Lib.hid h1
  have HB1 := Lib.hid hb1
  clear h1
  have hi : ∀ W, Sem.run Tryd.prog (Instr.index 90 (.agg makersV) (.int .i64 1)) W = .ok (.agg #[.string { data := #[99, 101, 110, 116, 114, 97, 108] }, .func (.func 44) #[] #[], .func (.func 45) #[] #[]]) W := fun W => index_k 1 (.inl rfl) W
  --MA
  go_wp2
  have r1 := heap_setCell_same _ _ 0 _ _ (.string { data := #[99, 101, 110, 116, 114, 97, 108] }) HR.out
  have r2 := heap_setCell_same _ _ 1 _ _ (.func (.func 44) #[] #[]) r1
  have r3 := heap_setCell_same _ _ 2 _ _ (.func (.func 45) #[] #[]) r2
  refine bodyPost_ret (v := .tuple #[.agg (makK 1), .nilIface]) ?_ rfl ⟨rfl, below_setI (below_setI (below_setI (HB.out.trans (HB1.out.mono HB.out.size)) (Nat.le_refl _)) (Nat.le_refl _)) (Nat.le_refl _)⟩
  rw [results_cell_tmp (fn := Tryd.f33) (p := 2) (u := 3) (ty := 79) (by kernel_rfl)]
  have hld := run_loadVar_row (P := Tryd.prog) _ w.heap.size 79 79 _ _ _ r3 Tryd.underlying79 rfl (by kernel_rfl)
  simp [asAddr, Result.andThen, hld]
  rfl
set_option maxHeartbeats 1000000 in
theorem of2_any {w : World} : Calls Tryd.prog 33 #[.int .i64 2] w fun e w' => e = .returned (.tuple #[.agg (makK 2), .nilIface]) ∧ Below w.heap.size w w' := by
  have f0 := heap_alloc_new w (.cells #[.string { data := #[] }, .nilFunc, .nilFunc] 79)
  have hb0 := (Below.refl w.heap.size w).alloc (Nat.le_refl _) (.cells #[.string { data := #[] }, .nilFunc, .nilFunc] 79)
  have hz0 : (w.alloc (.cells #[.string { data := #[] }, .nilFunc, .nilFunc] 79)).heap.size = w.heap.size + 1 := World.size_alloc _ _
  have HF := Lib.hid f0
  have HB := Lib.hid hb0
  have HZ := Lib.hid hz0
  clear f0 hb0 hz0
  go_enter Tryd.func33, Tryd.ntmps33
  go_wp2_with fail
  refine makers_any.mono ?_
  rintro e w1 ⟨rfl, hb1⟩
  have h1 := (hb1.block w.heap.size (by rw [HZ.out]; omega)).trans HF.out
  have c0 : w1.cell? ⟨w.heap.size, 0, none⟩ = some (.string { data := #[] }) := (cell_of_row _ _ 0 _ _ _ h1).trans rfl
  have c1 : w1.cell? ⟨w.heap.size, 1, none⟩ = some .nilFunc := (cell_of_row _ _ 1 _ _ _ h1).trans rfl
  have c2 : w1.cell? ⟨w.heap.size, 2, none⟩ = some .nilFunc := (cell_of_row _ _ 2 _ _ _ h1).trans rfl
  have g0 : w1.frozen? ⟨w.heap.size, 0, none⟩ = false := frozen_of_row _ _ 0 _ _ h1
  have g1 : w1.frozen? ⟨w.heap.size, 1, none⟩ = false := frozen_of_row _ _ 1 _ _ h1
  have g2 : w1.frozen? ⟨w.heap.size, 2, none⟩ = false := frozen_of_row _ _ 2 _ _ h1
  have HR := Lib.hid h1
  have HB1 := Lib.hid hb1
  clear h1
  have hi : ∀ W, Sem.run Tryd.prog (Instr.index 90 (.agg makersV) (.int .i64 2)) W = .ok (.agg #[.string { data := #[99, 111, 109, 98, 105, 110, 101] }, .func (.func 46) #[] #[], .func (.func 47) #[] #[]]) W := fun W => index_k 2 (.inr (.inl rfl)) W
  --MA
  go_wp2
  have r1 := heap_setCell_same _ _ 0 _ _ (.string { data := #[99, 111, 109, 98, 105, 110, 101] }) HR.out
  have r2 := heap_setCell_same _ _ 1 _ _ (.func (.func 46) #[] #[]) r1
  have r3 := heap_setCell_same _ _ 2 _ _ (.func (.func 47) #[] #[]) r2
  refine bodyPost_ret (v := .tuple #[.agg (makK 2), .nilIface]) ?_ rfl ⟨rfl, below_setI (below_setI (below_setI (HB.out.trans (HB1.out.mono HB.out.size)) (Nat.le_refl _)) (Nat.le_refl _)) (Nat.le_refl _)⟩
  rw [results_cell_tmp (fn := Tryd.f33) (p := 2) (u := 3) (ty := 79) (by kernel_rfl)]
  have hld := run_loadVar_row (P := Tryd.prog) _ w.heap.size 79 79 _ _ _ r3 Tryd.underlying79 rfl (by kernel_rfl)
  simp [asAddr, Result.andThen, hld]
  rfl
set_option maxHeartbeats 1000000 in
theorem of3_any {w : World} : Calls Tryd.prog 33 #[.int .i64 3] w fun e w' => e = .returned (.tuple #[.agg (makK 3), .nilIface]) ∧ Below w.heap.size w w' := by
  have f0 := heap_alloc_new w (.cells #[.string { data := #[] }, .nilFunc, .nilFunc] 79)
  have hb0 := (Below.refl w.heap.size w).alloc (Nat.le_refl _) (.cells #[.string { data := #[] }, .nilFunc, .nilFunc] 79)
  have hz0 : (w.alloc (.cells #[.string { data := #[] }, .nilFunc, .nilFunc] 79)).heap.size = w.heap.size + 1 := World.size_alloc _ _
  have HF := Lib.hid f0
  have HB := Lib.hid hb0
  have HZ := Lib.hid hz0
  clear f0 hb0 hz0
  go_enter Tryd.func33, Tryd.ntmps33
  go_wp2_with fail
  refine makers_any.mono ?_
  rintro e w1 ⟨rfl, hb1⟩
  have h1 := (hb1.block w.heap.size (by rw [HZ.out]; omega)).trans HF.out
  have c0 : w1.cell? ⟨w.heap.size, 0, none⟩ = some (.string { data := #[] }) := (cell_of_row _ _ 0 _ _ _ h1).trans rfl
  have c1 : w1.cell? ⟨w.heap.size, 1, none⟩ = some .nilFunc := (cell_of_row _ _ 1 _ _ _ h1).trans rfl
  have c2 : w1.cell? ⟨w.heap.size, 2, none⟩ = some .nilFunc := (cell_of_row _ _ 2 _ _ _ h1).trans rfl
  have g0 : w1.frozen? ⟨w.heap.size, 0, none⟩ = false := frozen_of_row _ _ 0 _ _ h1
  have g1 : w1.frozen? ⟨w.heap.size, 1, none⟩ = false := frozen_of_row _ _ 1 _ _ h1
  have g2 : w1.frozen? ⟨w.heap.size, 2, none⟩ = false := frozen_of_row _ _ 2 _ _ h1
  have HR := Lib.hid h1
  have HB1 := Lib.hid hb1
  clear h1
  have hi : ∀ W, Sem.run Tryd.prog (Instr.index 90 (.agg makersV) (.int .i64 3)) W = .ok (.agg #[.string { data := #[115, 116, 97, 116, 105, 99] }, .func (.func 48) #[] #[], .func (.func 49) #[] #[]]) W := fun W => index_k 3 (.inr (.inr (.inl rfl))) W
  --MA
  go_wp2
  have r1 := heap_setCell_same _ _ 0 _ _ (.string { data := #[115, 116, 97, 116, 105, 99] }) HR.out
  have r2 := heap_setCell_same _ _ 1 _ _ (.func (.func 48) #[] #[]) r1
  have r3 := heap_setCell_same _ _ 2 _ _ (.func (.func 49) #[] #[]) r2
  refine bodyPost_ret (v := .tuple #[.agg (makK 3), .nilIface]) ?_ rfl ⟨rfl, below_setI (below_setI (below_setI (HB.out.trans (HB1.out.mono HB.out.size)) (Nat.le_refl _)) (Nat.le_refl _)) (Nat.le_refl _)⟩
  rw [results_cell_tmp (fn := Tryd.f33) (p := 2) (u := 3) (ty := 79) (by kernel_rfl)]
  have hld := run_loadVar_row (P := Tryd.prog) _ w.heap.size 79 79 _ _ _ r3 Tryd.underlying79 rfl (by kernel_rfl)
  simp [asAddr, Result.andThen, hld]
  rfl
set_option maxHeartbeats 1000000 in
theorem of4_any {w : World} : Calls Tryd.prog 33 #[.int .i64 4] w fun e w' => e = .returned (.tuple #[.agg (makK 4), .nilIface]) ∧ Below w.heap.size w w' := by
  have f0 := heap_alloc_new w (.cells #[.string { data := #[] }, .nilFunc, .nilFunc] 79)
  have hb0 := (Below.refl w.heap.size w).alloc (Nat.le_refl _) (.cells #[.string { data := #[] }, .nilFunc, .nilFunc] 79)
  have hz0 : (w.alloc (.cells #[.string { data := #[] }, .nilFunc, .nilFunc] 79)).heap.size = w.heap.size + 1 := World.size_alloc _ _
  have HF := Lib.hid f0
  have HB := Lib.hid hb0
  have HZ := Lib.hid hz0
  clear f0 hb0 hz0
  go_enter Tryd.func33, Tryd.ntmps33
  go_wp2_with fail
  refine makers_any.mono ?_
  rintro e w1 ⟨rfl, hb1⟩
  have h1 := (hb1.block w.heap.size (by rw [HZ.out]; omega)).trans HF.out
  have c0 : w1.cell? ⟨w.heap.size, 0, none⟩ = some (.string { data := #[] }) := (cell_of_row _ _ 0 _ _ _ h1).trans rfl
  have c1 : w1.cell? ⟨w.heap.size, 1, none⟩ = some .nilFunc := (cell_of_row _ _ 1 _ _ _ h1).trans rfl
  have c2 : w1.cell? ⟨w.heap.size, 2, none⟩ = some .nilFunc := (cell_of_row _ _ 2 _ _ _ h1).trans rfl
  have g0 : w1.frozen? ⟨w.heap.size, 0, none⟩ = false := frozen_of_row _ _ 0 _ _ h1
  have g1 : w1.frozen? ⟨w.heap.size, 1, none⟩ = false := frozen_of_row _ _ 1 _ _ h1
  have g2 : w1.frozen? ⟨w.heap.size, 2, none⟩ = false := frozen_of_row _ _ 2 _ _ h1
  have HR := Lib.hid h1
  have HB1 := Lib.hid hb1
  clear h1
  have hi : ∀ W, Sem.run Tryd.prog (Instr.index 90 (.agg makersV) (.int .i64 4)) W = .ok (.agg #[.string { data := #[115, 112, 114, 101, 97, 100] }, .func (.func 50) #[] #[], .func (.func 51) #[] #[]]) W := fun W => index_k 4 (.inr (.inr (.inr (.inl rfl)))) W
  --MA
  go_wp2
  have r1 := heap_setCell_same _ _ 0 _ _ (.string { data := #[115, 112, 114, 101, 97, 100] }) HR.out
  have r2 := heap_setCell_same _ _ 1 _ _ (.func (.func 50) #[] #[]) r1
  have r3 := heap_setCell_same _ _ 2 _ _ (.func (.func 51) #[] #[]) r2
  refine bodyPost_ret (v := .tuple #[.agg (makK 4), .nilIface]) ?_ rfl ⟨rfl, below_setI (below_setI (below_setI (HB.out.trans (HB1.out.mono HB.out.size)) (Nat.le_refl _)) (Nat.le_refl _)) (Nat.le_refl _)⟩
  rw [results_cell_tmp (fn := Tryd.f33) (p := 2) (u := 3) (ty := 79) (by kernel_rfl)]
  have hld := run_loadVar_row (P := Tryd.prog) _ w.heap.size 79 79 _ _ _ r3 Tryd.underlying79 rfl (by kernel_rfl)
  simp [asAddr, Result.andThen, hld]
  rfl
set_option maxHeartbeats 1000000 in
theorem of5_any {w : World} : Calls Tryd.prog 33 #[.int .i64 5] w fun e w' => e = .returned (.tuple #[.agg (makK 5), .nilIface]) ∧ Below w.heap.size w w' := by
  have f0 := heap_alloc_new w (.cells #[.string { data := #[] }, .nilFunc, .nilFunc] 79)
  have hb0 := (Below.refl w.heap.size w).alloc (Nat.le_refl _) (.cells #[.string { data := #[] }, .nilFunc, .nilFunc] 79)
  have hz0 : (w.alloc (.cells #[.string { data := #[] }, .nilFunc, .nilFunc] 79)).heap.size = w.heap.size + 1 := World.size_alloc _ _
  have HF := Lib.hid f0
  have HB := Lib.hid hb0
  have HZ := Lib.hid hz0
  clear f0 hb0 hz0
  go_enter Tryd.func33, Tryd.ntmps33
  go_wp2_with fail
  refine makers_any.mono ?_
  rintro e w1 ⟨rfl, hb1⟩
  have h1 := (hb1.block w.heap.size (by rw [HZ.out]; omega)).trans HF.out
  have c0 : w1.cell? ⟨w.heap.size, 0, none⟩ = some (.string { data := #[] }) := (cell_of_row _ _ 0 _ _ _ h1).trans rfl
  have c1 : w1.cell? ⟨w.heap.size, 1, none⟩ = some .nilFunc := (cell_of_row _ _ 1 _ _ _ h1).trans rfl
  have c2 : w1.cell? ⟨w.heap.size, 2, none⟩ = some .nilFunc := (cell_of_row _ _ 2 _ _ _ h1).trans rfl
  have g0 : w1.frozen? ⟨w.heap.size, 0, none⟩ = false := frozen_of_row _ _ 0 _ _ h1
  have g1 : w1.frozen? ⟨w.heap.size, 1, none⟩ = false := frozen_of_row _ _ 1 _ _ h1
  have g2 : w1.frozen? ⟨w.heap.size, 2, none⟩ = false := frozen_of_row _ _ 2 _ _ h1
  have HR := Lib.hid h1
  have HB1 := Lib.hid hb1
  clear h1
  have hi : ∀ W, Sem.run Tryd.prog (Instr.index 90 (.agg makersV) (.int .i64 5)) W = .ok (.agg #[.string { data := #[116, 111, 117, 114, 110, 101, 121] }, .func (.func 52) #[] #[], .func (.func 53) #[] #[]]) W := fun W => index_k 5 (.inr (.inr (.inr (.inr (.inl rfl))))) W
  --MA
  go_wp2
  have r1 := heap_setCell_same _ _ 0 _ _ (.string { data := #[116, 111, 117, 114, 110, 101, 121] }) HR.out
  have r2 := heap_setCell_same _ _ 1 _ _ (.func (.func 52) #[] #[]) r1
  have r3 := heap_setCell_same _ _ 2 _ _ (.func (.func 53) #[] #[]) r2
  refine bodyPost_ret (v := .tuple #[.agg (makK 5), .nilIface]) ?_ rfl ⟨rfl, below_setI (below_setI (below_setI (HB.out.trans (HB1.out.mono HB.out.size)) (Nat.le_refl _)) (Nat.le_refl _)) (Nat.le_refl _)⟩
  rw [results_cell_tmp (fn := Tryd.f33) (p := 2) (u := 3) (ty := 79) (by kernel_rfl)]
  have hld := run_loadVar_row (P := Tryd.prog) _ w.heap.size 79 79 _ _ _ r3 Tryd.underlying79 rfl (by kernel_rfl)
  simp [asAddr, Result.andThen, hld]
  rfl
set_option maxHeartbeats 1000000 in
theorem of6_any {w : World} : Calls Tryd.prog 33 #[.int .i64 6] w fun e w' => e = .returned (.tuple #[.agg (makK 6), .nilIface]) ∧ Below w.heap.size w w' := by
  have f0 := heap_alloc_new w (.cells #[.string { data := #[] }, .nilFunc, .nilFunc] 79)
  have hb0 := (Below.refl w.heap.size w).alloc (Nat.le_refl _) (.cells #[.string { data := #[] }, .nilFunc, .nilFunc] 79)
  have hz0 : (w.alloc (.cells #[.string { data := #[] }, .nilFunc, .nilFunc] 79)).heap.size = w.heap.size + 1 := World.size_alloc _ _
  have HF := Lib.hid f0
  have HB := Lib.hid hb0
  have HZ := Lib.hid hz0
  clear f0 hb0 hz0
  go_enter Tryd.func33, Tryd.ntmps33
  go_wp2_with fail
  refine makers_any.mono ?_
  rintro e w1 ⟨rfl, hb1⟩
  have h1 := (hb1.block w.heap.size (by rw [HZ.out]; omega)).trans HF.out
  have c0 : w1.cell? ⟨w.heap.size, 0, none⟩ = some (.string { data := #[] }) := (cell_of_row _ _ 0 _ _ _ h1).trans rfl
  have c1 : w1.cell? ⟨w.heap.size, 1, none⟩ = some .nilFunc := (cell_of_row _ _ 1 _ _ _ h1).trans rfl
  have c2 : w1.cell? ⟨w.heap.size, 2, none⟩ = some .nilFunc := (cell_of_row _ _ 2 _ _ _ h1).trans rfl
  have g0 : w1.frozen? ⟨w.heap.size, 0, none⟩ = false := frozen_of_row _ _ 0 _ _ h1
  have g1 : w1.frozen? ⟨w.heap.size, 1, none⟩ = false := frozen_of_row _ _ 1 _ _ h1
  have g2 : w1.frozen? ⟨w.heap.size, 2, none⟩ = false := frozen_of_row _ _ 2 _ _ h1
  have HR := Lib.hid h1
  have HB1 := Lib.hid hb1
  clear h1
  have hi : ∀ W, Sem.run Tryd.prog (Instr.index 90 (.agg makersV) (.int .i64 6)) W = .ok (.agg #[.string { data := #[109, 99, 115] }, .func (.func 54) #[] #[], .func (.func 55) #[] #[]]) W := fun W => index_k 6 (.inr (.inr (.inr (.inr (.inr rfl))))) W
  --MA
  go_wp2
  have r1 := heap_setCell_same _ _ 0 _ _ (.string { data := #[109, 99, 115] }) HR.out
  have r2 := heap_setCell_same _ _ 1 _ _ (.func (.func 54) #[] #[]) r1
  have r3 := heap_setCell_same _ _ 2 _ _ (.func (.func 55) #[] #[]) r2
  refine bodyPost_ret (v := .tuple #[.agg (makK 6), .nilIface]) ?_ rfl ⟨rfl, below_setI (below_setI (below_setI (HB.out.trans (HB1.out.mono HB.out.size)) (Nat.le_refl _)) (Nat.le_refl _)) (Nat.le_refl _)⟩
  rw [results_cell_tmp (fn := Tryd.f33) (p := 2) (u := 3) (ty := 79) (by kernel_rfl)]
  have hld := run_loadVar_row (P := Tryd.prog) _ w.heap.size 79 79 _ _ _ r3 Tryd.underlying79 rfl (by kernel_rfl)
  simp [asAddr, Result.andThen, hld]
  rfl
theorem of_any {w : World} {k : Nat} (k1 : 1 ≤ k) (k6 : k ≤ 6) : Calls Tryd.prog 33 #[.int .i64 (k : Nat)] w fun e w' => e = .returned (.tuple #[.agg (makK k), .nilIface]) ∧ Below w.heap.size w w' := by
  have h : k = 1 ∨ k = 2 ∨ k = 3 ∨ k = 4 ∨ k = 5 ∨ k = 6 := by omega
  rcases h with rfl | rfl | rfl | rfl | rfl | rfl
  · exact of1_any
  · exact of2_any
  · exact of3_any
  · exact of4_any
  · exact of5_any
  · exact of6_any
end Go.Proofs.YtlikbmbcjipolaaDoor
