/-
  reckon: what is done to registers alone. turn: on elsewhere, or not.
-/
import Derived.Test.YtkmidefgmefohaaDoorMPut
import Derived.BigRegion
import Derived.Laws.BitsLemmas
namespace Go.Proofs.YtkmidefgmefohaaDoor
set_option maxRecDepth 100000
open Go.RowKit Go.Shelf Go.Sort

/-- A thread's registers as cells of its row. -/
structure Regs (w : World) (tb o : Nat) (r : List Int) : Prop where
  cell : ∀ j, j < 8 → w.cell? ⟨tb, o + 3 + j, none⟩ = some (.int .u64 (r.getD j 0))
  loose : ∀ i, w.frozen? ⟨tb, i, none⟩ = false

/-- A register is stored; else there is no more than what is new. -/
def RegSet (tb o a : Nat) (v : Int) (w : World) (e : Ending) (w' : World) : Prop :=
  e = .returned (.tuple #[]) ∧ (w.setCell ⟨tb, o + 3 + a, none⟩ (.int .u64 v)).grownBy w' none

theorem wrapU (n : Int) : IntKind.u64.wrap n = n % m64 := by
  simp [IntKind.wrap, IntKind.signed, IntKind.bits, m64]

theorem regSet_of {tb o a : Nat} {v v' : Int} {w : World} (ob : Obj) (h : v' = v) : RegSet tb o a v w (.returned (.tuple #[])) ((w.setCell ⟨tb, o + 3 + a, none⟩ (.int .u64 v')).alloc ob).drew := by
  subst h
  exact ⟨rfl, (World.grownBy_alloc _ ob none).andThen (show World.grownBy _ _ none from ⟨rfl, rfl, rfl, Nat.le_refl _, fun _ _ _ => rfl⟩) (fun j hj => by cases hj)⟩

theorem field_bits (v : Int) (c d : Nat) (hv : okU v) (hd : d < 64) : bits BinOp.and IntKind.u64 (v / 2 ^ c) (IntKind.u64.wrap (IntKind.u64.wrap (2 ^ d) - 1)) = v / 2 ^ c % 2 ^ d := by
  obtain ⟨v0, v1⟩ := hv
  have hp : (0 : Int) < 2 ^ d := Int.pow_pos (by decide)
  have hp2 : (2 : Int) ^ d ≤ 9223372036854775808 := by
    have : (2 : Nat) ^ d ≤ 2 ^ 63 := Nat.pow_le_pow_right (by decide) (by omega)
    have h2 : ((2 ^ d : Nat) : Int) ≤ ((2 ^ 63 : Nat) : Int) := by exact_mod_cast this
    simpa using h2
  have w1 : IntKind.u64.wrap (2 ^ d) = 2 ^ d := by rw [wrapU]; unfold m64; omega
  have w2 : IntKind.u64.wrap (2 ^ d - 1) = 2 ^ d - 1 := by rw [wrapU]; unfold m64; omega
  have hc0 : (0 : Int) < 2 ^ c := Int.pow_pos (by decide)
  have q0 : 0 ≤ v / 2 ^ c := Int.ediv_nonneg v0 (Int.le_of_lt hc0)
  have q1 : v / 2 ^ c ≤ v := Int.ediv_le_self _ v0
  rw [w1, w2]
  exact bits_mask .u64 64 (by decide) (fun n h0 h1 => by
    rw [wrapU]
    unfold m64
    have e : (2 : Int) ^ 64 = 18446744073709551616 := by decide
    rw [e] at h1
    omega) d (by omega) _ q0 (by
    have e : (2 : Int) ^ 64 = 18446744073709551616 := by decide
    rw [e]
    omega)

set_option maxHeartbeats 1000000 in
theorem reckon_let {w : World} {tb o : Nat} {r : List Int} (h : Regs w tb o r) (a : Nat) (ha : a < 8) (b c d : Int) :
    Calls Tryd.prog 50 #[.pointer (some ⟨tb, o, none⟩), insV (1, (a : Int), b, c, d)] w (RegSet tb o a (b % m64) w) := by
  have ca := h.cell a ha
  have fa := h.loose (o + 3 + a)
  have ha0 : (0 : Int) ≤ (a : Int) := by omega
  have ha8 : (a : Int) < 8 := by omega
  generalize r.getD a 0 = ra at *
  have htb : tb < w.heap.size := World.block_lt_of_cell? w _ ca
  have hne : tb ≠ w.heap.size := by omega
  clear h
  unfold insV
  go_enter Tryd.func50, Tryd.ntmps50
  go_wp2
  go_region
  go_wp2
  go_end0
  refine regSet_of _ ?_
  exact wrapU b

set_option maxHeartbeats 1000000 in
theorem reckon_copy {w : World} {tb o : Nat} {r : List Int} (h : Regs w tb o r) (a b : Nat) (ha : a < 8) (hb : b < 8) (c d : Int) :
    Calls Tryd.prog 50 #[.pointer (some ⟨tb, o, none⟩), insV (2, (a : Int), (b : Int), c, d)] w (RegSet tb o a (r.getD b 0) w) := by
  have ca := h.cell a ha
  have fa := h.loose (o + 3 + a)
  have ha0 : (0 : Int) ≤ (a : Int) := by omega
  have ha8 : (a : Int) < 8 := by omega
  have cb := h.cell b hb
  have fb := h.loose (o + 3 + b)
  have hb0 : (0 : Int) ≤ (b : Int) := by omega
  have hb8 : (b : Int) < 8 := by omega
  generalize r.getD a 0 = ra at *
  generalize r.getD b 0 = rb at *
  have htb : tb < w.heap.size := World.block_lt_of_cell? w _ ca
  have hne : tb ≠ w.heap.size := by omega
  clear h
  unfold insV
  go_enter Tryd.func50, Tryd.ntmps50
  go_wp2
  go_region
  go_wp2
  go_end0
  refine regSet_of _ ?_
  rfl

set_option maxHeartbeats 1000000 in
theorem reckon_plus {w : World} {tb o : Nat} {r : List Int} (h : Regs w tb o r) (a b : Nat) (ha : a < 8) (hb : b < 8) (c d : Int) :
    Calls Tryd.prog 50 #[.pointer (some ⟨tb, o, none⟩), insV (3, (a : Int), (b : Int), c, d)] w (RegSet tb o a ((r.getD b 0 + c) % m64) w) := by
  have ca := h.cell a ha
  have fa := h.loose (o + 3 + a)
  have ha0 : (0 : Int) ≤ (a : Int) := by omega
  have ha8 : (a : Int) < 8 := by omega
  have cb := h.cell b hb
  have fb := h.loose (o + 3 + b)
  have hb0 : (0 : Int) ≤ (b : Int) := by omega
  have hb8 : (b : Int) < 8 := by omega
  generalize r.getD a 0 = ra at *
  generalize r.getD b 0 = rb at *
  have htb : tb < w.heap.size := World.block_lt_of_cell? w _ ca
  have hne : tb ≠ w.heap.size := by omega
  clear h
  unfold insV
  go_enter Tryd.func50, Tryd.ntmps50
  go_wp2
  go_region
  go_wp2
  go_end0
  refine regSet_of _ ?_
  rw [wrapU, wrapU]; unfold m64; omega

set_option maxHeartbeats 1000000 in
theorem reckon_sum {w : World} {tb o : Nat} {r : List Int} (h : Regs w tb o r) (a b c : Nat) (ha : a < 8) (hb : b < 8) (hc : c < 8) (d : Int) :
    Calls Tryd.prog 50 #[.pointer (some ⟨tb, o, none⟩), insV (4, (a : Int), (b : Int), (c : Int), d)] w (RegSet tb o a ((r.getD b 0 + r.getD c 0) % m64) w) := by
  have ca := h.cell a ha
  have fa := h.loose (o + 3 + a)
  have ha0 : (0 : Int) ≤ (a : Int) := by omega
  have ha8 : (a : Int) < 8 := by omega
  have cb := h.cell b hb
  have fb := h.loose (o + 3 + b)
  have hb0 : (0 : Int) ≤ (b : Int) := by omega
  have hb8 : (b : Int) < 8 := by omega
  have cc := h.cell c hc
  have fc := h.loose (o + 3 + c)
  have hc0 : (0 : Int) ≤ (c : Int) := by omega
  have hc8 : (c : Int) < 8 := by omega
  generalize r.getD a 0 = ra at *
  generalize r.getD b 0 = rb at *
  generalize r.getD c 0 = rc at *
  have htb : tb < w.heap.size := World.block_lt_of_cell? w _ ca
  have hne : tb ≠ w.heap.size := by omega
  clear h
  unfold insV
  go_enter Tryd.func50, Tryd.ntmps50
  go_wp2
  go_region
  go_wp2
  go_end0
  refine regSet_of _ ?_
  exact wrapU _

set_option maxHeartbeats 1000000 in
theorem reckon_field {w : World} {tb o : Nat} {r : List Int} (h : Regs w tb o r) (a b c d : Nat) (ha : a < 8) (hb : b < 8) (hc : c < 64) (hd : d < 64) (hrb : okU (r.getD b 0)) :
    Calls Tryd.prog 50 #[.pointer (some ⟨tb, o, none⟩), insV (5, (a : Int), (b : Int), (c : Int), (d : Int))] w (RegSet tb o a (r.getD b 0 / 2 ^ c % 2 ^ d) w) := by
  have ca := h.cell a ha
  have fa := h.loose (o + 3 + a)
  have ha0 : (0 : Int) ≤ (a : Int) := by omega
  have ha8 : (a : Int) < 8 := by omega
  have cb := h.cell b hb
  have fb := h.loose (o + 3 + b)
  have hb0 : (0 : Int) ≤ (b : Int) := by omega
  have hb8 : (b : Int) < 8 := by omega
  have hc0 : (0 : Int) ≤ (c : Int) := by omega
  have hd0 : (0 : Int) ≤ (d : Int) := by omega
  have hcn : ¬ (c : Int) < 0 := by omega
  have hdn : ¬ (d : Int) < 0 := by omega
  generalize r.getD a 0 = ra at *
  generalize r.getD b 0 = rb at *
  have htb : tb < w.heap.size := World.block_lt_of_cell? w _ ca
  have hne : tb ≠ w.heap.size := by omega
  clear h
  unfold insV
  go_enter Tryd.func50, Tryd.ntmps50
  go_wp2
  go_region
  go_wp2
  go_end0
  refine regSet_of _ ?_
  exact field_bits rb c d hrb hd
end Go.Proofs.YtkmidefgmefohaaDoor

namespace Go.Proofs.YtkmidefgmefohaaDoor
set_option maxRecDepth 100000
open Go.RowKit Go.Shelf Go.Sort

/-- A thread goes on elsewhere; else there is no more than what is new. -/
def AtSet (tb o : Nat) (p : Int) (w : World) (e : Ending) (w' : World) : Prop :=
  e = .returned (.tuple #[]) ∧ (w.setCell ⟨tb, o + 1, none⟩ (.int .i64 p)).grownBy w' none
def Passed (w : World) (e : Ending) (w' : World) : Prop := e = .returned (.tuple #[]) ∧ w.grownBy w' none

theorem grown_drew (w : World) : w.grownBy w.drew none := ⟨rfl, rfl, rfl, Nat.le_refl _, fun _ _ _ => rfl⟩
theorem grown_drewN (w : World) (q : Nat) : w.grownBy (w.drewN q) none := ⟨rfl, rfl, rfl, Nat.le_refl _, fun _ _ _ => rfl⟩
theorem grown_d {w w' : World} (h : w.grownBy w' none) : w.grownBy w'.drew none := h.andThen (grown_drew w') (fun j hj => by cases hj)
theorem grown_a {w w' : World} (h : w.grownBy w' none) (o : Obj) : w.grownBy (w'.alloc o) none := h.andThen (World.grownBy_alloc w' o none) (fun j hj => by cases hj)

set_option maxHeartbeats 2000000 in
theorem turn_jump {w : World} {tb o : Nat} {r : List Int} (h : Regs w tb o r) {z : Int} (hz : w.cell? ⟨tb, o + 1, none⟩ = some (.int .i64 z)) (p b c d : Int) :
    Calls Tryd.prog 51 #[.pointer (some ⟨tb, o, none⟩), insV (10, p, b, c, d)] w (AtSet tb o p w) := by
  have f1 := h.loose (o + 1)
  have htb : tb < w.heap.size := World.block_lt_of_cell? w _ hz
  have hne : tb ≠ w.heap.size := by omega
  clear h
  unfold insV
  go_enter Tryd.func51, Tryd.ntmps51
  go_wp2
  repeat (go_region; go_wp2)
  go_end0
  refine ⟨rfl, ?_⟩
  repeat (first | exact World.grownBy.refl _ none | refine grown_d ?_ | refine grown_a ?_ _)

set_option maxHeartbeats 2000000 in
theorem turn_same_yes {w : World} {tb o : Nat} {r : List Int} (h : Regs w tb o r) {z : Int} (hz : w.cell? ⟨tb, o + 1, none⟩ = some (.int .i64 z)) (a : Nat) (ha : a < 8) (b c d : Int) (hc : r.getD a 0 = b % m64) :
    Calls Tryd.prog 51 #[.pointer (some ⟨tb, o, none⟩), insV (11, (a : Int), b, c, d)] w (AtSet tb o c w) := by
  have f1 := h.loose (o + 1)
  have ca := h.cell a ha
  have ha0 : (0 : Int) ≤ (a : Int) := by omega
  have ha8 : (a : Int) < 8 := by omega
  have hq : (r.getD a 0 == IntKind.u64.wrap b) = true := by rw [wrapU]; exact beq_iff_eq.2 hc
  clear hc
  generalize r.getD a 0 = ra at *
  have htb : tb < w.heap.size := World.block_lt_of_cell? w _ hz
  have hne : tb ≠ w.heap.size := by omega
  clear h
  unfold insV
  go_enter Tryd.func51, Tryd.ntmps51
  go_wp2
  repeat (go_region; go_wp2)
  go_end0
  refine ⟨rfl, ?_⟩
  repeat (first | exact World.grownBy.refl _ none | refine grown_d ?_ | refine grown_a ?_ _)

set_option maxHeartbeats 2000000 in
theorem turn_same_no {w : World} {tb o : Nat} {r : List Int} (h : Regs w tb o r) {z : Int} (hz : w.cell? ⟨tb, o + 1, none⟩ = some (.int .i64 z)) (a : Nat) (ha : a < 8) (b c d : Int) (hc : ¬ r.getD a 0 = b % m64) :
    Calls Tryd.prog 51 #[.pointer (some ⟨tb, o, none⟩), insV (11, (a : Int), b, c, d)] w (Passed w) := by
  have f1 := h.loose (o + 1)
  have ca := h.cell a ha
  have ha0 : (0 : Int) ≤ (a : Int) := by omega
  have ha8 : (a : Int) < 8 := by omega
  have hq : (r.getD a 0 == IntKind.u64.wrap b) = false := by rw [wrapU]; exact beq_eq_false_iff_ne.2 hc
  clear hc
  generalize r.getD a 0 = ra at *
  have htb : tb < w.heap.size := World.block_lt_of_cell? w _ hz
  have hne : tb ≠ w.heap.size := by omega
  clear h
  unfold insV
  go_enter Tryd.func51, Tryd.ntmps51
  go_wp2
  repeat (go_region; go_wp2)
  go_end0
  refine ⟨rfl, ?_⟩
  repeat (first | exact World.grownBy.refl _ none | refine grown_d ?_ | refine grown_a ?_ _)

set_option maxHeartbeats 2000000 in
theorem turn_less_yes {w : World} {tb o : Nat} {r : List Int} (h : Regs w tb o r) {z : Int} (hz : w.cell? ⟨tb, o + 1, none⟩ = some (.int .i64 z)) (a b : Nat) (ha : a < 8) (hb : b < 8) (c d : Int) (hq : r.getD a 0 < r.getD b 0) :
    Calls Tryd.prog 51 #[.pointer (some ⟨tb, o, none⟩), insV (12, (a : Int), (b : Int), c, d)] w (AtSet tb o c w) := by
  have f1 := h.loose (o + 1)
  have ca := h.cell a ha
  have ha0 : (0 : Int) ≤ (a : Int) := by omega
  have ha8 : (a : Int) < 8 := by omega
  have cb := h.cell b hb
  have hb0 : (0 : Int) ≤ (b : Int) := by omega
  have hb8 : (b : Int) < 8 := by omega
  generalize r.getD a 0 = ra at *
  generalize r.getD b 0 = rb at *
  have htb : tb < w.heap.size := World.block_lt_of_cell? w _ hz
  have hne : tb ≠ w.heap.size := by omega
  clear h
  unfold insV
  go_enter Tryd.func51, Tryd.ntmps51
  go_wp2
  repeat (go_region; go_wp2)
  go_end0
  refine ⟨rfl, ?_⟩
  repeat (first | exact World.grownBy.refl _ none | refine grown_d ?_ | refine grown_a ?_ _)

set_option maxHeartbeats 2000000 in
theorem turn_less_no {w : World} {tb o : Nat} {r : List Int} (h : Regs w tb o r) {z : Int} (hz : w.cell? ⟨tb, o + 1, none⟩ = some (.int .i64 z)) (a b : Nat) (ha : a < 8) (hb : b < 8) (c d : Int) (hq : ¬ r.getD a 0 < r.getD b 0) :
    Calls Tryd.prog 51 #[.pointer (some ⟨tb, o, none⟩), insV (12, (a : Int), (b : Int), c, d)] w (Passed w) := by
  have f1 := h.loose (o + 1)
  have ca := h.cell a ha
  have ha0 : (0 : Int) ≤ (a : Int) := by omega
  have ha8 : (a : Int) < 8 := by omega
  have cb := h.cell b hb
  have hb0 : (0 : Int) ≤ (b : Int) := by omega
  have hb8 : (b : Int) < 8 := by omega
  generalize r.getD a 0 = ra at *
  generalize r.getD b 0 = rb at *
  have htb : tb < w.heap.size := World.block_lt_of_cell? w _ hz
  have hne : tb ≠ w.heap.size := by omega
  clear h
  unfold insV
  go_enter Tryd.func51, Tryd.ntmps51
  go_wp2
  repeat (go_region; go_wp2)
  go_end0
  refine ⟨rfl, ?_⟩
  repeat (first | exact World.grownBy.refl _ none | refine grown_d ?_ | refine grown_a ?_ _)

set_option maxHeartbeats 2000000 in
theorem turn_equal_yes {w : World} {tb o : Nat} {r : List Int} (h : Regs w tb o r) {z : Int} (hz : w.cell? ⟨tb, o + 1, none⟩ = some (.int .i64 z)) (a b : Nat) (ha : a < 8) (hb : b < 8) (c d : Int) (hc : r.getD a 0 = r.getD b 0) :
    Calls Tryd.prog 51 #[.pointer (some ⟨tb, o, none⟩), insV (13, (a : Int), (b : Int), c, d)] w (AtSet tb o c w) := by
  have f1 := h.loose (o + 1)
  have ca := h.cell a ha
  have ha0 : (0 : Int) ≤ (a : Int) := by omega
  have ha8 : (a : Int) < 8 := by omega
  have cb := h.cell b hb
  have hb0 : (0 : Int) ≤ (b : Int) := by omega
  have hb8 : (b : Int) < 8 := by omega
  have hq : (r.getD a 0 == r.getD b 0) = true := beq_iff_eq.2 hc
  clear hc
  generalize r.getD a 0 = ra at *
  generalize r.getD b 0 = rb at *
  have htb : tb < w.heap.size := World.block_lt_of_cell? w _ hz
  have hne : tb ≠ w.heap.size := by omega
  clear h
  unfold insV
  go_enter Tryd.func51, Tryd.ntmps51
  go_wp2
  repeat (go_region; go_wp2)
  go_end0
  refine ⟨rfl, ?_⟩
  repeat (first | exact World.grownBy.refl _ none | refine grown_d ?_ | refine grown_a ?_ _)

set_option maxHeartbeats 2000000 in
theorem turn_equal_no {w : World} {tb o : Nat} {r : List Int} (h : Regs w tb o r) {z : Int} (hz : w.cell? ⟨tb, o + 1, none⟩ = some (.int .i64 z)) (a b : Nat) (ha : a < 8) (hb : b < 8) (c d : Int) (hc : ¬ r.getD a 0 = r.getD b 0) :
    Calls Tryd.prog 51 #[.pointer (some ⟨tb, o, none⟩), insV (13, (a : Int), (b : Int), c, d)] w (Passed w) := by
  have f1 := h.loose (o + 1)
  have ca := h.cell a ha
  have ha0 : (0 : Int) ≤ (a : Int) := by omega
  have ha8 : (a : Int) < 8 := by omega
  have cb := h.cell b hb
  have hb0 : (0 : Int) ≤ (b : Int) := by omega
  have hb8 : (b : Int) < 8 := by omega
  have hq : (r.getD a 0 == r.getD b 0) = false := beq_eq_false_iff_ne.2 hc
  clear hc
  generalize r.getD a 0 = ra at *
  generalize r.getD b 0 = rb at *
  have htb : tb < w.heap.size := World.block_lt_of_cell? w _ hz
  have hne : tb ≠ w.heap.size := by omega
  clear h
  unfold insV
  go_enter Tryd.func51, Tryd.ntmps51
  go_wp2
  repeat (go_region; go_wp2)
  go_end0
  refine ⟨rfl, ?_⟩
  repeat (first | exact World.grownBy.refl _ none | refine grown_d ?_ | refine grown_a ?_ _)
end Go.Proofs.YtkmidefgmefohaaDoor
