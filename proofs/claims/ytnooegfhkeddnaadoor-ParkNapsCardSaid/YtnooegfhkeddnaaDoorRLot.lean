/-
  The reference's lot: what its blocks hold; Cell, Poke, Sleep.
-/
import Derived.Test.YtnooegfhkeddnaaDoorIMap
namespace Go.Proofs.YtnooegfhkeddnaaDoor
set_option maxRecDepth 100000
open Go.RowKit Go.Shelf

theorem zeroInt (w : World) : (zeroValue 3).run Tryd.prog w = .ok (.int .i64 0) w := by kernel_rfl

theorem wpList_delete_run {P : Program} (w : World) {ops : Array Oper} {rest : List Oper} {o : Oper} {a : Act} {Q : Exit → Act → World → Prop}
    (hg : o.guard = none) (m x : Operand) (t k : TypeId) (hop : o.op = Op.call { callee := Callee.builtin Builtin.delete, args := #[m, x], argTypes := #[t, k] })
    (mv xv : Value) (hm : a.eval m = mv) (hx : a.eval x = xv) (w' : World) (hrun : (Builtin.delete_ #[t, k] o.type #[mv, xv]).run P w = .ok (.tuple #[]) w')
    (hK : wpList P ops Q rest (a.put o.dst (.tuple #[])) w') : wpList P ops Q (o :: rest) a w := by
  refine wpList_plain hg fun K' hK' => ?_
  unfold Oper.wp
  simp [execOp, hop, resolve, invoke, builtin, hm, hx, hrun, Result.andThen]
  exact hK' _ _ hK

theorem wpList_update_run {P : Program} (w : World) {ops : Array Oper} {rest : List Oper} {o : Oper} {a : Act} {Q : Exit → Act → World → Prop}
    (hg : o.guard = none) (m x v : Operand) (t : TypeId) (hop : o.op = Op.mapUpdate t m x v)
    (mv xv vv : Value) (hm : a.eval m = mv) (hx : a.eval x = xv) (hv : a.eval v = vv) (w' : World) (hrun : (Instr.mapUpdate t mv xv vv).run P w = .ok () w')
    (hK : wpList P ops Q rest (a.put o.dst undef) w') : wpList P ops Q (o :: rest) a w := by
  refine wpList_plain hg fun K' hK' => ?_
  unfold Oper.wp
  simp [execOp, hop, hm, hx, hv, hrun, Result.andThen]
  exact hK' _ _ hK

/-- Block r is a lot of the reference: nt threads, clock; since when (f) and where (g). -/
structure RLot (w : World) (B r : Nat) (nt clock : Int) (bs bw m : Nat) (f g : Int → Option Int) : Prop where
  at_ : w.heap[r]? = some (.cells #[.int .i64 nt, .int .i64 clock, .map (some bs), .map (some bw)] 85 (0, 0))
  since : IM .i64 3 w bs m f
  where_ : IM .i64 3 w bw m g
  ne : bs ≠ bw
  lr : B ≤ r
  ls : B ≤ bs
  lw : B ≤ bw

section
variable {w w' : World} {B r : Nat} {nt clock : Int} {bs bw m : Nat} {f g : Int → Option Int}

theorem IM.isMap {q : IntKind} {te : TypeId} {b : Nat} (h : IM q te w b m f) : ∃ es c, w.heap[b]? = some (.map es c) := by
  obtain ⟨_, ⟨es, c, hb, _⟩, _⟩ := h
  exact ⟨es, c, hb⟩

theorem RLot.rs (h : RLot w B r nt clock bs bw m f g) : r ≠ bs := by
  intro e
  obtain ⟨es, c, hb⟩ := h.since.isMap
  rw [← e, h.at_] at hb
  cases hb

theorem RLot.rw_ (h : RLot w B r nt clock bs bw m f g) : r ≠ bw := by
  intro e
  obtain ⟨es, c, hb⟩ := h.where_.isMap
  rw [← e, h.at_] at hb
  cases hb

theorem RLot.lt (h : RLot w B r nt clock bs bw m f g) : r < w.heap.size := lt_of_block h.at_

theorem RLot.grown (h : RLot w B r nt clock bs bw m f g) {row : Option Nat} (hg : w.grownBy w' row) (h1 : some r ≠ row) (h2 : some bs ≠ row) (h3 : some bw ≠ row) : RLot w' B r nt clock bs bw m f g :=
  ⟨(hg.block r h.lt h1).trans h.at_, h.since.kept hg h2, h.where_.kept hg h3, h.ne, h.lr, h.ls, h.lw⟩

theorem RLot.keeps {S : Nat → Prop} (h : RLot w B r nt clock bs bw m f g) (hk : Keeps S w w') (h1 : ¬ S r) (h2 : ¬ S bs) (h3 : ¬ S bw) : RLot w' B r nt clock bs bw m f g :=
  ⟨(hk.block r h.lt h1).trans h.at_, h.since.block (hk.block bs h.since.lt h2), h.where_.block (hk.block bw h.where_.lt h3), h.ne, h.lr, h.ls, h.lw⟩

theorem RLot.cells (h : RLot w B r nt clock bs bw m f g) : w.cell? ⟨r, 0, none⟩ = some (.int .i64 nt) ∧ w.cell? ⟨r, 1, none⟩ = some (.int .i64 clock) ∧ w.cell? ⟨r, 2, none⟩ = some (.map (some bs)) ∧ w.cell? ⟨r, 3, none⟩ = some (.map (some bw)) ∧ w.frozen? ⟨r, 1, none⟩ = false :=
  ⟨by rw [cell_of_row w r 0 _ _ _ h.at_]; rfl, by rw [cell_of_row w r 1 _ _ _ h.at_]; rfl, by rw [cell_of_row w r 2 _ _ _ h.at_]; rfl, by rw [cell_of_row w r 3 _ _ _ h.at_]; rfl, frozen_of_row w r 1 _ _ h.at_⟩
end

/-- Where the reference says that a thread sleeps. -/
def rcell (f g : Int → Option Int) (t : Int) : Int := if (f t).getD 0 = 0 then -1 else (g t).getD 0

set_option maxHeartbeats 400000 in
theorem rcell_any {w : World} {B r : Nat} {nt clock : Int} {bs bw m : Nat} {f g : Int → Option Int} (h : RLot w B r nt clock bs bw m f g) (t : Int) (ht : (Lit.int .i64 t).wf = true) :
    Calls Tryd.prog 28 #[.pointer (some ⟨r, 0, none⟩), .int .i64 t] w fun e w' => e = .returned (.int .i64 (rcell f g t)) ∧ w = w' := by
  have hl1 := h.since.look Tryd.underlying83 Tryd.underlying3 (zeroInt w) t ht
  have hl2 := h.where_.look Tryd.underlying83 Tryd.underlying3 (zeroInt w) t ht
  obtain ⟨_, _, c2, c3, _⟩ := h.cells
  clear h
  unfold rcell
  obtain ⟨s, hs⟩ : ∃ s, (f t).getD 0 = s := ⟨_, rfl⟩
  obtain ⟨c, hc⟩ : ∃ c, (g t).getD 0 = c := ⟨_, rfl⟩
  rw [hs] at hl1 ⊢
  rw [hc] at hl2 ⊢
  clear hs hc ht
  by_cases h0 : s = 0
  · subst h0
    rw [if_pos rfl]
    go_enter Tryd.func28, Tryd.ntmps28
    go_wp2
    go_ret
    exact ⟨rfl, rfl⟩
  · rw [if_neg h0]
    have hb : (s == 0) = false := by simpa using h0
    go_enter Tryd.func28, Tryd.ntmps28
    go_wp2
    go_ret
    exact ⟨rfl, rfl⟩
end Go.Proofs.YtnooegfhkeddnaaDoor
