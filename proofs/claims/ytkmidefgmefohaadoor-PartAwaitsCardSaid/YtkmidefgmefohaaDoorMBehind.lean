/-
  The laws' helpers: fits, and the machine behind moves. The laws' helper: the machine behind moves.
-/
import Derived.Test.YtkmidefgmefohaaDoorMNew
namespace Go.Proofs.YtkmidefgmefohaaDoor
set_option maxRecDepth 100000
open Go.RowKit Go.Shelf Go.Sort
set_option linter.unusedVariables false
set_option linter.unusedSimpArgs false

/-- What fits says yes to. -/
def Fit (ps : List (List Ins5)) (nc : Nat) : Prop := ps.length ≤ 16 ∧ nc ≤ 100 ∧ ∀ i, i < ps.length → RightL (ps.getD i []) nc

structure FitTo (w : World) (ps : List (List Ins5)) (nc k : Nat) (wr : World) : Prop where
  below : Below w.heap.size w wr
  cw : CW wr
  right : ∀ i, i < k → RightL (ps.getD i []) nc

end Go.Proofs.YtkmidefgmefohaaDoor

namespace Go.Proofs.YtkmidefgmefohaaDoor
set_option maxRecDepth 100000
open Go.RowKit Go.Shelf Go.Sort
set_option linter.unusedVariables false
set_option linter.unusedSimpArgs false

/-- A row of moves. -/
structure Moves (w : World) (B : Nat) (A : Option Addr) (n : Nat) (l : List (Int × Bool)) : Prop where
  len : l.length = n
  row : 0 < n → ∃ b off, A = some ⟨b, off, none⟩ ∧ b < B ∧ ∀ i, i < n → w.cell? ⟨b, off + i * 2, none⟩ = some (.int .i64 (l.getD i default).1) ∧ w.cell? ⟨b, off + i * 2 + 1, none⟩ = some (.bool (l.getD i default).2)
theorem Moves.below {w w' : World} {B n : Nat} {A : Option Addr} {l : List (Int × Bool)} (h : Moves w B A n l) (hb : Below B w w') : Moves w' B A n l :=
  ⟨h.len, fun h0 => by
    obtain ⟨b, off, e, hlt, hx⟩ := h.row h0
    exact ⟨b, off, e, hlt, fun i hi => ⟨(World.cell?_of_block (a := ⟨b, off + i * 2, none⟩) (hb.block b hlt)).trans (hx i hi).1, (World.cell?_of_block (a := ⟨b, off + i * 2 + 1, none⟩) (hb.block b hlt)).trans (hx i hi).2⟩⟩⟩

theorem below_of_keeps {w w' : World} {B : Nat} {S : Nat → Prop} (hk : Keeps S w w') (hs : ∀ k, S k → B ≤ k) (hB : B ≤ w.heap.size) : Below B w w' :=
  ⟨hk.os, hk.tape, hk.output, hk.size, fun k hlt => hk.block k (by omega) (fun h => by have := hs k h; omega)⟩

theorem behind_take (l : List (Int × Bool)) (m : Mach) (k : Nat) (hk : k < l.length) : behindM 20000 m (l.take (k + 1)) = moveM 20000 (behindM 20000 m (l.take k)) (l.getD k default) := by
  have e : l.take (k + 1) = l.take k ++ [l.getD k default] := by
    rw [List.take_add_one, List.getD_eq_getElem?_getD]
    cases hx : l[k]? with
    | none => rw [List.getElem?_eq_none_iff] at hx; omega
    | some v => rfl
  rw [e]
  unfold behindM
  rw [List.foldl_append]
  rfl
theorem MBig.move {cells0 : List Int} {m : Mach} (h : MBig cells0 m) (v : Int × Bool) : MBig cells0 (moveM 20000 m v) := by
  unfold moveM
  split
  · exact h.poke _
  · exact h.step _
theorem MBig.behind {cells0 : List Int} : ∀ (l : List (Int × Bool)) {m : Mach}, MBig cells0 m → MBig cells0 (behindM 20000 m l)
  | [], m, h => h
  | v :: l, m, h => MBig.behind l (h.move v)
theorem newM_big {ps : List (List Ins5)} {cells : List Int} (hf : Fit ps cells.length) (hc : ∀ v ∈ cells, okU v) : MBig cells (newM ps cells) :=
  ⟨newM_ok _ _ hc hf.2.2, hf.1, Nat.zero_le _, Nat.zero_le _, Nat.zero_le _⟩

/-- The machine at a place, in a world behind. -/
def At (w : World) (c : Nat) (m : Mach) (wr : World) : Prop := ∃ S X, X.c = c ∧ Core wr w.heap.size S X m ∧ Below w.heap.size w wr

theorem At.moved {w wr w' : World} {c : Nat} {m' : Mach} {S : Nat → Prop} {X : KB} {m : Mach} (hX : X.c = c) (hC : Core wr w.heap.size S X m) (hb : Below w.heap.size w wr) (h : Moved wr w.heap.size S X m' w') : At w c m' w' := by
  obtain ⟨S', X', e1, e2, hC2, hS, hK⟩ := h
  exact ⟨S', X', e1.trans hX, hC2, hb.trans (below_of_keeps hK (fun k hs => (hC.slo k hs).1) hb.size)⟩

theorem At.grow {w wr w' : World} {c : Nat} {m : Mach} (h : At w c m wr) (hg : wr.grownBy w' none) : At w c m w' := by
  obtain ⟨S, X, e, hC, hB⟩ := h
  exact ⟨S, X, e, hC.grow hg, hB.grown hg hB.size (by intro k hk; cases hk)⟩

theorem moves_at {w wr : World} {c nm : Nat} {m : Mach} {D : Option Addr} {l : List (Int × Bool)} (h : Moves w w.heap.size D nm l) (hm : At w c m wr) {k : Nat} (hk : k < nm) :
    ∃ g off, D = some ⟨g, off, none⟩ ∧ wr.cell? ⟨g, off + k * 2, none⟩ = some (.int .i64 (l.getD k default).1) ∧ wr.cell? ⟨g, off + k * 2 + 1, none⟩ = some (.bool (l.getD k default).2) := by
  obtain ⟨S, X, _, _, hB⟩ := hm
  obtain ⟨g, off, e, _, hx⟩ := (h.below hB).row (by omega)
  exact ⟨g, off, e, hx k hk⟩

end Go.Proofs.YtkmidefgmefohaaDoor
