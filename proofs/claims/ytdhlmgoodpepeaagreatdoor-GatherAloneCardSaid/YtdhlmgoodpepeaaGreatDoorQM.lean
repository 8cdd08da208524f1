/-
  Threads that do the same: slices.Repeat at [][]api.Ins; raced.
-/
import Derived.Test.YtdhlmgoodpepeaaGreatDoorShelf
import Derived.Test.YtdhlmgoodpepeaaGreatDoorQJ
import Derived.Test.YtdhlmgoodpepeaaGreatDoorQH4
import Derived.Test.YtdhlmgoodpepeaaGreatDoorQC2
import Derived.Laws.CopyRow
import Derived.Laws.CopyOwn
import Derived.Lib.SlBuf
namespace Go.Proofs.YtdhlmgoodpepeaaGreatDoor
set_option maxRecDepth 100000
open Go.RowKit Go.Shelf Go.Sort
set_option linter.unusedVariables false
set_option linter.unusedSimpArgs false

theorem infoSInsR : (Tryz.prog.info? 82).map (fun i => (i.zero, i.size, i.bytes)) = some (some (.slice none 0 0), 1, 24) := by kernel_rfl
/-- k of n cells are v, so far. -/
def fillR (v : Value) (n k : Nat) : Array Value := (List.replicate k v ++ List.replicate (n - k) (Value.slice none 0 0)).toArray
structure FillR (w : World) (g n : Nat) (v : Value) (k : Nat) (wr : World) : Prop where
  bel : Below w.heap.size w wr
  lo : w.heap.size ≤ g
  row : wr.heap[g]? = some (.cells (fillR v n k) 82 (0, 0))
theorem FillR.copy {w wr : World} {g n k : Nat} {A : Option Addr} {m c : Nat} (h : FillR w g n (.slice A m c) k wr) (k1 : 1 ≤ k) (hk : k < n) (ty : TypeId) :
    ∃ w', (Builtin.copy_ #[101, 101] ty #[.slice (some ⟨g, k, none⟩) (n - k) (n - k), .slice (some ⟨g, 0, none⟩) k n]).run Tryz.prog wr = .ok (goInt ((min k (n - k) : Nat) : Int)) w' ∧ FillR w g n (.slice A m c) (k + min k (n - k)) w' := by
  obtain ⟨i0, hi0, hz0, hz1, hz2⟩ := info_parts infoSInsR
  have hs : (Tryz.prog.info? 82).map (·.size) = some 1 := by rw [hi0]; simp [hz1]
  have hsz : (fillR (.slice A m c) n k).size = n := by simp [fillR]; omega
  have hat : ∀ j, j < k → wr.cell? ⟨g, j, none⟩ = some (.slice A m c) := fun j hj => by
    rw [cell_in h.row j, ← Array.getElem?_toList]
    show (List.replicate k (Value.slice A m c) ++ List.replicate (n - k) (Value.slice none 0 0))[j]? = _
    rw [List.getElem?_append_left (by simpa using hj), List.getElem?_replicate, if_pos hj]
  have hr := run_copy_row (P := Tryz.prog) wr 101 101 ty 82 g k (n - k) (n - k) ⟨g, 0, none⟩ k n (fillR (.slice A m c) n k) 82 (List.replicate (min k (n - k)) (.slice A m c)) Tryz.underlying101 hs h.row (by rw [List.length_replicate]) (fun j v hj => by
    rw [List.getElem?_replicate] at hj
    split at hj
    · injection hj with hj
      subst hj
      have : (⟨g, 0, none⟩ : Addr).add j = ⟨g, j, none⟩ := by simp [Addr.add]; omega
      rw [this]
      exact hat j (by omega)
    · cases hj) (by rw [List.length_replicate, hsz]; omega) (fun v hv => by rw [(List.mem_replicate.1 hv).2]; rfl)
  rw [List.length_replicate] at hr
  refine ⟨_, hr, ?_⟩
  have he : (((fillR (.slice A m c) n k).toList.take k ++ List.replicate (min k (n - k)) (Value.slice A m c) ++ (fillR (.slice A m c) n k).toList.drop (k + min k (n - k))).toArray) = fillR (.slice A m c) n (k + min k (n - k)) := by
    unfold fillR
    congr 1
    have e1 : (List.replicate k (Value.slice A m c) ++ List.replicate (n - k) (Value.slice none 0 0)).take k = List.replicate k (Value.slice A m c) := by rw [List.take_append_of_le_length (by simp)]; simp
    have e2 : (List.replicate k (Value.slice A m c) ++ List.replicate (n - k) (Value.slice none 0 0)).drop (k + min k (n - k)) = List.replicate (n - (k + min k (n - k))) (Value.slice none 0 0) := by
      rw [List.drop_append, List.length_replicate, List.drop_eq_nil_of_le (by simp), List.nil_append, List.drop_replicate]
      congr 1
      omega
    rw [show ((List.replicate k (Value.slice A m c) ++ List.replicate (n - k) (Value.slice none 0 0)).toArray.toList) = List.replicate k (Value.slice A m c) ++ List.replicate (n - k) (Value.slice none 0 0) from rfl, e1, e2, List.replicate_append_replicate]
  rw [he]
  exact ⟨below_setRow h.bel h.lo _, h.lo, setRow_heap wr g _ _ 82 _ h.row⟩

theorem FillR.first {w wr : World} {g n xb : Nat} {A : Option Addr} {m c : Nat} (h : FillR w g n (.slice A m c) 0 wr) (n1 : 1 ≤ n) (hx : wr.cell? ⟨xb, 0, none⟩ = some (.slice A m c)) (ty : TypeId) :
    ∃ w', (Builtin.copy_ #[101, 101] ty #[.slice (some ⟨g, 0, none⟩) n n, .slice (some ⟨xb, 0, none⟩) 1 1]).run Tryz.prog wr = .ok (.int .i64 1) w' ∧ FillR w g n (.slice A m c) 1 w' := by
  obtain ⟨i0, hi0, hz0, hz1, hz2⟩ := info_parts infoSInsR
  have hs : (Tryz.prog.info? 82).map (·.size) = some 1 := by rw [hi0]; simp [hz1]
  have hsz : (fillR (.slice A m c) n 0).size = n := by simp [fillR]
  have hr := run_copy_row (P := Tryz.prog) wr 101 101 ty 82 g 0 n n ⟨xb, 0, none⟩ 1 1 (fillR (.slice A m c) n 0) 82 [.slice A m c] Tryz.underlying101 hs h.row (by show 1 = min 1 n; omega) (fun j v hj => by
    match j, hj with
    | 0, hj =>
      injection hj with hj
      subst hj
      have : (⟨xb, 0, none⟩ : Addr).add 0 = ⟨xb, 0, none⟩ := by simp [Addr.add]
      rw [this]
      exact hx) (by rw [hsz]; simp; omega) (fun v hv => by rw [List.mem_singleton.1 hv]; rfl)
  refine ⟨_, hr, below_setRow h.bel h.lo _, h.lo, ?_⟩
  have he : (((fillR (.slice A m c) n 0).toList.take 0 ++ [Value.slice A m c] ++ (fillR (.slice A m c) n 0).toList.drop (0 + [Value.slice A m c].length)).toArray) = fillR (.slice A m c) n 1 := by
    apply Array.ext'
    simp [fillR]
  rw [he]
  exact setRow_heap wr g _ _ 82 _ h.row
theorem step_copy_run {P : Program} {ops : Array Oper} {o : Oper} {a : Act} {wx : World} {K : Act → World → Prop} {Q : Exit → Act → World → Prop} {E : Prop} (hgd : o.guard = none) (s x : Operand) (t u : TypeId) (ho : o.op = .call { callee := .builtin .copy, args := #[s, x], argTypes := #[t, u] }) {v y v' : Value} {w' : World} (hs : a.eval s = v) (hx : a.eval x = y) (hr : (Builtin.copy_ #[t, u] o.type #[v, y]).run P wx = .ok v' w') (hK : K (a.put o.dst v') w') :
    if Region.wanted o (yielded ops a.tmps) = true then Oper.wp P o a wx K Q else E := by
  have hw : Region.wanted o (yielded ops a.tmps) = true := by simp [Region.wanted, hgd]
  rw [if_pos hw]
  exact Lib.wp_copy_run wx s x _ _ ho _ _ hs hx hr hK
theorem FillR.drew {w wr : World} {g n k : Nat} {v : Value} (h : FillR w g n v k wr) : FillR w g n v k wr.drew := ⟨h.bel.trans ((Below.refl _ _).grown (grown_d (World.grownBy.refl wr none)) h.bel.size (by intro q hq; cases hq)), h.lo, h.row⟩
end Go.Proofs.YtdhlmgoodpepeaaGreatDoor
