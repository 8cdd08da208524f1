/-
  What the laws on barriers ask first: kind, ball, floor. What dance.New, dance.Code, dance.Cells, fair.Finish come to is told by DanceOK. Who can go on, and who is at its end; danced: the fact that the laws on barriers ask first; left: what cells have in the end.
-/
import Derived.Test.YtkhaeabbbhfloaaDoorQE2
import Derived.Test.YtkhaeabbbhfloaaDoorQH6
import Derived.Test.YtkhaeabbbhfloaaDoorQI
import Derived.Test.YtkhaeabbbhfloaaDoorQG5
namespace Go.Proofs.YtkhaeabbbhfloaaDoor
set_option maxRecDepth 100000
open Go.RowKit Go.Shelf Go.Sort
set_option linter.unusedVariables false
set_option linter.unusedSimpArgs false

theorem at_threads {w wr : World} {c : Nat} {m : Mach} (h : At w c m wr) :
    Calls Tryd.prog 25 #[.pointer (some ⟨c, 0, none⟩)] wr fun e w' => e = .returned (.int .i64 (m.progs.length : Int)) ∧ wr = w' := by
  obtain ⟨S, X, rfl, hC, hB⟩ := h
  obtain ⟨_, _, c2, _, _, _⟩ := hC.cells
  obtain ⟨xs, hT, _⟩ := hC.thr
  obtain ⟨A, cap, e⟩ := slice_of_own hT
  rw [e] at c2
  clear hC hB hT
  go_enter Tryd.func25, Tryd.ntmps25
  go_wp2
  go_ret
  exact ⟨rfl, rfl⟩

/-- What the laws' world must be. -/
structure DW (w : World) : Prop where
  cw : CW w
  ev : ErrVar w
theorem DW.old {w w' : World} (h : DW w) (hb : Below w.heap.size w w') : DW w' := ⟨h.cw.old hb, errVar_old2 h.ev hb⟩

end Go.Proofs.YtkhaeabbbhfloaaDoor

namespace Go.Proofs.YtkhaeabbbhfloaaDoor
set_option maxRecDepth 100000
open Go.RowKit Go.Shelf Go.Sort
set_option linter.unusedVariables false
set_option linter.unusedSimpArgs false

theorem allTo_iff (m : Mach) : ∀ k, allTo m k = true ↔ ∀ t, t < k → m.ended.getD t false = true
  | 0 => ⟨fun _ t h => absurd h (by omega), fun _ => rfl⟩
  | k + 1 => by
    rw [allTo_succ, Bool.and_eq_true, allTo_iff m k]
    exact ⟨fun h t ht => (by
      by_cases e : t = k
      · subst e; exact h.2
      · exact h.1 t (by omega)), fun h => ⟨fun t ht => h t (by omega), h k (by omega)⟩⟩
theorem ends_done {m : Mach} (h : ∀ t, t < m.progs.length → m.ended.getD t false = true) : endsM m = (true, false) := by
  unfold endsM
  rw [(allTo_iff m _).2 h]
  simp
theorem DnE.ends {k n rounds p : Nat} {m : Mach} (h : DnE k n rounds p m) : endsM m = (true, false) := ends_done fun t ht => h.ended (by rw [← h.dn.plen]; exact ht)

end Go.Proofs.YtkhaeabbbhfloaaDoor
