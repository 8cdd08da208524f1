/-
  gone: its walk. A region that draws its order, walked by hand: operations that look at no memory by the kernel, many at once; calls by their contracts. (No program is named here.) pick: a number below another. slices.Equal at []int: whether two readings are one list; nothing is written. What fair.Is and fair.Rounds come to (told by FairOK); picked: the fact that the laws on fairness ask first. api.Tell, plain.Place and the laws' 'bare' of no error, and of an Errno. WHO SLEEPS WAITS. THE SAME AGAIN. What the laws on barriers ask first: kind, ball, floor. What dance.New, dance.Code, dance.Cells, fair.Finish come to is told by DanceOK. Who can go on, and who is at its end; danced: the fact that the laws on barriers ask first; left: what cells have in the end.
-/
import Derived.Test.YtdhlmgoodpepeaaGreatDoorQE2
import Derived.Test.YtdhlmgoodpepeaaGreatDoorQA
import Derived.RegionTactic
import Derived.Test.YtdhlmgoodpepeaaGreatDoorQH
import Derived.Test.YtdhlmgoodpepeaaGreatDoorQH4
import Derived.Test.YtdhlmgoodpepeaaGreatDoorQG4
namespace Go.Proofs.YtdhlmgoodpepeaaGreatDoor
set_option maxRecDepth 100000
open Go.RowKit Go.Shelf Go.Sort
set_option linter.unusedVariables false
set_option linter.unusedSimpArgs false

end Go.Proofs.YtdhlmgoodpepeaaGreatDoor

namespace Go.Proofs.YtdhlmgoodpepeaaGreatDoor
set_option maxRecDepth 100000
set_option linter.unusedVariables false

section
variable {P : Program} {ops : Array Oper} {Q : Exit → Act → World → Prop} {md : Region.Mode}

end
end Go.Proofs.YtdhlmgoodpepeaaGreatDoor

namespace Go.Proofs.YtdhlmgoodpepeaaGreatDoor
set_option maxRecDepth 100000
open Go.RowKit

theorem wrapU_nn (a : Int) : 0 ≤ IntKind.u64.wrap a := by
  unfold IntKind.wrap
  simp [IntKind.signed, IntKind.bits]
  omega

/-- Which one of n a number stands for. -/
def pickI (a : Int) (n : Nat) : Int := (IntKind.u64.wrap a).tmod n
theorem pickI_lo (a : Int) (n : Nat) : 0 ≤ pickI a n := Int.tmod_nonneg _ (wrapU_nn a)
theorem pickI_hi (a : Int) (n : Nat) (h : 0 < n) : pickI a n < n := Int.tmod_lt_of_pos _ (by omega)

set_option maxHeartbeats 400000 in
theorem pick_det (a b : Int) (n : Nat) (w : World) (hb : b = (n : Int)) (h0 : 0 < n) (hn : n ≤ 1000) : Calls Tryz.prog 23 #[.int .i64 a, .int .i64 b] w fun e w' => e = .returned (.int .i64 (pickI a n)) ∧ w = w' := by
  subst hb
  have h1 := pickI_lo a n
  have h2 := pickI_hi a n h0
  have hd : (IntKind.u64.wrap a).tmod n = pickI a n := rfl
  have H := Lib.hid (And.intro h1 (And.intro h2 hd))
  clear h1 h2 hd
  go_enter Tryz.func23, Tryz.ntmps23
  go_wp2
  go_ret
  refine ⟨ret_int ?_, rfl⟩
  obtain ⟨h1, h2, h3⟩ := H.out
  rw [h3]
  unfold wrap64
  omega
end Go.Proofs.YtdhlmgoodpepeaaGreatDoor

namespace Go.Proofs.YtdhlmgoodpepeaaGreatDoor
set_option maxRecDepth 100000
open Go.RowKit

set_option maxHeartbeats 400000 in
theorem equalI_same (A C : Option Addr) (n c d : Nat) (xs : List Int) (w : World) (hn : n ≤ 9223372036854775807) (B : Nat) (ha : Ints .i64 w B A n xs) (hc : Ints .i64 w B C n xs) :
    Calls Tryz.prog 32 #[.slice A n c, .slice C n d] w fun e w' => e = .returned (.bool true) ∧ ∃ q, w' = w.drewN q := by
  have hne : ((n : Int) != (n : Int)) = false := by simp
  go_enter Tryz.func32, Tryz.ntmps32
  go_wp2
  go_loopw [5, 13] (fun i j wr => ∃ k : Nat, k ≤ n ∧ j = .int .i64 k ∧ ∃ q, wr = w.drewN q) (fun _ j _ => n - (intOf j).toNat)
  case atStart => exact ⟨0, Nat.zero_le _, rfl, 0, rfl⟩
  case round =>
    obtain ⟨k, hk, rfl, q, rfl⟩ := hrel
    by_cases hlt : k < n
    · obtain ⟨b, off, rfl, _, hx⟩ := ha.row (by omega)
      obtain ⟨b', off', rfl, _, hy⟩ := hc.row (by omega)
      have h1 := hx k hlt
      have h2 := hy k hlt
      have hkn : (k : Int) < (n : Int) := by omega
      clear hx hy ha hc
      generalize xs.getD k 0 = x at h1 h2
      have hxx : (x != x) = false := by simp
      go_wp2
      go_quiet (fail)
      go_wp2
      go_roundw
      case rel => exact ⟨k + 1, by omega, by go_num, q + nq, by simp⟩
      case measure => simp [intOf]; omega
    · have hkn : ¬ (k : Int) < (n : Int) := by omega
      go_wp2
      go_ret
      exact ⟨rfl, q, rfl⟩
end Go.Proofs.YtdhlmgoodpepeaaGreatDoor

namespace Go.Proofs.YtdhlmgoodpepeaaGreatDoor
set_option maxRecDepth 100000
open Go.RowKit
set_option linter.unusedVariables false
set_option linter.unusedSimpArgs false

end Go.Proofs.YtdhlmgoodpepeaaGreatDoor

namespace Go.Proofs.YtdhlmgoodpepeaaGreatDoor
set_option maxRecDepth 100000
open Go.RowKit Go.Extern.Stop Go.Stop Go.Extern

theorem errVar_below {B : Nat} {w w' : World} (h : ErrVar w) (hb : Below B w w') (hB : 0 < B) : ErrVar w' := (hb.cell (p := ⟨0, 0, none⟩) hB).trans h

theorem errVar_lt {w : World} (h : ErrVar w) : 0 < w.heap.size := World.block_lt_of_cell? w _ h

theorem tell_nil (w : World) : Calls Tryz.prog 54 #[.nilIface] w fun e w' => e = .returned (.int .i64 0) ∧ w = w' := by
  go_enter Tryz.func54, Tryz.ntmps54
  go_wp2
  go_ret
  exact ⟨rfl, rfl⟩

end Go.Proofs.YtdhlmgoodpepeaaGreatDoor

namespace Go.Proofs.YtdhlmgoodpepeaaGreatDoor
set_option maxRecDepth 100000
open Go.RowKit Go.Shelf Go.Sort
set_option linter.unusedVariables false
set_option linter.unusedSimpArgs false

theorem errVar_old2 {w w' : World} (hg : ErrVar w) (hb : Below w.heap.size w w') : ErrVar w' := by
  unfold ErrVar at *
  exact (World.cell?_of_block (hb.block _ (World.block_lt_of_cell? w _ hg))).trans hg

end Go.Proofs.YtdhlmgoodpepeaaGreatDoor

namespace Go.Proofs.YtdhlmgoodpepeaaGreatDoor
set_option maxRecDepth 100000
open Go.RowKit Go.Shelf Go.Sort
set_option linter.unusedVariables false
set_option linter.unusedSimpArgs false

theorem At.keepB {w wr w' : World} {c : Nat} {m : Mach} (h : At w c m wr) (hb : Below wr.heap.size wr w') : At w c m w' := by
  obtain ⟨S, X, e, hC, hB⟩ := h
  exact ⟨S, X, e, hC.below hb (Nat.le_refl _), hB.trans (hb.mono hB.size)⟩
end Go.Proofs.YtdhlmgoodpepeaaGreatDoor

namespace Go.Proofs.YtdhlmgoodpepeaaGreatDoor
set_option maxRecDepth 100000
open Go.RowKit Go.Shelf Go.Sort
set_option linter.unusedVariables false
set_option linter.unusedSimpArgs false

theorem at_threads {w wr : World} {c : Nat} {m : Mach} (h : At w c m wr) :
    Calls Tryz.prog 44 #[.pointer (some ⟨c, 0, none⟩)] wr fun e w' => e = .returned (.int .i64 (m.progs.length : Int)) ∧ wr = w' := by
  obtain ⟨S, X, rfl, hC, hB⟩ := h
  obtain ⟨_, _, c2, _, _, _⟩ := hC.cells
  obtain ⟨xs, hT, _⟩ := hC.thr
  obtain ⟨A, cap, e⟩ := slice_of_own hT
  rw [e] at c2
  clear hC hB hT
  go_enter Tryz.func44, Tryz.ntmps44
  go_wp2
  go_ret
  exact ⟨rfl, rfl⟩

/-- What the laws' world must be. -/
structure DW (w : World) : Prop where
  cw : CW w
  ev : ErrVar w
theorem DW.old {w w' : World} (h : DW w) (hb : Below w.heap.size w w') : DW w' := ⟨h.cw.old hb, errVar_old2 h.ev hb⟩

end Go.Proofs.YtdhlmgoodpepeaaGreatDoor

namespace Go.Proofs.YtdhlmgoodpepeaaGreatDoor
set_option maxRecDepth 100000
open Go.RowKit Go.Shelf Go.Sort
set_option linter.unusedVariables false
set_option linter.unusedSimpArgs false

theorem allTo_iff (m : Mach) : ∀ k, allTo m k = true ↔ ∀ t, t < k → m.ended.getD t false = true
  | 0 => ⟨fun _ t h => absurd h (by omega), fun _ => rfl⟩
  | k + 1 => by
    rw [allTo_succ, Bool.and_eq_true, allTo_iff m k]
    exact ⟨fun h t ht => (by
      by_cases e : t = k
      · subst e; exact h.2
      · exact h.1 t (by omega)), fun h => ⟨fun t ht => h t (by omega), h k (by omega)⟩⟩
theorem stuckTo_iff (m : Mach) : ∀ k, stuckTo m k = true ↔ ∀ t : Nat, t < k → readyE m t ≠ 0
  | 0 => ⟨fun _ t h => absurd h (by omega), fun _ => rfl⟩
  | k + 1 => by
    rw [stuckTo_succ, Bool.and_eq_true, stuckTo_iff m k]
    exact ⟨fun h t ht => (by
      by_cases e : t = k
      · subst e; simpa using h.2
      · exact h.1 t (by omega)), fun h => ⟨fun t ht => h t (by omega), by simpa using h k (by omega)⟩⟩
theorem ends_done {m : Mach} (h : ∀ t, t < m.progs.length → m.ended.getD t false = true) : endsM m = (true, false) := by
  unfold endsM
  rw [(allTo_iff m _).2 h]
  simp
theorem DnE.ends {k n rounds p : Nat} {m : Mach} (h : DnE k n rounds p m) : endsM m = (true, false) := ends_done fun t ht => h.ended (by rw [← h.dn.plen]; exact ht)

end Go.Proofs.YtdhlmgoodpepeaaGreatDoor
