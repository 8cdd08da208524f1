/-
  The reference's lot: NewLot, Poke, Sleep.
-/
import Derived.Test.YtnooegfhkeddnaaDoorRLot
namespace Go.Proofs.YtnooegfhkeddnaaDoor
set_option maxRecDepth 100000
open Go.RowKit Go.Shelf

theorem wf_small (a : Int) (h0 : -1000000 ≤ a) (h1 : a ≤ 1000000) : (Lit.int .i64 a).wf = true := by
  simp [Lit.wf, IntKind.min, IntKind.max, IntKind.signed, IntKind.bits]
  omega

theorem within_any (n lo hi : Int) (w : World) : Calls Tryd.prog 41 #[.int .i64 n, .int .i64 lo, .int .i64 hi] w fun e w' => e = .returned (.bool (decide (lo ≤ n) && decide (n ≤ hi))) ∧ w = w' := by
  by_cases h1 : lo ≤ n
  · by_cases h2 : n ≤ hi
    · have e : (decide (lo ≤ n) && decide (n ≤ hi)) = true := by simp [h1, h2]
      rw [e]
      go_enter Tryd.func41, Tryd.ntmps41
      go_wp2
      go_ret
      exact ⟨rfl, rfl⟩
    · have e : (decide (lo ≤ n) && decide (n ≤ hi)) = false := by simp [h2]
      rw [e]
      go_enter Tryd.func41, Tryd.ntmps41
      go_wp2
      go_ret
      exact ⟨rfl, rfl⟩
  · have e : (decide (lo ≤ n) && decide (n ≤ hi)) = false := by simp [h1]
    rw [e]
    go_enter Tryd.func41, Tryd.ntmps41
    go_wp2
    go_ret
    exact ⟨rfl, rfl⟩

theorem within_yes (n lo hi : Int) (w : World) (h1 : lo ≤ n) (h2 : n ≤ hi) : Calls Tryd.prog 41 #[.int .i64 n, .int .i64 lo, .int .i64 hi] w fun e w' => e = .returned (.bool true) ∧ w = w' := by
  have := within_any n lo hi w
  rw [show (decide (lo ≤ n) && decide (n ≤ hi)) = true by simp [h1, h2]] at this
  exact this

theorem within_no (n lo hi : Int) (w : World) (h : n < lo ∨ hi < n) : Calls Tryd.prog 41 #[.int .i64 n, .int .i64 lo, .int .i64 hi] w fun e w' => e = .returned (.bool false) ∧ w = w' := by
  have := within_any n lo hi w
  rw [show (decide (lo ≤ n) && decide (n ≤ hi)) = false by
    rcases h with h | h
    · simp [show ¬ lo ≤ n by omega]
    · simp [show ¬ n ≤ hi by omega]] at this
  exact this

section
variable {w : World} {B r : Nat} {nt clock : Int} {bs bw m : Nat} {f g : Int → Option Int}

set_option maxHeartbeats 400000 in
theorem rpoke_range (h : RLot w B r nt clock bs bw m f g) (h0 : 0 ≤ nt) (h1 : nt ≤ 16) (t : Int) (ht : t < 0 ∨ nt ≤ t) :
    Calls Tryd.prog 26 #[.pointer (some ⟨r, 0, none⟩), .int .i64 t] w fun e w' => e = .returned (.int .i64 2) ∧ w = w' := by
  obtain ⟨c0, _, c2, c3, _⟩ := h.cells
  have HW := Lib.hid (within_no t 0 (nt - 1) w (by omega))
  clear h ht
  go_enter Tryd.func26, Tryd.ntmps26
  go_wp2_with fail
  refine HW.out.mono ?_
  rintro e w1 ⟨rfl, rfl⟩
  go_wp2
  go_ret
  exact ⟨rfl, rfl⟩

set_option maxHeartbeats 400000 in
theorem rpoke_none (h : RLot w B r nt clock bs bw m f g) (h0 : 0 ≤ nt) (h1 : nt ≤ 16) (t : Int) (ht0 : 0 ≤ t) (ht1 : t < nt) (hf : f t = none) :
    Calls Tryd.prog 26 #[.pointer (some ⟨r, 0, none⟩), .int .i64 t] w fun e w' => e = .returned (.int .i64 6) ∧ w = w' := by
  obtain ⟨c0, _, c2, c3, _⟩ := h.cells
  have hwf : (Lit.int .i64 t).wf = true := wf_small t (by omega) (by omega)
  have hl := h.since.look Tryd.underlying83 Tryd.underlying3 (zeroInt w) t hwf
  rw [hf] at hl
  have HW := Lib.hid (within_yes t 0 (nt - 1) w ht0 (by omega))
  clear h hwf hf
  go_enter Tryd.func26, Tryd.ntmps26
  go_wp2_with fail
  refine HW.out.mono ?_
  rintro e w1 ⟨rfl, rfl⟩
  go_wp2
  go_ret
  exact ⟨rfl, rfl⟩

def RPoked (B r : Nat) (nt clock : Int) (bs bw m : Nat) (f g : Int → Option Int) (t : Int) (w : World) (e : Ending) (w' : World) : Prop :=
  e = .returned (.int .i64 0) ∧ RLot w' B r nt clock bs bw m (dropAt f t) g ∧ w.grownBy w' (some bs)

set_option maxHeartbeats 400000 in
theorem rpoke_yes (h : RLot w B r nt clock bs bw m f g) (h0 : 0 ≤ nt) (h1 : nt ≤ 16) (t : Int) (ht0 : 0 ≤ t) (ht1 : t < nt) (s : Int) (hs : 0 < s) (hf : f t = some s) :
    Calls Tryd.prog 26 #[.pointer (some ⟨r, 0, none⟩), .int .i64 t] w (RPoked B r nt clock bs bw m f g t w) := by
  obtain ⟨c0, _, c2, c3, _⟩ := h.cells
  have hwf : (Lit.int .i64 t).wf = true := wf_small t (by omega) (by omega)
  have hl := h.since.look Tryd.underlying83 Tryd.underlying3 (zeroInt w) t hwf
  rw [hf] at hl
  have hs0 : ¬ s = 0 := by omega
  have HW := Lib.hid (within_yes t 0 (nt - 1) w ht0 (by omega))
  obtain ⟨w2, hrun, hI, hg⟩ := h.since.del Tryd.underlying83 0 t hwf
  have hL : RLot w2 B r nt clock bs bw m (dropAt f t) g :=
    ⟨(hg.block r h.lt (by intro e; injection e with e; exact h.rs e)).trans h.at_, hI, h.where_.kept hg (by intro e; injection e with e; exact h.ne e.symm), h.ne, h.lr, h.ls, h.lw⟩
  have HR := Lib.hid hrun
  have HL := Lib.hid hL
  have HG := Lib.hid hg
  clear h hwf hf hrun hI hL hg
  go_enter Tryd.func26, Tryd.ntmps26
  go_wp2_with fail
  refine HW.out.mono ?_
  rintro e w1 ⟨rfl, rfl⟩
  go_wp2_with (at_delete; refine wpList_delete_run _ rfl _ _ _ _ rfl _ _ rfl rfl _ HR.out ?_)
  go_ret
  exact ⟨rfl, HL.out, HG.out⟩
end
end Go.Proofs.YtnooegfhkeddnaaDoor
