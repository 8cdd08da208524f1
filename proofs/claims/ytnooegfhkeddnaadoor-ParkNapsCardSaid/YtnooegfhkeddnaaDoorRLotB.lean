/-
  The reference's lot: NewLot, Sleep.
-/
import Derived.Test.YtnooegfhkeddnaaDoorRLotA
namespace Go.Proofs.YtnooegfhkeddnaaDoor
set_option maxRecDepth 100000
open Go.RowKit Go.Shelf

def RMade (nt : Int) (w : World) (e : Ending) (w' : World) : Prop :=
  ∃ r bs bw, e = .returned (.pointer (some ⟨r, 0, none⟩)) ∧ RLot w' w.heap.size r nt 0 bs bw 0 (fun _ => none) (fun _ => none) ∧ w.grownBy w' none

set_option maxHeartbeats 400000 in
theorem rnew_any (nt : Int) (w : World) : Calls Tryd.prog 19 #[.int .i64 nt] w (RMade nt w) := by
  have hmk : ∀ W : World, (Instr.makeMap 83 none).run Tryd.prog W = .ok (.map (some W.heap.size)) (W.alloc (.map #[] 0)) := fun W => run_makeMap 83 W
  have h1 := IM.made .i64 3 w
  have h2 := IM.made .i64 3 (w.alloc (.map #[] 0))
  have hg1 := World.grownBy_alloc w (.map #[] 0) none
  have hg2 := World.grownBy_alloc (w.alloc (.map #[] 0)) (.map #[] 0) none
  have hg3 := World.grownBy_alloc ((w.alloc (.map #[] 0)).alloc (.map #[] 0)) (.cells #[.int .i64 nt, .int .i64 0, .map (some w.heap.size), .map (some (w.alloc (.map #[] 0)).heap.size)] 85) none
  have hL : RLot (((w.alloc (.map #[] 0)).alloc (.map #[] 0)).alloc (.cells #[.int .i64 nt, .int .i64 0, .map (some w.heap.size), .map (some (w.alloc (.map #[] 0)).heap.size)] 85)) w.heap.size ((w.alloc (.map #[] 0)).alloc (.map #[] 0)).heap.size nt 0 w.heap.size (w.alloc (.map #[] 0)).heap.size 0 (fun _ => none) (fun _ => none) :=
    ⟨heap_alloc_new _ _, (h1.kept hg2 (by simp)).kept hg3 (by simp), h2.kept hg3 (by simp), by simp, by simp; omega, Nat.le_refl _, by simp⟩
  have hG := (hg1.andThen hg2 (by intro j hj; cases hj)).andThen hg3 (by intro j hj; cases hj)
  have e1 : (w.alloc (.map #[] 0)).heap.size = w.heap.size + 1 := by simp
  have e2 : ((w.alloc (.map #[] 0)).alloc (.map #[] 0)).heap.size = w.heap.size + 1 + 1 := by simp
  rw [e2, e1] at hL
  rw [e1] at hG
  have HL := Lib.hid hL
  have HG := Lib.hid hG
  clear h1 h2 hg1 hg2 hg3 hL hG e1 e2
  go_enter Tryd.func19, Tryd.ntmps19
  go_wp2
  go_ret
  exact ⟨_, _, _, rfl, HL.out, HG.out⟩

section
variable {w : World} {B r : Nat} {nt clock : Int} {bs bw m : Nat} {f g : Int → Option Int}

set_option maxHeartbeats 400000 in
theorem rsleep_range (h : RLot w B r nt clock bs bw m f g) (h0 : 0 ≤ nt) (h1 : nt ≤ 16) (t c : Int) (hr : t < 0 ∨ nt ≤ t ∨ c < 0 ∨ 300 ≤ c) :
    Calls Tryd.prog 21 #[.pointer (some ⟨r, 0, none⟩), .int .i64 t, .int .i64 c] w fun e w' => e = .returned (.int .i64 2) ∧ w = w' := by
  obtain ⟨c0, _, c2, c3, _⟩ := h.cells
  clear h
  by_cases ht : t < 0 ∨ nt ≤ t
  · have HW := Lib.hid (within_no t 0 (nt - 1) w (by omega))
    clear ht hr
    go_enter Tryd.func21, Tryd.ntmps21
    go_wp2_with fail
    refine HW.out.mono ?_
    rintro e w1 ⟨rfl, rfl⟩
    go_wp2
    go_ret
    exact ⟨rfl, rfl⟩
  · have HW := Lib.hid (within_yes t 0 (nt - 1) w (by omega) (by omega))
    have HX := Lib.hid (within_no c 0 299 w (by omega))
    clear ht hr
    go_enter Tryd.func21, Tryd.ntmps21
    go_wp2_with fail
    refine HW.out.mono ?_
    rintro e w1 ⟨rfl, rfl⟩
    go_wp2_with fail
    refine HX.out.mono ?_
    rintro e w1 ⟨rfl, rfl⟩
    go_wp2
    go_ret
    exact ⟨rfl, rfl⟩

set_option maxHeartbeats 400000 in
theorem rsleep_twice (h : RLot w B r nt clock bs bw m f g) (h0 : 0 ≤ nt) (h1 : nt ≤ 16) (t c : Int) (ht0 : 0 ≤ t) (ht1 : t < nt) (hc0 : 0 ≤ c) (hc1 : c < 300) (s : Int) (hs : 0 < s) (hf : f t = some s) :
    Calls Tryd.prog 21 #[.pointer (some ⟨r, 0, none⟩), .int .i64 t, .int .i64 c] w fun e w' => e = .returned (.int .i64 6) ∧ w = w' := by
  obtain ⟨c0, _, c2, c3, _⟩ := h.cells
  have hl := h.since.look Tryd.underlying83 Tryd.underlying3 (zeroInt w) t (wf_small t (by omega) (by omega))
  rw [hf] at hl
  have HW := Lib.hid (within_yes t 0 (nt - 1) w ht0 (by omega))
  have HX := Lib.hid (within_yes c 0 299 w hc0 (by omega))
  clear h hf
  go_enter Tryd.func21, Tryd.ntmps21
  go_wp2_with fail
  refine HW.out.mono ?_
  rintro e w1 ⟨rfl, rfl⟩
  go_wp2_with fail
  refine HX.out.mono ?_
  rintro e w1 ⟨rfl, rfl⟩
  go_wp2
  go_ret
  exact ⟨rfl, rfl⟩

end
end Go.Proofs.YtnooegfhkeddnaaDoor
