/-
  api.Tell, plain.Place and the laws' 'bare' of no error, and of an Errno.
-/
import Derived.Test.YtbcbahoplfgimaaGreatDoorErr
namespace Go.Proofs.YtbcbahoplfgimaaGreatDoor
set_option maxRecDepth 100000
open Go.RowKit Go.Extern.Stop Go.Stop Go.Extern

theorem errVar_below {B : Nat} {w w' : World} (h : ErrVar w) (hb : Below B w w') (hB : 0 < B) : ErrVar w' := (hb.cell (p := ⟨0, 0, none⟩) hB).trans h

theorem errVar_lt {w : World} (h : ErrVar w) : 0 < w.heap.size := World.block_lt_of_cell? w _ h

theorem as_errno (k : Int) (t : Addr) (old : Value) (w : World) (hg0 : ErrVar w) (ht0 : w.cell? t = some old) (hf0 : w.frozen? t = false) :
    Calls Tryz.prog 40 #[.iface 37 (.int .i64 k), .iface 86 (.pointer (some t))] w fun ev w' => ev = .returned (.bool true) ∧ w'.cell? t = some (.int .i64 k) ∧ w.grownBy w' (some t.block) := by
  refine (as_hit k t old w hg0 ht0 hf0).mono ?_
  rintro e w' ⟨rfl, rfl⟩
  refine ⟨rfl, ?_, ?_⟩
  · unfold asWorld
    exact World.cell?_setCell_same _ _ _ (u := old) (Lib.cell?_alloc_some _ (Lib.cell?_alloc_some _ (Lib.cell?_alloc_some _ (Lib.cell?_alloc_some _ ht0))))
  · unfold asWorld
    refine (((((World.grownBy_alloc w _ _).andThen (World.grownBy_alloc _ _ _) (fun j hj => .inr hj)).andThen (World.grownBy_alloc _ _ _) (fun j hj => .inr hj)).andThen (World.grownBy_alloc _ _ _) (fun j hj => .inr hj))).andThen ⟨rfl, rfl, rfl, by simp, fun j _ hj => heap_setCell_other _ t j _ (fun e => hj (by rw [e]))⟩ (fun j hj => .inr hj)

theorem tell_nil (w : World) : Calls Tryz.prog 18 #[.nilIface] w fun e w' => e = .returned (.int .i64 0) ∧ w = w' := by
  go_enter Tryz.func18, Tryz.ntmps18
  go_wp2
  go_ret
  exact ⟨rfl, rfl⟩

theorem tell_errno (k : Int) (w : World) (hg0 : ErrVar w) : Calls Tryz.prog 18 #[.iface 37 (.int .i64 k)] w fun e w' => e = .returned (.int .i64 k) ∧ w.grownBy w' none := by
  have hlt := errVar_lt hg0
  have hb := (Below.refl w.heap.size w).alloc (Nat.le_refl _) (.cells #[.int .i64 0] 37)
  have ha := as_errno k ⟨w.heap.size, 0, none⟩ (.int .i64 0) (w.alloc (.cells #[.int .i64 0] 37)) (errVar_below hg0 hb hlt) (by simp) (by simp)
  have HA := Lib.hid ha
  clear hg0 ha hb
  go_enter Tryz.func18, Tryz.ntmps18
  go_wp2_with fail
  refine HA.out.mono ?_
  rintro e w' ⟨rfl, hc, hg⟩
  have hg2 := (World.grownBy_alloc w (.cells #[.int .i64 0] 37) none).andThen hg (by intro j hj; injection hj with hj; left; omega)
  have HG := Lib.hid hg2
  clear hg hg2 HA
  go_wp2
  go_ret
  exact ⟨rfl, HG.out⟩

end Go.Proofs.YtbcbahoplfgimaaGreatDoor
