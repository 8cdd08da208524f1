/-
  api.Tell, plain.Place and the laws' 'bare' of no error, and of an Errno.
-/
import Derived.Test.YtlikbmbcjipolaaDoorErr
namespace Go.Proofs.YtlikbmbcjipolaaDoor
set_option maxRecDepth 100000
open Go.RowKit Go.Extern.Stop Go.Stop Go.Extern

theorem errVar_below {B : Nat} {w w' : World} (h : ErrVar w) (hb : Below B w w') (hB : 1 < B) : ErrVar w' := (hb.cell (p := ⟨1, 0, none⟩) hB).trans h

theorem errVar_lt {w : World} (h : ErrVar w) : 1 < w.heap.size := World.block_lt_of_cell? w _ h

theorem as_errno (k : Int) (t : Addr) (old : Value) (w : World) (hg0 : ErrVar w) (ht0 : w.cell? t = some old) (hf0 : w.frozen? t = false) :
    Calls Tryd.prog 37 #[.iface 25 (.int .i64 k), .iface 89 (.pointer (some t))] w fun ev w' => ev = .returned (.bool true) ∧ w'.cell? t = some (.int .i64 k) ∧ w.grownBy w' (some t.block) := by
  refine (as_hit k t old w hg0 ht0 hf0).mono ?_
  rintro e w' ⟨rfl, rfl⟩
  refine ⟨rfl, ?_, ?_⟩
  · unfold asWorld
    exact World.cell?_setCell_same _ _ _ (u := old) (Lib.cell?_alloc_some _ (Lib.cell?_alloc_some _ (Lib.cell?_alloc_some _ (Lib.cell?_alloc_some _ ht0))))
  · unfold asWorld
    refine (((((World.grownBy_alloc w _ _).andThen (World.grownBy_alloc _ _ _) (fun j hj => .inr hj)).andThen (World.grownBy_alloc _ _ _) (fun j hj => .inr hj)).andThen (World.grownBy_alloc _ _ _) (fun j hj => .inr hj))).andThen ⟨rfl, rfl, rfl, by simp, fun j _ hj => heap_setCell_other _ t j _ (fun e => hj (by rw [e]))⟩ (fun j hj => .inr hj)

theorem tell_nil (w : World) : Calls Tryd.prog 32 #[.nilIface] w fun e w' => e = .returned (.int .i64 0) ∧ w = w' := by
  go_enter Tryd.func32, Tryd.ntmps32
  go_wp2
  go_ret
  exact ⟨rfl, rfl⟩

theorem tell_errno (k : Int) (w : World) (hg0 : ErrVar w) : Calls Tryd.prog 32 #[.iface 25 (.int .i64 k)] w fun e w' => e = .returned (.int .i64 k) ∧ w.grownBy w' none := by
  have hlt := errVar_lt hg0
  have hb := (Below.refl w.heap.size w).alloc (Nat.le_refl _) (.cells #[.int .i64 0] 25)
  have ha := as_errno k ⟨w.heap.size, 0, none⟩ (.int .i64 0) (w.alloc (.cells #[.int .i64 0] 25)) (errVar_below hg0 hb hlt) (by simp) (by simp)
  have HA := Lib.hid ha
  clear hg0 ha hb
  go_enter Tryd.func32, Tryd.ntmps32
  go_wp2_with fail
  refine HA.out.mono ?_
  rintro e w' ⟨rfl, hc, hg⟩
  have hg2 := (World.grownBy_alloc w (.cells #[.int .i64 0] 25) none).andThen hg (by intro j hj; injection hj with hj; left; omega)
  have HG := Lib.hid hg2
  clear hg hg2 HA
  go_wp2
  go_ret
  exact ⟨rfl, HG.out⟩

set_option maxHeartbeats 400000 in
theorem place_nil (w : World) : Calls Tryd.prog 24 #[.nilIface] w fun e w' => e = .returned (.tuple #[.int .i64 0, .int .i64 (-1)]) ∧ w = w' := by
  go_enter Tryd.func24, Tryd.ntmps24
  go_wp2_with fail
  refine (tell_nil _).mono ?_
  rintro e w' ⟨rfl, rfl⟩
  go_wp2
  refine wp_loop_rounds 1 ?_
  rw [rounds_succ]
  go_wp2
  go_ret2
  exact ⟨rfl, rfl⟩

theorem noAt (v : Value) (w : World) : (Instr.typeAssert (.iface 25 v) 29 69 true).run Tryd.prog w = .ok (.tuple #[.pointer none, .bool false]) w := by kernel_rfl


set_option maxHeartbeats 400000 in
theorem place_errno (k : Int) (w : World) (hg0 : ErrVar w) : Calls Tryd.prog 24 #[.iface 25 (.int .i64 k)] w fun e w' => e = .returned (.tuple #[.int .i64 k, .int .i64 (-1)]) ∧ w.grownBy w' none := by
  have HT := Lib.hid (tell_errno k w hg0)
  have noU : ∀ (v : Value) (xT : TypeId) (w : World), (Instr.typeAssert (.iface 25 v) xT 73 true).run Tryd.prog w = .ok (.tuple #[.nilIface, .bool false]) w := fun v xT w => run_typeAssert_lacksB Tryd.underlying73 (by kernel_rfl) (by kernel_rfl) v xT w
  have noA := noAt
  clear hg0
  go_enter Tryd.func24, Tryd.ntmps24
  go_wp2_with fail
  refine HT.out.mono ?_
  rintro e w' ⟨rfl, hg⟩
  have HG := Lib.hid hg
  clear hg HT
  go_wp2
  refine wp_loop_rounds 1 ?_
  rw [rounds_succ]
  go_wp2
  go_ret2
  exact ⟨rfl, HG.out⟩
end Go.Proofs.YtlikbmbcjipolaaDoor
