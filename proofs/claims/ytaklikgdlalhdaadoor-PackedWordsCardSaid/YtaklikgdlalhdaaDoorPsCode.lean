/-
  Package phaser: what comes of a call.
-/
import Derived.Test.YtaklikgdlalhdaaDoorPkCode
import Derived.Test.YtaklikgdlalhdaaDoorKPhaser
namespace Go.Proofs.YtaklikgdlalhdaaDoor
set_option maxRecDepth 100000
open Go.RowKit
set_option linter.unusedVariables false
set_option linter.unusedSimpArgs false

theorem phNewTwo (w : World) (o : Bool) (f p q : Int) : Below w.heap.size w ((w.alloc (.cells #[.bool o, .int .i64 f, .int .i64 p, .int .i64 q] 23)).alloc (.cells #[.bool false, .int .i64 0, .int .i64 0, .int .i64 0] 23)) :=
  ((Below.refl w.heap.size w).alloc (Nat.le_refl _) _).alloc (by simp) _

/-! goOn. -/
theorem sub_zero' (p : Int) : p - 0 = p := by omega
theorem phNewThree (w : World) (A B C : Obj) : Below w.heap.size w (((w.alloc A).alloc B).alloc C) :=
  (((Below.refl w.heap.size w).alloc (Nat.le_refl _) _).alloc (by simp) _).alloc (by simp; omega) _
/-- A call handed on to another function. -/
def nextIn (w : World) (o : Bool) (f p q k : Int) (e : Ending) (w' : World) : Prop := e = .returned (.tuple #[.agg #[.bool o, .int .i64 f, .int .i64 p, .int .i64 q], .int .i64 k]) ∧ Below w.heap.size w w'
end Go.Proofs.YtaklikgdlalhdaaDoor
