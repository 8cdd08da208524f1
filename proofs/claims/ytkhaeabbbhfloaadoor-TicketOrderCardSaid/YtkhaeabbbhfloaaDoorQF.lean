/-
  A whole without a body, told through. Who awaits, and who tells: whoever goes on when.
-/
import Derived.Test.YtkhaeabbbhfloaaDoorQB2
namespace Go.Proofs.YtkhaeabbbhfloaaDoor
set_option maxRecDepth 100000

theorem step_is {m : Mach} {e : Eff} (hl : m.progs.length = 1) (he : m.ended = [false]) (ha : m.lot = []) (hs : m.steps < 20000) (h : effAt m 0 = e) : (stepM 20000 m 0).2 = doEff m 0 (insOf m 0).1 e := by
  unfold stepM
  rw [if_neg (by omega), if_neg (by rw [he]; decide), if_neg (by unfold asleepM; rw [ha]; decide), if_neg (by omega), show (0 : Int).toNat = 0 from rfl, h]

theorem small_mod {v : Int} (h0 : 0 ≤ v) (h1 : v < 1000) : v % m64 = v := by unfold m64; omega
end Go.Proofs.YtkhaeabbbhfloaaDoor

namespace Go.Proofs.YtkhaeabbbhfloaaDoor
set_option maxRecDepth 100000

end Go.Proofs.YtkhaeabbbhfloaaDoor
