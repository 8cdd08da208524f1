/-
  The frame behind a region, written out.
-/
import Derived.Test.YtkmidefgmefohaaDoorRegP
namespace Go.Proofs.YtkmidefgmefohaaDoor
set_option maxRecDepth 100000
theorem frame_is {P : Program} {c : Code} {Q : Exit → Act → World → Prop} {a a' : Act} {w : World} (h : a = a') (hk : Code.wp P c Q a' w) : Code.wp P c Q a w := h ▸ hk
end Go.Proofs.YtkmidefgmefohaaDoor
