/-
  What the laws on lots share: 'pick', and the fact 'asleep', which is true.
-/
import Derived.Test.YtpomjobgodfjmaaLotH
import Derived.Test.YtpomjobgodfjmaaEqI
import Derived.Test.YtpomjobgodfjmaaPickI
namespace Go.Proofs.Ytpomjobgodfjmaa
open Go.RowKit Go.Shelf

end Go.Proofs.Ytpomjobgodfjmaa
