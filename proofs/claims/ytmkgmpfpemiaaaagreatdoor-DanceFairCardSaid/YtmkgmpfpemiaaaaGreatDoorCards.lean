/-
  DERIVED. GIVEN WITH THE SEED: THE CARDS: each row of YtmkgmpfpemiaaaaGreatDoorRows.lean that lists a variable, with what it lists TIED to the program's text (the seventh form; the later family's looks); each row that meets fmt, with fmt's text TOLD by the authors' own Lean function (tested against real Go, not proved from fmt's source: count such statements apart). THE CARD IS WHAT COUNTS. Prove the row's statement (the work); the ties are given (YtmkgmpfpemiaaaaGreatDoorTie.lean); close each card by the builder's one call (the guide's Derived/Test/ToyasCard.lean, 'card_holds'). Laid BY PROGRAM, IN A SANDBOX (cutbox-door.mjs). By AI agents, Wed Nov 11 2026. No macro, syntax, notation, axiom, sorry.
-/
import Derived.Test.YtmkgmpfpemiaaaaGreatDoorRows
import GoSem.ClaimSeven
namespace Go.Proofs.YtmkgmpfpemiaaaaGreatDoor
namespace Rows

/-- THE TIED CARD OF 'quadrillekeep.DanceOrder'. -/
def danceOrderCard : Claim7 := { stood := { row := danceOrderRow, standIns := [], harness := (true, "249a662f9a3a8032d6ea0f3d6c35fd3df0894eb53275f03e084101a5f9d50289"), looks := true }, kinds := [], alts := [], laidByText := true, laidKinds := [.data, .data, .handle, .data], laidTests := true, laidLooks := .later }
def DanceOrderCardSaid : Prop := Claim7.holds Tryz.pinned (.plain (OpenSpec.ofChange danceOrderSpec)) danceOrderCard

/-- THE TIED CARD OF 'quadrillekeep.DanceEnds'. -/
def danceEndsCard : Claim7 := { stood := { row := danceEndsRow, standIns := [], harness := (true, "249a662f9a3a8032d6ea0f3d6c35fd3df0894eb53275f03e084101a5f9d50289"), looks := true }, kinds := [], alts := [], laidByText := true, laidKinds := [.data, .data, .handle, .data], laidTests := true, laidLooks := .later }
def DanceEndsCardSaid : Prop := Claim7.holds Tryz.pinned (.plain (OpenSpec.ofChange danceEndsSpec)) danceEndsCard

/-- THE TIED CARD OF 'quadrillekeep.DanceGoes'. -/
def danceGoesCard : Claim7 := { stood := { row := danceGoesRow, standIns := [], harness := (true, "249a662f9a3a8032d6ea0f3d6c35fd3df0894eb53275f03e084101a5f9d50289"), looks := true }, kinds := [], alts := [], laidByText := true, laidKinds := [.data, .data, .handle, .data], laidTests := true, laidLooks := .later }
def DanceGoesCardSaid : Prop := Claim7.holds Tryz.pinned (.plain (OpenSpec.ofChange danceGoesSpec)) danceGoesCard

/-- THE TIED CARD OF 'quadrillekeep.DanceLag'. -/
def danceLagCard : Claim7 := { stood := { row := danceLagRow, standIns := [], harness := (true, "249a662f9a3a8032d6ea0f3d6c35fd3df0894eb53275f03e084101a5f9d50289"), looks := true }, kinds := [], alts := [], laidByText := true, laidKinds := [.data, .data, .handle, .data], laidTests := true, laidLooks := .later }
def DanceLagCardSaid : Prop := Claim7.holds Tryz.pinned (.plain (OpenSpec.ofChange danceLagSpec)) danceLagCard

/-- THE TIED CARD OF 'quadrillekeep.DanceBound'. -/
def danceBoundCard : Claim7 := { stood := { row := danceBoundRow, standIns := [], harness := (true, "249a662f9a3a8032d6ea0f3d6c35fd3df0894eb53275f03e084101a5f9d50289"), looks := true }, kinds := [], alts := [], laidByText := true, laidKinds := [.data, .data, .handle, .data], laidTests := true, laidLooks := .later }
def DanceBoundCardSaid : Prop := Claim7.holds Tryz.pinned (.plain (OpenSpec.ofChange danceBoundSpec)) danceBoundCard

/-- THE TIED CARD OF 'quadrillekeep.DanceWaits'. -/
def danceWaitsCard : Claim7 := { stood := { row := danceWaitsRow, standIns := [], harness := (true, "249a662f9a3a8032d6ea0f3d6c35fd3df0894eb53275f03e084101a5f9d50289"), looks := true }, kinds := [], alts := [], laidByText := true, laidKinds := [.data, .data, .handle, .data], laidTests := true, laidLooks := .later }
def DanceWaitsCardSaid : Prop := Claim7.holds Tryz.pinned (.plain (OpenSpec.ofChange danceWaitsSpec)) danceWaitsCard

/-- THE TIED CARD OF 'quadrillekeep.DanceWords'. -/
def danceWordsCard : Claim7 := { stood := { row := danceWordsRow, standIns := [], harness := (true, "249a662f9a3a8032d6ea0f3d6c35fd3df0894eb53275f03e084101a5f9d50289"), looks := true }, kinds := [], alts := [], laidByText := true, laidKinds := [.data, .data, .handle, .data], laidTests := true, laidLooks := .later }
def DanceWordsCardSaid : Prop := Claim7.holds Tryz.pinned (.plain (OpenSpec.ofChange danceWordsSpec)) danceWordsCard

/-- THE TIED CARD OF 'quadrillekeep.DanceAlone'. -/
def danceAloneCard : Claim7 := { stood := { row := danceAloneRow, standIns := [], harness := (true, "249a662f9a3a8032d6ea0f3d6c35fd3df0894eb53275f03e084101a5f9d50289"), looks := true }, kinds := [], alts := [], laidByText := true, laidKinds := [.data, .data, .handle, .data], laidTests := true, laidLooks := .later }
def DanceAloneCardSaid : Prop := Claim7.holds Tryz.pinned (.plain (OpenSpec.ofChange danceAloneSpec)) danceAloneCard

/-- THE TIED CARD OF 'quadrillekeep.DanceGates'. -/
def danceGatesCard : Claim7 := { stood := { row := danceGatesRow, standIns := [], harness := (true, "249a662f9a3a8032d6ea0f3d6c35fd3df0894eb53275f03e084101a5f9d50289"), looks := true }, kinds := [], alts := [], laidByText := true, laidKinds := [.data, .data, .handle, .data], laidTests := true, laidLooks := .later }
def DanceGatesCardSaid : Prop := Claim7.holds Tryz.pinned (.plain (OpenSpec.ofChange danceGatesSpec)) danceGatesCard

/-- THE TIED CARD OF 'quadrillekeep.DanceUp'. -/
def danceUpCard : Claim7 := { stood := { row := danceUpRow, standIns := [], harness := (true, "249a662f9a3a8032d6ea0f3d6c35fd3df0894eb53275f03e084101a5f9d50289"), looks := true }, kinds := [], alts := [], laidByText := true, laidKinds := [.data, .data, .handle, .data], laidTests := true, laidLooks := .later }
def DanceUpCardSaid : Prop := Claim7.holds Tryz.pinned (.plain (OpenSpec.ofChange danceUpSpec)) danceUpCard

/-- THE TIED CARD OF 'quadrillekeep.FairAgain'. -/
def fairAgainCard : Claim7 := { stood := { row := fairAgainRow, standIns := [], harness := (true, "249a662f9a3a8032d6ea0f3d6c35fd3df0894eb53275f03e084101a5f9d50289"), looks := true }, kinds := [], alts := [], laidByText := true, laidKinds := [.data, .data, .handle, .data], laidTests := true, laidLooks := .later }
def FairAgainCardSaid : Prop := Claim7.holds Tryz.pinned (.plain (OpenSpec.ofChange fairAgainSpec)) fairAgainCard

/-- THE TIED CARD OF 'quadrillekeep.DanceFair'. -/
def danceFairCard : Claim7 := { stood := { row := danceFairRow, standIns := [], harness := (true, "249a662f9a3a8032d6ea0f3d6c35fd3df0894eb53275f03e084101a5f9d50289"), looks := true }, kinds := [], alts := [], laidByText := true, laidKinds := [.data, .data, .handle, .data], laidTests := true, laidLooks := .later }
def DanceFairCardSaid : Prop := Claim7.holds Tryz.pinned (.plain (OpenSpec.ofChange danceFairSpec)) danceFairCard

/-- THE SECOND FORM's CARD OF 'quadrillekeep.DanceOrder'. -/
def danceOrderUptoCard : Claim7 := { stood := { row := danceOrderUptoRow, standIns := [], harness := (true, "249a662f9a3a8032d6ea0f3d6c35fd3df0894eb53275f03e084101a5f9d50289"), looks := true }, kinds := [], alts := [], laidByText := true, laidKinds := [.data, .data, .handle, .data], laidTests := true, laidLooks := .later }
def DanceOrderUptoCardSaid : Prop := Claim7.holds Tryz.pinned (.plain (OpenSpec.upto danceOrderSpec)) danceOrderUptoCard

/-- THE SECOND FORM's CARD OF 'quadrillekeep.DanceEnds'. -/
def danceEndsUptoCard : Claim7 := { stood := { row := danceEndsUptoRow, standIns := [], harness := (true, "249a662f9a3a8032d6ea0f3d6c35fd3df0894eb53275f03e084101a5f9d50289"), looks := true }, kinds := [], alts := [], laidByText := true, laidKinds := [.data, .data, .handle, .data], laidTests := true, laidLooks := .later }
def DanceEndsUptoCardSaid : Prop := Claim7.holds Tryz.pinned (.plain (OpenSpec.upto danceEndsSpec)) danceEndsUptoCard

/-- THE SECOND FORM's CARD OF 'quadrillekeep.DanceGoes'. -/
def danceGoesUptoCard : Claim7 := { stood := { row := danceGoesUptoRow, standIns := [], harness := (true, "249a662f9a3a8032d6ea0f3d6c35fd3df0894eb53275f03e084101a5f9d50289"), looks := true }, kinds := [], alts := [], laidByText := true, laidKinds := [.data, .data, .handle, .data], laidTests := true, laidLooks := .later }
def DanceGoesUptoCardSaid : Prop := Claim7.holds Tryz.pinned (.plain (OpenSpec.upto danceGoesSpec)) danceGoesUptoCard

/-- THE SECOND FORM's CARD OF 'quadrillekeep.DanceLag'. -/
def danceLagUptoCard : Claim7 := { stood := { row := danceLagUptoRow, standIns := [], harness := (true, "249a662f9a3a8032d6ea0f3d6c35fd3df0894eb53275f03e084101a5f9d50289"), looks := true }, kinds := [], alts := [], laidByText := true, laidKinds := [.data, .data, .handle, .data], laidTests := true, laidLooks := .later }
def DanceLagUptoCardSaid : Prop := Claim7.holds Tryz.pinned (.plain (OpenSpec.upto danceLagSpec)) danceLagUptoCard

/-- THE SECOND FORM's CARD OF 'quadrillekeep.DanceBound'. -/
def danceBoundUptoCard : Claim7 := { stood := { row := danceBoundUptoRow, standIns := [], harness := (true, "249a662f9a3a8032d6ea0f3d6c35fd3df0894eb53275f03e084101a5f9d50289"), looks := true }, kinds := [], alts := [], laidByText := true, laidKinds := [.data, .data, .handle, .data], laidTests := true, laidLooks := .later }
def DanceBoundUptoCardSaid : Prop := Claim7.holds Tryz.pinned (.plain (OpenSpec.upto danceBoundSpec)) danceBoundUptoCard

/-- THE SECOND FORM's CARD OF 'quadrillekeep.DanceWaits'. -/
def danceWaitsUptoCard : Claim7 := { stood := { row := danceWaitsUptoRow, standIns := [], harness := (true, "249a662f9a3a8032d6ea0f3d6c35fd3df0894eb53275f03e084101a5f9d50289"), looks := true }, kinds := [], alts := [], laidByText := true, laidKinds := [.data, .data, .handle, .data], laidTests := true, laidLooks := .later }
def DanceWaitsUptoCardSaid : Prop := Claim7.holds Tryz.pinned (.plain (OpenSpec.upto danceWaitsSpec)) danceWaitsUptoCard

/-- THE SECOND FORM's CARD OF 'quadrillekeep.DanceWords'. -/
def danceWordsUptoCard : Claim7 := { stood := { row := danceWordsUptoRow, standIns := [], harness := (true, "249a662f9a3a8032d6ea0f3d6c35fd3df0894eb53275f03e084101a5f9d50289"), looks := true }, kinds := [], alts := [], laidByText := true, laidKinds := [.data, .data, .handle, .data], laidTests := true, laidLooks := .later }
def DanceWordsUptoCardSaid : Prop := Claim7.holds Tryz.pinned (.plain (OpenSpec.upto danceWordsSpec)) danceWordsUptoCard

/-- THE SECOND FORM's CARD OF 'quadrillekeep.DanceAlone'. -/
def danceAloneUptoCard : Claim7 := { stood := { row := danceAloneUptoRow, standIns := [], harness := (true, "249a662f9a3a8032d6ea0f3d6c35fd3df0894eb53275f03e084101a5f9d50289"), looks := true }, kinds := [], alts := [], laidByText := true, laidKinds := [.data, .data, .handle, .data], laidTests := true, laidLooks := .later }
def DanceAloneUptoCardSaid : Prop := Claim7.holds Tryz.pinned (.plain (OpenSpec.upto danceAloneSpec)) danceAloneUptoCard

/-- THE SECOND FORM's CARD OF 'quadrillekeep.DanceGates'. -/
def danceGatesUptoCard : Claim7 := { stood := { row := danceGatesUptoRow, standIns := [], harness := (true, "249a662f9a3a8032d6ea0f3d6c35fd3df0894eb53275f03e084101a5f9d50289"), looks := true }, kinds := [], alts := [], laidByText := true, laidKinds := [.data, .data, .handle, .data], laidTests := true, laidLooks := .later }
def DanceGatesUptoCardSaid : Prop := Claim7.holds Tryz.pinned (.plain (OpenSpec.upto danceGatesSpec)) danceGatesUptoCard

/-- THE SECOND FORM's CARD OF 'quadrillekeep.DanceUp'. -/
def danceUpUptoCard : Claim7 := { stood := { row := danceUpUptoRow, standIns := [], harness := (true, "249a662f9a3a8032d6ea0f3d6c35fd3df0894eb53275f03e084101a5f9d50289"), looks := true }, kinds := [], alts := [], laidByText := true, laidKinds := [.data, .data, .handle, .data], laidTests := true, laidLooks := .later }
def DanceUpUptoCardSaid : Prop := Claim7.holds Tryz.pinned (.plain (OpenSpec.upto danceUpSpec)) danceUpUptoCard

/-- THE SECOND FORM's CARD OF 'quadrillekeep.FairAgain'. -/
def fairAgainUptoCard : Claim7 := { stood := { row := fairAgainUptoRow, standIns := [], harness := (true, "249a662f9a3a8032d6ea0f3d6c35fd3df0894eb53275f03e084101a5f9d50289"), looks := true }, kinds := [], alts := [], laidByText := true, laidKinds := [.data, .data, .handle, .data], laidTests := true, laidLooks := .later }
def FairAgainUptoCardSaid : Prop := Claim7.holds Tryz.pinned (.plain (OpenSpec.upto fairAgainSpec)) fairAgainUptoCard

/-- THE SECOND FORM's CARD OF 'quadrillekeep.DanceFair'. -/
def danceFairUptoCard : Claim7 := { stood := { row := danceFairUptoRow, standIns := [], harness := (true, "249a662f9a3a8032d6ea0f3d6c35fd3df0894eb53275f03e084101a5f9d50289"), looks := true }, kinds := [], alts := [], laidByText := true, laidKinds := [.data, .data, .handle, .data], laidTests := true, laidLooks := .later }
def DanceFairUptoCardSaid : Prop := Claim7.holds Tryz.pinned (.plain (OpenSpec.upto danceFairSpec)) danceFairUptoCard
end Rows
end Go.Proofs.YtmkgmpfpemiaaaaGreatDoor
