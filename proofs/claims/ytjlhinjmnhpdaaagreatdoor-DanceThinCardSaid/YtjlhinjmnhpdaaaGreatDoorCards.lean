/-
  DERIVED. GIVEN WITH THE SEED: THE CARDS: each row of YtjlhinjmnhpdaaaGreatDoorRows.lean that lists a variable, with what it lists TIED to the program's text (the seventh form; the later family's looks); each row that meets fmt, with fmt's text TOLD by the authors' own Lean function (tested against real Go, not proved from fmt's source: count such statements apart). THE CARD IS WHAT COUNTS. Prove the row's statement (the work); the ties are given (YtjlhinjmnhpdaaaGreatDoorTie.lean); close each card by the builder's one call (the guide's Derived/Test/ToyasCard.lean, 'card_holds'). Laid BY PROGRAM, IN A SANDBOX (cutbox-door.mjs). By AI agents, Wed Nov 11 2026. No macro, syntax, notation, axiom, sorry.
-/
import Derived.Test.YtjlhinjmnhpdaaaGreatDoorRows
import GoSem.ClaimSeven
namespace Go.Proofs.YtjlhinjmnhpdaaaGreatDoor
namespace Rows

/-- THE TIED CARD OF 'quadrillekeep.CentralLeaves'. -/
def centralLeavesCard : Claim7 := { stood := { row := centralLeavesRow, standIns := [], harness := (true, "c6f55d05b03cf7820801fe364c569ecbd73704b9e009a9d755c8ab487a07502a"), looks := true }, kinds := [], alts := [], laidByText := true, laidKinds := [.data, .data, .handle, .data], laidTests := true, laidLooks := .later }
def CentralLeavesCardSaid : Prop := Claim7.holds Tryz.pinned (.plain (OpenSpec.ofChange centralLeavesSpec)) centralLeavesCard

/-- THE TIED CARD OF 'quadrillekeep.CombineLeaves'. -/
def combineLeavesCard : Claim7 := { stood := { row := combineLeavesRow, standIns := [], harness := (true, "c6f55d05b03cf7820801fe364c569ecbd73704b9e009a9d755c8ab487a07502a"), looks := true }, kinds := [], alts := [], laidByText := true, laidKinds := [.data, .data, .handle, .data], laidTests := true, laidLooks := .later }
def CombineLeavesCardSaid : Prop := Claim7.holds Tryz.pinned (.plain (OpenSpec.ofChange combineLeavesSpec)) combineLeavesCard

/-- THE TIED CARD OF 'quadrillekeep.StaticLeaves'. -/
def staticLeavesCard : Claim7 := { stood := { row := staticLeavesRow, standIns := [], harness := (true, "c6f55d05b03cf7820801fe364c569ecbd73704b9e009a9d755c8ab487a07502a"), looks := true }, kinds := [], alts := [], laidByText := true, laidKinds := [.data, .data, .handle, .data], laidTests := true, laidLooks := .later }
def StaticLeavesCardSaid : Prop := Claim7.holds Tryz.pinned (.plain (OpenSpec.ofChange staticLeavesSpec)) staticLeavesCard

/-- THE TIED CARD OF 'quadrillekeep.SpreadLeaves'. -/
def spreadLeavesCard : Claim7 := { stood := { row := spreadLeavesRow, standIns := [], harness := (true, "c6f55d05b03cf7820801fe364c569ecbd73704b9e009a9d755c8ab487a07502a"), looks := true }, kinds := [], alts := [], laidByText := true, laidKinds := [.data, .data, .handle, .data], laidTests := true, laidLooks := .later }
def SpreadLeavesCardSaid : Prop := Claim7.holds Tryz.pinned (.plain (OpenSpec.ofChange spreadLeavesSpec)) spreadLeavesCard

/-- THE TIED CARD OF 'quadrillekeep.McsLeaves'. -/
def mcsLeavesCard : Claim7 := { stood := { row := mcsLeavesRow, standIns := [], harness := (true, "c6f55d05b03cf7820801fe364c569ecbd73704b9e009a9d755c8ab487a07502a"), looks := true }, kinds := [], alts := [], laidByText := true, laidKinds := [.data, .data, .handle, .data], laidTests := true, laidLooks := .later }
def McsLeavesCardSaid : Prop := Claim7.holds Tryz.pinned (.plain (OpenSpec.ofChange mcsLeavesSpec)) mcsLeavesCard

/-- THE TIED CARD OF 'quadrillekeep.TourneyLeaves'. -/
def tourneyLeavesCard : Claim7 := { stood := { row := tourneyLeavesRow, standIns := [], harness := (true, "c6f55d05b03cf7820801fe364c569ecbd73704b9e009a9d755c8ab487a07502a"), looks := true }, kinds := [], alts := [], laidByText := true, laidKinds := [.data, .data, .handle, .data], laidTests := true, laidLooks := .later }
def TourneyLeavesCardSaid : Prop := Claim7.holds Tryz.pinned (.plain (OpenSpec.ofChange tourneyLeavesSpec)) tourneyLeavesCard

/-- THE TIED CARD OF 'quadrillekeep.SpreadThin'. -/
def spreadThinCard : Claim7 := { stood := { row := spreadThinRow, standIns := [], harness := (true, "c6f55d05b03cf7820801fe364c569ecbd73704b9e009a9d755c8ab487a07502a"), looks := true }, kinds := [], alts := [], laidByText := true, laidKinds := [.data, .data, .handle, .data], laidTests := true, laidLooks := .later }
def SpreadThinCardSaid : Prop := Claim7.holds Tryz.pinned (.plain (OpenSpec.ofChange spreadThinSpec)) spreadThinCard

/-- THE TIED CARD OF 'quadrillekeep.CentralCrowds'. -/
def centralCrowdsCard : Claim7 := { stood := { row := centralCrowdsRow, standIns := [], harness := (true, "c6f55d05b03cf7820801fe364c569ecbd73704b9e009a9d755c8ab487a07502a"), looks := true }, kinds := [], alts := [], laidByText := true, laidKinds := [.data, .data, .handle, .data], laidTests := true, laidLooks := .later }
def CentralCrowdsCardSaid : Prop := Claim7.holds Tryz.pinned (.plain (OpenSpec.ofChange centralCrowdsSpec)) centralCrowdsCard

/-- THE TIED CARD OF 'quadrillekeep.DancePokes'. -/
def dancePokesCard : Claim7 := { stood := { row := dancePokesRow, standIns := [], harness := (true, "c6f55d05b03cf7820801fe364c569ecbd73704b9e009a9d755c8ab487a07502a"), looks := true }, kinds := [], alts := [], laidByText := true, laidKinds := [.data, .data, .handle, .data], laidTests := true, laidLooks := .later }
def DancePokesCardSaid : Prop := Claim7.holds Tryz.pinned (.plain (OpenSpec.ofChange dancePokesSpec)) dancePokesCard

/-- THE TIED CARD OF 'quadrillekeep.DanceDown'. -/
def danceDownCard : Claim7 := { stood := { row := danceDownRow, standIns := [], harness := (true, "c6f55d05b03cf7820801fe364c569ecbd73704b9e009a9d755c8ab487a07502a"), looks := true }, kinds := [], alts := [], laidByText := true, laidKinds := [.data, .data, .handle, .data], laidTests := true, laidLooks := .later }
def DanceDownCardSaid : Prop := Claim7.holds Tryz.pinned (.plain (OpenSpec.ofChange danceDownSpec)) danceDownCard

/-- THE TIED CARD OF 'quadrillekeep.DanceSame'. -/
def danceSameCard : Claim7 := { stood := { row := danceSameRow, standIns := [], harness := (true, "c6f55d05b03cf7820801fe364c569ecbd73704b9e009a9d755c8ab487a07502a"), looks := true }, kinds := [], alts := [], laidByText := true, laidKinds := [.data, .data, .handle, .data], laidTests := true, laidLooks := .later }
def DanceSameCardSaid : Prop := Claim7.holds Tryz.pinned (.plain (OpenSpec.ofChange danceSameSpec)) danceSameCard

/-- THE TIED CARD OF 'quadrillekeep.DanceThin'. -/
def danceThinCard : Claim7 := { stood := { row := danceThinRow, standIns := [], harness := (true, "c6f55d05b03cf7820801fe364c569ecbd73704b9e009a9d755c8ab487a07502a"), looks := true }, kinds := [], alts := [], laidByText := true, laidKinds := [.data, .data, .handle, .data], laidTests := true, laidLooks := .later }
def DanceThinCardSaid : Prop := Claim7.holds Tryz.pinned (.plain (OpenSpec.ofChange danceThinSpec)) danceThinCard

/-- THE SECOND FORM's CARD OF 'quadrillekeep.CentralLeaves'. -/
def centralLeavesUptoCard : Claim7 := { stood := { row := centralLeavesUptoRow, standIns := [], harness := (true, "c6f55d05b03cf7820801fe364c569ecbd73704b9e009a9d755c8ab487a07502a"), looks := true }, kinds := [], alts := [], laidByText := true, laidKinds := [.data, .data, .handle, .data], laidTests := true, laidLooks := .later }
def CentralLeavesUptoCardSaid : Prop := Claim7.holds Tryz.pinned (.plain (OpenSpec.upto centralLeavesSpec)) centralLeavesUptoCard

/-- THE SECOND FORM's CARD OF 'quadrillekeep.CombineLeaves'. -/
def combineLeavesUptoCard : Claim7 := { stood := { row := combineLeavesUptoRow, standIns := [], harness := (true, "c6f55d05b03cf7820801fe364c569ecbd73704b9e009a9d755c8ab487a07502a"), looks := true }, kinds := [], alts := [], laidByText := true, laidKinds := [.data, .data, .handle, .data], laidTests := true, laidLooks := .later }
def CombineLeavesUptoCardSaid : Prop := Claim7.holds Tryz.pinned (.plain (OpenSpec.upto combineLeavesSpec)) combineLeavesUptoCard

/-- THE SECOND FORM's CARD OF 'quadrillekeep.StaticLeaves'. -/
def staticLeavesUptoCard : Claim7 := { stood := { row := staticLeavesUptoRow, standIns := [], harness := (true, "c6f55d05b03cf7820801fe364c569ecbd73704b9e009a9d755c8ab487a07502a"), looks := true }, kinds := [], alts := [], laidByText := true, laidKinds := [.data, .data, .handle, .data], laidTests := true, laidLooks := .later }
def StaticLeavesUptoCardSaid : Prop := Claim7.holds Tryz.pinned (.plain (OpenSpec.upto staticLeavesSpec)) staticLeavesUptoCard

/-- THE SECOND FORM's CARD OF 'quadrillekeep.SpreadLeaves'. -/
def spreadLeavesUptoCard : Claim7 := { stood := { row := spreadLeavesUptoRow, standIns := [], harness := (true, "c6f55d05b03cf7820801fe364c569ecbd73704b9e009a9d755c8ab487a07502a"), looks := true }, kinds := [], alts := [], laidByText := true, laidKinds := [.data, .data, .handle, .data], laidTests := true, laidLooks := .later }
def SpreadLeavesUptoCardSaid : Prop := Claim7.holds Tryz.pinned (.plain (OpenSpec.upto spreadLeavesSpec)) spreadLeavesUptoCard

/-- THE SECOND FORM's CARD OF 'quadrillekeep.McsLeaves'. -/
def mcsLeavesUptoCard : Claim7 := { stood := { row := mcsLeavesUptoRow, standIns := [], harness := (true, "c6f55d05b03cf7820801fe364c569ecbd73704b9e009a9d755c8ab487a07502a"), looks := true }, kinds := [], alts := [], laidByText := true, laidKinds := [.data, .data, .handle, .data], laidTests := true, laidLooks := .later }
def McsLeavesUptoCardSaid : Prop := Claim7.holds Tryz.pinned (.plain (OpenSpec.upto mcsLeavesSpec)) mcsLeavesUptoCard

/-- THE SECOND FORM's CARD OF 'quadrillekeep.TourneyLeaves'. -/
def tourneyLeavesUptoCard : Claim7 := { stood := { row := tourneyLeavesUptoRow, standIns := [], harness := (true, "c6f55d05b03cf7820801fe364c569ecbd73704b9e009a9d755c8ab487a07502a"), looks := true }, kinds := [], alts := [], laidByText := true, laidKinds := [.data, .data, .handle, .data], laidTests := true, laidLooks := .later }
def TourneyLeavesUptoCardSaid : Prop := Claim7.holds Tryz.pinned (.plain (OpenSpec.upto tourneyLeavesSpec)) tourneyLeavesUptoCard

/-- THE SECOND FORM's CARD OF 'quadrillekeep.SpreadThin'. -/
def spreadThinUptoCard : Claim7 := { stood := { row := spreadThinUptoRow, standIns := [], harness := (true, "c6f55d05b03cf7820801fe364c569ecbd73704b9e009a9d755c8ab487a07502a"), looks := true }, kinds := [], alts := [], laidByText := true, laidKinds := [.data, .data, .handle, .data], laidTests := true, laidLooks := .later }
def SpreadThinUptoCardSaid : Prop := Claim7.holds Tryz.pinned (.plain (OpenSpec.upto spreadThinSpec)) spreadThinUptoCard

/-- THE SECOND FORM's CARD OF 'quadrillekeep.CentralCrowds'. -/
def centralCrowdsUptoCard : Claim7 := { stood := { row := centralCrowdsUptoRow, standIns := [], harness := (true, "c6f55d05b03cf7820801fe364c569ecbd73704b9e009a9d755c8ab487a07502a"), looks := true }, kinds := [], alts := [], laidByText := true, laidKinds := [.data, .data, .handle, .data], laidTests := true, laidLooks := .later }
def CentralCrowdsUptoCardSaid : Prop := Claim7.holds Tryz.pinned (.plain (OpenSpec.upto centralCrowdsSpec)) centralCrowdsUptoCard

/-- THE SECOND FORM's CARD OF 'quadrillekeep.DancePokes'. -/
def dancePokesUptoCard : Claim7 := { stood := { row := dancePokesUptoRow, standIns := [], harness := (true, "c6f55d05b03cf7820801fe364c569ecbd73704b9e009a9d755c8ab487a07502a"), looks := true }, kinds := [], alts := [], laidByText := true, laidKinds := [.data, .data, .handle, .data], laidTests := true, laidLooks := .later }
def DancePokesUptoCardSaid : Prop := Claim7.holds Tryz.pinned (.plain (OpenSpec.upto dancePokesSpec)) dancePokesUptoCard

/-- THE SECOND FORM's CARD OF 'quadrillekeep.DanceDown'. -/
def danceDownUptoCard : Claim7 := { stood := { row := danceDownUptoRow, standIns := [], harness := (true, "c6f55d05b03cf7820801fe364c569ecbd73704b9e009a9d755c8ab487a07502a"), looks := true }, kinds := [], alts := [], laidByText := true, laidKinds := [.data, .data, .handle, .data], laidTests := true, laidLooks := .later }
def DanceDownUptoCardSaid : Prop := Claim7.holds Tryz.pinned (.plain (OpenSpec.upto danceDownSpec)) danceDownUptoCard

/-- THE SECOND FORM's CARD OF 'quadrillekeep.DanceSame'. -/
def danceSameUptoCard : Claim7 := { stood := { row := danceSameUptoRow, standIns := [], harness := (true, "c6f55d05b03cf7820801fe364c569ecbd73704b9e009a9d755c8ab487a07502a"), looks := true }, kinds := [], alts := [], laidByText := true, laidKinds := [.data, .data, .handle, .data], laidTests := true, laidLooks := .later }
def DanceSameUptoCardSaid : Prop := Claim7.holds Tryz.pinned (.plain (OpenSpec.upto danceSameSpec)) danceSameUptoCard

/-- THE SECOND FORM's CARD OF 'quadrillekeep.DanceThin'. -/
def danceThinUptoCard : Claim7 := { stood := { row := danceThinUptoRow, standIns := [], harness := (true, "c6f55d05b03cf7820801fe364c569ecbd73704b9e009a9d755c8ab487a07502a"), looks := true }, kinds := [], alts := [], laidByText := true, laidKinds := [.data, .data, .handle, .data], laidTests := true, laidLooks := .later }
def DanceThinUptoCardSaid : Prop := Claim7.holds Tryz.pinned (.plain (OpenSpec.upto danceThinSpec)) danceThinUptoCard
end Rows
end Go.Proofs.YtjlhinjmnhpdaaaGreatDoor
