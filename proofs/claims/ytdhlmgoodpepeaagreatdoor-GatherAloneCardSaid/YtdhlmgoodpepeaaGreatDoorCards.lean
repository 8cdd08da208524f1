/-
  DERIVED. GIVEN WITH THE SEED: THE CARDS: each row of YtdhlmgoodpepeaaGreatDoorRows.lean that lists a variable, with what it lists TIED to the program's text (the seventh form; the later family's looks); each row that meets fmt, with fmt's text TOLD by the authors' own Lean function (tested against real Go, not proved from fmt's source: count such statements apart). THE CARD IS WHAT COUNTS. Prove the row's statement (the work); the ties are given (YtdhlmgoodpepeaaGreatDoorTie.lean); close each card by the builder's one call (the guide's Derived/Test/ToyasCard.lean, 'card_holds'). Laid BY PROGRAM, IN A SANDBOX (cutbox-door.mjs). By AI agents, Wed Nov 11 2026. No macro, syntax, notation, axiom, sorry.
-/
import Derived.Test.YtdhlmgoodpepeaaGreatDoorRows
import GoSem.ClaimSeven
namespace Go.Proofs.YtdhlmgoodpepeaaGreatDoor
namespace Rows

/-- THE TIED CARD OF 'quadrillekeep.GatherWithin'. -/
def gatherWithinCard : Claim7 := { stood := { row := gatherWithinRow, standIns := [], harness := (true, "3d7ea49130377776e72833ccacadedce40a93c84fe3b7e6b1a772b24d63da96a"), looks := true }, kinds := [], alts := [], laidByText := true, laidKinds := [.handle, .data], laidTests := true, laidLooks := .later }
def GatherWithinCardSaid : Prop := Claim7.holds Tryz.pinned (.plain (OpenSpec.ofChange gatherWithinSpec)) gatherWithinCard

/-- THE TIED CARD OF 'quadrillekeep.GatherPasses'. -/
def gatherPassesCard : Claim7 := { stood := { row := gatherPassesRow, standIns := [], harness := (true, "3d7ea49130377776e72833ccacadedce40a93c84fe3b7e6b1a772b24d63da96a"), looks := true }, kinds := [], alts := [], laidByText := true, laidKinds := [.handle, .data], laidTests := true, laidLooks := .later }
def GatherPassesCardSaid : Prop := Claim7.holds Tryz.pinned (.plain (OpenSpec.ofChange gatherPassesSpec)) gatherPassesCard

/-- THE TIED CARD OF 'quadrillekeep.GatherCloses'. -/
def gatherClosesCard : Claim7 := { stood := { row := gatherClosesRow, standIns := [], harness := (true, "3d7ea49130377776e72833ccacadedce40a93c84fe3b7e6b1a772b24d63da96a"), looks := true }, kinds := [], alts := [], laidByText := true, laidKinds := [.handle, .data], laidTests := true, laidLooks := .later }
def GatherClosesCardSaid : Prop := Claim7.holds Tryz.pinned (.plain (OpenSpec.ofChange gatherClosesSpec)) gatherClosesCard

/-- THE TIED CARD OF 'quadrillekeep.GatherAlone'. -/
def gatherAloneCard : Claim7 := { stood := { row := gatherAloneRow, standIns := [], harness := (true, "3d7ea49130377776e72833ccacadedce40a93c84fe3b7e6b1a772b24d63da96a"), looks := true }, kinds := [], alts := [], laidByText := true, laidKinds := [.handle, .data], laidTests := true, laidLooks := .later }
def GatherAloneCardSaid : Prop := Claim7.holds Tryz.pinned (.plain (OpenSpec.ofChange gatherAloneSpec)) gatherAloneCard

/-- THE TIED CARD OF 'quadrillekeep.GatherMisses'. -/
def gatherMissesCard : Claim7 := { stood := { row := gatherMissesRow, standIns := [], harness := (true, "3d7ea49130377776e72833ccacadedce40a93c84fe3b7e6b1a772b24d63da96a"), looks := true }, kinds := [], alts := [], laidByText := true, laidKinds := [.handle, .data], laidTests := true, laidLooks := .later }
def GatherMissesCardSaid : Prop := Claim7.holds Tryz.pinned (.plain (OpenSpec.ofChange gatherMissesSpec)) gatherMissesCard

/-- THE TIED CARD OF 'quadrillekeep.GatherJoins'. -/
def gatherJoinsCard : Claim7 := { stood := { row := gatherJoinsRow, standIns := [], harness := (true, "3d7ea49130377776e72833ccacadedce40a93c84fe3b7e6b1a772b24d63da96a"), looks := true }, kinds := [], alts := [], laidByText := true, laidKinds := [.handle, .data], laidTests := true, laidLooks := .later }
def GatherJoinsCardSaid : Prop := Claim7.holds Tryz.pinned (.plain (OpenSpec.ofChange gatherJoinsSpec)) gatherJoinsCard

/-- THE TIED CARD OF 'quadrillekeep.GatherLin'. -/
def gatherLinCard : Claim7 := { stood := { row := gatherLinRow, standIns := [], harness := (true, "3d7ea49130377776e72833ccacadedce40a93c84fe3b7e6b1a772b24d63da96a"), looks := true }, kinds := [], alts := [], laidByText := true, laidKinds := [.handle, .data], laidTests := true, laidLooks := .later }
def GatherLinCardSaid : Prop := Claim7.holds Tryz.pinned (.plain (OpenSpec.ofChange gatherLinSpec)) gatherLinCard

/-- THE TIED CARD OF 'quadrillekeep.LinOrder'. -/
def linOrderCard : Claim7 := { stood := { row := linOrderRow, standIns := [], harness := (true, "3d7ea49130377776e72833ccacadedce40a93c84fe3b7e6b1a772b24d63da96a"), looks := true }, kinds := [], alts := [], laidByText := true, laidKinds := [.handle, .data], laidTests := true, laidLooks := .later }
def LinOrderCardSaid : Prop := Claim7.holds Tryz.pinned (.plain (OpenSpec.ofChange linOrderSpec)) linOrderCard

/-- THE TIED CARD OF 'quadrillekeep.LinGrows'. -/
def linGrowsCard : Claim7 := { stood := { row := linGrowsRow, standIns := [], harness := (true, "3d7ea49130377776e72833ccacadedce40a93c84fe3b7e6b1a772b24d63da96a"), looks := true }, kinds := [], alts := [], laidByText := true, laidKinds := [.handle, .data], laidTests := true, laidLooks := .later }
def LinGrowsCardSaid : Prop := Claim7.holds Tryz.pinned (.plain (OpenSpec.ofChange linGrowsSpec)) linGrowsCard

/-- THE SECOND FORM's CARD OF 'quadrillekeep.GatherWithin'. -/
def gatherWithinUptoCard : Claim7 := { stood := { row := gatherWithinUptoRow, standIns := [], harness := (true, "3d7ea49130377776e72833ccacadedce40a93c84fe3b7e6b1a772b24d63da96a"), looks := true }, kinds := [], alts := [], laidByText := true, laidKinds := [.handle, .data], laidTests := true, laidLooks := .later }
def GatherWithinUptoCardSaid : Prop := Claim7.holds Tryz.pinned (.plain (OpenSpec.upto gatherWithinSpec)) gatherWithinUptoCard

/-- THE SECOND FORM's CARD OF 'quadrillekeep.GatherPasses'. -/
def gatherPassesUptoCard : Claim7 := { stood := { row := gatherPassesUptoRow, standIns := [], harness := (true, "3d7ea49130377776e72833ccacadedce40a93c84fe3b7e6b1a772b24d63da96a"), looks := true }, kinds := [], alts := [], laidByText := true, laidKinds := [.handle, .data], laidTests := true, laidLooks := .later }
def GatherPassesUptoCardSaid : Prop := Claim7.holds Tryz.pinned (.plain (OpenSpec.upto gatherPassesSpec)) gatherPassesUptoCard

/-- THE SECOND FORM's CARD OF 'quadrillekeep.GatherCloses'. -/
def gatherClosesUptoCard : Claim7 := { stood := { row := gatherClosesUptoRow, standIns := [], harness := (true, "3d7ea49130377776e72833ccacadedce40a93c84fe3b7e6b1a772b24d63da96a"), looks := true }, kinds := [], alts := [], laidByText := true, laidKinds := [.handle, .data], laidTests := true, laidLooks := .later }
def GatherClosesUptoCardSaid : Prop := Claim7.holds Tryz.pinned (.plain (OpenSpec.upto gatherClosesSpec)) gatherClosesUptoCard

/-- THE SECOND FORM's CARD OF 'quadrillekeep.GatherAlone'. -/
def gatherAloneUptoCard : Claim7 := { stood := { row := gatherAloneUptoRow, standIns := [], harness := (true, "3d7ea49130377776e72833ccacadedce40a93c84fe3b7e6b1a772b24d63da96a"), looks := true }, kinds := [], alts := [], laidByText := true, laidKinds := [.handle, .data], laidTests := true, laidLooks := .later }
def GatherAloneUptoCardSaid : Prop := Claim7.holds Tryz.pinned (.plain (OpenSpec.upto gatherAloneSpec)) gatherAloneUptoCard

/-- THE SECOND FORM's CARD OF 'quadrillekeep.GatherMisses'. -/
def gatherMissesUptoCard : Claim7 := { stood := { row := gatherMissesUptoRow, standIns := [], harness := (true, "3d7ea49130377776e72833ccacadedce40a93c84fe3b7e6b1a772b24d63da96a"), looks := true }, kinds := [], alts := [], laidByText := true, laidKinds := [.handle, .data], laidTests := true, laidLooks := .later }
def GatherMissesUptoCardSaid : Prop := Claim7.holds Tryz.pinned (.plain (OpenSpec.upto gatherMissesSpec)) gatherMissesUptoCard

/-- THE SECOND FORM's CARD OF 'quadrillekeep.GatherJoins'. -/
def gatherJoinsUptoCard : Claim7 := { stood := { row := gatherJoinsUptoRow, standIns := [], harness := (true, "3d7ea49130377776e72833ccacadedce40a93c84fe3b7e6b1a772b24d63da96a"), looks := true }, kinds := [], alts := [], laidByText := true, laidKinds := [.handle, .data], laidTests := true, laidLooks := .later }
def GatherJoinsUptoCardSaid : Prop := Claim7.holds Tryz.pinned (.plain (OpenSpec.upto gatherJoinsSpec)) gatherJoinsUptoCard

/-- THE SECOND FORM's CARD OF 'quadrillekeep.GatherLin'. -/
def gatherLinUptoCard : Claim7 := { stood := { row := gatherLinUptoRow, standIns := [], harness := (true, "3d7ea49130377776e72833ccacadedce40a93c84fe3b7e6b1a772b24d63da96a"), looks := true }, kinds := [], alts := [], laidByText := true, laidKinds := [.handle, .data], laidTests := true, laidLooks := .later }
def GatherLinUptoCardSaid : Prop := Claim7.holds Tryz.pinned (.plain (OpenSpec.upto gatherLinSpec)) gatherLinUptoCard

/-- THE SECOND FORM's CARD OF 'quadrillekeep.LinOrder'. -/
def linOrderUptoCard : Claim7 := { stood := { row := linOrderUptoRow, standIns := [], harness := (true, "3d7ea49130377776e72833ccacadedce40a93c84fe3b7e6b1a772b24d63da96a"), looks := true }, kinds := [], alts := [], laidByText := true, laidKinds := [.handle, .data], laidTests := true, laidLooks := .later }
def LinOrderUptoCardSaid : Prop := Claim7.holds Tryz.pinned (.plain (OpenSpec.upto linOrderSpec)) linOrderUptoCard

/-- THE SECOND FORM's CARD OF 'quadrillekeep.LinGrows'. -/
def linGrowsUptoCard : Claim7 := { stood := { row := linGrowsUptoRow, standIns := [], harness := (true, "3d7ea49130377776e72833ccacadedce40a93c84fe3b7e6b1a772b24d63da96a"), looks := true }, kinds := [], alts := [], laidByText := true, laidKinds := [.handle, .data], laidTests := true, laidLooks := .later }
def LinGrowsUptoCardSaid : Prop := Claim7.holds Tryz.pinned (.plain (OpenSpec.upto linGrowsSpec)) linGrowsUptoCard
end Rows
end Go.Proofs.YtdhlmgoodpepeaaGreatDoor
