/-
  DERIVED. GIVEN WITH THE SEED: THE CARDS: each row of YtgkfhihnfllmhaaGreatDoorRows.lean that lists a variable, with what it lists TIED to the program's text (the seventh form; the later family's looks); each row that meets fmt, with fmt's text TOLD by the authors' own Lean function (tested against real Go, not proved from fmt's source: count such statements apart). THE CARD IS WHAT COUNTS. Prove the row's statement (the work); the ties are given (YtgkfhihnfllmhaaGreatDoorTie.lean); close each card by the builder's one call (the guide's Derived/Test/ToyasCard.lean, 'card_holds'). Laid BY PROGRAM, IN A SANDBOX (cutbox-door.mjs). By AI agents, Wed Nov 11 2026. No macro, syntax, notation, axiom, sorry.
-/
import Derived.Test.YtgkfhihnfllmhaaGreatDoorRows
import GoSem.ClaimSeven
namespace Go.Proofs.YtgkfhihnfllmhaaGreatDoor
namespace Rows

/-- THE TIED CARD OF 'quadrillekeep.ScriptJudged'. -/
def scriptJudgedCard : Claim7 := { stood := { row := scriptJudgedRow, standIns := [], harness := (true, "772fc1c225ab256eb22d7d69b4c871bafaea52d771a33a78aa0386c0f25e3886"), looks := true }, kinds := [], alts := [], laidByText := true, laidKinds := [.data, .data, .handle, .data], laidTests := true, laidLooks := .later }
def ScriptJudgedCardSaid : Prop := Claim7.holds Tryz.pinned (.plain (OpenSpec.ofChange scriptJudgedSpec)) scriptJudgedCard

/-- THE TIED CARD OF 'quadrillekeep.ScriptPieces'. -/
def scriptPiecesCard : Claim7 := { stood := { row := scriptPiecesRow, standIns := [], harness := (true, "772fc1c225ab256eb22d7d69b4c871bafaea52d771a33a78aa0386c0f25e3886"), looks := true }, kinds := [], alts := [], laidByText := true, laidKinds := [.data, .data, .handle, .data], laidTests := true, laidLooks := .later }
def ScriptPiecesCardSaid : Prop := Claim7.holds Tryz.pinned (.plain (OpenSpec.ofChange scriptPiecesSpec)) scriptPiecesCard

/-- THE TIED CARD OF 'quadrillekeep.StoryTrue'. -/
def storyTrueCard : Claim7 := { stood := { row := storyTrueRow, standIns := [], harness := (true, "772fc1c225ab256eb22d7d69b4c871bafaea52d771a33a78aa0386c0f25e3886"), looks := true }, kinds := [], alts := [], laidByText := true, laidKinds := [.data, .data, .data, .data, .handle, .sentinel, .sentinel, .data, .data, .pinned], laidTests := true, laidLooks := .later }
def StoryTrueCardSaid : Prop := Claim7.holds Tryz.pinned (.plain (OpenSpec.ofChange storyTrueSpec)) storyTrueCard

/-- THE TIED CARD OF 'quadrillekeep.GatherWithin'. -/
def gatherWithinCard : Claim7 := { stood := { row := gatherWithinRow, standIns := [], harness := (true, "772fc1c225ab256eb22d7d69b4c871bafaea52d771a33a78aa0386c0f25e3886"), looks := true }, kinds := [], alts := [], laidByText := true, laidKinds := [.handle, .data], laidTests := true, laidLooks := .later }
def GatherWithinCardSaid : Prop := Claim7.holds Tryz.pinned (.plain (OpenSpec.ofChange gatherWithinSpec)) gatherWithinCard

/-- THE TIED CARD OF 'quadrillekeep.GatherPasses'. -/
def gatherPassesCard : Claim7 := { stood := { row := gatherPassesRow, standIns := [], harness := (true, "772fc1c225ab256eb22d7d69b4c871bafaea52d771a33a78aa0386c0f25e3886"), looks := true }, kinds := [], alts := [], laidByText := true, laidKinds := [.handle, .data], laidTests := true, laidLooks := .later }
def GatherPassesCardSaid : Prop := Claim7.holds Tryz.pinned (.plain (OpenSpec.ofChange gatherPassesSpec)) gatherPassesCard

/-- THE TIED CARD OF 'quadrillekeep.GatherJoins'. -/
def gatherJoinsCard : Claim7 := { stood := { row := gatherJoinsRow, standIns := [], harness := (true, "772fc1c225ab256eb22d7d69b4c871bafaea52d771a33a78aa0386c0f25e3886"), looks := true }, kinds := [], alts := [], laidByText := true, laidKinds := [.handle, .data], laidTests := true, laidLooks := .later }
def GatherJoinsCardSaid : Prop := Claim7.holds Tryz.pinned (.plain (OpenSpec.ofChange gatherJoinsSpec)) gatherJoinsCard

/-- THE SECOND FORM's CARD OF 'quadrillekeep.ScriptJudged'. -/
def scriptJudgedUptoCard : Claim7 := { stood := { row := scriptJudgedUptoRow, standIns := [], harness := (true, "772fc1c225ab256eb22d7d69b4c871bafaea52d771a33a78aa0386c0f25e3886"), looks := true }, kinds := [], alts := [], laidByText := true, laidKinds := [.data, .data, .handle, .data], laidTests := true, laidLooks := .later }
def ScriptJudgedUptoCardSaid : Prop := Claim7.holds Tryz.pinned (.plain (OpenSpec.upto scriptJudgedSpec)) scriptJudgedUptoCard

/-- THE SECOND FORM's CARD OF 'quadrillekeep.ScriptPieces'. -/
def scriptPiecesUptoCard : Claim7 := { stood := { row := scriptPiecesUptoRow, standIns := [], harness := (true, "772fc1c225ab256eb22d7d69b4c871bafaea52d771a33a78aa0386c0f25e3886"), looks := true }, kinds := [], alts := [], laidByText := true, laidKinds := [.data, .data, .handle, .data], laidTests := true, laidLooks := .later }
def ScriptPiecesUptoCardSaid : Prop := Claim7.holds Tryz.pinned (.plain (OpenSpec.upto scriptPiecesSpec)) scriptPiecesUptoCard

/-- THE SECOND FORM's CARD OF 'quadrillekeep.StoryTrue'. -/
def storyTrueUptoCard : Claim7 := { stood := { row := storyTrueUptoRow, standIns := [], harness := (true, "772fc1c225ab256eb22d7d69b4c871bafaea52d771a33a78aa0386c0f25e3886"), looks := true }, kinds := [], alts := [], laidByText := true, laidKinds := [.data, .data, .data, .data, .handle, .sentinel, .sentinel, .data, .data, .pinned], laidTests := true, laidLooks := .later }
def StoryTrueUptoCardSaid : Prop := Claim7.holds Tryz.pinned (.plain (OpenSpec.upto storyTrueSpec)) storyTrueUptoCard

/-- THE SECOND FORM's CARD OF 'quadrillekeep.GatherWithin'. -/
def gatherWithinUptoCard : Claim7 := { stood := { row := gatherWithinUptoRow, standIns := [], harness := (true, "772fc1c225ab256eb22d7d69b4c871bafaea52d771a33a78aa0386c0f25e3886"), looks := true }, kinds := [], alts := [], laidByText := true, laidKinds := [.handle, .data], laidTests := true, laidLooks := .later }
def GatherWithinUptoCardSaid : Prop := Claim7.holds Tryz.pinned (.plain (OpenSpec.upto gatherWithinSpec)) gatherWithinUptoCard

/-- THE SECOND FORM's CARD OF 'quadrillekeep.GatherPasses'. -/
def gatherPassesUptoCard : Claim7 := { stood := { row := gatherPassesUptoRow, standIns := [], harness := (true, "772fc1c225ab256eb22d7d69b4c871bafaea52d771a33a78aa0386c0f25e3886"), looks := true }, kinds := [], alts := [], laidByText := true, laidKinds := [.handle, .data], laidTests := true, laidLooks := .later }
def GatherPassesUptoCardSaid : Prop := Claim7.holds Tryz.pinned (.plain (OpenSpec.upto gatherPassesSpec)) gatherPassesUptoCard

/-- THE SECOND FORM's CARD OF 'quadrillekeep.GatherJoins'. -/
def gatherJoinsUptoCard : Claim7 := { stood := { row := gatherJoinsUptoRow, standIns := [], harness := (true, "772fc1c225ab256eb22d7d69b4c871bafaea52d771a33a78aa0386c0f25e3886"), looks := true }, kinds := [], alts := [], laidByText := true, laidKinds := [.handle, .data], laidTests := true, laidLooks := .later }
def GatherJoinsUptoCardSaid : Prop := Claim7.holds Tryz.pinned (.plain (OpenSpec.upto gatherJoinsSpec)) gatherJoinsUptoCard
end Rows
end Go.Proofs.YtgkfhihnfllmhaaGreatDoor
