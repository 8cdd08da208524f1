/-
  DERIVED. GIVEN WITH THE SEED: THE CARDS: each row of YtdpknbcmjpnfgaaDoorRows.lean that lists a variable, with what it lists TIED to the program's text (the seventh form; the later family's looks); each row that meets fmt, with fmt's text TOLD by the authors' own Lean function (tested against real Go, not proved from fmt's source: count such statements apart). THE CARD IS WHAT COUNTS. Prove the row's statement (the work); the ties are given (YtdpknbcmjpnfgaaDoorTie.lean); close each card by the builder's one call (the guide's Derived/Test/ToyasCard.lean, 'card_holds'). Laid BY PROGRAM, IN A SANDBOX (cutbox-door.mjs). By AI agents, Wed Nov 11 2026. No macro, syntax, notation, axiom, sorry.
-/
import Derived.Test.YtdpknbcmjpnfgaaDoorRows
import GoSem.ClaimSeven
namespace Go.Proofs.YtdpknbcmjpnfgaaDoor
namespace Rows

/-- THE TIED CARD OF 'quadrillelaw.ScriptBytes'. -/
def scriptBytesCard : Claim7 := { stood := { row := scriptBytesRow, standIns := [], harness := (true, "1ae6faf8cf2711ca4e83280853460670cd3551de9133e2cb2cbadd91ee02b390"), looks := true }, kinds := [], alts := [], laidByText := true, laidKinds := [.data, .data, .handle], laidTests := true, laidLooks := .later }
def ScriptBytesCardSaid : Prop := Claim7.holds Tryd.pinned (.plain (OpenSpec.ofChange scriptBytesSpec)) scriptBytesCard

/-- THE TIED CARD OF 'quadrillekeep.ScriptBack'. -/
def scriptBackCard : Claim7 := { stood := { row := scriptBackRow, standIns := [], harness := (true, "1ae6faf8cf2711ca4e83280853460670cd3551de9133e2cb2cbadd91ee02b390"), looks := true }, kinds := [], alts := [], laidByText := true, laidKinds := [.data, .data], laidTests := true, laidLooks := .later }
def ScriptBackCardSaid : Prop := Claim7.holds Tryd.pinned (.plain (OpenSpec.ofChange scriptBackSpec)) scriptBackCard

/-- THE TIED CARD OF 'quadrillelaw.StoryPrints'. -/
def storyPrintsCard : Claim7 := { stood := { row := storyPrintsRow, standIns := [], harness := (true, "1ae6faf8cf2711ca4e83280853460670cd3551de9133e2cb2cbadd91ee02b390"), looks := true }, kinds := [], alts := [], laidByText := true, laidKinds := [.data, .data, .data, .handle, .data], laidTests := true, laidLooks := .later }
def StoryPrintsCardSaid : Prop := Claim7.holds Tryd.pinned (.plain (OpenSpec.ofChange storyPrintsSpec)) storyPrintsCard

/-- THE TIED CARD OF 'quadrillekeep.StoryBack'. -/
def storyBackCard : Claim7 := { stood := { row := storyBackRow, standIns := [], harness := (true, "1ae6faf8cf2711ca4e83280853460670cd3551de9133e2cb2cbadd91ee02b390"), looks := true }, kinds := [], alts := [], laidByText := true, laidKinds := [.data, .data, .data, .data, .sentinel, .sentinel, .data, .pinned], laidTests := true, laidLooks := .later }
def StoryBackCardSaid : Prop := Claim7.holds Tryd.pinned (.plain (OpenSpec.ofChange storyBackSpec)) storyBackCard

/-- THE TIED CARD OF 'quadrillekeep.StoryJoins'. -/
def storyJoinsCard : Claim7 := { stood := { row := storyJoinsRow, standIns := [], harness := (true, "1ae6faf8cf2711ca4e83280853460670cd3551de9133e2cb2cbadd91ee02b390"), looks := true }, kinds := [], alts := [], laidByText := true, laidKinds := [.data, .data, .data, .data, .sentinel, .sentinel, .data, .pinned], laidTests := true, laidLooks := .later }
def StoryJoinsCardSaid : Prop := Claim7.holds Tryd.pinned (.plain (OpenSpec.ofChange storyJoinsSpec)) storyJoinsCard

/-- THE SECOND FORM's CARD OF 'quadrillelaw.ScriptBytes'. -/
def scriptBytesUptoCard : Claim7 := { stood := { row := scriptBytesUptoRow, standIns := [], harness := (true, "1ae6faf8cf2711ca4e83280853460670cd3551de9133e2cb2cbadd91ee02b390"), looks := true }, kinds := [], alts := [], laidByText := true, laidKinds := [.data, .data, .handle], laidTests := true, laidLooks := .later }
def ScriptBytesUptoCardSaid : Prop := Claim7.holds Tryd.pinned (.plain (OpenSpec.upto scriptBytesSpec)) scriptBytesUptoCard

/-- THE SECOND FORM's CARD OF 'quadrillekeep.ScriptBack'. -/
def scriptBackUptoCard : Claim7 := { stood := { row := scriptBackUptoRow, standIns := [], harness := (true, "1ae6faf8cf2711ca4e83280853460670cd3551de9133e2cb2cbadd91ee02b390"), looks := true }, kinds := [], alts := [], laidByText := true, laidKinds := [.data, .data], laidTests := true, laidLooks := .later }
def ScriptBackUptoCardSaid : Prop := Claim7.holds Tryd.pinned (.plain (OpenSpec.upto scriptBackSpec)) scriptBackUptoCard

/-- THE SECOND FORM's CARD OF 'quadrillelaw.StoryPrints'. -/
def storyPrintsUptoCard : Claim7 := { stood := { row := storyPrintsUptoRow, standIns := [], harness := (true, "1ae6faf8cf2711ca4e83280853460670cd3551de9133e2cb2cbadd91ee02b390"), looks := true }, kinds := [], alts := [], laidByText := true, laidKinds := [.data, .data, .data, .handle, .data], laidTests := true, laidLooks := .later }
def StoryPrintsUptoCardSaid : Prop := Claim7.holds Tryd.pinned (.plain (OpenSpec.upto storyPrintsSpec)) storyPrintsUptoCard

/-- THE SECOND FORM's CARD OF 'quadrillekeep.StoryBack'. -/
def storyBackUptoCard : Claim7 := { stood := { row := storyBackUptoRow, standIns := [], harness := (true, "1ae6faf8cf2711ca4e83280853460670cd3551de9133e2cb2cbadd91ee02b390"), looks := true }, kinds := [], alts := [], laidByText := true, laidKinds := [.data, .data, .data, .data, .sentinel, .sentinel, .data, .pinned], laidTests := true, laidLooks := .later }
def StoryBackUptoCardSaid : Prop := Claim7.holds Tryd.pinned (.plain (OpenSpec.upto storyBackSpec)) storyBackUptoCard

/-- THE SECOND FORM's CARD OF 'quadrillekeep.StoryJoins'. -/
def storyJoinsUptoCard : Claim7 := { stood := { row := storyJoinsUptoRow, standIns := [], harness := (true, "1ae6faf8cf2711ca4e83280853460670cd3551de9133e2cb2cbadd91ee02b390"), looks := true }, kinds := [], alts := [], laidByText := true, laidKinds := [.data, .data, .data, .data, .sentinel, .sentinel, .data, .pinned], laidTests := true, laidLooks := .later }
def StoryJoinsUptoCardSaid : Prop := Claim7.holds Tryd.pinned (.plain (OpenSpec.upto storyJoinsSpec)) storyJoinsUptoCard
end Rows
end Go.Proofs.YtdpknbcmjpnfgaaDoor
