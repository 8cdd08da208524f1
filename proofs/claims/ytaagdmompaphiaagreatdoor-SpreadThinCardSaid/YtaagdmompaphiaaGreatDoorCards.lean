/-
  DERIVED. GIVEN WITH THE SEED: THE CARDS: each row of YtaagdmompaphiaaGreatDoorRows.lean that lists a variable, with what it lists TIED to the program's text (the seventh form; the later family's looks); each row that meets fmt, with fmt's text TOLD by the authors' own Lean function (tested against real Go, not proved from fmt's source: count such statements apart). THE CARD IS WHAT COUNTS. Prove the row's statement (the work); the ties are given (YtaagdmompaphiaaGreatDoorTie.lean); close each card by the builder's one call (the guide's Derived/Test/ToyasCard.lean, 'card_holds'). Laid BY PROGRAM, IN A SANDBOX (cutbox-door.mjs). By AI agents, Wed Nov 11 2026. No macro, syntax, notation, axiom, sorry.
-/
import Derived.Test.YtaagdmompaphiaaGreatDoorRows
import GoSem.ClaimSeven
namespace Go.Proofs.YtaagdmompaphiaaGreatDoor
namespace Rows

/-- THE TIED CARD OF 'quadrillekeep.SpreadThin'. -/
def spreadThinCard : Claim7 := { stood := { row := spreadThinRow, standIns := [], harness := (true, "f3e498f15f0599c51ef48d4ca70d22bb4f2448dde73826260ef777617b4d9a2b"), looks := true }, kinds := [], alts := [], laidByText := true, laidKinds := [.data, .data, .handle, .data], laidTests := true, laidLooks := .later }
def SpreadThinCardSaid : Prop := Claim7.holds Tryz.pinned (.plain (OpenSpec.ofChange spreadThinSpec)) spreadThinCard

/-- THE TIED CARD OF 'quadrillekeep.DanceRight'. -/
def danceRightCard : Claim7 := { stood := { row := danceRightRow, standIns := [], harness := (true, "f3e498f15f0599c51ef48d4ca70d22bb4f2448dde73826260ef777617b4d9a2b"), looks := true }, kinds := [], alts := [], laidByText := true, laidKinds := [.data, .data, .data, .handle, .sentinel, .sentinel, .data], laidTests := true, laidLooks := .later }
def DanceRightCardSaid : Prop := Claim7.holds Tryz.pinned (.plain (OpenSpec.ofChange danceRightSpec)) danceRightCard

/-- THE TIED CARD OF 'quadrillekeep.JudgeMissing'. -/
def judgeMissingCard : Claim7 := { stood := { row := judgeMissingRow, standIns := [], harness := (true, "f3e498f15f0599c51ef48d4ca70d22bb4f2448dde73826260ef777617b4d9a2b"), looks := true }, kinds := [], alts := [], laidByText := true, laidKinds := [.data, .data, .handle, .data], laidTests := true, laidLooks := .later }
def JudgeMissingCardSaid : Prop := Claim7.holds Tryz.pinned (.plain (OpenSpec.ofChange judgeMissingSpec)) judgeMissingCard

/-- THE SECOND FORM's CARD OF 'quadrillekeep.SpreadThin'. -/
def spreadThinUptoCard : Claim7 := { stood := { row := spreadThinUptoRow, standIns := [], harness := (true, "f3e498f15f0599c51ef48d4ca70d22bb4f2448dde73826260ef777617b4d9a2b"), looks := true }, kinds := [], alts := [], laidByText := true, laidKinds := [.data, .data, .handle, .data], laidTests := true, laidLooks := .later }
def SpreadThinUptoCardSaid : Prop := Claim7.holds Tryz.pinned (.plain (OpenSpec.upto spreadThinSpec)) spreadThinUptoCard

/-- THE SECOND FORM's CARD OF 'quadrillekeep.DanceRight'. -/
def danceRightUptoCard : Claim7 := { stood := { row := danceRightUptoRow, standIns := [], harness := (true, "f3e498f15f0599c51ef48d4ca70d22bb4f2448dde73826260ef777617b4d9a2b"), looks := true }, kinds := [], alts := [], laidByText := true, laidKinds := [.data, .data, .data, .handle, .sentinel, .sentinel, .data], laidTests := true, laidLooks := .later }
def DanceRightUptoCardSaid : Prop := Claim7.holds Tryz.pinned (.plain (OpenSpec.upto danceRightSpec)) danceRightUptoCard

/-- THE SECOND FORM's CARD OF 'quadrillekeep.JudgeMissing'. -/
def judgeMissingUptoCard : Claim7 := { stood := { row := judgeMissingUptoRow, standIns := [], harness := (true, "f3e498f15f0599c51ef48d4ca70d22bb4f2448dde73826260ef777617b4d9a2b"), looks := true }, kinds := [], alts := [], laidByText := true, laidKinds := [.data, .data, .handle, .data], laidTests := true, laidLooks := .later }
def JudgeMissingUptoCardSaid : Prop := Claim7.holds Tryz.pinned (.plain (OpenSpec.upto judgeMissingSpec)) judgeMissingUptoCard
end Rows
end Go.Proofs.YtaagdmompaphiaaGreatDoor
