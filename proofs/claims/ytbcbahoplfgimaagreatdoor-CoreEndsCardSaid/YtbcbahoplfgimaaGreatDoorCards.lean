/-
  DERIVED. GIVEN WITH THE SEED: THE CARDS: each row of YtbcbahoplfgimaaGreatDoorRows.lean that lists a variable, with what it lists TIED to the program's text (the seventh form; the later family's looks); each row that meets fmt, with fmt's text TOLD by the authors' own Lean function (tested against real Go, not proved from fmt's source: count such statements apart). THE CARD IS WHAT COUNTS. Prove the row's statement (the work); the ties are given (YtbcbahoplfgimaaGreatDoorTie.lean); close each card by the builder's one call (the guide's Derived/Test/ToyasCard.lean, 'card_holds'). Laid BY PROGRAM, IN A SANDBOX (cutbox-door.mjs). By AI agents, Wed Nov 11 2026. No macro, syntax, notation, axiom, sorry.
-/
import Derived.Test.YtbcbahoplfgimaaGreatDoorRows
import GoSem.ClaimSeven
namespace Go.Proofs.YtbcbahoplfgimaaGreatDoor
namespace Rows

/-- THE TIED CARD OF 'quadrillekeep.CoreApart'. -/
def coreApartCard : Claim7 := { stood := { row := coreApartRow, standIns := [], harness := (true, "0f7e755956609285d2b493d6b3360e4ab0c0593c0a1cc8258ad1526ebd8d387f"), looks := true }, kinds := [], alts := [], laidByText := true, laidKinds := [.data, .data, .data, .handle, .sentinel, .sentinel, .data], laidTests := true, laidLooks := .later }
def CoreApartCardSaid : Prop := Claim7.holds Tryz.pinned (.plain (OpenSpec.ofChange coreApartSpec)) coreApartCard

/-- THE TIED CARD OF 'quadrillekeep.CoreActs'. -/
def coreActsCard : Claim7 := { stood := { row := coreActsRow, standIns := [], harness := (true, "0f7e755956609285d2b493d6b3360e4ab0c0593c0a1cc8258ad1526ebd8d387f"), looks := true }, kinds := [], alts := [], laidByText := true, laidKinds := [.data, .data, .data, .handle, .sentinel, .sentinel, .data], laidTests := true, laidLooks := .later }
def CoreActsCardSaid : Prop := Claim7.holds Tryz.pinned (.plain (OpenSpec.ofChange coreActsSpec)) coreActsCard

/-- THE TIED CARD OF 'quadrillekeep.CoreParts'. -/
def corePartsCard : Claim7 := { stood := { row := corePartsRow, standIns := [], harness := (true, "0f7e755956609285d2b493d6b3360e4ab0c0593c0a1cc8258ad1526ebd8d387f"), looks := true }, kinds := [], alts := [], laidByText := true, laidKinds := [.data, .data, .data, .handle, .sentinel, .sentinel, .data], laidTests := true, laidLooks := .later }
def CorePartsCardSaid : Prop := Claim7.holds Tryz.pinned (.plain (OpenSpec.ofChange corePartsSpec)) corePartsCard

/-- THE TIED CARD OF 'quadrillekeep.CoreEnds'. -/
def coreEndsCard : Claim7 := { stood := { row := coreEndsRow, standIns := [], harness := (true, "0f7e755956609285d2b493d6b3360e4ab0c0593c0a1cc8258ad1526ebd8d387f"), looks := true }, kinds := [], alts := [], laidByText := true, laidKinds := [.data, .data, .data, .handle, .sentinel, .sentinel, .data], laidTests := true, laidLooks := .later }
def CoreEndsCardSaid : Prop := Claim7.holds Tryz.pinned (.plain (OpenSpec.ofChange coreEndsSpec)) coreEndsCard

/-- THE TIED CARD OF 'quadrillekeep.CoreSleeps'. -/
def coreSleepsCard : Claim7 := { stood := { row := coreSleepsRow, standIns := [], harness := (true, "0f7e755956609285d2b493d6b3360e4ab0c0593c0a1cc8258ad1526ebd8d387f"), looks := true }, kinds := [], alts := [], laidByText := true, laidKinds := [.data, .data, .data, .handle, .sentinel, .sentinel, .data], laidTests := true, laidLooks := .later }
def CoreSleepsCardSaid : Prop := Claim7.holds Tryz.pinned (.plain (OpenSpec.ofChange coreSleepsSpec)) coreSleepsCard

/-- THE TIED CARD OF 'quadrillekeep.CoreSame'. -/
def coreSameCard : Claim7 := { stood := { row := coreSameRow, standIns := [], harness := (true, "0f7e755956609285d2b493d6b3360e4ab0c0593c0a1cc8258ad1526ebd8d387f"), looks := true }, kinds := [], alts := [], laidByText := true, laidKinds := [.data, .data, .data, .handle, .sentinel, .sentinel, .data], laidTests := true, laidLooks := .later }
def CoreSameCardSaid : Prop := Claim7.holds Tryz.pinned (.plain (OpenSpec.ofChange coreSameSpec)) coreSameCard

/-- THE SECOND FORM's CARD OF 'quadrillekeep.CoreApart'. -/
def coreApartUptoCard : Claim7 := { stood := { row := coreApartUptoRow, standIns := [], harness := (true, "0f7e755956609285d2b493d6b3360e4ab0c0593c0a1cc8258ad1526ebd8d387f"), looks := true }, kinds := [], alts := [], laidByText := true, laidKinds := [.data, .data, .data, .handle, .sentinel, .sentinel, .data], laidTests := true, laidLooks := .later }
def CoreApartUptoCardSaid : Prop := Claim7.holds Tryz.pinned (.plain (OpenSpec.upto coreApartSpec)) coreApartUptoCard

/-- THE SECOND FORM's CARD OF 'quadrillekeep.CoreActs'. -/
def coreActsUptoCard : Claim7 := { stood := { row := coreActsUptoRow, standIns := [], harness := (true, "0f7e755956609285d2b493d6b3360e4ab0c0593c0a1cc8258ad1526ebd8d387f"), looks := true }, kinds := [], alts := [], laidByText := true, laidKinds := [.data, .data, .data, .handle, .sentinel, .sentinel, .data], laidTests := true, laidLooks := .later }
def CoreActsUptoCardSaid : Prop := Claim7.holds Tryz.pinned (.plain (OpenSpec.upto coreActsSpec)) coreActsUptoCard

/-- THE SECOND FORM's CARD OF 'quadrillekeep.CoreParts'. -/
def corePartsUptoCard : Claim7 := { stood := { row := corePartsUptoRow, standIns := [], harness := (true, "0f7e755956609285d2b493d6b3360e4ab0c0593c0a1cc8258ad1526ebd8d387f"), looks := true }, kinds := [], alts := [], laidByText := true, laidKinds := [.data, .data, .data, .handle, .sentinel, .sentinel, .data], laidTests := true, laidLooks := .later }
def CorePartsUptoCardSaid : Prop := Claim7.holds Tryz.pinned (.plain (OpenSpec.upto corePartsSpec)) corePartsUptoCard

/-- THE SECOND FORM's CARD OF 'quadrillekeep.CoreEnds'. -/
def coreEndsUptoCard : Claim7 := { stood := { row := coreEndsUptoRow, standIns := [], harness := (true, "0f7e755956609285d2b493d6b3360e4ab0c0593c0a1cc8258ad1526ebd8d387f"), looks := true }, kinds := [], alts := [], laidByText := true, laidKinds := [.data, .data, .data, .handle, .sentinel, .sentinel, .data], laidTests := true, laidLooks := .later }
def CoreEndsUptoCardSaid : Prop := Claim7.holds Tryz.pinned (.plain (OpenSpec.upto coreEndsSpec)) coreEndsUptoCard

/-- THE SECOND FORM's CARD OF 'quadrillekeep.CoreSleeps'. -/
def coreSleepsUptoCard : Claim7 := { stood := { row := coreSleepsUptoRow, standIns := [], harness := (true, "0f7e755956609285d2b493d6b3360e4ab0c0593c0a1cc8258ad1526ebd8d387f"), looks := true }, kinds := [], alts := [], laidByText := true, laidKinds := [.data, .data, .data, .handle, .sentinel, .sentinel, .data], laidTests := true, laidLooks := .later }
def CoreSleepsUptoCardSaid : Prop := Claim7.holds Tryz.pinned (.plain (OpenSpec.upto coreSleepsSpec)) coreSleepsUptoCard

/-- THE SECOND FORM's CARD OF 'quadrillekeep.CoreSame'. -/
def coreSameUptoCard : Claim7 := { stood := { row := coreSameUptoRow, standIns := [], harness := (true, "0f7e755956609285d2b493d6b3360e4ab0c0593c0a1cc8258ad1526ebd8d387f"), looks := true }, kinds := [], alts := [], laidByText := true, laidKinds := [.data, .data, .data, .handle, .sentinel, .sentinel, .data], laidTests := true, laidLooks := .later }
def CoreSameUptoCardSaid : Prop := Claim7.holds Tryz.pinned (.plain (OpenSpec.upto coreSameSpec)) coreSameUptoCard
end Rows
end Go.Proofs.YtbcbahoplfgimaaGreatDoor
