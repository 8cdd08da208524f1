/-
  DERIVED. GIVEN WITH THE SEED: THE CARDS: each row of YtbcbahoplfgimaaDoorRows.lean that lists a variable, with what it lists TIED to the program's text (the seventh form; the later family's looks); each row that meets fmt, with fmt's text TOLD by the authors' own Lean function (tested against real Go, not proved from fmt's source: count such statements apart). THE CARD IS WHAT COUNTS. Prove the row's statement (the work); the ties are given (YtbcbahoplfgimaaDoorTie.lean); close each card by the builder's one call (the guide's Derived/Test/ToyasCard.lean, 'card_holds'). Laid BY PROGRAM, IN A SANDBOX (cutbox-door.mjs). By AI agents, Wed Nov 11 2026. No macro, syntax, notation, axiom, sorry.
-/
import Derived.Test.YtbcbahoplfgimaaDoorRows
import GoSem.ClaimSeven
namespace Go.Proofs.YtbcbahoplfgimaaDoor
namespace Rows

/-- THE TIED CARD OF 'quadrillekeep.CoreSums'. -/
def coreSumsCard : Claim7 := { stood := { row := coreSumsRow, standIns := [], harness := (true, "44f25600dfbf0f4a7f982a053c8b08f75d695946082244dfc16d48e732f1b6f3"), looks := true }, kinds := [], alts := [], laidByText := true, laidKinds := [.handle, .data], laidTests := true, laidLooks := .later }
def CoreSumsCardSaid : Prop := Claim7.holds Tryd.pinned (.plain (OpenSpec.ofChange coreSumsSpec)) coreSumsCard

/-- THE TIED CARD OF 'quadrillekeep.CoreFields'. -/
def coreFieldsCard : Claim7 := { stood := { row := coreFieldsRow, standIns := [], harness := (true, "44f25600dfbf0f4a7f982a053c8b08f75d695946082244dfc16d48e732f1b6f3"), looks := true }, kinds := [], alts := [], laidByText := true, laidKinds := [.handle, .data], laidTests := true, laidLooks := .later }
def CoreFieldsCardSaid : Prop := Claim7.holds Tryd.pinned (.plain (OpenSpec.ofChange coreFieldsSpec)) coreFieldsCard

/-- THE TIED CARD OF 'quadrillekeep.CoreOrders'. -/
def coreOrdersCard : Claim7 := { stood := { row := coreOrdersRow, standIns := [], harness := (true, "44f25600dfbf0f4a7f982a053c8b08f75d695946082244dfc16d48e732f1b6f3"), looks := true }, kinds := [], alts := [], laidByText := true, laidKinds := [.handle, .data], laidTests := true, laidLooks := .later }
def CoreOrdersCardSaid : Prop := Claim7.holds Tryd.pinned (.plain (OpenSpec.ofChange coreOrdersSpec)) coreOrdersCard

/-- THE SECOND FORM's CARD OF 'quadrillekeep.CoreSums'. -/
def coreSumsUptoCard : Claim7 := { stood := { row := coreSumsUptoRow, standIns := [], harness := (true, "44f25600dfbf0f4a7f982a053c8b08f75d695946082244dfc16d48e732f1b6f3"), looks := true }, kinds := [], alts := [], laidByText := true, laidKinds := [.handle, .data], laidTests := true, laidLooks := .later }
def CoreSumsUptoCardSaid : Prop := Claim7.holds Tryd.pinned (.plain (OpenSpec.upto coreSumsSpec)) coreSumsUptoCard

/-- THE SECOND FORM's CARD OF 'quadrillekeep.CoreFields'. -/
def coreFieldsUptoCard : Claim7 := { stood := { row := coreFieldsUptoRow, standIns := [], harness := (true, "44f25600dfbf0f4a7f982a053c8b08f75d695946082244dfc16d48e732f1b6f3"), looks := true }, kinds := [], alts := [], laidByText := true, laidKinds := [.handle, .data], laidTests := true, laidLooks := .later }
def CoreFieldsUptoCardSaid : Prop := Claim7.holds Tryd.pinned (.plain (OpenSpec.upto coreFieldsSpec)) coreFieldsUptoCard

/-- THE SECOND FORM's CARD OF 'quadrillekeep.CoreOrders'. -/
def coreOrdersUptoCard : Claim7 := { stood := { row := coreOrdersUptoRow, standIns := [], harness := (true, "44f25600dfbf0f4a7f982a053c8b08f75d695946082244dfc16d48e732f1b6f3"), looks := true }, kinds := [], alts := [], laidByText := true, laidKinds := [.handle, .data], laidTests := true, laidLooks := .later }
def CoreOrdersUptoCardSaid : Prop := Claim7.holds Tryd.pinned (.plain (OpenSpec.upto coreOrdersSpec)) coreOrdersUptoCard
end Rows
end Go.Proofs.YtbcbahoplfgimaaDoor
