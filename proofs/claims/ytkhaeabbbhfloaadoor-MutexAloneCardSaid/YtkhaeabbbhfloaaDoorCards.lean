/-
  DERIVED. GIVEN WITH THE SEED: THE CARDS: each row of YtkhaeabbbhfloaaDoorRows.lean that lists a variable, with what it lists TIED to the program's text (the seventh form; the later family's looks); each row that meets fmt, with fmt's text TOLD by the authors' own Lean function (tested against real Go, not proved from fmt's source: count such statements apart). THE CARD IS WHAT COUNTS. Prove the row's statement (the work); the ties are given (YtkhaeabbbhfloaaDoorTie.lean); close each card by the builder's one call (the guide's Derived/Test/ToyasCard.lean, 'card_holds'). Laid BY PROGRAM, IN A SANDBOX (cutbox-door.mjs). By AI agents, Wed Nov 11 2026. No macro, syntax, notation, axiom, sorry.
-/
import Derived.Test.YtkhaeabbbhfloaaDoorRows
import GoSem.ClaimSeven
namespace Go.Proofs.YtkhaeabbbhfloaaDoor
namespace Rows

/-- THE TIED CARD OF 'quadrillekeep.MutexOne'. -/
def mutexOneCard : Claim7 := { stood := { row := mutexOneRow, standIns := [], harness := (true, "2608b3033910442297c65e2168a80dfa3332f49bdf4635b148b5ba119a09d328"), looks := true }, kinds := [], alts := [], laidByText := true, laidKinds := [.handle, .data], laidTests := true, laidLooks := .later }
def MutexOneCardSaid : Prop := Claim7.holds Tryd.pinned (.plain (OpenSpec.ofChange mutexOneSpec)) mutexOneCard

/-- THE TIED CARD OF 'quadrillekeep.MutexEnds'. -/
def mutexEndsCard : Claim7 := { stood := { row := mutexEndsRow, standIns := [], harness := (true, "2608b3033910442297c65e2168a80dfa3332f49bdf4635b148b5ba119a09d328"), looks := true }, kinds := [], alts := [], laidByText := true, laidKinds := [.handle, .data], laidTests := true, laidLooks := .later }
def MutexEndsCardSaid : Prop := Claim7.holds Tryd.pinned (.plain (OpenSpec.ofChange mutexEndsSpec)) mutexEndsCard

/-- THE TIED CARD OF 'quadrillekeep.MutexAlone'. -/
def mutexAloneCard : Claim7 := { stood := { row := mutexAloneRow, standIns := [], harness := (true, "2608b3033910442297c65e2168a80dfa3332f49bdf4635b148b5ba119a09d328"), looks := true }, kinds := [], alts := [], laidByText := true, laidKinds := [.handle, .data], laidTests := true, laidLooks := .later }
def MutexAloneCardSaid : Prop := Claim7.holds Tryd.pinned (.plain (OpenSpec.ofChange mutexAloneSpec)) mutexAloneCard

/-- THE TIED CARD OF 'quadrillekeep.TicketOrder'. -/
def ticketOrderCard : Claim7 := { stood := { row := ticketOrderRow, standIns := [], harness := (true, "2608b3033910442297c65e2168a80dfa3332f49bdf4635b148b5ba119a09d328"), looks := true }, kinds := [], alts := [], laidByText := true, laidKinds := [.handle, .data], laidTests := true, laidLooks := .later }
def TicketOrderCardSaid : Prop := Claim7.holds Tryd.pinned (.plain (OpenSpec.ofChange ticketOrderSpec)) ticketOrderCard

/-- THE TIED CARD OF 'quadrillekeep.TicketTold'. -/
def ticketToldCard : Claim7 := { stood := { row := ticketToldRow, standIns := [], harness := (true, "2608b3033910442297c65e2168a80dfa3332f49bdf4635b148b5ba119a09d328"), looks := true }, kinds := [], alts := [], laidByText := true, laidKinds := [.handle, .data], laidTests := true, laidLooks := .later }
def TicketToldCardSaid : Prop := Claim7.holds Tryd.pinned (.plain (OpenSpec.ofChange ticketToldSpec)) ticketToldCard

/-- THE SECOND FORM's CARD OF 'quadrillekeep.MutexOne'. -/
def mutexOneUptoCard : Claim7 := { stood := { row := mutexOneUptoRow, standIns := [], harness := (true, "2608b3033910442297c65e2168a80dfa3332f49bdf4635b148b5ba119a09d328"), looks := true }, kinds := [], alts := [], laidByText := true, laidKinds := [.handle, .data], laidTests := true, laidLooks := .later }
def MutexOneUptoCardSaid : Prop := Claim7.holds Tryd.pinned (.plain (OpenSpec.upto mutexOneSpec)) mutexOneUptoCard

/-- THE SECOND FORM's CARD OF 'quadrillekeep.MutexEnds'. -/
def mutexEndsUptoCard : Claim7 := { stood := { row := mutexEndsUptoRow, standIns := [], harness := (true, "2608b3033910442297c65e2168a80dfa3332f49bdf4635b148b5ba119a09d328"), looks := true }, kinds := [], alts := [], laidByText := true, laidKinds := [.handle, .data], laidTests := true, laidLooks := .later }
def MutexEndsUptoCardSaid : Prop := Claim7.holds Tryd.pinned (.plain (OpenSpec.upto mutexEndsSpec)) mutexEndsUptoCard

/-- THE SECOND FORM's CARD OF 'quadrillekeep.MutexAlone'. -/
def mutexAloneUptoCard : Claim7 := { stood := { row := mutexAloneUptoRow, standIns := [], harness := (true, "2608b3033910442297c65e2168a80dfa3332f49bdf4635b148b5ba119a09d328"), looks := true }, kinds := [], alts := [], laidByText := true, laidKinds := [.handle, .data], laidTests := true, laidLooks := .later }
def MutexAloneUptoCardSaid : Prop := Claim7.holds Tryd.pinned (.plain (OpenSpec.upto mutexAloneSpec)) mutexAloneUptoCard

/-- THE SECOND FORM's CARD OF 'quadrillekeep.TicketOrder'. -/
def ticketOrderUptoCard : Claim7 := { stood := { row := ticketOrderUptoRow, standIns := [], harness := (true, "2608b3033910442297c65e2168a80dfa3332f49bdf4635b148b5ba119a09d328"), looks := true }, kinds := [], alts := [], laidByText := true, laidKinds := [.handle, .data], laidTests := true, laidLooks := .later }
def TicketOrderUptoCardSaid : Prop := Claim7.holds Tryd.pinned (.plain (OpenSpec.upto ticketOrderSpec)) ticketOrderUptoCard

/-- THE SECOND FORM's CARD OF 'quadrillekeep.TicketTold'. -/
def ticketToldUptoCard : Claim7 := { stood := { row := ticketToldUptoRow, standIns := [], harness := (true, "2608b3033910442297c65e2168a80dfa3332f49bdf4635b148b5ba119a09d328"), looks := true }, kinds := [], alts := [], laidByText := true, laidKinds := [.handle, .data], laidTests := true, laidLooks := .later }
def TicketToldUptoCardSaid : Prop := Claim7.holds Tryd.pinned (.plain (OpenSpec.upto ticketToldSpec)) ticketToldUptoCard
end Rows
end Go.Proofs.YtkhaeabbbhfloaaDoor
