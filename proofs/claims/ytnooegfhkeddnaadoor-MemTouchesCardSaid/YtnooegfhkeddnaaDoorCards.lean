/-
  DERIVED. GIVEN WITH THE SEED: THE CARDS: each row of YtnooegfhkeddnaaDoorRows.lean that lists a variable, with what it lists TIED to the program's text (the seventh form; the later family's looks); each row that meets fmt, with fmt's text TOLD by the authors' own Lean function (tested against real Go, not proved from fmt's source: count such statements apart). THE CARD IS WHAT COUNTS. Prove the row's statement (the work); the ties are given (YtnooegfhkeddnaaDoorTie.lean); close each card by the builder's one call (the guide's Derived/Test/ToyasCard.lean, 'card_holds'). Laid BY PROGRAM, IN A SANDBOX (cutbox-door.mjs). By AI agents, Wed Nov 11 2026. No macro, syntax, notation, axiom, sorry.
-/
import Derived.Test.YtnooegfhkeddnaaDoorRows
import GoSem.ClaimSeven
namespace Go.Proofs.YtnooegfhkeddnaaDoor
namespace Rows

/-- THE TIED CARD OF 'quadrillelaw.MemTouches'. -/
def memTouchesCard : Claim7 := { stood := { row := memTouchesRow, standIns := [], harness := (true, "4e9cb34ebef023dd83401481475f1c9808759ee28f690634457dbf240e4e3615"), looks := true }, kinds := [], alts := [], laidByText := true, laidKinds := [.data, .data, .data, .handle], laidTests := true, laidLooks := .later }
def MemTouchesCardSaid : Prop := Claim7.holds Tryd.pinned (.plain (OpenSpec.ofChange memTouchesSpec)) memTouchesCard

/-- THE TIED CARD OF 'quadrillelaw.ParkNaps'. -/
def parkNapsCard : Claim7 := { stood := { row := parkNapsRow, standIns := [], harness := (true, "4e9cb34ebef023dd83401481475f1c9808759ee28f690634457dbf240e4e3615"), looks := true }, kinds := [], alts := [], laidByText := true, laidKinds := [.handle], laidTests := true, laidLooks := .later }
def ParkNapsCardSaid : Prop := Claim7.holds Tryd.pinned (.plain (OpenSpec.ofChange parkNapsSpec)) parkNapsCard

/-- THE SECOND FORM's CARD OF 'quadrillelaw.MemTouches'. -/
def memTouchesUptoCard : Claim7 := { stood := { row := memTouchesUptoRow, standIns := [], harness := (true, "4e9cb34ebef023dd83401481475f1c9808759ee28f690634457dbf240e4e3615"), looks := true }, kinds := [], alts := [], laidByText := true, laidKinds := [.data, .data, .data, .handle], laidTests := true, laidLooks := .later }
def MemTouchesUptoCardSaid : Prop := Claim7.holds Tryd.pinned (.plain (OpenSpec.upto memTouchesSpec)) memTouchesUptoCard

/-- THE SECOND FORM's CARD OF 'quadrillelaw.ParkNaps'. -/
def parkNapsUptoCard : Claim7 := { stood := { row := parkNapsUptoRow, standIns := [], harness := (true, "4e9cb34ebef023dd83401481475f1c9808759ee28f690634457dbf240e4e3615"), looks := true }, kinds := [], alts := [], laidByText := true, laidKinds := [.handle], laidTests := true, laidLooks := .later }
def ParkNapsUptoCardSaid : Prop := Claim7.holds Tryd.pinned (.plain (OpenSpec.upto parkNapsSpec)) parkNapsUptoCard
end Rows
end Go.Proofs.YtnooegfhkeddnaaDoor
