/-
  DERIVED. GIVEN WITH THE SEED: THE CARDS: each row of YthjifekpefjjaaaDoorRows.lean that lists a variable, with what it lists TIED to the program's text (the seventh form; the later family's looks); each row that meets fmt, with fmt's text TOLD by the authors' own Lean function (tested against real Go, not proved from fmt's source: count such statements apart). THE CARD IS WHAT COUNTS. Prove the row's statement (the work); the ties are given (YthjifekpefjjaaaDoorTie.lean); close each card by the builder's one call (the guide's Derived/Test/ToyasCard.lean, 'card_holds'). Laid BY PROGRAM, IN A SANDBOX (cutbox-door.mjs). By AI agents, Wed Nov 11 2026. No macro, syntax, notation, axiom, sorry.
-/
import Derived.Test.YthjifekpefjjaaaDoorRows
import GoSem.ClaimSeven
namespace Go.Proofs.YthjifekpefjjaaaDoor
namespace Rows

/-- THE TIED CARD OF 'quadrillelaw.MemTouches'. -/
def memTouchesCard : Claim7 := { stood := { row := memTouchesRow, standIns := [], harness := (true, "bd056fc5c6fed8b0c82537cf8d4fedef37c00642f5741f5e50cee0ac21ba4bf7"), looks := true }, kinds := [], alts := [], laidByText := true, laidKinds := [.data, .data, .data, .handle], laidTests := true, laidLooks := .later }
def MemTouchesCardSaid : Prop := Claim7.holds Tryd.pinned (.plain (OpenSpec.ofChange memTouchesSpec)) memTouchesCard

/-- THE TIED CARD OF 'quadrillelaw.MemNews'. -/
def memNewsCard : Claim7 := { stood := { row := memNewsRow, standIns := [], harness := (true, "bd056fc5c6fed8b0c82537cf8d4fedef37c00642f5741f5e50cee0ac21ba4bf7"), looks := true }, kinds := [], alts := [], laidByText := true, laidKinds := [.handle], laidTests := true, laidLooks := .later }
def MemNewsCardSaid : Prop := Claim7.holds Tryd.pinned (.plain (OpenSpec.ofChange memNewsSpec)) memNewsCard

/-- THE TIED CARD OF 'quadrillelaw.ParkNaps'. -/
def parkNapsCard : Claim7 := { stood := { row := parkNapsRow, standIns := [], harness := (true, "bd056fc5c6fed8b0c82537cf8d4fedef37c00642f5741f5e50cee0ac21ba4bf7"), looks := true }, kinds := [], alts := [], laidByText := true, laidKinds := [.handle], laidTests := true, laidLooks := .later }
def ParkNapsCardSaid : Prop := Claim7.holds Tryd.pinned (.plain (OpenSpec.ofChange parkNapsSpec)) parkNapsCard

/-- THE TIED CARD OF 'quadrillekeep.ParkOnce'. -/
def parkOnceCard : Claim7 := { stood := { row := parkOnceRow, standIns := [], harness := (true, "bd056fc5c6fed8b0c82537cf8d4fedef37c00642f5741f5e50cee0ac21ba4bf7"), looks := true }, kinds := [], alts := [], laidByText := true, laidKinds := [.handle], laidTests := true, laidLooks := .later }
def ParkOnceCardSaid : Prop := Claim7.holds Tryd.pinned (.plain (OpenSpec.ofChange parkOnceSpec)) parkOnceCard

/-- THE SECOND FORM's CARD OF 'quadrillelaw.MemTouches'. -/
def memTouchesUptoCard : Claim7 := { stood := { row := memTouchesUptoRow, standIns := [], harness := (true, "bd056fc5c6fed8b0c82537cf8d4fedef37c00642f5741f5e50cee0ac21ba4bf7"), looks := true }, kinds := [], alts := [], laidByText := true, laidKinds := [.data, .data, .data, .handle], laidTests := true, laidLooks := .later }
def MemTouchesUptoCardSaid : Prop := Claim7.holds Tryd.pinned (.plain (OpenSpec.upto memTouchesSpec)) memTouchesUptoCard

/-- THE SECOND FORM's CARD OF 'quadrillelaw.MemNews'. -/
def memNewsUptoCard : Claim7 := { stood := { row := memNewsUptoRow, standIns := [], harness := (true, "bd056fc5c6fed8b0c82537cf8d4fedef37c00642f5741f5e50cee0ac21ba4bf7"), looks := true }, kinds := [], alts := [], laidByText := true, laidKinds := [.handle], laidTests := true, laidLooks := .later }
def MemNewsUptoCardSaid : Prop := Claim7.holds Tryd.pinned (.plain (OpenSpec.upto memNewsSpec)) memNewsUptoCard

/-- THE SECOND FORM's CARD OF 'quadrillelaw.ParkNaps'. -/
def parkNapsUptoCard : Claim7 := { stood := { row := parkNapsUptoRow, standIns := [], harness := (true, "bd056fc5c6fed8b0c82537cf8d4fedef37c00642f5741f5e50cee0ac21ba4bf7"), looks := true }, kinds := [], alts := [], laidByText := true, laidKinds := [.handle], laidTests := true, laidLooks := .later }
def ParkNapsUptoCardSaid : Prop := Claim7.holds Tryd.pinned (.plain (OpenSpec.upto parkNapsSpec)) parkNapsUptoCard

/-- THE SECOND FORM's CARD OF 'quadrillekeep.ParkOnce'. -/
def parkOnceUptoCard : Claim7 := { stood := { row := parkOnceUptoRow, standIns := [], harness := (true, "bd056fc5c6fed8b0c82537cf8d4fedef37c00642f5741f5e50cee0ac21ba4bf7"), looks := true }, kinds := [], alts := [], laidByText := true, laidKinds := [.handle], laidTests := true, laidLooks := .later }
def ParkOnceUptoCardSaid : Prop := Claim7.holds Tryd.pinned (.plain (OpenSpec.upto parkOnceSpec)) parkOnceUptoCard
end Rows
end Go.Proofs.YthjifekpefjjaaaDoor
