/-
  DERIVED. GIVEN WITH THE SEED: THE CARDS: each row of YtdamiplpibacoaaDoorRows.lean that lists a variable, with what it lists TIED to the program's text (the seventh form; the later family's looks); each row that meets fmt, with fmt's text TOLD by the authors' own Lean function (tested against real Go, not proved from fmt's source: count such statements apart). THE CARD IS WHAT COUNTS. Prove the row's statement (the work); the ties are given (YtdamiplpibacoaaDoorTie.lean); close each card by the builder's one call (the guide's Derived/Test/ToyasCard.lean, 'card_holds'). Laid BY PROGRAM, IN A SANDBOX (cutbox-door.mjs). By AI agents, Wed Nov 11 2026. No macro, syntax, notation, axiom, sorry.
-/
import Derived.Test.YtdamiplpibacoaaDoorRows
import GoSem.ClaimSeven
namespace Go.Proofs.YtdamiplpibacoaaDoor
namespace Rows

/-- THE TIED CARD OF 'quadrillelaw.PackedWords'. -/
def packedWordsCard : Claim7 := { stood := { row := packedWordsRow, standIns := [], harness := (true, "c6ea0c0d8088eaf40f6c013136146a9583dbe55ea89084fe890c33aaca3f165e"), looks := true }, kinds := [], alts := [], laidByText := true, laidKinds := [.handle], laidTests := true, laidLooks := .later }
def PackedWordsCardSaid : Prop := Claim7.holds Tryd.pinned (.plain (OpenSpec.ofChange packedWordsSpec)) packedWordsCard

/-- THE TIED CARD OF 'quadrillelaw.PhaserDoes'. -/
def phaserDoesCard : Claim7 := { stood := { row := phaserDoesRow, standIns := [], harness := (true, "c6ea0c0d8088eaf40f6c013136146a9583dbe55ea89084fe890c33aaca3f165e"), looks := true }, kinds := [], alts := [], laidByText := true, laidKinds := [.handle], laidTests := true, laidLooks := .later }
def PhaserDoesCardSaid : Prop := Claim7.holds Tryd.pinned (.plain (OpenSpec.ofChange phaserDoesSpec)) phaserDoesCard

/-- THE SECOND FORM's CARD OF 'quadrillelaw.PackedWords'. -/
def packedWordsUptoCard : Claim7 := { stood := { row := packedWordsUptoRow, standIns := [], harness := (true, "c6ea0c0d8088eaf40f6c013136146a9583dbe55ea89084fe890c33aaca3f165e"), looks := true }, kinds := [], alts := [], laidByText := true, laidKinds := [.handle], laidTests := true, laidLooks := .later }
def PackedWordsUptoCardSaid : Prop := Claim7.holds Tryd.pinned (.plain (OpenSpec.upto packedWordsSpec)) packedWordsUptoCard

/-- THE SECOND FORM's CARD OF 'quadrillelaw.PhaserDoes'. -/
def phaserDoesUptoCard : Claim7 := { stood := { row := phaserDoesUptoRow, standIns := [], harness := (true, "c6ea0c0d8088eaf40f6c013136146a9583dbe55ea89084fe890c33aaca3f165e"), looks := true }, kinds := [], alts := [], laidByText := true, laidKinds := [.handle], laidTests := true, laidLooks := .later }
def PhaserDoesUptoCardSaid : Prop := Claim7.holds Tryd.pinned (.plain (OpenSpec.upto phaserDoesSpec)) phaserDoesUptoCard
end Rows
end Go.Proofs.YtdamiplpibacoaaDoor
