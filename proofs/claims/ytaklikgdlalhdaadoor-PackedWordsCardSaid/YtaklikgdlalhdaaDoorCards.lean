/-
  DERIVED. GIVEN WITH THE SEED: THE CARDS: each row of YtaklikgdlalhdaaDoorRows.lean that lists a variable, with what it lists TIED to the program's text (the seventh form; the later family's looks); each row that meets fmt, with fmt's text TOLD by the authors' own Lean function (tested against real Go, not proved from fmt's source: count such statements apart). THE CARD IS WHAT COUNTS. Prove the row's statement (the work); the ties are given (YtaklikgdlalhdaaDoorTie.lean); close each card by the builder's one call (the guide's Derived/Test/ToyasCard.lean, 'card_holds'). Laid BY PROGRAM, IN A SANDBOX (cutbox-door.mjs). By AI agents, Wed Nov 11 2026. No macro, syntax, notation, axiom, sorry.
-/
import Derived.Test.YtaklikgdlalhdaaDoorRows
import GoSem.ClaimSeven
namespace Go.Proofs.YtaklikgdlalhdaaDoor
namespace Rows

/-- THE TIED CARD OF 'quadrillelaw.PackedWords'. -/
def packedWordsCard : Claim7 := { stood := { row := packedWordsRow, standIns := [], harness := (true, "8b0ad6b69ad1c409c2e4850e45d5cfb7e1213c336659fb4eceba5d25fcb941ed"), looks := true }, kinds := [], alts := [], laidByText := true, laidKinds := [.handle], laidTests := true, laidLooks := .later }
def PackedWordsCardSaid : Prop := Claim7.holds Tryd.pinned (.plain (OpenSpec.ofChange packedWordsSpec)) packedWordsCard

/-- THE SECOND FORM's CARD OF 'quadrillelaw.PackedWords'. -/
def packedWordsUptoCard : Claim7 := { stood := { row := packedWordsUptoRow, standIns := [], harness := (true, "8b0ad6b69ad1c409c2e4850e45d5cfb7e1213c336659fb4eceba5d25fcb941ed"), looks := true }, kinds := [], alts := [], laidByText := true, laidKinds := [.handle], laidTests := true, laidLooks := .later }
def PackedWordsUptoCardSaid : Prop := Claim7.holds Tryd.pinned (.plain (OpenSpec.upto packedWordsSpec)) packedWordsUptoCard
end Rows
end Go.Proofs.YtaklikgdlalhdaaDoor
