/-
  DERIVED. GIVEN WITH THE SEED: THE CARDS: each row of YtkmidefgmefohaaDoorRows.lean that lists a variable, with what it lists TIED to the program's text (the seventh form; the later family's looks); each row that meets fmt, with fmt's text TOLD by the authors' own Lean function (tested against real Go, not proved from fmt's source: count such statements apart). THE CARD IS WHAT COUNTS. Prove the row's statement (the work); the ties are given (YtkmidefgmefohaaDoorTie.lean); close each card by the builder's one call (the guide's Derived/Test/ToyasCard.lean, 'card_holds'). Laid BY PROGRAM, IN A SANDBOX (cutbox-door.mjs). By AI agents, Wed Nov 11 2026. No macro, syntax, notation, axiom, sorry.
-/
import Derived.Test.YtkmidefgmefohaaDoorRows
import GoSem.ClaimSeven
namespace Go.Proofs.YtkmidefgmefohaaDoor
namespace Rows

/-- THE TIED CARD OF 'quadrillelaw.PartChecks'. -/
def partChecksCard : Claim7 := { stood := { row := partChecksRow, standIns := [], harness := (true, "4980e00a8b942ee6efc8ca7c3335dccd1ab2a567cadcb0123db525118ff9ddde"), looks := true }, kinds := [], alts := [], laidByText := true, laidKinds := [.handle], laidTests := true, laidLooks := .later }
def PartChecksCardSaid : Prop := Claim7.holds Tryd.pinned (.plain (OpenSpec.ofChange partChecksSpec)) partChecksCard

/-- THE TIED CARD OF 'quadrillekeep.PartRounds'. -/
def partRoundsCard : Claim7 := { stood := { row := partRoundsRow, standIns := [], harness := (true, "4980e00a8b942ee6efc8ca7c3335dccd1ab2a567cadcb0123db525118ff9ddde"), looks := true }, kinds := [], alts := [], laidByText := true, laidKinds := [.handle, .data], laidTests := true, laidLooks := .later }
def PartRoundsCardSaid : Prop := Claim7.holds Tryd.pinned (.plain (OpenSpec.ofChange partRoundsSpec)) partRoundsCard

/-- THE TIED CARD OF 'quadrillekeep.PartAwaits'. -/
def partAwaitsCard : Claim7 := { stood := { row := partAwaitsRow, standIns := [], harness := (true, "4980e00a8b942ee6efc8ca7c3335dccd1ab2a567cadcb0123db525118ff9ddde"), looks := true }, kinds := [], alts := [], laidByText := true, laidKinds := [.handle, .data], laidTests := true, laidLooks := .later }
def PartAwaitsCardSaid : Prop := Claim7.holds Tryd.pinned (.plain (OpenSpec.ofChange partAwaitsSpec)) partAwaitsCard

/-- THE SECOND FORM's CARD OF 'quadrillelaw.PartChecks'. -/
def partChecksUptoCard : Claim7 := { stood := { row := partChecksUptoRow, standIns := [], harness := (true, "4980e00a8b942ee6efc8ca7c3335dccd1ab2a567cadcb0123db525118ff9ddde"), looks := true }, kinds := [], alts := [], laidByText := true, laidKinds := [.handle], laidTests := true, laidLooks := .later }
def PartChecksUptoCardSaid : Prop := Claim7.holds Tryd.pinned (.plain (OpenSpec.upto partChecksSpec)) partChecksUptoCard

/-- THE SECOND FORM's CARD OF 'quadrillekeep.PartRounds'. -/
def partRoundsUptoCard : Claim7 := { stood := { row := partRoundsUptoRow, standIns := [], harness := (true, "4980e00a8b942ee6efc8ca7c3335dccd1ab2a567cadcb0123db525118ff9ddde"), looks := true }, kinds := [], alts := [], laidByText := true, laidKinds := [.handle, .data], laidTests := true, laidLooks := .later }
def PartRoundsUptoCardSaid : Prop := Claim7.holds Tryd.pinned (.plain (OpenSpec.upto partRoundsSpec)) partRoundsUptoCard

/-- THE SECOND FORM's CARD OF 'quadrillekeep.PartAwaits'. -/
def partAwaitsUptoCard : Claim7 := { stood := { row := partAwaitsUptoRow, standIns := [], harness := (true, "4980e00a8b942ee6efc8ca7c3335dccd1ab2a567cadcb0123db525118ff9ddde"), looks := true }, kinds := [], alts := [], laidByText := true, laidKinds := [.handle, .data], laidTests := true, laidLooks := .later }
def PartAwaitsUptoCardSaid : Prop := Claim7.holds Tryd.pinned (.plain (OpenSpec.upto partAwaitsSpec)) partAwaitsUptoCard
end Rows
end Go.Proofs.YtkmidefgmefohaaDoor
