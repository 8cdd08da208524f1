/-
  DERIVED. GIVEN WITH THE SEED: THE CARDS: each row of YtlcffeiolpggfaaDoorRows.lean that lists a variable, with what it lists TIED to the program's text (the seventh form; the later family's looks); each row that meets fmt, with fmt's text TOLD by the authors' own Lean function (tested against real Go, not proved from fmt's source: count such statements apart). THE CARD IS WHAT COUNTS. Prove the row's statement (the work); the ties are given (YtlcffeiolpggfaaDoorTie.lean); close each card by the builder's one call (the guide's Derived/Test/ToyasCard.lean, 'card_holds'). Laid BY PROGRAM, IN A SANDBOX (cutbox-door.mjs). By AI agents, Wed Nov 11 2026. No macro, syntax, notation, axiom, sorry.
-/
import Derived.Test.YtlcffeiolpggfaaDoorRows
import GoSem.ClaimSeven
namespace Go.Proofs.YtlcffeiolpggfaaDoor
namespace Rows

/-- THE TIED CARD OF 'quadrillekeep.TradePairs'. -/
def tradePairsCard : Claim7 := { stood := { row := tradePairsRow, standIns := [], harness := (true, "2b77dcc38a4182b78a73dd2631583c6f797fb6ae126ce060a626d783a5fb59f6"), looks := true }, kinds := [], alts := [], laidByText := true, laidKinds := [.handle, .data], laidTests := true, laidLooks := .later }
def TradePairsCardSaid : Prop := Claim7.holds Tryd.pinned (.plain (OpenSpec.ofChange tradePairsSpec)) tradePairsCard

/-- THE TIED CARD OF 'quadrillekeep.TradeEnds'. -/
def tradeEndsCard : Claim7 := { stood := { row := tradeEndsRow, standIns := [], harness := (true, "2b77dcc38a4182b78a73dd2631583c6f797fb6ae126ce060a626d783a5fb59f6"), looks := true }, kinds := [], alts := [], laidByText := true, laidKinds := [.handle, .data], laidTests := true, laidLooks := .later }
def TradeEndsCardSaid : Prop := Claim7.holds Tryd.pinned (.plain (OpenSpec.ofChange tradeEndsSpec)) tradeEndsCard

/-- THE TIED CARD OF 'quadrillekeep.TradeSlots'. -/
def tradeSlotsCard : Claim7 := { stood := { row := tradeSlotsRow, standIns := [], harness := (true, "2b77dcc38a4182b78a73dd2631583c6f797fb6ae126ce060a626d783a5fb59f6"), looks := true }, kinds := [], alts := [], laidByText := true, laidKinds := [.handle, .data], laidTests := true, laidLooks := .later }
def TradeSlotsCardSaid : Prop := Claim7.holds Tryd.pinned (.plain (OpenSpec.ofChange tradeSlotsSpec)) tradeSlotsCard

/-- THE SECOND FORM's CARD OF 'quadrillekeep.TradePairs'. -/
def tradePairsUptoCard : Claim7 := { stood := { row := tradePairsUptoRow, standIns := [], harness := (true, "2b77dcc38a4182b78a73dd2631583c6f797fb6ae126ce060a626d783a5fb59f6"), looks := true }, kinds := [], alts := [], laidByText := true, laidKinds := [.handle, .data], laidTests := true, laidLooks := .later }
def TradePairsUptoCardSaid : Prop := Claim7.holds Tryd.pinned (.plain (OpenSpec.upto tradePairsSpec)) tradePairsUptoCard

/-- THE SECOND FORM's CARD OF 'quadrillekeep.TradeEnds'. -/
def tradeEndsUptoCard : Claim7 := { stood := { row := tradeEndsUptoRow, standIns := [], harness := (true, "2b77dcc38a4182b78a73dd2631583c6f797fb6ae126ce060a626d783a5fb59f6"), looks := true }, kinds := [], alts := [], laidByText := true, laidKinds := [.handle, .data], laidTests := true, laidLooks := .later }
def TradeEndsUptoCardSaid : Prop := Claim7.holds Tryd.pinned (.plain (OpenSpec.upto tradeEndsSpec)) tradeEndsUptoCard

/-- THE SECOND FORM's CARD OF 'quadrillekeep.TradeSlots'. -/
def tradeSlotsUptoCard : Claim7 := { stood := { row := tradeSlotsUptoRow, standIns := [], harness := (true, "2b77dcc38a4182b78a73dd2631583c6f797fb6ae126ce060a626d783a5fb59f6"), looks := true }, kinds := [], alts := [], laidByText := true, laidKinds := [.handle, .data], laidTests := true, laidLooks := .later }
def TradeSlotsUptoCardSaid : Prop := Claim7.holds Tryd.pinned (.plain (OpenSpec.upto tradeSlotsSpec)) tradeSlotsUptoCard
end Rows
end Go.Proofs.YtlcffeiolpggfaaDoor
