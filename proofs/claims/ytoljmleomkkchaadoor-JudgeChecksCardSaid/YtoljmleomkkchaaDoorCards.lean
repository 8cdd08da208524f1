/-
  DERIVED. GIVEN WITH THE SEED: THE CARDS: each row of YtoljmleomkkchaaDoorRows.lean that lists a variable, with what it lists TIED to the program's text (the seventh form; the later family's looks); each row that meets fmt, with fmt's text TOLD by the authors' own Lean function (tested against real Go, not proved from fmt's source: count such statements apart). THE CARD IS WHAT COUNTS. Prove the row's statement (the work); the ties are given (YtoljmleomkkchaaDoorTie.lean); close each card by the builder's one call (the guide's Derived/Test/ToyasCard.lean, 'card_holds'). Laid BY PROGRAM, IN A SANDBOX (cutbox-door.mjs). By AI agents, Wed Nov 11 2026. No macro, syntax, notation, axiom, sorry.
-/
import Derived.Test.YtoljmleomkkchaaDoorRows
import GoSem.ClaimSeven
namespace Go.Proofs.YtoljmleomkkchaaDoor
namespace Rows

/-- THE TIED CARD OF 'quadrillelaw.JudgeChecks'. -/
def judgeChecksCard : Claim7 := { stood := { row := judgeChecksRow, standIns := [], harness := (true, "995f585ab8ba843b595df038d4322fcfb951c82cfa3f443f919e834ed11f556a"), looks := true }, kinds := [], alts := [], laidByText := true, laidKinds := [.handle], laidTests := true, laidLooks := .later }
def JudgeChecksCardSaid : Prop := Claim7.holds Tryd.pinned (.plain (OpenSpec.ofChange judgeChecksSpec)) judgeChecksCard

/-- THE TIED CARD OF 'quadrillekeep.JudgeFree'. -/
def judgeFreeCard : Claim7 := { stood := { row := judgeFreeRow, standIns := [], harness := (true, "995f585ab8ba843b595df038d4322fcfb951c82cfa3f443f919e834ed11f556a"), looks := true }, kinds := [], alts := [], laidByText := true, laidKinds := [.handle], laidTests := true, laidLooks := .later }
def JudgeFreeCardSaid : Prop := Claim7.holds Tryd.pinned (.plain (OpenSpec.ofChange judgeFreeSpec)) judgeFreeCard

/-- THE TIED CARD OF 'quadrillekeep.JudgeSwaps'. -/
def judgeSwapsCard : Claim7 := { stood := { row := judgeSwapsRow, standIns := [], harness := (true, "995f585ab8ba843b595df038d4322fcfb951c82cfa3f443f919e834ed11f556a"), looks := true }, kinds := [], alts := [], laidByText := true, laidKinds := [.handle], laidTests := true, laidLooks := .later }
def JudgeSwapsCardSaid : Prop := Claim7.holds Tryd.pinned (.plain (OpenSpec.ofChange judgeSwapsSpec)) judgeSwapsCard

/-- THE TIED CARD OF 'quadrillelaw.FairIs'. -/
def fairIsCard : Claim7 := { stood := { row := fairIsRow, standIns := [], harness := (true, "995f585ab8ba843b595df038d4322fcfb951c82cfa3f443f919e834ed11f556a"), looks := true }, kinds := [], alts := [], laidByText := true, laidKinds := [.handle], laidTests := true, laidLooks := .later }
def FairIsCardSaid : Prop := Claim7.holds Tryd.pinned (.plain (OpenSpec.ofChange fairIsSpec)) fairIsCard

/-- THE SECOND FORM's CARD OF 'quadrillelaw.JudgeChecks'. -/
def judgeChecksUptoCard : Claim7 := { stood := { row := judgeChecksUptoRow, standIns := [], harness := (true, "995f585ab8ba843b595df038d4322fcfb951c82cfa3f443f919e834ed11f556a"), looks := true }, kinds := [], alts := [], laidByText := true, laidKinds := [.handle], laidTests := true, laidLooks := .later }
def JudgeChecksUptoCardSaid : Prop := Claim7.holds Tryd.pinned (.plain (OpenSpec.upto judgeChecksSpec)) judgeChecksUptoCard

/-- THE SECOND FORM's CARD OF 'quadrillekeep.JudgeFree'. -/
def judgeFreeUptoCard : Claim7 := { stood := { row := judgeFreeUptoRow, standIns := [], harness := (true, "995f585ab8ba843b595df038d4322fcfb951c82cfa3f443f919e834ed11f556a"), looks := true }, kinds := [], alts := [], laidByText := true, laidKinds := [.handle], laidTests := true, laidLooks := .later }
def JudgeFreeUptoCardSaid : Prop := Claim7.holds Tryd.pinned (.plain (OpenSpec.upto judgeFreeSpec)) judgeFreeUptoCard

/-- THE SECOND FORM's CARD OF 'quadrillekeep.JudgeSwaps'. -/
def judgeSwapsUptoCard : Claim7 := { stood := { row := judgeSwapsUptoRow, standIns := [], harness := (true, "995f585ab8ba843b595df038d4322fcfb951c82cfa3f443f919e834ed11f556a"), looks := true }, kinds := [], alts := [], laidByText := true, laidKinds := [.handle], laidTests := true, laidLooks := .later }
def JudgeSwapsUptoCardSaid : Prop := Claim7.holds Tryd.pinned (.plain (OpenSpec.upto judgeSwapsSpec)) judgeSwapsUptoCard

/-- THE SECOND FORM's CARD OF 'quadrillelaw.FairIs'. -/
def fairIsUptoCard : Claim7 := { stood := { row := fairIsUptoRow, standIns := [], harness := (true, "995f585ab8ba843b595df038d4322fcfb951c82cfa3f443f919e834ed11f556a"), looks := true }, kinds := [], alts := [], laidByText := true, laidKinds := [.handle], laidTests := true, laidLooks := .later }
def FairIsUptoCardSaid : Prop := Claim7.holds Tryd.pinned (.plain (OpenSpec.upto fairIsSpec)) fairIsUptoCard
end Rows
end Go.Proofs.YtoljmleomkkchaaDoor
