/-
  NARROWER THAN 'FOR EVERY INPUT', by the rows' own cells (each row's printed sentence says how): TradePairs: laid · TradeEnds: laid · TradeSlots: laid.
  DERIVED. THE GIVEN ROWS OF THIS SEAT. 3 by the template 'for every input the law returns true; each argument reads behind the call as it read before'; 0 by the template 'total and deterministic' (their statements: YtlcffeiolpggfaaDoorTotals.lean).
  GIVEN WITH THE SEED: the statements are not yours to turn. If you find one false, say at which input.
  Laid BY PROGRAM, IN A SANDBOX (cutbox-rows.mjs): the forced cells as the released guide's own fill.sh prints them over the translation a17be8dd58ceffb2… (all of the seat's roots in one cut). By AI agents, Wed Nov 11 2026. No macro, syntax, notation, axiom, sorry.
-/
import Derived.Test.YtlcffeiolpggfaaDoorChecked
import GoSem.Claim
import GoSem.ClaimJoined
import GoSem.ClaimMapViews
import Derived.JoinedTies
import Derived.KernelRfl
namespace Go.Proofs.YtlcffeiolpggfaaDoor
/- THE CELL 'sum', in the pinned program and in every row, IS THE sha256 OF THE DUMP (.gsa) THAT YtlcffeiolpggfaaDoorProg.lean LOADS. Nothing in Lean hashes anything: it is a label: what it is worth is what the hold of that sum in a sandbox is worth. -/
noncomputable def Tryd.pinned : Pinned := { name := "ytlcffeiolpggfaadoor", sum := "a17be8dd58ceffb2c5fe31d54e6ac2350a9eef6f3c062691b38fe2bc38874733", checked := Tryd.checked }
namespace Rows
def none {H : Type} : Left H := { results := [], args := [] }

/- WHAT THE LISTED PACKAGE-LEVEL VARIABLES READ AS WHEN THE CALL BEGINS. Each datum BY PROGRAM (the guide's laid-datum.mjs) off the statement by which the dump's own 'gosem.cut.vars' lays the variable. In a bare row this is a premise. The card (YtlcffeiolpggfaaDoorCards.lean) ties it to the program's text. -/
def laid_errors_errorType {H : Type} : DataW H := .iface "internal/reflectlite.rtype" (.agg [.ptr (.lit (.string [101, 114, 114, 111, 114]))])
def laid_quadrille_code_forms {H : Type} : DataW H := .agg [.agg [.lit (.string [104, 97, 108, 116]), .agg [.lit (.int .i64 0), .lit (.int .i64 0), .lit (.int .i64 0), .lit (.int .i64 0)]], .agg [.lit (.string [108, 101, 116]), .agg [.lit (.int .i64 1), .lit (.int .i64 3), .lit (.int .i64 0), .lit (.int .i64 0)]], .agg [.lit (.string [99, 111, 112, 121]), .agg [.lit (.int .i64 1), .lit (.int .i64 1), .lit (.int .i64 0), .lit (.int .i64 0)]], .agg [.lit (.string [112, 108, 117, 115]), .agg [.lit (.int .i64 1), .lit (.int .i64 1), .lit (.int .i64 3), .lit (.int .i64 0)]], .agg [.lit (.string [115, 117, 109]), .agg [.lit (.int .i64 1), .lit (.int .i64 1), .lit (.int .i64 1), .lit (.int .i64 0)]], .agg [.lit (.string [102, 105, 101, 108, 100]), .agg [.lit (.int .i64 1), .lit (.int .i64 1), .lit (.int .i64 6), .lit (.int .i64 7)]], .agg [.lit (.string [108, 111, 97, 100]), .agg [.lit (.int .i64 1), .lit (.int .i64 2), .lit (.int .i64 0), .lit (.int .i64 0)]], .agg [.lit (.string [115, 116, 111, 114, 101]), .agg [.lit (.int .i64 2), .lit (.int .i64 1), .lit (.int .i64 5), .lit (.int .i64 0)]], .agg [.lit (.string [102, 101, 116, 99, 104]), .agg [.lit (.int .i64 1), .lit (.int .i64 2), .lit (.int .i64 3), .lit (.int .i64 0)]], .agg [.lit (.string [115, 119, 97, 112]), .agg [.lit (.int .i64 1), .lit (.int .i64 2), .lit (.int .i64 1), .lit (.int .i64 1)]], .agg [.lit (.string [106, 117, 109, 112]), .agg [.lit (.int .i64 4), .lit (.int .i64 0), .lit (.int .i64 0), .lit (.int .i64 0)]], .agg [.lit (.string [115, 97, 109, 101]), .agg [.lit (.int .i64 1), .lit (.int .i64 3), .lit (.int .i64 4), .lit (.int .i64 0)]], .agg [.lit (.string [108, 101, 115, 115]), .agg [.lit (.int .i64 1), .lit (.int .i64 1), .lit (.int .i64 4), .lit (.int .i64 0)]], .agg [.lit (.string [101, 113, 117, 97, 108]), .agg [.lit (.int .i64 1), .lit (.int .i64 1), .lit (.int .i64 4), .lit (.int .i64 0)]], .agg [.lit (.string [119, 97, 105, 116]), .agg [.lit (.int .i64 2), .lit (.int .i64 1), .lit (.int .i64 0), .lit (.int .i64 0)]], .agg [.lit (.string [119, 97, 107, 101]), .agg [.lit (.int .i64 2), .lit (.int .i64 3), .lit (.int .i64 5), .lit (.int .i64 0)]], .agg [.lit (.string [115, 97, 121]), .agg [.lit (.int .i64 3), .lit (.int .i64 1), .lit (.int .i64 0), .lit (.int .i64 0)]]]

/-- 'quadrillekeep.TradePairs': WHATEVER THE INPUT: true; the input reads as it did. -/
def tradePairsSpec : ChangeSpec := { name := "tradePairs", fn := fun _ => fun
  | [d1, d2, d3] => { results := [.lit (.bool true)], args := [d1, d2, d3] }
  | _ => none }
def tradePairsRow : OpenClaim := { program := "ytlcffeiolpggfaadoor", sum := "a17be8dd58ceffb2c5fe31d54e6ac2350a9eef6f3c062691b38fe2bc38874733", func := "quadrille/quadrillekeep.TradePairs", spec := "tradePairs", inPlace := ["internal/reflectlite.ValueOf", "(internal/reflectlite.Value).Type", "(internal/reflectlite.Value).IsNil", "internal/reflectlite.TypeOf", "(internal/reflectlite.Value).Elem", "(internal/reflectlite.Value).Set"], unfollowed := true, recurses := true, named := ["quadrille/code.forms", "errors.errorType"], apart := false, laid := [("errors.errorType", laid_errors_errorType), ("quadrille/code.forms", laid_quadrille_code_forms)] }
def TradePairsSaid : Prop := tradePairsRow.holds Tryd.pinned (OpenSpec.ofChange tradePairsSpec)

/-- ITS FALSE NEIGHBOUR: 'it returns false'. Refute it at one input. -/
def tradePairsWrong : ChangeSpec := { name := "tradePairs", fn := fun _ => fun
  | [d1, d2, d3] => { results := [.lit (.bool false)], args := [d1, d2, d3] }
  | _ => none }
def TradePairsWrongFalsely : Prop := tradePairsRow.holds Tryd.pinned (OpenSpec.ofChange tradePairsWrong)

/-- 'quadrillekeep.TradeEnds': WHATEVER THE INPUT: true; the input reads as it did. -/
def tradeEndsSpec : ChangeSpec := { name := "tradeEnds", fn := fun _ => fun
  | [d1, d2] => { results := [.lit (.bool true)], args := [d1, d2] }
  | _ => none }
def tradeEndsRow : OpenClaim := { program := "ytlcffeiolpggfaadoor", sum := "a17be8dd58ceffb2c5fe31d54e6ac2350a9eef6f3c062691b38fe2bc38874733", func := "quadrille/quadrillekeep.TradeEnds", spec := "tradeEnds", inPlace := ["internal/reflectlite.ValueOf", "(internal/reflectlite.Value).Type", "(internal/reflectlite.Value).IsNil", "internal/reflectlite.TypeOf", "(internal/reflectlite.Value).Elem", "(internal/reflectlite.Value).Set"], unfollowed := true, recurses := true, named := ["quadrille/code.forms", "errors.errorType"], apart := false, laid := [("errors.errorType", laid_errors_errorType), ("quadrille/code.forms", laid_quadrille_code_forms)] }
def TradeEndsSaid : Prop := tradeEndsRow.holds Tryd.pinned (OpenSpec.ofChange tradeEndsSpec)

/-- ITS FALSE NEIGHBOUR: 'it returns false'. Refute it at one input. -/
def tradeEndsWrong : ChangeSpec := { name := "tradeEnds", fn := fun _ => fun
  | [d1, d2] => { results := [.lit (.bool false)], args := [d1, d2] }
  | _ => none }
def TradeEndsWrongFalsely : Prop := tradeEndsRow.holds Tryd.pinned (OpenSpec.ofChange tradeEndsWrong)

/-- 'quadrillekeep.TradeSlots': WHATEVER THE INPUT: true; the input reads as it did. -/
def tradeSlotsSpec : ChangeSpec := { name := "tradeSlots", fn := fun _ => fun
  | [d1, d2] => { results := [.lit (.bool true)], args := [d1, d2] }
  | _ => none }
def tradeSlotsRow : OpenClaim := { program := "ytlcffeiolpggfaadoor", sum := "a17be8dd58ceffb2c5fe31d54e6ac2350a9eef6f3c062691b38fe2bc38874733", func := "quadrille/quadrillekeep.TradeSlots", spec := "tradeSlots", inPlace := ["internal/reflectlite.ValueOf", "(internal/reflectlite.Value).Type", "(internal/reflectlite.Value).IsNil", "internal/reflectlite.TypeOf", "(internal/reflectlite.Value).Elem", "(internal/reflectlite.Value).Set"], unfollowed := true, recurses := true, named := ["quadrille/code.forms", "errors.errorType"], apart := false, laid := [("errors.errorType", laid_errors_errorType), ("quadrille/code.forms", laid_quadrille_code_forms)] }
def TradeSlotsSaid : Prop := tradeSlotsRow.holds Tryd.pinned (OpenSpec.ofChange tradeSlotsSpec)

/-- ITS FALSE NEIGHBOUR: 'it returns false'. Refute it at one input. -/
def tradeSlotsWrong : ChangeSpec := { name := "tradeSlots", fn := fun _ => fun
  | [d1, d2] => { results := [.lit (.bool false)], args := [d1, d2] }
  | _ => none }
def TradeSlotsWrongFalsely : Prop := tradeSlotsRow.holds Tryd.pinned (OpenSpec.ofChange tradeSlotsWrong)

/- THE SECOND FORM. 'bulk': how many values and letters a reading holds, each counted each time it is reached (what is shared counts as often as it is met; a slice's spare places count too). A statement '..UptoSaid' is the law's where the arguments, and the package variables that the reading takes, are together of bulk at most 1048576: NARROWER than '..Said'. Prove '..Said' where nothing that the law and all that it calls make is longer than what came in: it says more and counts as full. Else prove '..UptoSaid'. A law counts once. -/
mutual
def uptoBulk {H : Type} : DataW H → Nat
  | .lit (.string bytes) => bytes.length + 1
  | .lit _ => 1
  | .nil => 1
  | .ptr d => uptoBulk d + 1
  | .slice elems spare => uptoBulkAll elems + uptoBulkAll spare + 1
  | .agg parts => uptoBulkAll parts + 1
  | .iface _ d => uptoBulk d + 1
  | .map entries => uptoBulkEntries entries + 1
  | .held _ => 1
def uptoBulkAll {H : Type} : List (DataW H) → Nat
  | [] => 0
  | d :: r => uptoBulk d + uptoBulkAll r
def uptoBulkEntries {H : Type} : List (Lit × DataW H) → Nat
  | [] => 0
  | x :: r => uptoBulkEntry x + uptoBulkEntries r
def uptoBulkEntry {H : Type} : Lit × DataW H → Nat
  | (.string bytes, d) => bytes.length + uptoBulk d + 1
  | (_, d) => uptoBulk d + 1
 end
def uptoSmall : (H : Type) → List (DataW H) → Bool := fun _ ds => decide (uptoBulkAll ds ≤ 1048576)
def OpenSpec.upto (s : _root_.Go.ChangeSpec) : _root_.Go.OpenSpec := { _root_.Go.OpenSpec.ofChange s with cond := some uptoSmall }

/-- 'quadrillekeep.TradePairs', WHERE WHAT IT READS IS OF BULK AT MOST 1048576: true; the input reads as it did. -/
def tradePairsUptoRow : OpenClaim := { program := "ytlcffeiolpggfaadoor", sum := "a17be8dd58ceffb2c5fe31d54e6ac2350a9eef6f3c062691b38fe2bc38874733", func := "quadrille/quadrillekeep.TradePairs", spec := "tradePairs", inPlace := ["internal/reflectlite.ValueOf", "(internal/reflectlite.Value).Type", "(internal/reflectlite.Value).IsNil", "internal/reflectlite.TypeOf", "(internal/reflectlite.Value).Elem", "(internal/reflectlite.Value).Set"], unfollowed := true, recurses := true, named := ["quadrille/code.forms", "errors.errorType"], apart := false, laid := [("errors.errorType", laid_errors_errorType), ("quadrille/code.forms", laid_quadrille_code_forms)], narrowed := true }
def TradePairsUptoSaid : Prop := tradePairsUptoRow.holds Tryd.pinned (OpenSpec.upto tradePairsSpec)

/-- 'quadrillekeep.TradeEnds', WHERE WHAT IT READS IS OF BULK AT MOST 1048576: true; the input reads as it did. -/
def tradeEndsUptoRow : OpenClaim := { program := "ytlcffeiolpggfaadoor", sum := "a17be8dd58ceffb2c5fe31d54e6ac2350a9eef6f3c062691b38fe2bc38874733", func := "quadrille/quadrillekeep.TradeEnds", spec := "tradeEnds", inPlace := ["internal/reflectlite.ValueOf", "(internal/reflectlite.Value).Type", "(internal/reflectlite.Value).IsNil", "internal/reflectlite.TypeOf", "(internal/reflectlite.Value).Elem", "(internal/reflectlite.Value).Set"], unfollowed := true, recurses := true, named := ["quadrille/code.forms", "errors.errorType"], apart := false, laid := [("errors.errorType", laid_errors_errorType), ("quadrille/code.forms", laid_quadrille_code_forms)], narrowed := true }
def TradeEndsUptoSaid : Prop := tradeEndsUptoRow.holds Tryd.pinned (OpenSpec.upto tradeEndsSpec)

/-- 'quadrillekeep.TradeSlots', WHERE WHAT IT READS IS OF BULK AT MOST 1048576: true; the input reads as it did. -/
def tradeSlotsUptoRow : OpenClaim := { program := "ytlcffeiolpggfaadoor", sum := "a17be8dd58ceffb2c5fe31d54e6ac2350a9eef6f3c062691b38fe2bc38874733", func := "quadrille/quadrillekeep.TradeSlots", spec := "tradeSlots", inPlace := ["internal/reflectlite.ValueOf", "(internal/reflectlite.Value).Type", "(internal/reflectlite.Value).IsNil", "internal/reflectlite.TypeOf", "(internal/reflectlite.Value).Elem", "(internal/reflectlite.Value).Set"], unfollowed := true, recurses := true, named := ["quadrille/code.forms", "errors.errorType"], apart := false, laid := [("errors.errorType", laid_errors_errorType), ("quadrille/code.forms", laid_quadrille_code_forms)], narrowed := true }
def TradeSlotsUptoSaid : Prop := tradeSlotsUptoRow.holds Tryd.pinned (OpenSpec.upto tradeSlotsSpec)

end Rows
end Go.Proofs.YtlcffeiolpggfaaDoor
