/-
  NARROWER THAN 'FOR EVERY INPUT', by the rows' own cells (each row's printed sentence says how): LatchWaits: laid · LatchCounts: laid · LatchEnds: laid · LatchOrder: laid · SemaBound: laid · SemaEnds: laid · SemaOne: laid · SemaAlone: laid · CoreFetches: laid · CoreLoses: laid · CoreSwaps: laid.
  DERIVED. THE GIVEN ROWS OF THIS SEAT. 11 by the template 'for every input the law returns true; each argument reads behind the call as it read before'; 0 by the template 'total and deterministic' (their statements: YtdfljhechmanlaaDoorTotals.lean).
  GIVEN WITH THE SEED: the statements are not yours to turn. If you find one false, say at which input.
  Laid BY PROGRAM, IN A SANDBOX (cutbox-rows.mjs): the forced cells as the released guide's own fill.sh prints them over the translation 9081dd22ce9a3c01… (all of the seat's roots in one cut). By AI agents, Wed Nov 11 2026. No macro, syntax, notation, axiom, sorry.
-/
import Derived.Test.YtdfljhechmanlaaDoorChecked
import GoSem.Claim
import GoSem.ClaimJoined
import GoSem.ClaimMapViews
import Derived.JoinedTies
import Derived.KernelRfl
namespace Go.Proofs.YtdfljhechmanlaaDoor
/- THE CELL 'sum', in the pinned program and in every row, IS THE sha256 OF THE DUMP (.gsa) THAT YtdfljhechmanlaaDoorProg.lean LOADS. Nothing in Lean hashes anything: it is a label: what it is worth is what the hold of that sum in a sandbox is worth. -/
noncomputable def Tryd.pinned : Pinned := { name := "ytdfljhechmanlaadoor", sum := "9081dd22ce9a3c0147ef64e06f0cd4df8e57de5c2f6526fb2afb6df473096a67", checked := Tryd.checked }
namespace Rows
def none {H : Type} : Left H := { results := [], args := [] }

/- WHAT THE LISTED PACKAGE-LEVEL VARIABLES READ AS WHEN THE CALL BEGINS. Each datum BY PROGRAM (the guide's laid-datum.mjs) off the statement by which the dump's own 'gosem.cut.vars' lays the variable. In a bare row this is a premise. The card (YtdfljhechmanlaaDoorCards.lean) ties it to the program's text. -/
def laid_errors_errorType {H : Type} : DataW H := .iface "internal/reflectlite.rtype" (.agg [.ptr (.lit (.string [101, 114, 114, 111, 114]))])
def laid_quadrille_code_forms {H : Type} : DataW H := .agg [.agg [.lit (.string [104, 97, 108, 116]), .agg [.lit (.int .i64 0), .lit (.int .i64 0), .lit (.int .i64 0), .lit (.int .i64 0)]], .agg [.lit (.string [108, 101, 116]), .agg [.lit (.int .i64 1), .lit (.int .i64 3), .lit (.int .i64 0), .lit (.int .i64 0)]], .agg [.lit (.string [99, 111, 112, 121]), .agg [.lit (.int .i64 1), .lit (.int .i64 1), .lit (.int .i64 0), .lit (.int .i64 0)]], .agg [.lit (.string [112, 108, 117, 115]), .agg [.lit (.int .i64 1), .lit (.int .i64 1), .lit (.int .i64 3), .lit (.int .i64 0)]], .agg [.lit (.string [115, 117, 109]), .agg [.lit (.int .i64 1), .lit (.int .i64 1), .lit (.int .i64 1), .lit (.int .i64 0)]], .agg [.lit (.string [102, 105, 101, 108, 100]), .agg [.lit (.int .i64 1), .lit (.int .i64 1), .lit (.int .i64 6), .lit (.int .i64 7)]], .agg [.lit (.string [108, 111, 97, 100]), .agg [.lit (.int .i64 1), .lit (.int .i64 2), .lit (.int .i64 0), .lit (.int .i64 0)]], .agg [.lit (.string [115, 116, 111, 114, 101]), .agg [.lit (.int .i64 2), .lit (.int .i64 1), .lit (.int .i64 5), .lit (.int .i64 0)]], .agg [.lit (.string [102, 101, 116, 99, 104]), .agg [.lit (.int .i64 1), .lit (.int .i64 2), .lit (.int .i64 3), .lit (.int .i64 0)]], .agg [.lit (.string [115, 119, 97, 112]), .agg [.lit (.int .i64 1), .lit (.int .i64 2), .lit (.int .i64 1), .lit (.int .i64 1)]], .agg [.lit (.string [106, 117, 109, 112]), .agg [.lit (.int .i64 4), .lit (.int .i64 0), .lit (.int .i64 0), .lit (.int .i64 0)]], .agg [.lit (.string [115, 97, 109, 101]), .agg [.lit (.int .i64 1), .lit (.int .i64 3), .lit (.int .i64 4), .lit (.int .i64 0)]], .agg [.lit (.string [108, 101, 115, 115]), .agg [.lit (.int .i64 1), .lit (.int .i64 1), .lit (.int .i64 4), .lit (.int .i64 0)]], .agg [.lit (.string [101, 113, 117, 97, 108]), .agg [.lit (.int .i64 1), .lit (.int .i64 1), .lit (.int .i64 4), .lit (.int .i64 0)]], .agg [.lit (.string [119, 97, 105, 116]), .agg [.lit (.int .i64 2), .lit (.int .i64 1), .lit (.int .i64 0), .lit (.int .i64 0)]], .agg [.lit (.string [119, 97, 107, 101]), .agg [.lit (.int .i64 2), .lit (.int .i64 3), .lit (.int .i64 5), .lit (.int .i64 0)]], .agg [.lit (.string [115, 97, 121]), .agg [.lit (.int .i64 3), .lit (.int .i64 1), .lit (.int .i64 0), .lit (.int .i64 0)]]]

/-- 'quadrillekeep.LatchWaits': WHATEVER THE INPUT: true; the input reads as it did. -/
def latchWaitsSpec : ChangeSpec := { name := "latchWaits", fn := fun _ => fun
  | [d1, d2, d3] => { results := [.lit (.bool true)], args := [d1, d2, d3] }
  | _ => none }
def latchWaitsRow : OpenClaim := { program := "ytdfljhechmanlaadoor", sum := "9081dd22ce9a3c0147ef64e06f0cd4df8e57de5c2f6526fb2afb6df473096a67", func := "quadrille/quadrillekeep.LatchWaits", spec := "latchWaits", inPlace := ["internal/reflectlite.ValueOf", "(internal/reflectlite.Value).Type", "(internal/reflectlite.Value).IsNil", "internal/reflectlite.TypeOf", "(internal/reflectlite.Value).Elem", "(internal/reflectlite.Value).Set"], unfollowed := true, recurses := true, named := ["quadrille/code.forms", "errors.errorType"], apart := false, laid := [("errors.errorType", laid_errors_errorType), ("quadrille/code.forms", laid_quadrille_code_forms)] }
def LatchWaitsSaid : Prop := latchWaitsRow.holds Tryd.pinned (OpenSpec.ofChange latchWaitsSpec)

/-- ITS FALSE NEIGHBOUR: 'it returns false'. Refute it at one input. -/
def latchWaitsWrong : ChangeSpec := { name := "latchWaits", fn := fun _ => fun
  | [d1, d2, d3] => { results := [.lit (.bool false)], args := [d1, d2, d3] }
  | _ => none }
def LatchWaitsWrongFalsely : Prop := latchWaitsRow.holds Tryd.pinned (OpenSpec.ofChange latchWaitsWrong)

/-- 'quadrillekeep.LatchCounts': WHATEVER THE INPUT: true; the input reads as it did. -/
def latchCountsSpec : ChangeSpec := { name := "latchCounts", fn := fun _ => fun
  | [d1, d2, d3] => { results := [.lit (.bool true)], args := [d1, d2, d3] }
  | _ => none }
def latchCountsRow : OpenClaim := { program := "ytdfljhechmanlaadoor", sum := "9081dd22ce9a3c0147ef64e06f0cd4df8e57de5c2f6526fb2afb6df473096a67", func := "quadrille/quadrillekeep.LatchCounts", spec := "latchCounts", inPlace := ["internal/reflectlite.ValueOf", "(internal/reflectlite.Value).Type", "(internal/reflectlite.Value).IsNil", "internal/reflectlite.TypeOf", "(internal/reflectlite.Value).Elem", "(internal/reflectlite.Value).Set"], unfollowed := true, recurses := true, named := ["quadrille/code.forms", "errors.errorType"], apart := false, laid := [("errors.errorType", laid_errors_errorType), ("quadrille/code.forms", laid_quadrille_code_forms)] }
def LatchCountsSaid : Prop := latchCountsRow.holds Tryd.pinned (OpenSpec.ofChange latchCountsSpec)

/-- ITS FALSE NEIGHBOUR: 'it returns false'. Refute it at one input. -/
def latchCountsWrong : ChangeSpec := { name := "latchCounts", fn := fun _ => fun
  | [d1, d2, d3] => { results := [.lit (.bool false)], args := [d1, d2, d3] }
  | _ => none }
def LatchCountsWrongFalsely : Prop := latchCountsRow.holds Tryd.pinned (OpenSpec.ofChange latchCountsWrong)

/-- 'quadrillekeep.LatchEnds': WHATEVER THE INPUT: true; the input reads as it did. -/
def latchEndsSpec : ChangeSpec := { name := "latchEnds", fn := fun _ => fun
  | [d1, d2, d3, d4] => { results := [.lit (.bool true)], args := [d1, d2, d3, d4] }
  | _ => none }
def latchEndsRow : OpenClaim := { program := "ytdfljhechmanlaadoor", sum := "9081dd22ce9a3c0147ef64e06f0cd4df8e57de5c2f6526fb2afb6df473096a67", func := "quadrille/quadrillekeep.LatchEnds", spec := "latchEnds", inPlace := ["internal/reflectlite.ValueOf", "(internal/reflectlite.Value).Type", "(internal/reflectlite.Value).IsNil", "internal/reflectlite.TypeOf", "(internal/reflectlite.Value).Elem", "(internal/reflectlite.Value).Set"], unfollowed := true, recurses := true, named := ["quadrille/code.forms", "errors.errorType"], apart := false, laid := [("errors.errorType", laid_errors_errorType), ("quadrille/code.forms", laid_quadrille_code_forms)] }
def LatchEndsSaid : Prop := latchEndsRow.holds Tryd.pinned (OpenSpec.ofChange latchEndsSpec)

/-- ITS FALSE NEIGHBOUR: 'it returns false'. Refute it at one input. -/
def latchEndsWrong : ChangeSpec := { name := "latchEnds", fn := fun _ => fun
  | [d1, d2, d3, d4] => { results := [.lit (.bool false)], args := [d1, d2, d3, d4] }
  | _ => none }
def LatchEndsWrongFalsely : Prop := latchEndsRow.holds Tryd.pinned (OpenSpec.ofChange latchEndsWrong)

/-- 'quadrillekeep.LatchOrder': WHATEVER THE INPUT: true; the input reads as it did. -/
def latchOrderSpec : ChangeSpec := { name := "latchOrder", fn := fun _ => fun
  | [d1, d2, d3] => { results := [.lit (.bool true)], args := [d1, d2, d3] }
  | _ => none }
def latchOrderRow : OpenClaim := { program := "ytdfljhechmanlaadoor", sum := "9081dd22ce9a3c0147ef64e06f0cd4df8e57de5c2f6526fb2afb6df473096a67", func := "quadrille/quadrillekeep.LatchOrder", spec := "latchOrder", inPlace := ["internal/reflectlite.ValueOf", "(internal/reflectlite.Value).Type", "(internal/reflectlite.Value).IsNil", "internal/reflectlite.TypeOf", "(internal/reflectlite.Value).Elem", "(internal/reflectlite.Value).Set"], unfollowed := true, recurses := true, named := ["quadrille/code.forms", "errors.errorType"], apart := false, laid := [("errors.errorType", laid_errors_errorType), ("quadrille/code.forms", laid_quadrille_code_forms)] }
def LatchOrderSaid : Prop := latchOrderRow.holds Tryd.pinned (OpenSpec.ofChange latchOrderSpec)

/-- ITS FALSE NEIGHBOUR: 'it returns false'. Refute it at one input. -/
def latchOrderWrong : ChangeSpec := { name := "latchOrder", fn := fun _ => fun
  | [d1, d2, d3] => { results := [.lit (.bool false)], args := [d1, d2, d3] }
  | _ => none }
def LatchOrderWrongFalsely : Prop := latchOrderRow.holds Tryd.pinned (OpenSpec.ofChange latchOrderWrong)

/-- 'quadrillekeep.SemaBound': WHATEVER THE INPUT: true; the input reads as it did. -/
def semaBoundSpec : ChangeSpec := { name := "semaBound", fn := fun _ => fun
  | [d1, d2, d3] => { results := [.lit (.bool true)], args := [d1, d2, d3] }
  | _ => none }
def semaBoundRow : OpenClaim := { program := "ytdfljhechmanlaadoor", sum := "9081dd22ce9a3c0147ef64e06f0cd4df8e57de5c2f6526fb2afb6df473096a67", func := "quadrille/quadrillekeep.SemaBound", spec := "semaBound", inPlace := ["internal/reflectlite.ValueOf", "(internal/reflectlite.Value).Type", "(internal/reflectlite.Value).IsNil", "internal/reflectlite.TypeOf", "(internal/reflectlite.Value).Elem", "(internal/reflectlite.Value).Set"], unfollowed := true, recurses := true, named := ["quadrille/code.forms", "errors.errorType"], apart := false, laid := [("errors.errorType", laid_errors_errorType), ("quadrille/code.forms", laid_quadrille_code_forms)] }
def SemaBoundSaid : Prop := semaBoundRow.holds Tryd.pinned (OpenSpec.ofChange semaBoundSpec)

/-- ITS FALSE NEIGHBOUR: 'it returns false'. Refute it at one input. -/
def semaBoundWrong : ChangeSpec := { name := "semaBound", fn := fun _ => fun
  | [d1, d2, d3] => { results := [.lit (.bool false)], args := [d1, d2, d3] }
  | _ => none }
def SemaBoundWrongFalsely : Prop := semaBoundRow.holds Tryd.pinned (OpenSpec.ofChange semaBoundWrong)

/-- 'quadrillekeep.SemaEnds': WHATEVER THE INPUT: true; the input reads as it did. -/
def semaEndsSpec : ChangeSpec := { name := "semaEnds", fn := fun _ => fun
  | [d1, d2, d3, d4] => { results := [.lit (.bool true)], args := [d1, d2, d3, d4] }
  | _ => none }
def semaEndsRow : OpenClaim := { program := "ytdfljhechmanlaadoor", sum := "9081dd22ce9a3c0147ef64e06f0cd4df8e57de5c2f6526fb2afb6df473096a67", func := "quadrille/quadrillekeep.SemaEnds", spec := "semaEnds", inPlace := ["internal/reflectlite.ValueOf", "(internal/reflectlite.Value).Type", "(internal/reflectlite.Value).IsNil", "internal/reflectlite.TypeOf", "(internal/reflectlite.Value).Elem", "(internal/reflectlite.Value).Set"], unfollowed := true, recurses := true, named := ["quadrille/code.forms", "errors.errorType"], apart := false, laid := [("errors.errorType", laid_errors_errorType), ("quadrille/code.forms", laid_quadrille_code_forms)] }
def SemaEndsSaid : Prop := semaEndsRow.holds Tryd.pinned (OpenSpec.ofChange semaEndsSpec)

/-- ITS FALSE NEIGHBOUR: 'it returns false'. Refute it at one input. -/
def semaEndsWrong : ChangeSpec := { name := "semaEnds", fn := fun _ => fun
  | [d1, d2, d3, d4] => { results := [.lit (.bool false)], args := [d1, d2, d3, d4] }
  | _ => none }
def SemaEndsWrongFalsely : Prop := semaEndsRow.holds Tryd.pinned (OpenSpec.ofChange semaEndsWrong)

/-- 'quadrillekeep.SemaOne': WHATEVER THE INPUT: true; the input reads as it did. -/
def semaOneSpec : ChangeSpec := { name := "semaOne", fn := fun _ => fun
  | [d1, d2, d3] => { results := [.lit (.bool true)], args := [d1, d2, d3] }
  | _ => none }
def semaOneRow : OpenClaim := { program := "ytdfljhechmanlaadoor", sum := "9081dd22ce9a3c0147ef64e06f0cd4df8e57de5c2f6526fb2afb6df473096a67", func := "quadrille/quadrillekeep.SemaOne", spec := "semaOne", inPlace := ["internal/reflectlite.ValueOf", "(internal/reflectlite.Value).Type", "(internal/reflectlite.Value).IsNil", "internal/reflectlite.TypeOf", "(internal/reflectlite.Value).Elem", "(internal/reflectlite.Value).Set"], unfollowed := true, recurses := true, named := ["quadrille/code.forms", "errors.errorType"], apart := false, laid := [("errors.errorType", laid_errors_errorType), ("quadrille/code.forms", laid_quadrille_code_forms)] }
def SemaOneSaid : Prop := semaOneRow.holds Tryd.pinned (OpenSpec.ofChange semaOneSpec)

/-- ITS FALSE NEIGHBOUR: 'it returns false'. Refute it at one input. -/
def semaOneWrong : ChangeSpec := { name := "semaOne", fn := fun _ => fun
  | [d1, d2, d3] => { results := [.lit (.bool false)], args := [d1, d2, d3] }
  | _ => none }
def SemaOneWrongFalsely : Prop := semaOneRow.holds Tryd.pinned (OpenSpec.ofChange semaOneWrong)

/-- 'quadrillekeep.SemaAlone': WHATEVER THE INPUT: true; the input reads as it did. -/
def semaAloneSpec : ChangeSpec := { name := "semaAlone", fn := fun _ => fun
  | [d1, d2] => { results := [.lit (.bool true)], args := [d1, d2] }
  | _ => none }
def semaAloneRow : OpenClaim := { program := "ytdfljhechmanlaadoor", sum := "9081dd22ce9a3c0147ef64e06f0cd4df8e57de5c2f6526fb2afb6df473096a67", func := "quadrille/quadrillekeep.SemaAlone", spec := "semaAlone", inPlace := ["internal/reflectlite.ValueOf", "(internal/reflectlite.Value).Type", "(internal/reflectlite.Value).IsNil", "internal/reflectlite.TypeOf", "(internal/reflectlite.Value).Elem", "(internal/reflectlite.Value).Set"], unfollowed := true, recurses := true, named := ["quadrille/code.forms", "errors.errorType"], apart := false, laid := [("errors.errorType", laid_errors_errorType), ("quadrille/code.forms", laid_quadrille_code_forms)] }
def SemaAloneSaid : Prop := semaAloneRow.holds Tryd.pinned (OpenSpec.ofChange semaAloneSpec)

/-- ITS FALSE NEIGHBOUR: 'it returns false'. Refute it at one input. -/
def semaAloneWrong : ChangeSpec := { name := "semaAlone", fn := fun _ => fun
  | [d1, d2] => { results := [.lit (.bool false)], args := [d1, d2] }
  | _ => none }
def SemaAloneWrongFalsely : Prop := semaAloneRow.holds Tryd.pinned (OpenSpec.ofChange semaAloneWrong)

/-- 'quadrillekeep.CoreFetches': WHATEVER THE INPUT: true; the input reads as it did. -/
def coreFetchesSpec : ChangeSpec := { name := "coreFetches", fn := fun _ => fun
  | [d1, d2, d3] => { results := [.lit (.bool true)], args := [d1, d2, d3] }
  | _ => none }
def coreFetchesRow : OpenClaim := { program := "ytdfljhechmanlaadoor", sum := "9081dd22ce9a3c0147ef64e06f0cd4df8e57de5c2f6526fb2afb6df473096a67", func := "quadrille/quadrillekeep.CoreFetches", spec := "coreFetches", inPlace := ["internal/reflectlite.ValueOf", "(internal/reflectlite.Value).Type", "(internal/reflectlite.Value).IsNil", "internal/reflectlite.TypeOf", "(internal/reflectlite.Value).Elem", "(internal/reflectlite.Value).Set"], unfollowed := true, recurses := true, named := ["quadrille/code.forms", "errors.errorType"], apart := false, laid := [("errors.errorType", laid_errors_errorType), ("quadrille/code.forms", laid_quadrille_code_forms)] }
def CoreFetchesSaid : Prop := coreFetchesRow.holds Tryd.pinned (OpenSpec.ofChange coreFetchesSpec)

/-- ITS FALSE NEIGHBOUR: 'it returns false'. Refute it at one input. -/
def coreFetchesWrong : ChangeSpec := { name := "coreFetches", fn := fun _ => fun
  | [d1, d2, d3] => { results := [.lit (.bool false)], args := [d1, d2, d3] }
  | _ => none }
def CoreFetchesWrongFalsely : Prop := coreFetchesRow.holds Tryd.pinned (OpenSpec.ofChange coreFetchesWrong)

/-- 'quadrillekeep.CoreLoses': WHATEVER THE INPUT: true; the input reads as it did. -/
def coreLosesSpec : ChangeSpec := { name := "coreLoses", fn := fun _ => fun
  | [d1, d2] => { results := [.lit (.bool true)], args := [d1, d2] }
  | _ => none }
def coreLosesRow : OpenClaim := { program := "ytdfljhechmanlaadoor", sum := "9081dd22ce9a3c0147ef64e06f0cd4df8e57de5c2f6526fb2afb6df473096a67", func := "quadrille/quadrillekeep.CoreLoses", spec := "coreLoses", inPlace := ["internal/reflectlite.ValueOf", "(internal/reflectlite.Value).Type", "(internal/reflectlite.Value).IsNil", "internal/reflectlite.TypeOf", "(internal/reflectlite.Value).Elem", "(internal/reflectlite.Value).Set"], unfollowed := true, recurses := true, named := ["quadrille/code.forms", "errors.errorType"], apart := false, laid := [("errors.errorType", laid_errors_errorType), ("quadrille/code.forms", laid_quadrille_code_forms)] }
def CoreLosesSaid : Prop := coreLosesRow.holds Tryd.pinned (OpenSpec.ofChange coreLosesSpec)

/-- ITS FALSE NEIGHBOUR: 'it returns false'. Refute it at one input. -/
def coreLosesWrong : ChangeSpec := { name := "coreLoses", fn := fun _ => fun
  | [d1, d2] => { results := [.lit (.bool false)], args := [d1, d2] }
  | _ => none }
def CoreLosesWrongFalsely : Prop := coreLosesRow.holds Tryd.pinned (OpenSpec.ofChange coreLosesWrong)

/-- 'quadrillekeep.CoreSwaps': WHATEVER THE INPUT: true; the input reads as it did. -/
def coreSwapsSpec : ChangeSpec := { name := "coreSwaps", fn := fun _ => fun
  | [d1, d2] => { results := [.lit (.bool true)], args := [d1, d2] }
  | _ => none }
def coreSwapsRow : OpenClaim := { program := "ytdfljhechmanlaadoor", sum := "9081dd22ce9a3c0147ef64e06f0cd4df8e57de5c2f6526fb2afb6df473096a67", func := "quadrille/quadrillekeep.CoreSwaps", spec := "coreSwaps", inPlace := ["internal/reflectlite.ValueOf", "(internal/reflectlite.Value).Type", "(internal/reflectlite.Value).IsNil", "internal/reflectlite.TypeOf", "(internal/reflectlite.Value).Elem", "(internal/reflectlite.Value).Set"], unfollowed := true, recurses := true, named := ["quadrille/code.forms", "errors.errorType"], apart := false, laid := [("errors.errorType", laid_errors_errorType), ("quadrille/code.forms", laid_quadrille_code_forms)] }
def CoreSwapsSaid : Prop := coreSwapsRow.holds Tryd.pinned (OpenSpec.ofChange coreSwapsSpec)

/-- ITS FALSE NEIGHBOUR: 'it returns false'. Refute it at one input. -/
def coreSwapsWrong : ChangeSpec := { name := "coreSwaps", fn := fun _ => fun
  | [d1, d2] => { results := [.lit (.bool false)], args := [d1, d2] }
  | _ => none }
def CoreSwapsWrongFalsely : Prop := coreSwapsRow.holds Tryd.pinned (OpenSpec.ofChange coreSwapsWrong)

/- THE SECOND FORM. 'bulk': how many values and letters a reading holds, each counted each time it is reached (what is shared counts as often as it is met; a slice's spare places count too). A statement '..UptoSaid' is the law's where the arguments, and the package variables that the reading takes, are together of bulk at most 1048576: NARROWER than '..Said'. Prove '..Said' where nothing that the law and all that it calls make is longer than what came in: it says more and counts as full. Else prove '..UptoSaid'. A law counts once. -/
mutual
def uptoBulk {H : Type} : DataW H → Nat
  | .lit (.string bytes) => bytes.length + 1
  | .lit _ => 1
  | .nil => 1
  | .ptr d => uptoBulk d + 1
  | .slice elems spare => uptoBulkAll elems + uptoBulkAll spare + 1
  | .agg parts => uptoBulkAll parts + 1
  | .iface _ d => uptoBulk d + 1
  | .map entries => uptoBulkEntries entries + 1
  | .held _ => 1
def uptoBulkAll {H : Type} : List (DataW H) → Nat
  | [] => 0
  | d :: r => uptoBulk d + uptoBulkAll r
def uptoBulkEntries {H : Type} : List (Lit × DataW H) → Nat
  | [] => 0
  | x :: r => uptoBulkEntry x + uptoBulkEntries r
def uptoBulkEntry {H : Type} : Lit × DataW H → Nat
  | (.string bytes, d) => bytes.length + uptoBulk d + 1
  | (_, d) => uptoBulk d + 1
 end
def uptoSmall : (H : Type) → List (DataW H) → Bool := fun _ ds => decide (uptoBulkAll ds ≤ 1048576)
def OpenSpec.upto (s : _root_.Go.ChangeSpec) : _root_.Go.OpenSpec := { _root_.Go.OpenSpec.ofChange s with cond := some uptoSmall }

/-- 'quadrillekeep.LatchWaits', WHERE WHAT IT READS IS OF BULK AT MOST 1048576: true; the input reads as it did. -/
def latchWaitsUptoRow : OpenClaim := { program := "ytdfljhechmanlaadoor", sum := "9081dd22ce9a3c0147ef64e06f0cd4df8e57de5c2f6526fb2afb6df473096a67", func := "quadrille/quadrillekeep.LatchWaits", spec := "latchWaits", inPlace := ["internal/reflectlite.ValueOf", "(internal/reflectlite.Value).Type", "(internal/reflectlite.Value).IsNil", "internal/reflectlite.TypeOf", "(internal/reflectlite.Value).Elem", "(internal/reflectlite.Value).Set"], unfollowed := true, recurses := true, named := ["quadrille/code.forms", "errors.errorType"], apart := false, laid := [("errors.errorType", laid_errors_errorType), ("quadrille/code.forms", laid_quadrille_code_forms)], narrowed := true }
def LatchWaitsUptoSaid : Prop := latchWaitsUptoRow.holds Tryd.pinned (OpenSpec.upto latchWaitsSpec)

/-- 'quadrillekeep.LatchCounts', WHERE WHAT IT READS IS OF BULK AT MOST 1048576: true; the input reads as it did. -/
def latchCountsUptoRow : OpenClaim := { program := "ytdfljhechmanlaadoor", sum := "9081dd22ce9a3c0147ef64e06f0cd4df8e57de5c2f6526fb2afb6df473096a67", func := "quadrille/quadrillekeep.LatchCounts", spec := "latchCounts", inPlace := ["internal/reflectlite.ValueOf", "(internal/reflectlite.Value).Type", "(internal/reflectlite.Value).IsNil", "internal/reflectlite.TypeOf", "(internal/reflectlite.Value).Elem", "(internal/reflectlite.Value).Set"], unfollowed := true, recurses := true, named := ["quadrille/code.forms", "errors.errorType"], apart := false, laid := [("errors.errorType", laid_errors_errorType), ("quadrille/code.forms", laid_quadrille_code_forms)], narrowed := true }
def LatchCountsUptoSaid : Prop := latchCountsUptoRow.holds Tryd.pinned (OpenSpec.upto latchCountsSpec)

/-- 'quadrillekeep.LatchEnds', WHERE WHAT IT READS IS OF BULK AT MOST 1048576: true; the input reads as it did. -/
def latchEndsUptoRow : OpenClaim := { program := "ytdfljhechmanlaadoor", sum := "9081dd22ce9a3c0147ef64e06f0cd4df8e57de5c2f6526fb2afb6df473096a67", func := "quadrille/quadrillekeep.LatchEnds", spec := "latchEnds", inPlace := ["internal/reflectlite.ValueOf", "(internal/reflectlite.Value).Type", "(internal/reflectlite.Value).IsNil", "internal/reflectlite.TypeOf", "(internal/reflectlite.Value).Elem", "(internal/reflectlite.Value).Set"], unfollowed := true, recurses := true, named := ["quadrille/code.forms", "errors.errorType"], apart := false, laid := [("errors.errorType", laid_errors_errorType), ("quadrille/code.forms", laid_quadrille_code_forms)], narrowed := true }
def LatchEndsUptoSaid : Prop := latchEndsUptoRow.holds Tryd.pinned (OpenSpec.upto latchEndsSpec)

/-- 'quadrillekeep.LatchOrder', WHERE WHAT IT READS IS OF BULK AT MOST 1048576: true; the input reads as it did. -/
def latchOrderUptoRow : OpenClaim := { program := "ytdfljhechmanlaadoor", sum := "9081dd22ce9a3c0147ef64e06f0cd4df8e57de5c2f6526fb2afb6df473096a67", func := "quadrille/quadrillekeep.LatchOrder", spec := "latchOrder", inPlace := ["internal/reflectlite.ValueOf", "(internal/reflectlite.Value).Type", "(internal/reflectlite.Value).IsNil", "internal/reflectlite.TypeOf", "(internal/reflectlite.Value).Elem", "(internal/reflectlite.Value).Set"], unfollowed := true, recurses := true, named := ["quadrille/code.forms", "errors.errorType"], apart := false, laid := [("errors.errorType", laid_errors_errorType), ("quadrille/code.forms", laid_quadrille_code_forms)], narrowed := true }
def LatchOrderUptoSaid : Prop := latchOrderUptoRow.holds Tryd.pinned (OpenSpec.upto latchOrderSpec)

/-- 'quadrillekeep.SemaBound', WHERE WHAT IT READS IS OF BULK AT MOST 1048576: true; the input reads as it did. -/
def semaBoundUptoRow : OpenClaim := { program := "ytdfljhechmanlaadoor", sum := "9081dd22ce9a3c0147ef64e06f0cd4df8e57de5c2f6526fb2afb6df473096a67", func := "quadrille/quadrillekeep.SemaBound", spec := "semaBound", inPlace := ["internal/reflectlite.ValueOf", "(internal/reflectlite.Value).Type", "(internal/reflectlite.Value).IsNil", "internal/reflectlite.TypeOf", "(internal/reflectlite.Value).Elem", "(internal/reflectlite.Value).Set"], unfollowed := true, recurses := true, named := ["quadrille/code.forms", "errors.errorType"], apart := false, laid := [("errors.errorType", laid_errors_errorType), ("quadrille/code.forms", laid_quadrille_code_forms)], narrowed := true }
def SemaBoundUptoSaid : Prop := semaBoundUptoRow.holds Tryd.pinned (OpenSpec.upto semaBoundSpec)

/-- 'quadrillekeep.SemaEnds', WHERE WHAT IT READS IS OF BULK AT MOST 1048576: true; the input reads as it did. -/
def semaEndsUptoRow : OpenClaim := { program := "ytdfljhechmanlaadoor", sum := "9081dd22ce9a3c0147ef64e06f0cd4df8e57de5c2f6526fb2afb6df473096a67", func := "quadrille/quadrillekeep.SemaEnds", spec := "semaEnds", inPlace := ["internal/reflectlite.ValueOf", "(internal/reflectlite.Value).Type", "(internal/reflectlite.Value).IsNil", "internal/reflectlite.TypeOf", "(internal/reflectlite.Value).Elem", "(internal/reflectlite.Value).Set"], unfollowed := true, recurses := true, named := ["quadrille/code.forms", "errors.errorType"], apart := false, laid := [("errors.errorType", laid_errors_errorType), ("quadrille/code.forms", laid_quadrille_code_forms)], narrowed := true }
def SemaEndsUptoSaid : Prop := semaEndsUptoRow.holds Tryd.pinned (OpenSpec.upto semaEndsSpec)

/-- 'quadrillekeep.SemaOne', WHERE WHAT IT READS IS OF BULK AT MOST 1048576: true; the input reads as it did. -/
def semaOneUptoRow : OpenClaim := { program := "ytdfljhechmanlaadoor", sum := "9081dd22ce9a3c0147ef64e06f0cd4df8e57de5c2f6526fb2afb6df473096a67", func := "quadrille/quadrillekeep.SemaOne", spec := "semaOne", inPlace := ["internal/reflectlite.ValueOf", "(internal/reflectlite.Value).Type", "(internal/reflectlite.Value).IsNil", "internal/reflectlite.TypeOf", "(internal/reflectlite.Value).Elem", "(internal/reflectlite.Value).Set"], unfollowed := true, recurses := true, named := ["quadrille/code.forms", "errors.errorType"], apart := false, laid := [("errors.errorType", laid_errors_errorType), ("quadrille/code.forms", laid_quadrille_code_forms)], narrowed := true }
def SemaOneUptoSaid : Prop := semaOneUptoRow.holds Tryd.pinned (OpenSpec.upto semaOneSpec)

/-- 'quadrillekeep.SemaAlone', WHERE WHAT IT READS IS OF BULK AT MOST 1048576: true; the input reads as it did. -/
def semaAloneUptoRow : OpenClaim := { program := "ytdfljhechmanlaadoor", sum := "9081dd22ce9a3c0147ef64e06f0cd4df8e57de5c2f6526fb2afb6df473096a67", func := "quadrille/quadrillekeep.SemaAlone", spec := "semaAlone", inPlace := ["internal/reflectlite.ValueOf", "(internal/reflectlite.Value).Type", "(internal/reflectlite.Value).IsNil", "internal/reflectlite.TypeOf", "(internal/reflectlite.Value).Elem", "(internal/reflectlite.Value).Set"], unfollowed := true, recurses := true, named := ["quadrille/code.forms", "errors.errorType"], apart := false, laid := [("errors.errorType", laid_errors_errorType), ("quadrille/code.forms", laid_quadrille_code_forms)], narrowed := true }
def SemaAloneUptoSaid : Prop := semaAloneUptoRow.holds Tryd.pinned (OpenSpec.upto semaAloneSpec)

/-- 'quadrillekeep.CoreFetches', WHERE WHAT IT READS IS OF BULK AT MOST 1048576: true; the input reads as it did. -/
def coreFetchesUptoRow : OpenClaim := { program := "ytdfljhechmanlaadoor", sum := "9081dd22ce9a3c0147ef64e06f0cd4df8e57de5c2f6526fb2afb6df473096a67", func := "quadrille/quadrillekeep.CoreFetches", spec := "coreFetches", inPlace := ["internal/reflectlite.ValueOf", "(internal/reflectlite.Value).Type", "(internal/reflectlite.Value).IsNil", "internal/reflectlite.TypeOf", "(internal/reflectlite.Value).Elem", "(internal/reflectlite.Value).Set"], unfollowed := true, recurses := true, named := ["quadrille/code.forms", "errors.errorType"], apart := false, laid := [("errors.errorType", laid_errors_errorType), ("quadrille/code.forms", laid_quadrille_code_forms)], narrowed := true }
def CoreFetchesUptoSaid : Prop := coreFetchesUptoRow.holds Tryd.pinned (OpenSpec.upto coreFetchesSpec)

/-- 'quadrillekeep.CoreLoses', WHERE WHAT IT READS IS OF BULK AT MOST 1048576: true; the input reads as it did. -/
def coreLosesUptoRow : OpenClaim := { program := "ytdfljhechmanlaadoor", sum := "9081dd22ce9a3c0147ef64e06f0cd4df8e57de5c2f6526fb2afb6df473096a67", func := "quadrille/quadrillekeep.CoreLoses", spec := "coreLoses", inPlace := ["internal/reflectlite.ValueOf", "(internal/reflectlite.Value).Type", "(internal/reflectlite.Value).IsNil", "internal/reflectlite.TypeOf", "(internal/reflectlite.Value).Elem", "(internal/reflectlite.Value).Set"], unfollowed := true, recurses := true, named := ["quadrille/code.forms", "errors.errorType"], apart := false, laid := [("errors.errorType", laid_errors_errorType), ("quadrille/code.forms", laid_quadrille_code_forms)], narrowed := true }
def CoreLosesUptoSaid : Prop := coreLosesUptoRow.holds Tryd.pinned (OpenSpec.upto coreLosesSpec)

/-- 'quadrillekeep.CoreSwaps', WHERE WHAT IT READS IS OF BULK AT MOST 1048576: true; the input reads as it did. -/
def coreSwapsUptoRow : OpenClaim := { program := "ytdfljhechmanlaadoor", sum := "9081dd22ce9a3c0147ef64e06f0cd4df8e57de5c2f6526fb2afb6df473096a67", func := "quadrille/quadrillekeep.CoreSwaps", spec := "coreSwaps", inPlace := ["internal/reflectlite.ValueOf", "(internal/reflectlite.Value).Type", "(internal/reflectlite.Value).IsNil", "internal/reflectlite.TypeOf", "(internal/reflectlite.Value).Elem", "(internal/reflectlite.Value).Set"], unfollowed := true, recurses := true, named := ["quadrille/code.forms", "errors.errorType"], apart := false, laid := [("errors.errorType", laid_errors_errorType), ("quadrille/code.forms", laid_quadrille_code_forms)], narrowed := true }
def CoreSwapsUptoSaid : Prop := coreSwapsUptoRow.holds Tryd.pinned (OpenSpec.upto coreSwapsSpec)

end Rows
end Go.Proofs.YtdfljhechmanlaaDoor
