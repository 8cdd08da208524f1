/-
  NARROWER THAN 'FOR EVERY INPUT', by the rows' own cells (each row's printed sentence says how): DanceOrder: laid · DanceEnds: laid · DanceGoes: laid · DanceLag: laid · DanceBound: laid · DanceWaits: laid · DanceWords: laid · DanceAlone: laid · DanceGates: laid · DanceUp: laid · FairAgain: laid · DanceFair: laid.
  DERIVED. THE GIVEN ROWS OF THIS SEAT. 12 by the template 'for every input the law returns true; each argument reads behind the call as it read before'; 0 by the template 'total and deterministic' (their statements: YtmkgmpfpemiaaaaGreatDoorTotals.lean).
  GIVEN WITH THE SEED: the statements are not yours to turn. If you find one false, say at which input.
  Laid BY PROGRAM, IN A SANDBOX (cutbox-rows.mjs): the forced cells as the released guide's own fill.sh prints them over the translation d693f4775a327c83… (all of the seat's roots in one cut). By AI agents, Wed Nov 11 2026. No macro, syntax, notation, axiom, sorry.
-/
import Derived.Test.YtmkgmpfpemiaaaaGreatDoorChecked
import GoSem.Claim
import GoSem.ClaimJoined
import GoSem.ClaimMapViews
import Derived.JoinedTies
import Derived.KernelRfl
namespace Go.Proofs.YtmkgmpfpemiaaaaGreatDoor
/- THE CELL 'sum', in the pinned program and in every row, IS THE sha256 OF THE DUMP (.gsa) THAT YtmkgmpfpemiaaaaGreatDoorProg.lean LOADS. Nothing in Lean hashes anything: it is a label: what it is worth is what the hold of that sum in a sandbox is worth. -/
noncomputable def Tryz.pinned : Pinned := { name := "ytmkgmpfpemiaaaagreatdoor", sum := "d693f4775a327c8380ed92bc2246f64e121698ccf952e88497c23a7192a2d7bc", checked := Tryz.checked }
namespace Rows
def none {H : Type} : Left H := { results := [], args := [] }

/- WHAT THE LISTED PACKAGE-LEVEL VARIABLES READ AS WHEN THE CALL BEGINS. Each datum BY PROGRAM (the guide's laid-datum.mjs) off the statement by which the dump's own 'gosem.cut.vars' lays the variable. In a bare row this is a premise. The card (YtmkgmpfpemiaaaaGreatDoorCards.lean) ties it to the program's text. -/
def laid_math_bits_deBruijn32tab {H : Type} : DataW H := .agg [.lit (.int .u8 0), .lit (.int .u8 1), .lit (.int .u8 28), .lit (.int .u8 2), .lit (.int .u8 29), .lit (.int .u8 14), .lit (.int .u8 24), .lit (.int .u8 3), .lit (.int .u8 30), .lit (.int .u8 22), .lit (.int .u8 20), .lit (.int .u8 15), .lit (.int .u8 25), .lit (.int .u8 17), .lit (.int .u8 4), .lit (.int .u8 8), .lit (.int .u8 31), .lit (.int .u8 27), .lit (.int .u8 13), .lit (.int .u8 23), .lit (.int .u8 21), .lit (.int .u8 19), .lit (.int .u8 16), .lit (.int .u8 7), .lit (.int .u8 26), .lit (.int .u8 12), .lit (.int .u8 18), .lit (.int .u8 6), .lit (.int .u8 11), .lit (.int .u8 5), .lit (.int .u8 10), .lit (.int .u8 9)]
def laid_math_bits_deBruijn64tab {H : Type} : DataW H := .agg [.lit (.int .u8 0), .lit (.int .u8 1), .lit (.int .u8 56), .lit (.int .u8 2), .lit (.int .u8 57), .lit (.int .u8 49), .lit (.int .u8 28), .lit (.int .u8 3), .lit (.int .u8 61), .lit (.int .u8 58), .lit (.int .u8 42), .lit (.int .u8 50), .lit (.int .u8 38), .lit (.int .u8 29), .lit (.int .u8 17), .lit (.int .u8 4), .lit (.int .u8 62), .lit (.int .u8 47), .lit (.int .u8 59), .lit (.int .u8 36), .lit (.int .u8 45), .lit (.int .u8 43), .lit (.int .u8 51), .lit (.int .u8 22), .lit (.int .u8 53), .lit (.int .u8 39), .lit (.int .u8 33), .lit (.int .u8 30), .lit (.int .u8 24), .lit (.int .u8 18), .lit (.int .u8 12), .lit (.int .u8 5), .lit (.int .u8 63), .lit (.int .u8 55), .lit (.int .u8 48), .lit (.int .u8 27), .lit (.int .u8 60), .lit (.int .u8 41), .lit (.int .u8 37), .lit (.int .u8 16), .lit (.int .u8 46), .lit (.int .u8 35), .lit (.int .u8 44), .lit (.int .u8 21), .lit (.int .u8 52), .lit (.int .u8 32), .lit (.int .u8 23), .lit (.int .u8 11), .lit (.int .u8 54), .lit (.int .u8 26), .lit (.int .u8 40), .lit (.int .u8 15), .lit (.int .u8 34), .lit (.int .u8 20), .lit (.int .u8 31), .lit (.int .u8 10), .lit (.int .u8 25), .lit (.int .u8 14), .lit (.int .u8 19), .lit (.int .u8 9), .lit (.int .u8 13), .lit (.int .u8 8), .lit (.int .u8 7), .lit (.int .u8 6)]
def laid_errors_errorType {H : Type} : DataW H := .iface "internal/reflectlite.rtype" (.agg [.ptr (.lit (.string [101, 114, 114, 111, 114]))])
def laid_quadrille_code_forms {H : Type} : DataW H := .agg [.agg [.lit (.string [104, 97, 108, 116]), .agg [.lit (.int .i64 0), .lit (.int .i64 0), .lit (.int .i64 0), .lit (.int .i64 0)]], .agg [.lit (.string [108, 101, 116]), .agg [.lit (.int .i64 1), .lit (.int .i64 3), .lit (.int .i64 0), .lit (.int .i64 0)]], .agg [.lit (.string [99, 111, 112, 121]), .agg [.lit (.int .i64 1), .lit (.int .i64 1), .lit (.int .i64 0), .lit (.int .i64 0)]], .agg [.lit (.string [112, 108, 117, 115]), .agg [.lit (.int .i64 1), .lit (.int .i64 1), .lit (.int .i64 3), .lit (.int .i64 0)]], .agg [.lit (.string [115, 117, 109]), .agg [.lit (.int .i64 1), .lit (.int .i64 1), .lit (.int .i64 1), .lit (.int .i64 0)]], .agg [.lit (.string [102, 105, 101, 108, 100]), .agg [.lit (.int .i64 1), .lit (.int .i64 1), .lit (.int .i64 6), .lit (.int .i64 7)]], .agg [.lit (.string [108, 111, 97, 100]), .agg [.lit (.int .i64 1), .lit (.int .i64 2), .lit (.int .i64 0), .lit (.int .i64 0)]], .agg [.lit (.string [115, 116, 111, 114, 101]), .agg [.lit (.int .i64 2), .lit (.int .i64 1), .lit (.int .i64 5), .lit (.int .i64 0)]], .agg [.lit (.string [102, 101, 116, 99, 104]), .agg [.lit (.int .i64 1), .lit (.int .i64 2), .lit (.int .i64 3), .lit (.int .i64 0)]], .agg [.lit (.string [115, 119, 97, 112]), .agg [.lit (.int .i64 1), .lit (.int .i64 2), .lit (.int .i64 1), .lit (.int .i64 1)]], .agg [.lit (.string [106, 117, 109, 112]), .agg [.lit (.int .i64 4), .lit (.int .i64 0), .lit (.int .i64 0), .lit (.int .i64 0)]], .agg [.lit (.string [115, 97, 109, 101]), .agg [.lit (.int .i64 1), .lit (.int .i64 3), .lit (.int .i64 4), .lit (.int .i64 0)]], .agg [.lit (.string [108, 101, 115, 115]), .agg [.lit (.int .i64 1), .lit (.int .i64 1), .lit (.int .i64 4), .lit (.int .i64 0)]], .agg [.lit (.string [101, 113, 117, 97, 108]), .agg [.lit (.int .i64 1), .lit (.int .i64 1), .lit (.int .i64 4), .lit (.int .i64 0)]], .agg [.lit (.string [119, 97, 105, 116]), .agg [.lit (.int .i64 2), .lit (.int .i64 1), .lit (.int .i64 0), .lit (.int .i64 0)]], .agg [.lit (.string [119, 97, 107, 101]), .agg [.lit (.int .i64 2), .lit (.int .i64 3), .lit (.int .i64 5), .lit (.int .i64 0)]], .agg [.lit (.string [115, 97, 121]), .agg [.lit (.int .i64 3), .lit (.int .i64 1), .lit (.int .i64 0), .lit (.int .i64 0)]]]

/-- 'quadrillekeep.DanceOrder': WHATEVER THE INPUT: true; the input reads as it did. -/
def danceOrderSpec : ChangeSpec := { name := "danceOrder", fn := fun _ => fun
  | [d1, d2, d3, d4] => { results := [.lit (.bool true)], args := [d1, d2, d3, d4] }
  | _ => none }
def danceOrderRow : OpenClaim := { program := "ytmkgmpfpemiaaaagreatdoor", sum := "d693f4775a327c8380ed92bc2246f64e121698ccf952e88497c23a7192a2d7bc", func := "quadrille/quadrillekeep.DanceOrder", spec := "danceOrder", inPlace := ["internal/reflectlite.ValueOf", "(internal/reflectlite.Value).Type", "(internal/reflectlite.Value).IsNil", "internal/reflectlite.TypeOf", "(internal/reflectlite.Value).Elem", "(internal/reflectlite.Value).Set"], unfollowed := true, recurses := true, named := ["math/bits.deBruijn32tab", "math/bits.deBruijn64tab", "quadrille/code.forms", "errors.errorType"], apart := false, laid := [("math/bits.deBruijn32tab", laid_math_bits_deBruijn32tab), ("math/bits.deBruijn64tab", laid_math_bits_deBruijn64tab), ("errors.errorType", laid_errors_errorType), ("quadrille/code.forms", laid_quadrille_code_forms)] }
def DanceOrderSaid : Prop := danceOrderRow.holds Tryz.pinned (OpenSpec.ofChange danceOrderSpec)

/-- ITS FALSE NEIGHBOUR: 'it returns false'. Refute it at one input. -/
def danceOrderWrong : ChangeSpec := { name := "danceOrder", fn := fun _ => fun
  | [d1, d2, d3, d4] => { results := [.lit (.bool false)], args := [d1, d2, d3, d4] }
  | _ => none }
def DanceOrderWrongFalsely : Prop := danceOrderRow.holds Tryz.pinned (OpenSpec.ofChange danceOrderWrong)

/-- 'quadrillekeep.DanceEnds': WHATEVER THE INPUT: true; the input reads as it did. -/
def danceEndsSpec : ChangeSpec := { name := "danceEnds", fn := fun _ => fun
  | [d1, d2, d3, d4] => { results := [.lit (.bool true)], args := [d1, d2, d3, d4] }
  | _ => none }
def danceEndsRow : OpenClaim := { program := "ytmkgmpfpemiaaaagreatdoor", sum := "d693f4775a327c8380ed92bc2246f64e121698ccf952e88497c23a7192a2d7bc", func := "quadrille/quadrillekeep.DanceEnds", spec := "danceEnds", inPlace := ["internal/reflectlite.ValueOf", "(internal/reflectlite.Value).Type", "(internal/reflectlite.Value).IsNil", "internal/reflectlite.TypeOf", "(internal/reflectlite.Value).Elem", "(internal/reflectlite.Value).Set"], unfollowed := true, recurses := true, named := ["math/bits.deBruijn32tab", "math/bits.deBruijn64tab", "quadrille/code.forms", "errors.errorType"], apart := false, laid := [("math/bits.deBruijn32tab", laid_math_bits_deBruijn32tab), ("math/bits.deBruijn64tab", laid_math_bits_deBruijn64tab), ("errors.errorType", laid_errors_errorType), ("quadrille/code.forms", laid_quadrille_code_forms)] }
def DanceEndsSaid : Prop := danceEndsRow.holds Tryz.pinned (OpenSpec.ofChange danceEndsSpec)

/-- ITS FALSE NEIGHBOUR: 'it returns false'. Refute it at one input. -/
def danceEndsWrong : ChangeSpec := { name := "danceEnds", fn := fun _ => fun
  | [d1, d2, d3, d4] => { results := [.lit (.bool false)], args := [d1, d2, d3, d4] }
  | _ => none }
def DanceEndsWrongFalsely : Prop := danceEndsRow.holds Tryz.pinned (OpenSpec.ofChange danceEndsWrong)

/-- 'quadrillekeep.DanceGoes': WHATEVER THE INPUT: true; the input reads as it did. -/
def danceGoesSpec : ChangeSpec := { name := "danceGoes", fn := fun _ => fun
  | [d1, d2, d3, d4] => { results := [.lit (.bool true)], args := [d1, d2, d3, d4] }
  | _ => none }
def danceGoesRow : OpenClaim := { program := "ytmkgmpfpemiaaaagreatdoor", sum := "d693f4775a327c8380ed92bc2246f64e121698ccf952e88497c23a7192a2d7bc", func := "quadrille/quadrillekeep.DanceGoes", spec := "danceGoes", inPlace := ["internal/reflectlite.ValueOf", "(internal/reflectlite.Value).Type", "(internal/reflectlite.Value).IsNil", "internal/reflectlite.TypeOf", "(internal/reflectlite.Value).Elem", "(internal/reflectlite.Value).Set"], unfollowed := true, recurses := true, named := ["math/bits.deBruijn32tab", "math/bits.deBruijn64tab", "quadrille/code.forms", "errors.errorType"], apart := false, laid := [("math/bits.deBruijn32tab", laid_math_bits_deBruijn32tab), ("math/bits.deBruijn64tab", laid_math_bits_deBruijn64tab), ("errors.errorType", laid_errors_errorType), ("quadrille/code.forms", laid_quadrille_code_forms)] }
def DanceGoesSaid : Prop := danceGoesRow.holds Tryz.pinned (OpenSpec.ofChange danceGoesSpec)

/-- ITS FALSE NEIGHBOUR: 'it returns false'. Refute it at one input. -/
def danceGoesWrong : ChangeSpec := { name := "danceGoes", fn := fun _ => fun
  | [d1, d2, d3, d4] => { results := [.lit (.bool false)], args := [d1, d2, d3, d4] }
  | _ => none }
def DanceGoesWrongFalsely : Prop := danceGoesRow.holds Tryz.pinned (OpenSpec.ofChange danceGoesWrong)

/-- 'quadrillekeep.DanceLag': WHATEVER THE INPUT: true; the input reads as it did. -/
def danceLagSpec : ChangeSpec := { name := "danceLag", fn := fun _ => fun
  | [d1, d2, d3, d4, d5] => { results := [.lit (.bool true)], args := [d1, d2, d3, d4, d5] }
  | _ => none }
def danceLagRow : OpenClaim := { program := "ytmkgmpfpemiaaaagreatdoor", sum := "d693f4775a327c8380ed92bc2246f64e121698ccf952e88497c23a7192a2d7bc", func := "quadrille/quadrillekeep.DanceLag", spec := "danceLag", inPlace := ["internal/reflectlite.ValueOf", "(internal/reflectlite.Value).Type", "(internal/reflectlite.Value).IsNil", "internal/reflectlite.TypeOf", "(internal/reflectlite.Value).Elem", "(internal/reflectlite.Value).Set"], unfollowed := true, recurses := true, named := ["math/bits.deBruijn32tab", "math/bits.deBruijn64tab", "quadrille/code.forms", "errors.errorType"], apart := false, laid := [("math/bits.deBruijn32tab", laid_math_bits_deBruijn32tab), ("math/bits.deBruijn64tab", laid_math_bits_deBruijn64tab), ("errors.errorType", laid_errors_errorType), ("quadrille/code.forms", laid_quadrille_code_forms)] }
def DanceLagSaid : Prop := danceLagRow.holds Tryz.pinned (OpenSpec.ofChange danceLagSpec)

/-- ITS FALSE NEIGHBOUR: 'it returns false'. Refute it at one input. -/
def danceLagWrong : ChangeSpec := { name := "danceLag", fn := fun _ => fun
  | [d1, d2, d3, d4, d5] => { results := [.lit (.bool false)], args := [d1, d2, d3, d4, d5] }
  | _ => none }
def DanceLagWrongFalsely : Prop := danceLagRow.holds Tryz.pinned (OpenSpec.ofChange danceLagWrong)

/-- 'quadrillekeep.DanceBound': WHATEVER THE INPUT: true; the input reads as it did. -/
def danceBoundSpec : ChangeSpec := { name := "danceBound", fn := fun _ => fun
  | [d1, d2, d3, d4] => { results := [.lit (.bool true)], args := [d1, d2, d3, d4] }
  | _ => none }
def danceBoundRow : OpenClaim := { program := "ytmkgmpfpemiaaaagreatdoor", sum := "d693f4775a327c8380ed92bc2246f64e121698ccf952e88497c23a7192a2d7bc", func := "quadrille/quadrillekeep.DanceBound", spec := "danceBound", inPlace := ["internal/reflectlite.ValueOf", "(internal/reflectlite.Value).Type", "(internal/reflectlite.Value).IsNil", "internal/reflectlite.TypeOf", "(internal/reflectlite.Value).Elem", "(internal/reflectlite.Value).Set"], unfollowed := true, recurses := true, named := ["math/bits.deBruijn32tab", "math/bits.deBruijn64tab", "quadrille/code.forms", "errors.errorType"], apart := false, laid := [("math/bits.deBruijn32tab", laid_math_bits_deBruijn32tab), ("math/bits.deBruijn64tab", laid_math_bits_deBruijn64tab), ("errors.errorType", laid_errors_errorType), ("quadrille/code.forms", laid_quadrille_code_forms)] }
def DanceBoundSaid : Prop := danceBoundRow.holds Tryz.pinned (OpenSpec.ofChange danceBoundSpec)

/-- ITS FALSE NEIGHBOUR: 'it returns false'. Refute it at one input. -/
def danceBoundWrong : ChangeSpec := { name := "danceBound", fn := fun _ => fun
  | [d1, d2, d3, d4] => { results := [.lit (.bool false)], args := [d1, d2, d3, d4] }
  | _ => none }
def DanceBoundWrongFalsely : Prop := danceBoundRow.holds Tryz.pinned (OpenSpec.ofChange danceBoundWrong)

/-- 'quadrillekeep.DanceWaits': WHATEVER THE INPUT: true; the input reads as it did. -/
def danceWaitsSpec : ChangeSpec := { name := "danceWaits", fn := fun _ => fun
  | [d1, d2, d3, d4, d5] => { results := [.lit (.bool true)], args := [d1, d2, d3, d4, d5] }
  | _ => none }
def danceWaitsRow : OpenClaim := { program := "ytmkgmpfpemiaaaagreatdoor", sum := "d693f4775a327c8380ed92bc2246f64e121698ccf952e88497c23a7192a2d7bc", func := "quadrille/quadrillekeep.DanceWaits", spec := "danceWaits", inPlace := ["internal/reflectlite.ValueOf", "(internal/reflectlite.Value).Type", "(internal/reflectlite.Value).IsNil", "internal/reflectlite.TypeOf", "(internal/reflectlite.Value).Elem", "(internal/reflectlite.Value).Set"], unfollowed := true, recurses := true, named := ["math/bits.deBruijn32tab", "math/bits.deBruijn64tab", "quadrille/code.forms", "errors.errorType"], apart := false, laid := [("math/bits.deBruijn32tab", laid_math_bits_deBruijn32tab), ("math/bits.deBruijn64tab", laid_math_bits_deBruijn64tab), ("errors.errorType", laid_errors_errorType), ("quadrille/code.forms", laid_quadrille_code_forms)] }
def DanceWaitsSaid : Prop := danceWaitsRow.holds Tryz.pinned (OpenSpec.ofChange danceWaitsSpec)

/-- ITS FALSE NEIGHBOUR: 'it returns false'. Refute it at one input. -/
def danceWaitsWrong : ChangeSpec := { name := "danceWaits", fn := fun _ => fun
  | [d1, d2, d3, d4, d5] => { results := [.lit (.bool false)], args := [d1, d2, d3, d4, d5] }
  | _ => none }
def DanceWaitsWrongFalsely : Prop := danceWaitsRow.holds Tryz.pinned (OpenSpec.ofChange danceWaitsWrong)

/-- 'quadrillekeep.DanceWords': WHATEVER THE INPUT: true; the input reads as it did. -/
def danceWordsSpec : ChangeSpec := { name := "danceWords", fn := fun _ => fun
  | [d1, d2, d3, d4] => { results := [.lit (.bool true)], args := [d1, d2, d3, d4] }
  | _ => none }
def danceWordsRow : OpenClaim := { program := "ytmkgmpfpemiaaaagreatdoor", sum := "d693f4775a327c8380ed92bc2246f64e121698ccf952e88497c23a7192a2d7bc", func := "quadrille/quadrillekeep.DanceWords", spec := "danceWords", inPlace := ["internal/reflectlite.ValueOf", "(internal/reflectlite.Value).Type", "(internal/reflectlite.Value).IsNil", "internal/reflectlite.TypeOf", "(internal/reflectlite.Value).Elem", "(internal/reflectlite.Value).Set"], unfollowed := true, recurses := true, named := ["math/bits.deBruijn32tab", "math/bits.deBruijn64tab", "quadrille/code.forms", "errors.errorType"], apart := false, laid := [("math/bits.deBruijn32tab", laid_math_bits_deBruijn32tab), ("math/bits.deBruijn64tab", laid_math_bits_deBruijn64tab), ("errors.errorType", laid_errors_errorType), ("quadrille/code.forms", laid_quadrille_code_forms)] }
def DanceWordsSaid : Prop := danceWordsRow.holds Tryz.pinned (OpenSpec.ofChange danceWordsSpec)

/-- ITS FALSE NEIGHBOUR: 'it returns false'. Refute it at one input. -/
def danceWordsWrong : ChangeSpec := { name := "danceWords", fn := fun _ => fun
  | [d1, d2, d3, d4] => { results := [.lit (.bool false)], args := [d1, d2, d3, d4] }
  | _ => none }
def DanceWordsWrongFalsely : Prop := danceWordsRow.holds Tryz.pinned (OpenSpec.ofChange danceWordsWrong)

/-- 'quadrillekeep.DanceAlone': WHATEVER THE INPUT: true; the input reads as it did. -/
def danceAloneSpec : ChangeSpec := { name := "danceAlone", fn := fun _ => fun
  | [d1, d2] => { results := [.lit (.bool true)], args := [d1, d2] }
  | _ => none }
def danceAloneRow : OpenClaim := { program := "ytmkgmpfpemiaaaagreatdoor", sum := "d693f4775a327c8380ed92bc2246f64e121698ccf952e88497c23a7192a2d7bc", func := "quadrille/quadrillekeep.DanceAlone", spec := "danceAlone", inPlace := ["internal/reflectlite.ValueOf", "(internal/reflectlite.Value).Type", "(internal/reflectlite.Value).IsNil", "internal/reflectlite.TypeOf", "(internal/reflectlite.Value).Elem", "(internal/reflectlite.Value).Set"], unfollowed := true, recurses := true, named := ["math/bits.deBruijn32tab", "math/bits.deBruijn64tab", "quadrille/code.forms", "errors.errorType"], apart := false, laid := [("math/bits.deBruijn32tab", laid_math_bits_deBruijn32tab), ("math/bits.deBruijn64tab", laid_math_bits_deBruijn64tab), ("errors.errorType", laid_errors_errorType), ("quadrille/code.forms", laid_quadrille_code_forms)] }
def DanceAloneSaid : Prop := danceAloneRow.holds Tryz.pinned (OpenSpec.ofChange danceAloneSpec)

/-- ITS FALSE NEIGHBOUR: 'it returns false'. Refute it at one input. -/
def danceAloneWrong : ChangeSpec := { name := "danceAlone", fn := fun _ => fun
  | [d1, d2] => { results := [.lit (.bool false)], args := [d1, d2] }
  | _ => none }
def DanceAloneWrongFalsely : Prop := danceAloneRow.holds Tryz.pinned (OpenSpec.ofChange danceAloneWrong)

/-- 'quadrillekeep.DanceGates': WHATEVER THE INPUT: true; the input reads as it did. -/
def danceGatesSpec : ChangeSpec := { name := "danceGates", fn := fun _ => fun
  | [d1, d2, d3, d4] => { results := [.lit (.bool true)], args := [d1, d2, d3, d4] }
  | _ => none }
def danceGatesRow : OpenClaim := { program := "ytmkgmpfpemiaaaagreatdoor", sum := "d693f4775a327c8380ed92bc2246f64e121698ccf952e88497c23a7192a2d7bc", func := "quadrille/quadrillekeep.DanceGates", spec := "danceGates", inPlace := ["internal/reflectlite.ValueOf", "(internal/reflectlite.Value).Type", "(internal/reflectlite.Value).IsNil", "internal/reflectlite.TypeOf", "(internal/reflectlite.Value).Elem", "(internal/reflectlite.Value).Set"], unfollowed := true, recurses := true, named := ["math/bits.deBruijn32tab", "math/bits.deBruijn64tab", "quadrille/code.forms", "errors.errorType"], apart := false, laid := [("math/bits.deBruijn32tab", laid_math_bits_deBruijn32tab), ("math/bits.deBruijn64tab", laid_math_bits_deBruijn64tab), ("errors.errorType", laid_errors_errorType), ("quadrille/code.forms", laid_quadrille_code_forms)] }
def DanceGatesSaid : Prop := danceGatesRow.holds Tryz.pinned (OpenSpec.ofChange danceGatesSpec)

/-- ITS FALSE NEIGHBOUR: 'it returns false'. Refute it at one input. -/
def danceGatesWrong : ChangeSpec := { name := "danceGates", fn := fun _ => fun
  | [d1, d2, d3, d4] => { results := [.lit (.bool false)], args := [d1, d2, d3, d4] }
  | _ => none }
def DanceGatesWrongFalsely : Prop := danceGatesRow.holds Tryz.pinned (OpenSpec.ofChange danceGatesWrong)

/-- 'quadrillekeep.DanceUp': WHATEVER THE INPUT: true; the input reads as it did. -/
def danceUpSpec : ChangeSpec := { name := "danceUp", fn := fun _ => fun
  | [d1, d2, d3, d4] => { results := [.lit (.bool true)], args := [d1, d2, d3, d4] }
  | _ => none }
def danceUpRow : OpenClaim := { program := "ytmkgmpfpemiaaaagreatdoor", sum := "d693f4775a327c8380ed92bc2246f64e121698ccf952e88497c23a7192a2d7bc", func := "quadrille/quadrillekeep.DanceUp", spec := "danceUp", inPlace := ["internal/reflectlite.ValueOf", "(internal/reflectlite.Value).Type", "(internal/reflectlite.Value).IsNil", "internal/reflectlite.TypeOf", "(internal/reflectlite.Value).Elem", "(internal/reflectlite.Value).Set"], unfollowed := true, recurses := true, named := ["math/bits.deBruijn32tab", "math/bits.deBruijn64tab", "quadrille/code.forms", "errors.errorType"], apart := false, laid := [("math/bits.deBruijn32tab", laid_math_bits_deBruijn32tab), ("math/bits.deBruijn64tab", laid_math_bits_deBruijn64tab), ("errors.errorType", laid_errors_errorType), ("quadrille/code.forms", laid_quadrille_code_forms)] }
def DanceUpSaid : Prop := danceUpRow.holds Tryz.pinned (OpenSpec.ofChange danceUpSpec)

/-- ITS FALSE NEIGHBOUR: 'it returns false'. Refute it at one input. -/
def danceUpWrong : ChangeSpec := { name := "danceUp", fn := fun _ => fun
  | [d1, d2, d3, d4] => { results := [.lit (.bool false)], args := [d1, d2, d3, d4] }
  | _ => none }
def DanceUpWrongFalsely : Prop := danceUpRow.holds Tryz.pinned (OpenSpec.ofChange danceUpWrong)

/-- 'quadrillekeep.FairAgain': WHATEVER THE INPUT: true; the input reads as it did. -/
def fairAgainSpec : ChangeSpec := { name := "fairAgain", fn := fun _ => fun
  | [d1, d2, d3, d4] => { results := [.lit (.bool true)], args := [d1, d2, d3, d4] }
  | _ => none }
def fairAgainRow : OpenClaim := { program := "ytmkgmpfpemiaaaagreatdoor", sum := "d693f4775a327c8380ed92bc2246f64e121698ccf952e88497c23a7192a2d7bc", func := "quadrille/quadrillekeep.FairAgain", spec := "fairAgain", inPlace := ["internal/reflectlite.ValueOf", "(internal/reflectlite.Value).Type", "(internal/reflectlite.Value).IsNil", "internal/reflectlite.TypeOf", "(internal/reflectlite.Value).Elem", "(internal/reflectlite.Value).Set"], unfollowed := true, recurses := true, named := ["math/bits.deBruijn32tab", "math/bits.deBruijn64tab", "quadrille/code.forms", "errors.errorType"], apart := false, laid := [("math/bits.deBruijn32tab", laid_math_bits_deBruijn32tab), ("math/bits.deBruijn64tab", laid_math_bits_deBruijn64tab), ("errors.errorType", laid_errors_errorType), ("quadrille/code.forms", laid_quadrille_code_forms)] }
def FairAgainSaid : Prop := fairAgainRow.holds Tryz.pinned (OpenSpec.ofChange fairAgainSpec)

/-- ITS FALSE NEIGHBOUR: 'it returns false'. Refute it at one input. -/
def fairAgainWrong : ChangeSpec := { name := "fairAgain", fn := fun _ => fun
  | [d1, d2, d3, d4] => { results := [.lit (.bool false)], args := [d1, d2, d3, d4] }
  | _ => none }
def FairAgainWrongFalsely : Prop := fairAgainRow.holds Tryz.pinned (OpenSpec.ofChange fairAgainWrong)

/-- 'quadrillekeep.DanceFair': WHATEVER THE INPUT: true; the input reads as it did. -/
def danceFairSpec : ChangeSpec := { name := "danceFair", fn := fun _ => fun
  | [d1, d2, d3, d4, d5] => { results := [.lit (.bool true)], args := [d1, d2, d3, d4, d5] }
  | _ => none }
def danceFairRow : OpenClaim := { program := "ytmkgmpfpemiaaaagreatdoor", sum := "d693f4775a327c8380ed92bc2246f64e121698ccf952e88497c23a7192a2d7bc", func := "quadrille/quadrillekeep.DanceFair", spec := "danceFair", inPlace := ["internal/reflectlite.ValueOf", "(internal/reflectlite.Value).Type", "(internal/reflectlite.Value).IsNil", "internal/reflectlite.TypeOf", "(internal/reflectlite.Value).Elem", "(internal/reflectlite.Value).Set"], unfollowed := true, recurses := true, named := ["math/bits.deBruijn32tab", "math/bits.deBruijn64tab", "quadrille/code.forms", "errors.errorType"], apart := false, laid := [("math/bits.deBruijn32tab", laid_math_bits_deBruijn32tab), ("math/bits.deBruijn64tab", laid_math_bits_deBruijn64tab), ("errors.errorType", laid_errors_errorType), ("quadrille/code.forms", laid_quadrille_code_forms)] }
def DanceFairSaid : Prop := danceFairRow.holds Tryz.pinned (OpenSpec.ofChange danceFairSpec)

/-- ITS FALSE NEIGHBOUR: 'it returns false'. Refute it at one input. -/
def danceFairWrong : ChangeSpec := { name := "danceFair", fn := fun _ => fun
  | [d1, d2, d3, d4, d5] => { results := [.lit (.bool false)], args := [d1, d2, d3, d4, d5] }
  | _ => none }
def DanceFairWrongFalsely : Prop := danceFairRow.holds Tryz.pinned (OpenSpec.ofChange danceFairWrong)

/- THE SECOND FORM. 'bulk': how many values and letters a reading holds, each counted each time it is reached (what is shared counts as often as it is met; a slice's spare places count too). A statement '..UptoSaid' is the law's where the arguments, and the package variables that the reading takes, are together of bulk at most 1048576: NARROWER than '..Said'. Prove '..Said' where nothing that the law and all that it calls make is longer than what came in: it says more and counts as full. Else prove '..UptoSaid'. A law counts once. -/
mutual
def uptoBulk {H : Type} : DataW H → Nat
  | .lit (.string bytes) => bytes.length + 1
  | .lit _ => 1
  | .nil => 1
  | .ptr d => uptoBulk d + 1
  | .slice elems spare => uptoBulkAll elems + uptoBulkAll spare + 1
  | .agg parts => uptoBulkAll parts + 1
  | .iface _ d => uptoBulk d + 1
  | .map entries => uptoBulkEntries entries + 1
  | .held _ => 1
def uptoBulkAll {H : Type} : List (DataW H) → Nat
  | [] => 0
  | d :: r => uptoBulk d + uptoBulkAll r
def uptoBulkEntries {H : Type} : List (Lit × DataW H) → Nat
  | [] => 0
  | x :: r => uptoBulkEntry x + uptoBulkEntries r
def uptoBulkEntry {H : Type} : Lit × DataW H → Nat
  | (.string bytes, d) => bytes.length + uptoBulk d + 1
  | (_, d) => uptoBulk d + 1
 end
def uptoSmall : (H : Type) → List (DataW H) → Bool := fun _ ds => decide (uptoBulkAll ds ≤ 1048576)
def OpenSpec.upto (s : _root_.Go.ChangeSpec) : _root_.Go.OpenSpec := { _root_.Go.OpenSpec.ofChange s with cond := some uptoSmall }

/-- 'quadrillekeep.DanceOrder', WHERE WHAT IT READS IS OF BULK AT MOST 1048576: true; the input reads as it did. -/
def danceOrderUptoRow : OpenClaim := { program := "ytmkgmpfpemiaaaagreatdoor", sum := "d693f4775a327c8380ed92bc2246f64e121698ccf952e88497c23a7192a2d7bc", func := "quadrille/quadrillekeep.DanceOrder", spec := "danceOrder", inPlace := ["internal/reflectlite.ValueOf", "(internal/reflectlite.Value).Type", "(internal/reflectlite.Value).IsNil", "internal/reflectlite.TypeOf", "(internal/reflectlite.Value).Elem", "(internal/reflectlite.Value).Set"], unfollowed := true, recurses := true, named := ["math/bits.deBruijn32tab", "math/bits.deBruijn64tab", "quadrille/code.forms", "errors.errorType"], apart := false, laid := [("math/bits.deBruijn32tab", laid_math_bits_deBruijn32tab), ("math/bits.deBruijn64tab", laid_math_bits_deBruijn64tab), ("errors.errorType", laid_errors_errorType), ("quadrille/code.forms", laid_quadrille_code_forms)], narrowed := true }
def DanceOrderUptoSaid : Prop := danceOrderUptoRow.holds Tryz.pinned (OpenSpec.upto danceOrderSpec)

/-- 'quadrillekeep.DanceEnds', WHERE WHAT IT READS IS OF BULK AT MOST 1048576: true; the input reads as it did. -/
def danceEndsUptoRow : OpenClaim := { program := "ytmkgmpfpemiaaaagreatdoor", sum := "d693f4775a327c8380ed92bc2246f64e121698ccf952e88497c23a7192a2d7bc", func := "quadrille/quadrillekeep.DanceEnds", spec := "danceEnds", inPlace := ["internal/reflectlite.ValueOf", "(internal/reflectlite.Value).Type", "(internal/reflectlite.Value).IsNil", "internal/reflectlite.TypeOf", "(internal/reflectlite.Value).Elem", "(internal/reflectlite.Value).Set"], unfollowed := true, recurses := true, named := ["math/bits.deBruijn32tab", "math/bits.deBruijn64tab", "quadrille/code.forms", "errors.errorType"], apart := false, laid := [("math/bits.deBruijn32tab", laid_math_bits_deBruijn32tab), ("math/bits.deBruijn64tab", laid_math_bits_deBruijn64tab), ("errors.errorType", laid_errors_errorType), ("quadrille/code.forms", laid_quadrille_code_forms)], narrowed := true }
def DanceEndsUptoSaid : Prop := danceEndsUptoRow.holds Tryz.pinned (OpenSpec.upto danceEndsSpec)

/-- 'quadrillekeep.DanceGoes', WHERE WHAT IT READS IS OF BULK AT MOST 1048576: true; the input reads as it did. -/
def danceGoesUptoRow : OpenClaim := { program := "ytmkgmpfpemiaaaagreatdoor", sum := "d693f4775a327c8380ed92bc2246f64e121698ccf952e88497c23a7192a2d7bc", func := "quadrille/quadrillekeep.DanceGoes", spec := "danceGoes", inPlace := ["internal/reflectlite.ValueOf", "(internal/reflectlite.Value).Type", "(internal/reflectlite.Value).IsNil", "internal/reflectlite.TypeOf", "(internal/reflectlite.Value).Elem", "(internal/reflectlite.Value).Set"], unfollowed := true, recurses := true, named := ["math/bits.deBruijn32tab", "math/bits.deBruijn64tab", "quadrille/code.forms", "errors.errorType"], apart := false, laid := [("math/bits.deBruijn32tab", laid_math_bits_deBruijn32tab), ("math/bits.deBruijn64tab", laid_math_bits_deBruijn64tab), ("errors.errorType", laid_errors_errorType), ("quadrille/code.forms", laid_quadrille_code_forms)], narrowed := true }
def DanceGoesUptoSaid : Prop := danceGoesUptoRow.holds Tryz.pinned (OpenSpec.upto danceGoesSpec)

/-- 'quadrillekeep.DanceLag', WHERE WHAT IT READS IS OF BULK AT MOST 1048576: true; the input reads as it did. -/
def danceLagUptoRow : OpenClaim := { program := "ytmkgmpfpemiaaaagreatdoor", sum := "d693f4775a327c8380ed92bc2246f64e121698ccf952e88497c23a7192a2d7bc", func := "quadrille/quadrillekeep.DanceLag", spec := "danceLag", inPlace := ["internal/reflectlite.ValueOf", "(internal/reflectlite.Value).Type", "(internal/reflectlite.Value).IsNil", "internal/reflectlite.TypeOf", "(internal/reflectlite.Value).Elem", "(internal/reflectlite.Value).Set"], unfollowed := true, recurses := true, named := ["math/bits.deBruijn32tab", "math/bits.deBruijn64tab", "quadrille/code.forms", "errors.errorType"], apart := false, laid := [("math/bits.deBruijn32tab", laid_math_bits_deBruijn32tab), ("math/bits.deBruijn64tab", laid_math_bits_deBruijn64tab), ("errors.errorType", laid_errors_errorType), ("quadrille/code.forms", laid_quadrille_code_forms)], narrowed := true }
def DanceLagUptoSaid : Prop := danceLagUptoRow.holds Tryz.pinned (OpenSpec.upto danceLagSpec)

/-- 'quadrillekeep.DanceBound', WHERE WHAT IT READS IS OF BULK AT MOST 1048576: true; the input reads as it did. -/
def danceBoundUptoRow : OpenClaim := { program := "ytmkgmpfpemiaaaagreatdoor", sum := "d693f4775a327c8380ed92bc2246f64e121698ccf952e88497c23a7192a2d7bc", func := "quadrille/quadrillekeep.DanceBound", spec := "danceBound", inPlace := ["internal/reflectlite.ValueOf", "(internal/reflectlite.Value).Type", "(internal/reflectlite.Value).IsNil", "internal/reflectlite.TypeOf", "(internal/reflectlite.Value).Elem", "(internal/reflectlite.Value).Set"], unfollowed := true, recurses := true, named := ["math/bits.deBruijn32tab", "math/bits.deBruijn64tab", "quadrille/code.forms", "errors.errorType"], apart := false, laid := [("math/bits.deBruijn32tab", laid_math_bits_deBruijn32tab), ("math/bits.deBruijn64tab", laid_math_bits_deBruijn64tab), ("errors.errorType", laid_errors_errorType), ("quadrille/code.forms", laid_quadrille_code_forms)], narrowed := true }
def DanceBoundUptoSaid : Prop := danceBoundUptoRow.holds Tryz.pinned (OpenSpec.upto danceBoundSpec)

/-- 'quadrillekeep.DanceWaits', WHERE WHAT IT READS IS OF BULK AT MOST 1048576: true; the input reads as it did. -/
def danceWaitsUptoRow : OpenClaim := { program := "ytmkgmpfpemiaaaagreatdoor", sum := "d693f4775a327c8380ed92bc2246f64e121698ccf952e88497c23a7192a2d7bc", func := "quadrille/quadrillekeep.DanceWaits", spec := "danceWaits", inPlace := ["internal/reflectlite.ValueOf", "(internal/reflectlite.Value).Type", "(internal/reflectlite.Value).IsNil", "internal/reflectlite.TypeOf", "(internal/reflectlite.Value).Elem", "(internal/reflectlite.Value).Set"], unfollowed := true, recurses := true, named := ["math/bits.deBruijn32tab", "math/bits.deBruijn64tab", "quadrille/code.forms", "errors.errorType"], apart := false, laid := [("math/bits.deBruijn32tab", laid_math_bits_deBruijn32tab), ("math/bits.deBruijn64tab", laid_math_bits_deBruijn64tab), ("errors.errorType", laid_errors_errorType), ("quadrille/code.forms", laid_quadrille_code_forms)], narrowed := true }
def DanceWaitsUptoSaid : Prop := danceWaitsUptoRow.holds Tryz.pinned (OpenSpec.upto danceWaitsSpec)

/-- 'quadrillekeep.DanceWords', WHERE WHAT IT READS IS OF BULK AT MOST 1048576: true; the input reads as it did. -/
def danceWordsUptoRow : OpenClaim := { program := "ytmkgmpfpemiaaaagreatdoor", sum := "d693f4775a327c8380ed92bc2246f64e121698ccf952e88497c23a7192a2d7bc", func := "quadrille/quadrillekeep.DanceWords", spec := "danceWords", inPlace := ["internal/reflectlite.ValueOf", "(internal/reflectlite.Value).Type", "(internal/reflectlite.Value).IsNil", "internal/reflectlite.TypeOf", "(internal/reflectlite.Value).Elem", "(internal/reflectlite.Value).Set"], unfollowed := true, recurses := true, named := ["math/bits.deBruijn32tab", "math/bits.deBruijn64tab", "quadrille/code.forms", "errors.errorType"], apart := false, laid := [("math/bits.deBruijn32tab", laid_math_bits_deBruijn32tab), ("math/bits.deBruijn64tab", laid_math_bits_deBruijn64tab), ("errors.errorType", laid_errors_errorType), ("quadrille/code.forms", laid_quadrille_code_forms)], narrowed := true }
def DanceWordsUptoSaid : Prop := danceWordsUptoRow.holds Tryz.pinned (OpenSpec.upto danceWordsSpec)

/-- 'quadrillekeep.DanceAlone', WHERE WHAT IT READS IS OF BULK AT MOST 1048576: true; the input reads as it did. -/
def danceAloneUptoRow : OpenClaim := { program := "ytmkgmpfpemiaaaagreatdoor", sum := "d693f4775a327c8380ed92bc2246f64e121698ccf952e88497c23a7192a2d7bc", func := "quadrille/quadrillekeep.DanceAlone", spec := "danceAlone", inPlace := ["internal/reflectlite.ValueOf", "(internal/reflectlite.Value).Type", "(internal/reflectlite.Value).IsNil", "internal/reflectlite.TypeOf", "(internal/reflectlite.Value).Elem", "(internal/reflectlite.Value).Set"], unfollowed := true, recurses := true, named := ["math/bits.deBruijn32tab", "math/bits.deBruijn64tab", "quadrille/code.forms", "errors.errorType"], apart := false, laid := [("math/bits.deBruijn32tab", laid_math_bits_deBruijn32tab), ("math/bits.deBruijn64tab", laid_math_bits_deBruijn64tab), ("errors.errorType", laid_errors_errorType), ("quadrille/code.forms", laid_quadrille_code_forms)], narrowed := true }
def DanceAloneUptoSaid : Prop := danceAloneUptoRow.holds Tryz.pinned (OpenSpec.upto danceAloneSpec)

/-- 'quadrillekeep.DanceGates', WHERE WHAT IT READS IS OF BULK AT MOST 1048576: true; the input reads as it did. -/
def danceGatesUptoRow : OpenClaim := { program := "ytmkgmpfpemiaaaagreatdoor", sum := "d693f4775a327c8380ed92bc2246f64e121698ccf952e88497c23a7192a2d7bc", func := "quadrille/quadrillekeep.DanceGates", spec := "danceGates", inPlace := ["internal/reflectlite.ValueOf", "(internal/reflectlite.Value).Type", "(internal/reflectlite.Value).IsNil", "internal/reflectlite.TypeOf", "(internal/reflectlite.Value).Elem", "(internal/reflectlite.Value).Set"], unfollowed := true, recurses := true, named := ["math/bits.deBruijn32tab", "math/bits.deBruijn64tab", "quadrille/code.forms", "errors.errorType"], apart := false, laid := [("math/bits.deBruijn32tab", laid_math_bits_deBruijn32tab), ("math/bits.deBruijn64tab", laid_math_bits_deBruijn64tab), ("errors.errorType", laid_errors_errorType), ("quadrille/code.forms", laid_quadrille_code_forms)], narrowed := true }
def DanceGatesUptoSaid : Prop := danceGatesUptoRow.holds Tryz.pinned (OpenSpec.upto danceGatesSpec)

/-- 'quadrillekeep.DanceUp', WHERE WHAT IT READS IS OF BULK AT MOST 1048576: true; the input reads as it did. -/
def danceUpUptoRow : OpenClaim := { program := "ytmkgmpfpemiaaaagreatdoor", sum := "d693f4775a327c8380ed92bc2246f64e121698ccf952e88497c23a7192a2d7bc", func := "quadrille/quadrillekeep.DanceUp", spec := "danceUp", inPlace := ["internal/reflectlite.ValueOf", "(internal/reflectlite.Value).Type", "(internal/reflectlite.Value).IsNil", "internal/reflectlite.TypeOf", "(internal/reflectlite.Value).Elem", "(internal/reflectlite.Value).Set"], unfollowed := true, recurses := true, named := ["math/bits.deBruijn32tab", "math/bits.deBruijn64tab", "quadrille/code.forms", "errors.errorType"], apart := false, laid := [("math/bits.deBruijn32tab", laid_math_bits_deBruijn32tab), ("math/bits.deBruijn64tab", laid_math_bits_deBruijn64tab), ("errors.errorType", laid_errors_errorType), ("quadrille/code.forms", laid_quadrille_code_forms)], narrowed := true }
def DanceUpUptoSaid : Prop := danceUpUptoRow.holds Tryz.pinned (OpenSpec.upto danceUpSpec)

/-- 'quadrillekeep.FairAgain', WHERE WHAT IT READS IS OF BULK AT MOST 1048576: true; the input reads as it did. -/
def fairAgainUptoRow : OpenClaim := { program := "ytmkgmpfpemiaaaagreatdoor", sum := "d693f4775a327c8380ed92bc2246f64e121698ccf952e88497c23a7192a2d7bc", func := "quadrille/quadrillekeep.FairAgain", spec := "fairAgain", inPlace := ["internal/reflectlite.ValueOf", "(internal/reflectlite.Value).Type", "(internal/reflectlite.Value).IsNil", "internal/reflectlite.TypeOf", "(internal/reflectlite.Value).Elem", "(internal/reflectlite.Value).Set"], unfollowed := true, recurses := true, named := ["math/bits.deBruijn32tab", "math/bits.deBruijn64tab", "quadrille/code.forms", "errors.errorType"], apart := false, laid := [("math/bits.deBruijn32tab", laid_math_bits_deBruijn32tab), ("math/bits.deBruijn64tab", laid_math_bits_deBruijn64tab), ("errors.errorType", laid_errors_errorType), ("quadrille/code.forms", laid_quadrille_code_forms)], narrowed := true }
def FairAgainUptoSaid : Prop := fairAgainUptoRow.holds Tryz.pinned (OpenSpec.upto fairAgainSpec)

/-- 'quadrillekeep.DanceFair', WHERE WHAT IT READS IS OF BULK AT MOST 1048576: true; the input reads as it did. -/
def danceFairUptoRow : OpenClaim := { program := "ytmkgmpfpemiaaaagreatdoor", sum := "d693f4775a327c8380ed92bc2246f64e121698ccf952e88497c23a7192a2d7bc", func := "quadrille/quadrillekeep.DanceFair", spec := "danceFair", inPlace := ["internal/reflectlite.ValueOf", "(internal/reflectlite.Value).Type", "(internal/reflectlite.Value).IsNil", "internal/reflectlite.TypeOf", "(internal/reflectlite.Value).Elem", "(internal/reflectlite.Value).Set"], unfollowed := true, recurses := true, named := ["math/bits.deBruijn32tab", "math/bits.deBruijn64tab", "quadrille/code.forms", "errors.errorType"], apart := false, laid := [("math/bits.deBruijn32tab", laid_math_bits_deBruijn32tab), ("math/bits.deBruijn64tab", laid_math_bits_deBruijn64tab), ("errors.errorType", laid_errors_errorType), ("quadrille/code.forms", laid_quadrille_code_forms)], narrowed := true }
def DanceFairUptoSaid : Prop := danceFairUptoRow.holds Tryz.pinned (OpenSpec.upto danceFairSpec)

end Rows
end Go.Proofs.YtmkgmpfpemiaaaaGreatDoor
