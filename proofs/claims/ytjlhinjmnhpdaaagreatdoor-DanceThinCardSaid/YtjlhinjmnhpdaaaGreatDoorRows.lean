/-
  NARROWER THAN 'FOR EVERY INPUT', by the rows' own cells (each row's printed sentence says how): CentralLeaves: laid · CombineLeaves: laid · StaticLeaves: laid · SpreadLeaves: laid · McsLeaves: laid · TourneyLeaves: laid · SpreadThin: laid · CentralCrowds: laid · DancePokes: laid · DanceDown: laid · DanceSame: laid · DanceThin: laid.
  DERIVED. THE GIVEN ROWS OF THIS SEAT. 12 by the template 'for every input the law returns true; each argument reads behind the call as it read before'; 0 by the template 'total and deterministic' (their statements: YtjlhinjmnhpdaaaGreatDoorTotals.lean).
  GIVEN WITH THE SEED: the statements are not yours to turn. If you find one false, say at which input.
  Laid BY PROGRAM, IN A SANDBOX (cutbox-rows.mjs): the forced cells as the released guide's own fill.sh prints them over the translation 9ecff16a5113f190… (all of the seat's roots in one cut). By AI agents, Wed Nov 11 2026. No macro, syntax, notation, axiom, sorry.
-/
import Derived.Test.YtjlhinjmnhpdaaaGreatDoorChecked
import GoSem.Claim
import GoSem.ClaimJoined
import GoSem.ClaimMapViews
import Derived.JoinedTies
import Derived.KernelRfl
namespace Go.Proofs.YtjlhinjmnhpdaaaGreatDoor
/- THE CELL 'sum', in the pinned program and in every row, IS THE sha256 OF THE DUMP (.gsa) THAT YtjlhinjmnhpdaaaGreatDoorProg.lean LOADS. Nothing in Lean hashes anything: it is a label: what it is worth is what the hold of that sum in a sandbox is worth. -/
noncomputable def Tryz.pinned : Pinned := { name := "ytjlhinjmnhpdaaagreatdoor", sum := "9ecff16a5113f190aa4b4d0f26ca3e8d84411560f61e6b77c5275ca244cef546", checked := Tryz.checked }
namespace Rows
def none {H : Type} : Left H := { results := [], args := [] }

/- WHAT THE LISTED PACKAGE-LEVEL VARIABLES READ AS WHEN THE CALL BEGINS. Each datum BY PROGRAM (the guide's laid-datum.mjs) off the statement by which the dump's own 'gosem.cut.vars' lays the variable. In a bare row this is a premise. The card (YtjlhinjmnhpdaaaGreatDoorCards.lean) ties it to the program's text. -/
def laid_math_bits_deBruijn32tab {H : Type} : DataW H := .agg [.lit (.int .u8 0), .lit (.int .u8 1), .lit (.int .u8 28), .lit (.int .u8 2), .lit (.int .u8 29), .lit (.int .u8 14), .lit (.int .u8 24), .lit (.int .u8 3), .lit (.int .u8 30), .lit (.int .u8 22), .lit (.int .u8 20), .lit (.int .u8 15), .lit (.int .u8 25), .lit (.int .u8 17), .lit (.int .u8 4), .lit (.int .u8 8), .lit (.int .u8 31), .lit (.int .u8 27), .lit (.int .u8 13), .lit (.int .u8 23), .lit (.int .u8 21), .lit (.int .u8 19), .lit (.int .u8 16), .lit (.int .u8 7), .lit (.int .u8 26), .lit (.int .u8 12), .lit (.int .u8 18), .lit (.int .u8 6), .lit (.int .u8 11), .lit (.int .u8 5), .lit (.int .u8 10), .lit (.int .u8 9)]
def laid_math_bits_deBruijn64tab {H : Type} : DataW H := .agg [.lit (.int .u8 0), .lit (.int .u8 1), .lit (.int .u8 56), .lit (.int .u8 2), .lit (.int .u8 57), .lit (.int .u8 49), .lit (.int .u8 28), .lit (.int .u8 3), .lit (.int .u8 61), .lit (.int .u8 58), .lit (.int .u8 42), .lit (.int .u8 50), .lit (.int .u8 38), .lit (.int .u8 29), .lit (.int .u8 17), .lit (.int .u8 4), .lit (.int .u8 62), .lit (.int .u8 47), .lit (.int .u8 59), .lit (.int .u8 36), .lit (.int .u8 45), .lit (.int .u8 43), .lit (.int .u8 51), .lit (.int .u8 22), .lit (.int .u8 53), .lit (.int .u8 39), .lit (.int .u8 33), .lit (.int .u8 30), .lit (.int .u8 24), .lit (.int .u8 18), .lit (.int .u8 12), .lit (.int .u8 5), .lit (.int .u8 63), .lit (.int .u8 55), .lit (.int .u8 48), .lit (.int .u8 27), .lit (.int .u8 60), .lit (.int .u8 41), .lit (.int .u8 37), .lit (.int .u8 16), .lit (.int .u8 46), .lit (.int .u8 35), .lit (.int .u8 44), .lit (.int .u8 21), .lit (.int .u8 52), .lit (.int .u8 32), .lit (.int .u8 23), .lit (.int .u8 11), .lit (.int .u8 54), .lit (.int .u8 26), .lit (.int .u8 40), .lit (.int .u8 15), .lit (.int .u8 34), .lit (.int .u8 20), .lit (.int .u8 31), .lit (.int .u8 10), .lit (.int .u8 25), .lit (.int .u8 14), .lit (.int .u8 19), .lit (.int .u8 9), .lit (.int .u8 13), .lit (.int .u8 8), .lit (.int .u8 7), .lit (.int .u8 6)]
def laid_errors_errorType {H : Type} : DataW H := .iface "internal/reflectlite.rtype" (.agg [.ptr (.lit (.string [101, 114, 114, 111, 114]))])
def laid_quadrille_code_forms {H : Type} : DataW H := .agg [.agg [.lit (.string [104, 97, 108, 116]), .agg [.lit (.int .i64 0), .lit (.int .i64 0), .lit (.int .i64 0), .lit (.int .i64 0)]], .agg [.lit (.string [108, 101, 116]), .agg [.lit (.int .i64 1), .lit (.int .i64 3), .lit (.int .i64 0), .lit (.int .i64 0)]], .agg [.lit (.string [99, 111, 112, 121]), .agg [.lit (.int .i64 1), .lit (.int .i64 1), .lit (.int .i64 0), .lit (.int .i64 0)]], .agg [.lit (.string [112, 108, 117, 115]), .agg [.lit (.int .i64 1), .lit (.int .i64 1), .lit (.int .i64 3), .lit (.int .i64 0)]], .agg [.lit (.string [115, 117, 109]), .agg [.lit (.int .i64 1), .lit (.int .i64 1), .lit (.int .i64 1), .lit (.int .i64 0)]], .agg [.lit (.string [102, 105, 101, 108, 100]), .agg [.lit (.int .i64 1), .lit (.int .i64 1), .lit (.int .i64 6), .lit (.int .i64 7)]], .agg [.lit (.string [108, 111, 97, 100]), .agg [.lit (.int .i64 1), .lit (.int .i64 2), .lit (.int .i64 0), .lit (.int .i64 0)]], .agg [.lit (.string [115, 116, 111, 114, 101]), .agg [.lit (.int .i64 2), .lit (.int .i64 1), .lit (.int .i64 5), .lit (.int .i64 0)]], .agg [.lit (.string [102, 101, 116, 99, 104]), .agg [.lit (.int .i64 1), .lit (.int .i64 2), .lit (.int .i64 3), .lit (.int .i64 0)]], .agg [.lit (.string [115, 119, 97, 112]), .agg [.lit (.int .i64 1), .lit (.int .i64 2), .lit (.int .i64 1), .lit (.int .i64 1)]], .agg [.lit (.string [106, 117, 109, 112]), .agg [.lit (.int .i64 4), .lit (.int .i64 0), .lit (.int .i64 0), .lit (.int .i64 0)]], .agg [.lit (.string [115, 97, 109, 101]), .agg [.lit (.int .i64 1), .lit (.int .i64 3), .lit (.int .i64 4), .lit (.int .i64 0)]], .agg [.lit (.string [108, 101, 115, 115]), .agg [.lit (.int .i64 1), .lit (.int .i64 1), .lit (.int .i64 4), .lit (.int .i64 0)]], .agg [.lit (.string [101, 113, 117, 97, 108]), .agg [.lit (.int .i64 1), .lit (.int .i64 1), .lit (.int .i64 4), .lit (.int .i64 0)]], .agg [.lit (.string [119, 97, 105, 116]), .agg [.lit (.int .i64 2), .lit (.int .i64 1), .lit (.int .i64 0), .lit (.int .i64 0)]], .agg [.lit (.string [119, 97, 107, 101]), .agg [.lit (.int .i64 2), .lit (.int .i64 3), .lit (.int .i64 5), .lit (.int .i64 0)]], .agg [.lit (.string [115, 97, 121]), .agg [.lit (.int .i64 3), .lit (.int .i64 1), .lit (.int .i64 0), .lit (.int .i64 0)]]]

/-- 'quadrillekeep.CentralLeaves': WHATEVER THE INPUT: true; the input reads as it did. -/
def centralLeavesSpec : ChangeSpec := { name := "centralLeaves", fn := fun _ => fun
  | [d1, d2, d3] => { results := [.lit (.bool true)], args := [d1, d2, d3] }
  | _ => none }
def centralLeavesRow : OpenClaim := { program := "ytjlhinjmnhpdaaagreatdoor", sum := "9ecff16a5113f190aa4b4d0f26ca3e8d84411560f61e6b77c5275ca244cef546", func := "quadrille/quadrillekeep.CentralLeaves", spec := "centralLeaves", inPlace := ["internal/reflectlite.ValueOf", "(internal/reflectlite.Value).Type", "(internal/reflectlite.Value).IsNil", "internal/reflectlite.TypeOf", "(internal/reflectlite.Value).Elem", "(internal/reflectlite.Value).Set"], unfollowed := true, recurses := true, named := ["math/bits.deBruijn32tab", "math/bits.deBruijn64tab", "quadrille/code.forms", "errors.errorType"], apart := false, laid := [("math/bits.deBruijn32tab", laid_math_bits_deBruijn32tab), ("math/bits.deBruijn64tab", laid_math_bits_deBruijn64tab), ("errors.errorType", laid_errors_errorType), ("quadrille/code.forms", laid_quadrille_code_forms)] }
def CentralLeavesSaid : Prop := centralLeavesRow.holds Tryz.pinned (OpenSpec.ofChange centralLeavesSpec)

/-- ITS FALSE NEIGHBOUR: 'it returns false'. Refute it at one input. -/
def centralLeavesWrong : ChangeSpec := { name := "centralLeaves", fn := fun _ => fun
  | [d1, d2, d3] => { results := [.lit (.bool false)], args := [d1, d2, d3] }
  | _ => none }
def CentralLeavesWrongFalsely : Prop := centralLeavesRow.holds Tryz.pinned (OpenSpec.ofChange centralLeavesWrong)

/-- 'quadrillekeep.CombineLeaves': WHATEVER THE INPUT: true; the input reads as it did. -/
def combineLeavesSpec : ChangeSpec := { name := "combineLeaves", fn := fun _ => fun
  | [d1, d2, d3] => { results := [.lit (.bool true)], args := [d1, d2, d3] }
  | _ => none }
def combineLeavesRow : OpenClaim := { program := "ytjlhinjmnhpdaaagreatdoor", sum := "9ecff16a5113f190aa4b4d0f26ca3e8d84411560f61e6b77c5275ca244cef546", func := "quadrille/quadrillekeep.CombineLeaves", spec := "combineLeaves", inPlace := ["internal/reflectlite.ValueOf", "(internal/reflectlite.Value).Type", "(internal/reflectlite.Value).IsNil", "internal/reflectlite.TypeOf", "(internal/reflectlite.Value).Elem", "(internal/reflectlite.Value).Set"], unfollowed := true, recurses := true, named := ["math/bits.deBruijn32tab", "math/bits.deBruijn64tab", "quadrille/code.forms", "errors.errorType"], apart := false, laid := [("math/bits.deBruijn32tab", laid_math_bits_deBruijn32tab), ("math/bits.deBruijn64tab", laid_math_bits_deBruijn64tab), ("errors.errorType", laid_errors_errorType), ("quadrille/code.forms", laid_quadrille_code_forms)] }
def CombineLeavesSaid : Prop := combineLeavesRow.holds Tryz.pinned (OpenSpec.ofChange combineLeavesSpec)

/-- ITS FALSE NEIGHBOUR: 'it returns false'. Refute it at one input. -/
def combineLeavesWrong : ChangeSpec := { name := "combineLeaves", fn := fun _ => fun
  | [d1, d2, d3] => { results := [.lit (.bool false)], args := [d1, d2, d3] }
  | _ => none }
def CombineLeavesWrongFalsely : Prop := combineLeavesRow.holds Tryz.pinned (OpenSpec.ofChange combineLeavesWrong)

/-- 'quadrillekeep.StaticLeaves': WHATEVER THE INPUT: true; the input reads as it did. -/
def staticLeavesSpec : ChangeSpec := { name := "staticLeaves", fn := fun _ => fun
  | [d1, d2, d3] => { results := [.lit (.bool true)], args := [d1, d2, d3] }
  | _ => none }
def staticLeavesRow : OpenClaim := { program := "ytjlhinjmnhpdaaagreatdoor", sum := "9ecff16a5113f190aa4b4d0f26ca3e8d84411560f61e6b77c5275ca244cef546", func := "quadrille/quadrillekeep.StaticLeaves", spec := "staticLeaves", inPlace := ["internal/reflectlite.ValueOf", "(internal/reflectlite.Value).Type", "(internal/reflectlite.Value).IsNil", "internal/reflectlite.TypeOf", "(internal/reflectlite.Value).Elem", "(internal/reflectlite.Value).Set"], unfollowed := true, recurses := true, named := ["math/bits.deBruijn32tab", "math/bits.deBruijn64tab", "quadrille/code.forms", "errors.errorType"], apart := false, laid := [("math/bits.deBruijn32tab", laid_math_bits_deBruijn32tab), ("math/bits.deBruijn64tab", laid_math_bits_deBruijn64tab), ("errors.errorType", laid_errors_errorType), ("quadrille/code.forms", laid_quadrille_code_forms)] }
def StaticLeavesSaid : Prop := staticLeavesRow.holds Tryz.pinned (OpenSpec.ofChange staticLeavesSpec)

/-- ITS FALSE NEIGHBOUR: 'it returns false'. Refute it at one input. -/
def staticLeavesWrong : ChangeSpec := { name := "staticLeaves", fn := fun _ => fun
  | [d1, d2, d3] => { results := [.lit (.bool false)], args := [d1, d2, d3] }
  | _ => none }
def StaticLeavesWrongFalsely : Prop := staticLeavesRow.holds Tryz.pinned (OpenSpec.ofChange staticLeavesWrong)

/-- 'quadrillekeep.SpreadLeaves': WHATEVER THE INPUT: true; the input reads as it did. -/
def spreadLeavesSpec : ChangeSpec := { name := "spreadLeaves", fn := fun _ => fun
  | [d1, d2, d3] => { results := [.lit (.bool true)], args := [d1, d2, d3] }
  | _ => none }
def spreadLeavesRow : OpenClaim := { program := "ytjlhinjmnhpdaaagreatdoor", sum := "9ecff16a5113f190aa4b4d0f26ca3e8d84411560f61e6b77c5275ca244cef546", func := "quadrille/quadrillekeep.SpreadLeaves", spec := "spreadLeaves", inPlace := ["internal/reflectlite.ValueOf", "(internal/reflectlite.Value).Type", "(internal/reflectlite.Value).IsNil", "internal/reflectlite.TypeOf", "(internal/reflectlite.Value).Elem", "(internal/reflectlite.Value).Set"], unfollowed := true, recurses := true, named := ["math/bits.deBruijn32tab", "math/bits.deBruijn64tab", "quadrille/code.forms", "errors.errorType"], apart := false, laid := [("math/bits.deBruijn32tab", laid_math_bits_deBruijn32tab), ("math/bits.deBruijn64tab", laid_math_bits_deBruijn64tab), ("errors.errorType", laid_errors_errorType), ("quadrille/code.forms", laid_quadrille_code_forms)] }
def SpreadLeavesSaid : Prop := spreadLeavesRow.holds Tryz.pinned (OpenSpec.ofChange spreadLeavesSpec)

/-- ITS FALSE NEIGHBOUR: 'it returns false'. Refute it at one input. -/
def spreadLeavesWrong : ChangeSpec := { name := "spreadLeaves", fn := fun _ => fun
  | [d1, d2, d3] => { results := [.lit (.bool false)], args := [d1, d2, d3] }
  | _ => none }
def SpreadLeavesWrongFalsely : Prop := spreadLeavesRow.holds Tryz.pinned (OpenSpec.ofChange spreadLeavesWrong)

/-- 'quadrillekeep.McsLeaves': WHATEVER THE INPUT: true; the input reads as it did. -/
def mcsLeavesSpec : ChangeSpec := { name := "mcsLeaves", fn := fun _ => fun
  | [d1, d2, d3] => { results := [.lit (.bool true)], args := [d1, d2, d3] }
  | _ => none }
def mcsLeavesRow : OpenClaim := { program := "ytjlhinjmnhpdaaagreatdoor", sum := "9ecff16a5113f190aa4b4d0f26ca3e8d84411560f61e6b77c5275ca244cef546", func := "quadrille/quadrillekeep.McsLeaves", spec := "mcsLeaves", inPlace := ["internal/reflectlite.ValueOf", "(internal/reflectlite.Value).Type", "(internal/reflectlite.Value).IsNil", "internal/reflectlite.TypeOf", "(internal/reflectlite.Value).Elem", "(internal/reflectlite.Value).Set"], unfollowed := true, recurses := true, named := ["math/bits.deBruijn32tab", "math/bits.deBruijn64tab", "quadrille/code.forms", "errors.errorType"], apart := false, laid := [("math/bits.deBruijn32tab", laid_math_bits_deBruijn32tab), ("math/bits.deBruijn64tab", laid_math_bits_deBruijn64tab), ("errors.errorType", laid_errors_errorType), ("quadrille/code.forms", laid_quadrille_code_forms)] }
def McsLeavesSaid : Prop := mcsLeavesRow.holds Tryz.pinned (OpenSpec.ofChange mcsLeavesSpec)

/-- ITS FALSE NEIGHBOUR: 'it returns false'. Refute it at one input. -/
def mcsLeavesWrong : ChangeSpec := { name := "mcsLeaves", fn := fun _ => fun
  | [d1, d2, d3] => { results := [.lit (.bool false)], args := [d1, d2, d3] }
  | _ => none }
def McsLeavesWrongFalsely : Prop := mcsLeavesRow.holds Tryz.pinned (OpenSpec.ofChange mcsLeavesWrong)

/-- 'quadrillekeep.TourneyLeaves': WHATEVER THE INPUT: true; the input reads as it did. -/
def tourneyLeavesSpec : ChangeSpec := { name := "tourneyLeaves", fn := fun _ => fun
  | [d1, d2, d3] => { results := [.lit (.bool true)], args := [d1, d2, d3] }
  | _ => none }
def tourneyLeavesRow : OpenClaim := { program := "ytjlhinjmnhpdaaagreatdoor", sum := "9ecff16a5113f190aa4b4d0f26ca3e8d84411560f61e6b77c5275ca244cef546", func := "quadrille/quadrillekeep.TourneyLeaves", spec := "tourneyLeaves", inPlace := ["internal/reflectlite.ValueOf", "(internal/reflectlite.Value).Type", "(internal/reflectlite.Value).IsNil", "internal/reflectlite.TypeOf", "(internal/reflectlite.Value).Elem", "(internal/reflectlite.Value).Set"], unfollowed := true, recurses := true, named := ["math/bits.deBruijn32tab", "math/bits.deBruijn64tab", "quadrille/code.forms", "errors.errorType"], apart := false, laid := [("math/bits.deBruijn32tab", laid_math_bits_deBruijn32tab), ("math/bits.deBruijn64tab", laid_math_bits_deBruijn64tab), ("errors.errorType", laid_errors_errorType), ("quadrille/code.forms", laid_quadrille_code_forms)] }
def TourneyLeavesSaid : Prop := tourneyLeavesRow.holds Tryz.pinned (OpenSpec.ofChange tourneyLeavesSpec)

/-- ITS FALSE NEIGHBOUR: 'it returns false'. Refute it at one input. -/
def tourneyLeavesWrong : ChangeSpec := { name := "tourneyLeaves", fn := fun _ => fun
  | [d1, d2, d3] => { results := [.lit (.bool false)], args := [d1, d2, d3] }
  | _ => none }
def TourneyLeavesWrongFalsely : Prop := tourneyLeavesRow.holds Tryz.pinned (OpenSpec.ofChange tourneyLeavesWrong)

/-- 'quadrillekeep.SpreadThin': WHATEVER THE INPUT: true; the input reads as it did. -/
def spreadThinSpec : ChangeSpec := { name := "spreadThin", fn := fun _ => fun
  | [d1, d2, d3] => { results := [.lit (.bool true)], args := [d1, d2, d3] }
  | _ => none }
def spreadThinRow : OpenClaim := { program := "ytjlhinjmnhpdaaagreatdoor", sum := "9ecff16a5113f190aa4b4d0f26ca3e8d84411560f61e6b77c5275ca244cef546", func := "quadrille/quadrillekeep.SpreadThin", spec := "spreadThin", inPlace := ["internal/reflectlite.ValueOf", "(internal/reflectlite.Value).Type", "(internal/reflectlite.Value).IsNil", "internal/reflectlite.TypeOf", "(internal/reflectlite.Value).Elem", "(internal/reflectlite.Value).Set"], unfollowed := true, recurses := true, named := ["math/bits.deBruijn32tab", "math/bits.deBruijn64tab", "quadrille/code.forms", "errors.errorType"], apart := false, laid := [("math/bits.deBruijn32tab", laid_math_bits_deBruijn32tab), ("math/bits.deBruijn64tab", laid_math_bits_deBruijn64tab), ("errors.errorType", laid_errors_errorType), ("quadrille/code.forms", laid_quadrille_code_forms)] }
def SpreadThinSaid : Prop := spreadThinRow.holds Tryz.pinned (OpenSpec.ofChange spreadThinSpec)

/-- ITS FALSE NEIGHBOUR: 'it returns false'. Refute it at one input. -/
def spreadThinWrong : ChangeSpec := { name := "spreadThin", fn := fun _ => fun
  | [d1, d2, d3] => { results := [.lit (.bool false)], args := [d1, d2, d3] }
  | _ => none }
def SpreadThinWrongFalsely : Prop := spreadThinRow.holds Tryz.pinned (OpenSpec.ofChange spreadThinWrong)

/-- 'quadrillekeep.CentralCrowds': WHATEVER THE INPUT: true; the input reads as it did. -/
def centralCrowdsSpec : ChangeSpec := { name := "centralCrowds", fn := fun _ => fun
  | [d1, d2, d3] => { results := [.lit (.bool true)], args := [d1, d2, d3] }
  | _ => none }
def centralCrowdsRow : OpenClaim := { program := "ytjlhinjmnhpdaaagreatdoor", sum := "9ecff16a5113f190aa4b4d0f26ca3e8d84411560f61e6b77c5275ca244cef546", func := "quadrille/quadrillekeep.CentralCrowds", spec := "centralCrowds", inPlace := ["internal/reflectlite.ValueOf", "(internal/reflectlite.Value).Type", "(internal/reflectlite.Value).IsNil", "internal/reflectlite.TypeOf", "(internal/reflectlite.Value).Elem", "(internal/reflectlite.Value).Set"], unfollowed := true, recurses := true, named := ["math/bits.deBruijn32tab", "math/bits.deBruijn64tab", "quadrille/code.forms", "errors.errorType"], apart := false, laid := [("math/bits.deBruijn32tab", laid_math_bits_deBruijn32tab), ("math/bits.deBruijn64tab", laid_math_bits_deBruijn64tab), ("errors.errorType", laid_errors_errorType), ("quadrille/code.forms", laid_quadrille_code_forms)] }
def CentralCrowdsSaid : Prop := centralCrowdsRow.holds Tryz.pinned (OpenSpec.ofChange centralCrowdsSpec)

/-- ITS FALSE NEIGHBOUR: 'it returns false'. Refute it at one input. -/
def centralCrowdsWrong : ChangeSpec := { name := "centralCrowds", fn := fun _ => fun
  | [d1, d2, d3] => { results := [.lit (.bool false)], args := [d1, d2, d3] }
  | _ => none }
def CentralCrowdsWrongFalsely : Prop := centralCrowdsRow.holds Tryz.pinned (OpenSpec.ofChange centralCrowdsWrong)

/-- 'quadrillekeep.DancePokes': WHATEVER THE INPUT: true; the input reads as it did. -/
def dancePokesSpec : ChangeSpec := { name := "dancePokes", fn := fun _ => fun
  | [d1, d2, d3, d4] => { results := [.lit (.bool true)], args := [d1, d2, d3, d4] }
  | _ => none }
def dancePokesRow : OpenClaim := { program := "ytjlhinjmnhpdaaagreatdoor", sum := "9ecff16a5113f190aa4b4d0f26ca3e8d84411560f61e6b77c5275ca244cef546", func := "quadrille/quadrillekeep.DancePokes", spec := "dancePokes", inPlace := ["internal/reflectlite.ValueOf", "(internal/reflectlite.Value).Type", "(internal/reflectlite.Value).IsNil", "internal/reflectlite.TypeOf", "(internal/reflectlite.Value).Elem", "(internal/reflectlite.Value).Set"], unfollowed := true, recurses := true, named := ["math/bits.deBruijn32tab", "math/bits.deBruijn64tab", "quadrille/code.forms", "errors.errorType"], apart := false, laid := [("math/bits.deBruijn32tab", laid_math_bits_deBruijn32tab), ("math/bits.deBruijn64tab", laid_math_bits_deBruijn64tab), ("errors.errorType", laid_errors_errorType), ("quadrille/code.forms", laid_quadrille_code_forms)] }
def DancePokesSaid : Prop := dancePokesRow.holds Tryz.pinned (OpenSpec.ofChange dancePokesSpec)

/-- ITS FALSE NEIGHBOUR: 'it returns false'. Refute it at one input. -/
def dancePokesWrong : ChangeSpec := { name := "dancePokes", fn := fun _ => fun
  | [d1, d2, d3, d4] => { results := [.lit (.bool false)], args := [d1, d2, d3, d4] }
  | _ => none }
def DancePokesWrongFalsely : Prop := dancePokesRow.holds Tryz.pinned (OpenSpec.ofChange dancePokesWrong)

/-- 'quadrillekeep.DanceDown': WHATEVER THE INPUT: true; the input reads as it did. -/
def danceDownSpec : ChangeSpec := { name := "danceDown", fn := fun _ => fun
  | [d1, d2, d3] => { results := [.lit (.bool true)], args := [d1, d2, d3] }
  | _ => none }
def danceDownRow : OpenClaim := { program := "ytjlhinjmnhpdaaagreatdoor", sum := "9ecff16a5113f190aa4b4d0f26ca3e8d84411560f61e6b77c5275ca244cef546", func := "quadrille/quadrillekeep.DanceDown", spec := "danceDown", inPlace := ["internal/reflectlite.ValueOf", "(internal/reflectlite.Value).Type", "(internal/reflectlite.Value).IsNil", "internal/reflectlite.TypeOf", "(internal/reflectlite.Value).Elem", "(internal/reflectlite.Value).Set"], unfollowed := true, recurses := true, named := ["math/bits.deBruijn32tab", "math/bits.deBruijn64tab", "quadrille/code.forms", "errors.errorType"], apart := false, laid := [("math/bits.deBruijn32tab", laid_math_bits_deBruijn32tab), ("math/bits.deBruijn64tab", laid_math_bits_deBruijn64tab), ("errors.errorType", laid_errors_errorType), ("quadrille/code.forms", laid_quadrille_code_forms)] }
def DanceDownSaid : Prop := danceDownRow.holds Tryz.pinned (OpenSpec.ofChange danceDownSpec)

/-- ITS FALSE NEIGHBOUR: 'it returns false'. Refute it at one input. -/
def danceDownWrong : ChangeSpec := { name := "danceDown", fn := fun _ => fun
  | [d1, d2, d3] => { results := [.lit (.bool false)], args := [d1, d2, d3] }
  | _ => none }
def DanceDownWrongFalsely : Prop := danceDownRow.holds Tryz.pinned (OpenSpec.ofChange danceDownWrong)

/-- 'quadrillekeep.DanceSame': WHATEVER THE INPUT: true; the input reads as it did. -/
def danceSameSpec : ChangeSpec := { name := "danceSame", fn := fun _ => fun
  | [d1, d2, d3, d4, d5] => { results := [.lit (.bool true)], args := [d1, d2, d3, d4, d5] }
  | _ => none }
def danceSameRow : OpenClaim := { program := "ytjlhinjmnhpdaaagreatdoor", sum := "9ecff16a5113f190aa4b4d0f26ca3e8d84411560f61e6b77c5275ca244cef546", func := "quadrille/quadrillekeep.DanceSame", spec := "danceSame", inPlace := ["internal/reflectlite.ValueOf", "(internal/reflectlite.Value).Type", "(internal/reflectlite.Value).IsNil", "internal/reflectlite.TypeOf", "(internal/reflectlite.Value).Elem", "(internal/reflectlite.Value).Set"], unfollowed := true, recurses := true, named := ["math/bits.deBruijn32tab", "math/bits.deBruijn64tab", "quadrille/code.forms", "errors.errorType"], apart := false, laid := [("math/bits.deBruijn32tab", laid_math_bits_deBruijn32tab), ("math/bits.deBruijn64tab", laid_math_bits_deBruijn64tab), ("errors.errorType", laid_errors_errorType), ("quadrille/code.forms", laid_quadrille_code_forms)] }
def DanceSameSaid : Prop := danceSameRow.holds Tryz.pinned (OpenSpec.ofChange danceSameSpec)

/-- ITS FALSE NEIGHBOUR: 'it returns false'. Refute it at one input. -/
def danceSameWrong : ChangeSpec := { name := "danceSame", fn := fun _ => fun
  | [d1, d2, d3, d4, d5] => { results := [.lit (.bool false)], args := [d1, d2, d3, d4, d5] }
  | _ => none }
def DanceSameWrongFalsely : Prop := danceSameRow.holds Tryz.pinned (OpenSpec.ofChange danceSameWrong)

/-- 'quadrillekeep.DanceThin': WHATEVER THE INPUT: true; the input reads as it did. -/
def danceThinSpec : ChangeSpec := { name := "danceThin", fn := fun _ => fun
  | [d1, d2, d3, d4] => { results := [.lit (.bool true)], args := [d1, d2, d3, d4] }
  | _ => none }
def danceThinRow : OpenClaim := { program := "ytjlhinjmnhpdaaagreatdoor", sum := "9ecff16a5113f190aa4b4d0f26ca3e8d84411560f61e6b77c5275ca244cef546", func := "quadrille/quadrillekeep.DanceThin", spec := "danceThin", inPlace := ["internal/reflectlite.ValueOf", "(internal/reflectlite.Value).Type", "(internal/reflectlite.Value).IsNil", "internal/reflectlite.TypeOf", "(internal/reflectlite.Value).Elem", "(internal/reflectlite.Value).Set"], unfollowed := true, recurses := true, named := ["math/bits.deBruijn32tab", "math/bits.deBruijn64tab", "quadrille/code.forms", "errors.errorType"], apart := false, laid := [("math/bits.deBruijn32tab", laid_math_bits_deBruijn32tab), ("math/bits.deBruijn64tab", laid_math_bits_deBruijn64tab), ("errors.errorType", laid_errors_errorType), ("quadrille/code.forms", laid_quadrille_code_forms)] }
def DanceThinSaid : Prop := danceThinRow.holds Tryz.pinned (OpenSpec.ofChange danceThinSpec)

/-- ITS FALSE NEIGHBOUR: 'it returns false'. Refute it at one input. -/
def danceThinWrong : ChangeSpec := { name := "danceThin", fn := fun _ => fun
  | [d1, d2, d3, d4] => { results := [.lit (.bool false)], args := [d1, d2, d3, d4] }
  | _ => none }
def DanceThinWrongFalsely : Prop := danceThinRow.holds Tryz.pinned (OpenSpec.ofChange danceThinWrong)

/- THE SECOND FORM. 'bulk': how many values and letters a reading holds, each counted each time it is reached (what is shared counts as often as it is met; a slice's spare places count too). A statement '..UptoSaid' is the law's where the arguments, and the package variables that the reading takes, are together of bulk at most 1048576: NARROWER than '..Said'. Prove '..Said' where nothing that the law and all that it calls make is longer than what came in: it says more and counts as full. Else prove '..UptoSaid'. A law counts once. -/
mutual
def uptoBulk {H : Type} : DataW H → Nat
  | .lit (.string bytes) => bytes.length + 1
  | .lit _ => 1
  | .nil => 1
  | .ptr d => uptoBulk d + 1
  | .slice elems spare => uptoBulkAll elems + uptoBulkAll spare + 1
  | .agg parts => uptoBulkAll parts + 1
  | .iface _ d => uptoBulk d + 1
  | .map entries => uptoBulkEntries entries + 1
  | .held _ => 1
def uptoBulkAll {H : Type} : List (DataW H) → Nat
  | [] => 0
  | d :: r => uptoBulk d + uptoBulkAll r
def uptoBulkEntries {H : Type} : List (Lit × DataW H) → Nat
  | [] => 0
  | x :: r => uptoBulkEntry x + uptoBulkEntries r
def uptoBulkEntry {H : Type} : Lit × DataW H → Nat
  | (.string bytes, d) => bytes.length + uptoBulk d + 1
  | (_, d) => uptoBulk d + 1
 end
def uptoSmall : (H : Type) → List (DataW H) → Bool := fun _ ds => decide (uptoBulkAll ds ≤ 1048576)
def OpenSpec.upto (s : _root_.Go.ChangeSpec) : _root_.Go.OpenSpec := { _root_.Go.OpenSpec.ofChange s with cond := some uptoSmall }

/-- 'quadrillekeep.CentralLeaves', WHERE WHAT IT READS IS OF BULK AT MOST 1048576: true; the input reads as it did. -/
def centralLeavesUptoRow : OpenClaim := { program := "ytjlhinjmnhpdaaagreatdoor", sum := "9ecff16a5113f190aa4b4d0f26ca3e8d84411560f61e6b77c5275ca244cef546", func := "quadrille/quadrillekeep.CentralLeaves", spec := "centralLeaves", inPlace := ["internal/reflectlite.ValueOf", "(internal/reflectlite.Value).Type", "(internal/reflectlite.Value).IsNil", "internal/reflectlite.TypeOf", "(internal/reflectlite.Value).Elem", "(internal/reflectlite.Value).Set"], unfollowed := true, recurses := true, named := ["math/bits.deBruijn32tab", "math/bits.deBruijn64tab", "quadrille/code.forms", "errors.errorType"], apart := false, laid := [("math/bits.deBruijn32tab", laid_math_bits_deBruijn32tab), ("math/bits.deBruijn64tab", laid_math_bits_deBruijn64tab), ("errors.errorType", laid_errors_errorType), ("quadrille/code.forms", laid_quadrille_code_forms)], narrowed := true }
def CentralLeavesUptoSaid : Prop := centralLeavesUptoRow.holds Tryz.pinned (OpenSpec.upto centralLeavesSpec)

/-- 'quadrillekeep.CombineLeaves', WHERE WHAT IT READS IS OF BULK AT MOST 1048576: true; the input reads as it did. -/
def combineLeavesUptoRow : OpenClaim := { program := "ytjlhinjmnhpdaaagreatdoor", sum := "9ecff16a5113f190aa4b4d0f26ca3e8d84411560f61e6b77c5275ca244cef546", func := "quadrille/quadrillekeep.CombineLeaves", spec := "combineLeaves", inPlace := ["internal/reflectlite.ValueOf", "(internal/reflectlite.Value).Type", "(internal/reflectlite.Value).IsNil", "internal/reflectlite.TypeOf", "(internal/reflectlite.Value).Elem", "(internal/reflectlite.Value).Set"], unfollowed := true, recurses := true, named := ["math/bits.deBruijn32tab", "math/bits.deBruijn64tab", "quadrille/code.forms", "errors.errorType"], apart := false, laid := [("math/bits.deBruijn32tab", laid_math_bits_deBruijn32tab), ("math/bits.deBruijn64tab", laid_math_bits_deBruijn64tab), ("errors.errorType", laid_errors_errorType), ("quadrille/code.forms", laid_quadrille_code_forms)], narrowed := true }
def CombineLeavesUptoSaid : Prop := combineLeavesUptoRow.holds Tryz.pinned (OpenSpec.upto combineLeavesSpec)

/-- 'quadrillekeep.StaticLeaves', WHERE WHAT IT READS IS OF BULK AT MOST 1048576: true; the input reads as it did. -/
def staticLeavesUptoRow : OpenClaim := { program := "ytjlhinjmnhpdaaagreatdoor", sum := "9ecff16a5113f190aa4b4d0f26ca3e8d84411560f61e6b77c5275ca244cef546", func := "quadrille/quadrillekeep.StaticLeaves", spec := "staticLeaves", inPlace := ["internal/reflectlite.ValueOf", "(internal/reflectlite.Value).Type", "(internal/reflectlite.Value).IsNil", "internal/reflectlite.TypeOf", "(internal/reflectlite.Value).Elem", "(internal/reflectlite.Value).Set"], unfollowed := true, recurses := true, named := ["math/bits.deBruijn32tab", "math/bits.deBruijn64tab", "quadrille/code.forms", "errors.errorType"], apart := false, laid := [("math/bits.deBruijn32tab", laid_math_bits_deBruijn32tab), ("math/bits.deBruijn64tab", laid_math_bits_deBruijn64tab), ("errors.errorType", laid_errors_errorType), ("quadrille/code.forms", laid_quadrille_code_forms)], narrowed := true }
def StaticLeavesUptoSaid : Prop := staticLeavesUptoRow.holds Tryz.pinned (OpenSpec.upto staticLeavesSpec)

/-- 'quadrillekeep.SpreadLeaves', WHERE WHAT IT READS IS OF BULK AT MOST 1048576: true; the input reads as it did. -/
def spreadLeavesUptoRow : OpenClaim := { program := "ytjlhinjmnhpdaaagreatdoor", sum := "9ecff16a5113f190aa4b4d0f26ca3e8d84411560f61e6b77c5275ca244cef546", func := "quadrille/quadrillekeep.SpreadLeaves", spec := "spreadLeaves", inPlace := ["internal/reflectlite.ValueOf", "(internal/reflectlite.Value).Type", "(internal/reflectlite.Value).IsNil", "internal/reflectlite.TypeOf", "(internal/reflectlite.Value).Elem", "(internal/reflectlite.Value).Set"], unfollowed := true, recurses := true, named := ["math/bits.deBruijn32tab", "math/bits.deBruijn64tab", "quadrille/code.forms", "errors.errorType"], apart := false, laid := [("math/bits.deBruijn32tab", laid_math_bits_deBruijn32tab), ("math/bits.deBruijn64tab", laid_math_bits_deBruijn64tab), ("errors.errorType", laid_errors_errorType), ("quadrille/code.forms", laid_quadrille_code_forms)], narrowed := true }
def SpreadLeavesUptoSaid : Prop := spreadLeavesUptoRow.holds Tryz.pinned (OpenSpec.upto spreadLeavesSpec)

/-- 'quadrillekeep.McsLeaves', WHERE WHAT IT READS IS OF BULK AT MOST 1048576: true; the input reads as it did. -/
def mcsLeavesUptoRow : OpenClaim := { program := "ytjlhinjmnhpdaaagreatdoor", sum := "9ecff16a5113f190aa4b4d0f26ca3e8d84411560f61e6b77c5275ca244cef546", func := "quadrille/quadrillekeep.McsLeaves", spec := "mcsLeaves", inPlace := ["internal/reflectlite.ValueOf", "(internal/reflectlite.Value).Type", "(internal/reflectlite.Value).IsNil", "internal/reflectlite.TypeOf", "(internal/reflectlite.Value).Elem", "(internal/reflectlite.Value).Set"], unfollowed := true, recurses := true, named := ["math/bits.deBruijn32tab", "math/bits.deBruijn64tab", "quadrille/code.forms", "errors.errorType"], apart := false, laid := [("math/bits.deBruijn32tab", laid_math_bits_deBruijn32tab), ("math/bits.deBruijn64tab", laid_math_bits_deBruijn64tab), ("errors.errorType", laid_errors_errorType), ("quadrille/code.forms", laid_quadrille_code_forms)], narrowed := true }
def McsLeavesUptoSaid : Prop := mcsLeavesUptoRow.holds Tryz.pinned (OpenSpec.upto mcsLeavesSpec)

/-- 'quadrillekeep.TourneyLeaves', WHERE WHAT IT READS IS OF BULK AT MOST 1048576: true; the input reads as it did. -/
def tourneyLeavesUptoRow : OpenClaim := { program := "ytjlhinjmnhpdaaagreatdoor", sum := "9ecff16a5113f190aa4b4d0f26ca3e8d84411560f61e6b77c5275ca244cef546", func := "quadrille/quadrillekeep.TourneyLeaves", spec := "tourneyLeaves", inPlace := ["internal/reflectlite.ValueOf", "(internal/reflectlite.Value).Type", "(internal/reflectlite.Value).IsNil", "internal/reflectlite.TypeOf", "(internal/reflectlite.Value).Elem", "(internal/reflectlite.Value).Set"], unfollowed := true, recurses := true, named := ["math/bits.deBruijn32tab", "math/bits.deBruijn64tab", "quadrille/code.forms", "errors.errorType"], apart := false, laid := [("math/bits.deBruijn32tab", laid_math_bits_deBruijn32tab), ("math/bits.deBruijn64tab", laid_math_bits_deBruijn64tab), ("errors.errorType", laid_errors_errorType), ("quadrille/code.forms", laid_quadrille_code_forms)], narrowed := true }
def TourneyLeavesUptoSaid : Prop := tourneyLeavesUptoRow.holds Tryz.pinned (OpenSpec.upto tourneyLeavesSpec)

/-- 'quadrillekeep.SpreadThin', WHERE WHAT IT READS IS OF BULK AT MOST 1048576: true; the input reads as it did. -/
def spreadThinUptoRow : OpenClaim := { program := "ytjlhinjmnhpdaaagreatdoor", sum := "9ecff16a5113f190aa4b4d0f26ca3e8d84411560f61e6b77c5275ca244cef546", func := "quadrille/quadrillekeep.SpreadThin", spec := "spreadThin", inPlace := ["internal/reflectlite.ValueOf", "(internal/reflectlite.Value).Type", "(internal/reflectlite.Value).IsNil", "internal/reflectlite.TypeOf", "(internal/reflectlite.Value).Elem", "(internal/reflectlite.Value).Set"], unfollowed := true, recurses := true, named := ["math/bits.deBruijn32tab", "math/bits.deBruijn64tab", "quadrille/code.forms", "errors.errorType"], apart := false, laid := [("math/bits.deBruijn32tab", laid_math_bits_deBruijn32tab), ("math/bits.deBruijn64tab", laid_math_bits_deBruijn64tab), ("errors.errorType", laid_errors_errorType), ("quadrille/code.forms", laid_quadrille_code_forms)], narrowed := true }
def SpreadThinUptoSaid : Prop := spreadThinUptoRow.holds Tryz.pinned (OpenSpec.upto spreadThinSpec)

/-- 'quadrillekeep.CentralCrowds', WHERE WHAT IT READS IS OF BULK AT MOST 1048576: true; the input reads as it did. -/
def centralCrowdsUptoRow : OpenClaim := { program := "ytjlhinjmnhpdaaagreatdoor", sum := "9ecff16a5113f190aa4b4d0f26ca3e8d84411560f61e6b77c5275ca244cef546", func := "quadrille/quadrillekeep.CentralCrowds", spec := "centralCrowds", inPlace := ["internal/reflectlite.ValueOf", "(internal/reflectlite.Value).Type", "(internal/reflectlite.Value).IsNil", "internal/reflectlite.TypeOf", "(internal/reflectlite.Value).Elem", "(internal/reflectlite.Value).Set"], unfollowed := true, recurses := true, named := ["math/bits.deBruijn32tab", "math/bits.deBruijn64tab", "quadrille/code.forms", "errors.errorType"], apart := false, laid := [("math/bits.deBruijn32tab", laid_math_bits_deBruijn32tab), ("math/bits.deBruijn64tab", laid_math_bits_deBruijn64tab), ("errors.errorType", laid_errors_errorType), ("quadrille/code.forms", laid_quadrille_code_forms)], narrowed := true }
def CentralCrowdsUptoSaid : Prop := centralCrowdsUptoRow.holds Tryz.pinned (OpenSpec.upto centralCrowdsSpec)

/-- 'quadrillekeep.DancePokes', WHERE WHAT IT READS IS OF BULK AT MOST 1048576: true; the input reads as it did. -/
def dancePokesUptoRow : OpenClaim := { program := "ytjlhinjmnhpdaaagreatdoor", sum := "9ecff16a5113f190aa4b4d0f26ca3e8d84411560f61e6b77c5275ca244cef546", func := "quadrille/quadrillekeep.DancePokes", spec := "dancePokes", inPlace := ["internal/reflectlite.ValueOf", "(internal/reflectlite.Value).Type", "(internal/reflectlite.Value).IsNil", "internal/reflectlite.TypeOf", "(internal/reflectlite.Value).Elem", "(internal/reflectlite.Value).Set"], unfollowed := true, recurses := true, named := ["math/bits.deBruijn32tab", "math/bits.deBruijn64tab", "quadrille/code.forms", "errors.errorType"], apart := false, laid := [("math/bits.deBruijn32tab", laid_math_bits_deBruijn32tab), ("math/bits.deBruijn64tab", laid_math_bits_deBruijn64tab), ("errors.errorType", laid_errors_errorType), ("quadrille/code.forms", laid_quadrille_code_forms)], narrowed := true }
def DancePokesUptoSaid : Prop := dancePokesUptoRow.holds Tryz.pinned (OpenSpec.upto dancePokesSpec)

/-- 'quadrillekeep.DanceDown', WHERE WHAT IT READS IS OF BULK AT MOST 1048576: true; the input reads as it did. -/
def danceDownUptoRow : OpenClaim := { program := "ytjlhinjmnhpdaaagreatdoor", sum := "9ecff16a5113f190aa4b4d0f26ca3e8d84411560f61e6b77c5275ca244cef546", func := "quadrille/quadrillekeep.DanceDown", spec := "danceDown", inPlace := ["internal/reflectlite.ValueOf", "(internal/reflectlite.Value).Type", "(internal/reflectlite.Value).IsNil", "internal/reflectlite.TypeOf", "(internal/reflectlite.Value).Elem", "(internal/reflectlite.Value).Set"], unfollowed := true, recurses := true, named := ["math/bits.deBruijn32tab", "math/bits.deBruijn64tab", "quadrille/code.forms", "errors.errorType"], apart := false, laid := [("math/bits.deBruijn32tab", laid_math_bits_deBruijn32tab), ("math/bits.deBruijn64tab", laid_math_bits_deBruijn64tab), ("errors.errorType", laid_errors_errorType), ("quadrille/code.forms", laid_quadrille_code_forms)], narrowed := true }
def DanceDownUptoSaid : Prop := danceDownUptoRow.holds Tryz.pinned (OpenSpec.upto danceDownSpec)

/-- 'quadrillekeep.DanceSame', WHERE WHAT IT READS IS OF BULK AT MOST 1048576: true; the input reads as it did. -/
def danceSameUptoRow : OpenClaim := { program := "ytjlhinjmnhpdaaagreatdoor", sum := "9ecff16a5113f190aa4b4d0f26ca3e8d84411560f61e6b77c5275ca244cef546", func := "quadrille/quadrillekeep.DanceSame", spec := "danceSame", inPlace := ["internal/reflectlite.ValueOf", "(internal/reflectlite.Value).Type", "(internal/reflectlite.Value).IsNil", "internal/reflectlite.TypeOf", "(internal/reflectlite.Value).Elem", "(internal/reflectlite.Value).Set"], unfollowed := true, recurses := true, named := ["math/bits.deBruijn32tab", "math/bits.deBruijn64tab", "quadrille/code.forms", "errors.errorType"], apart := false, laid := [("math/bits.deBruijn32tab", laid_math_bits_deBruijn32tab), ("math/bits.deBruijn64tab", laid_math_bits_deBruijn64tab), ("errors.errorType", laid_errors_errorType), ("quadrille/code.forms", laid_quadrille_code_forms)], narrowed := true }
def DanceSameUptoSaid : Prop := danceSameUptoRow.holds Tryz.pinned (OpenSpec.upto danceSameSpec)

/-- 'quadrillekeep.DanceThin', WHERE WHAT IT READS IS OF BULK AT MOST 1048576: true; the input reads as it did. -/
def danceThinUptoRow : OpenClaim := { program := "ytjlhinjmnhpdaaagreatdoor", sum := "9ecff16a5113f190aa4b4d0f26ca3e8d84411560f61e6b77c5275ca244cef546", func := "quadrille/quadrillekeep.DanceThin", spec := "danceThin", inPlace := ["internal/reflectlite.ValueOf", "(internal/reflectlite.Value).Type", "(internal/reflectlite.Value).IsNil", "internal/reflectlite.TypeOf", "(internal/reflectlite.Value).Elem", "(internal/reflectlite.Value).Set"], unfollowed := true, recurses := true, named := ["math/bits.deBruijn32tab", "math/bits.deBruijn64tab", "quadrille/code.forms", "errors.errorType"], apart := false, laid := [("math/bits.deBruijn32tab", laid_math_bits_deBruijn32tab), ("math/bits.deBruijn64tab", laid_math_bits_deBruijn64tab), ("errors.errorType", laid_errors_errorType), ("quadrille/code.forms", laid_quadrille_code_forms)], narrowed := true }
def DanceThinUptoSaid : Prop := danceThinUptoRow.holds Tryz.pinned (OpenSpec.upto danceThinSpec)

end Rows
end Go.Proofs.YtjlhinjmnhpdaaaGreatDoor
