/-
  NARROWER THAN 'FOR EVERY INPUT', by the rows' own cells (each row's printed sentence says how): GatherWithin: laid · GatherPasses: laid · GatherCloses: laid · GatherAlone: laid · GatherMisses: laid · GatherJoins: laid · GatherLin: laid · LinOrder: laid · LinGrows: laid.
  DERIVED. THE GIVEN ROWS OF THIS SEAT. 9 by the template 'for every input the law returns true; each argument reads behind the call as it read before'; 0 by the template 'total and deterministic' (their statements: YtdhlmgoodpepeaaGreatDoorTotals.lean).
  GIVEN WITH THE SEED: the statements are not yours to turn. If you find one false, say at which input.
  Laid BY PROGRAM, IN A SANDBOX (cutbox-rows.mjs): the forced cells as the released guide's own fill.sh prints them over the translation cc69d3fc9dc382ff… (all of the seat's roots in one cut). By AI agents, Wed Nov 11 2026. No macro, syntax, notation, axiom, sorry.
-/
import Derived.Test.YtdhlmgoodpepeaaGreatDoorChecked
import GoSem.Claim
import GoSem.ClaimJoined
import GoSem.ClaimMapViews
import Derived.JoinedTies
import Derived.KernelRfl
namespace Go.Proofs.YtdhlmgoodpepeaaGreatDoor
/- THE CELL 'sum', in the pinned program and in every row, IS THE sha256 OF THE DUMP (.gsa) THAT YtdhlmgoodpepeaaGreatDoorProg.lean LOADS. Nothing in Lean hashes anything: it is a label: what it is worth is what the hold of that sum in a sandbox is worth. -/
noncomputable def Tryz.pinned : Pinned := { name := "ytdhlmgoodpepeaagreatdoor", sum := "cc69d3fc9dc382ff85fc6e476c2a1f7c2621cfb3f57cee735e01fee0ea05027b", checked := Tryz.checked }
namespace Rows
def none {H : Type} : Left H := { results := [], args := [] }

/- WHAT THE LISTED PACKAGE-LEVEL VARIABLES READ AS WHEN THE CALL BEGINS. Each datum BY PROGRAM (the guide's laid-datum.mjs) off the statement by which the dump's own 'gosem.cut.vars' lays the variable. In a bare row this is a premise. The card (YtdhlmgoodpepeaaGreatDoorCards.lean) ties it to the program's text. -/
def laid_errors_errorType {H : Type} : DataW H := .iface "internal/reflectlite.rtype" (.agg [.ptr (.lit (.string [101, 114, 114, 111, 114]))])
def laid_quadrille_code_forms {H : Type} : DataW H := .agg [.agg [.lit (.string [104, 97, 108, 116]), .agg [.lit (.int .i64 0), .lit (.int .i64 0), .lit (.int .i64 0), .lit (.int .i64 0)]], .agg [.lit (.string [108, 101, 116]), .agg [.lit (.int .i64 1), .lit (.int .i64 3), .lit (.int .i64 0), .lit (.int .i64 0)]], .agg [.lit (.string [99, 111, 112, 121]), .agg [.lit (.int .i64 1), .lit (.int .i64 1), .lit (.int .i64 0), .lit (.int .i64 0)]], .agg [.lit (.string [112, 108, 117, 115]), .agg [.lit (.int .i64 1), .lit (.int .i64 1), .lit (.int .i64 3), .lit (.int .i64 0)]], .agg [.lit (.string [115, 117, 109]), .agg [.lit (.int .i64 1), .lit (.int .i64 1), .lit (.int .i64 1), .lit (.int .i64 0)]], .agg [.lit (.string [102, 105, 101, 108, 100]), .agg [.lit (.int .i64 1), .lit (.int .i64 1), .lit (.int .i64 6), .lit (.int .i64 7)]], .agg [.lit (.string [108, 111, 97, 100]), .agg [.lit (.int .i64 1), .lit (.int .i64 2), .lit (.int .i64 0), .lit (.int .i64 0)]], .agg [.lit (.string [115, 116, 111, 114, 101]), .agg [.lit (.int .i64 2), .lit (.int .i64 1), .lit (.int .i64 5), .lit (.int .i64 0)]], .agg [.lit (.string [102, 101, 116, 99, 104]), .agg [.lit (.int .i64 1), .lit (.int .i64 2), .lit (.int .i64 3), .lit (.int .i64 0)]], .agg [.lit (.string [115, 119, 97, 112]), .agg [.lit (.int .i64 1), .lit (.int .i64 2), .lit (.int .i64 1), .lit (.int .i64 1)]], .agg [.lit (.string [106, 117, 109, 112]), .agg [.lit (.int .i64 4), .lit (.int .i64 0), .lit (.int .i64 0), .lit (.int .i64 0)]], .agg [.lit (.string [115, 97, 109, 101]), .agg [.lit (.int .i64 1), .lit (.int .i64 3), .lit (.int .i64 4), .lit (.int .i64 0)]], .agg [.lit (.string [108, 101, 115, 115]), .agg [.lit (.int .i64 1), .lit (.int .i64 1), .lit (.int .i64 4), .lit (.int .i64 0)]], .agg [.lit (.string [101, 113, 117, 97, 108]), .agg [.lit (.int .i64 1), .lit (.int .i64 1), .lit (.int .i64 4), .lit (.int .i64 0)]], .agg [.lit (.string [119, 97, 105, 116]), .agg [.lit (.int .i64 2), .lit (.int .i64 1), .lit (.int .i64 0), .lit (.int .i64 0)]], .agg [.lit (.string [119, 97, 107, 101]), .agg [.lit (.int .i64 2), .lit (.int .i64 3), .lit (.int .i64 5), .lit (.int .i64 0)]], .agg [.lit (.string [115, 97, 121]), .agg [.lit (.int .i64 3), .lit (.int .i64 1), .lit (.int .i64 0), .lit (.int .i64 0)]]]

/-- 'quadrillekeep.GatherWithin': WHATEVER THE INPUT: true; the input reads as it did. -/
def gatherWithinSpec : ChangeSpec := { name := "gatherWithin", fn := fun _ => fun
  | [d1, d2, d3, d4] => { results := [.lit (.bool true)], args := [d1, d2, d3, d4] }
  | _ => none }
def gatherWithinRow : OpenClaim := { program := "ytdhlmgoodpepeaagreatdoor", sum := "cc69d3fc9dc382ff85fc6e476c2a1f7c2621cfb3f57cee735e01fee0ea05027b", func := "quadrille/quadrillekeep.GatherWithin", spec := "gatherWithin", inPlace := ["internal/reflectlite.ValueOf", "(internal/reflectlite.Value).Type", "(internal/reflectlite.Value).IsNil", "internal/reflectlite.TypeOf", "(internal/reflectlite.Value).Elem", "(internal/reflectlite.Value).Set"], unfollowed := true, recurses := true, named := ["quadrille/code.forms", "errors.errorType"], plainKeys := false, apart := false, laid := [("errors.errorType", laid_errors_errorType), ("quadrille/code.forms", laid_quadrille_code_forms)] }
def GatherWithinSaid : Prop := gatherWithinRow.holds Tryz.pinned (OpenSpec.ofChange gatherWithinSpec)

/-- ITS FALSE NEIGHBOUR: 'it returns false'. Refute it at one input. -/
def gatherWithinWrong : ChangeSpec := { name := "gatherWithin", fn := fun _ => fun
  | [d1, d2, d3, d4] => { results := [.lit (.bool false)], args := [d1, d2, d3, d4] }
  | _ => none }
def GatherWithinWrongFalsely : Prop := gatherWithinRow.holds Tryz.pinned (OpenSpec.ofChange gatherWithinWrong)

/-- 'quadrillekeep.GatherPasses': WHATEVER THE INPUT: true; the input reads as it did. -/
def gatherPassesSpec : ChangeSpec := { name := "gatherPasses", fn := fun _ => fun
  | [d1, d2, d3, d4] => { results := [.lit (.bool true)], args := [d1, d2, d3, d4] }
  | _ => none }
def gatherPassesRow : OpenClaim := { program := "ytdhlmgoodpepeaagreatdoor", sum := "cc69d3fc9dc382ff85fc6e476c2a1f7c2621cfb3f57cee735e01fee0ea05027b", func := "quadrille/quadrillekeep.GatherPasses", spec := "gatherPasses", inPlace := ["internal/reflectlite.ValueOf", "(internal/reflectlite.Value).Type", "(internal/reflectlite.Value).IsNil", "internal/reflectlite.TypeOf", "(internal/reflectlite.Value).Elem", "(internal/reflectlite.Value).Set"], unfollowed := true, recurses := true, named := ["quadrille/code.forms", "errors.errorType"], plainKeys := false, apart := false, laid := [("errors.errorType", laid_errors_errorType), ("quadrille/code.forms", laid_quadrille_code_forms)] }
def GatherPassesSaid : Prop := gatherPassesRow.holds Tryz.pinned (OpenSpec.ofChange gatherPassesSpec)

/-- ITS FALSE NEIGHBOUR: 'it returns false'. Refute it at one input. -/
def gatherPassesWrong : ChangeSpec := { name := "gatherPasses", fn := fun _ => fun
  | [d1, d2, d3, d4] => { results := [.lit (.bool false)], args := [d1, d2, d3, d4] }
  | _ => none }
def GatherPassesWrongFalsely : Prop := gatherPassesRow.holds Tryz.pinned (OpenSpec.ofChange gatherPassesWrong)

/-- 'quadrillekeep.GatherCloses': WHATEVER THE INPUT: true; the input reads as it did. -/
def gatherClosesSpec : ChangeSpec := { name := "gatherCloses", fn := fun _ => fun
  | [d1, d2, d3, d4] => { results := [.lit (.bool true)], args := [d1, d2, d3, d4] }
  | _ => none }
def gatherClosesRow : OpenClaim := { program := "ytdhlmgoodpepeaagreatdoor", sum := "cc69d3fc9dc382ff85fc6e476c2a1f7c2621cfb3f57cee735e01fee0ea05027b", func := "quadrille/quadrillekeep.GatherCloses", spec := "gatherCloses", inPlace := ["internal/reflectlite.ValueOf", "(internal/reflectlite.Value).Type", "(internal/reflectlite.Value).IsNil", "internal/reflectlite.TypeOf", "(internal/reflectlite.Value).Elem", "(internal/reflectlite.Value).Set"], unfollowed := true, recurses := true, named := ["quadrille/code.forms", "errors.errorType"], plainKeys := false, apart := false, laid := [("errors.errorType", laid_errors_errorType), ("quadrille/code.forms", laid_quadrille_code_forms)] }
def GatherClosesSaid : Prop := gatherClosesRow.holds Tryz.pinned (OpenSpec.ofChange gatherClosesSpec)

/-- ITS FALSE NEIGHBOUR: 'it returns false'. Refute it at one input. -/
def gatherClosesWrong : ChangeSpec := { name := "gatherCloses", fn := fun _ => fun
  | [d1, d2, d3, d4] => { results := [.lit (.bool false)], args := [d1, d2, d3, d4] }
  | _ => none }
def GatherClosesWrongFalsely : Prop := gatherClosesRow.holds Tryz.pinned (OpenSpec.ofChange gatherClosesWrong)

/-- 'quadrillekeep.GatherAlone': WHATEVER THE INPUT: true; the input reads as it did. -/
def gatherAloneSpec : ChangeSpec := { name := "gatherAlone", fn := fun _ => fun
  | [d1, d2, d3] => { results := [.lit (.bool true)], args := [d1, d2, d3] }
  | _ => none }
def gatherAloneRow : OpenClaim := { program := "ytdhlmgoodpepeaagreatdoor", sum := "cc69d3fc9dc382ff85fc6e476c2a1f7c2621cfb3f57cee735e01fee0ea05027b", func := "quadrille/quadrillekeep.GatherAlone", spec := "gatherAlone", inPlace := ["internal/reflectlite.ValueOf", "(internal/reflectlite.Value).Type", "(internal/reflectlite.Value).IsNil", "internal/reflectlite.TypeOf", "(internal/reflectlite.Value).Elem", "(internal/reflectlite.Value).Set"], unfollowed := true, recurses := true, named := ["quadrille/code.forms", "errors.errorType"], plainKeys := false, apart := false, laid := [("errors.errorType", laid_errors_errorType), ("quadrille/code.forms", laid_quadrille_code_forms)] }
def GatherAloneSaid : Prop := gatherAloneRow.holds Tryz.pinned (OpenSpec.ofChange gatherAloneSpec)

/-- ITS FALSE NEIGHBOUR: 'it returns false'. Refute it at one input. -/
def gatherAloneWrong : ChangeSpec := { name := "gatherAlone", fn := fun _ => fun
  | [d1, d2, d3] => { results := [.lit (.bool false)], args := [d1, d2, d3] }
  | _ => none }
def GatherAloneWrongFalsely : Prop := gatherAloneRow.holds Tryz.pinned (OpenSpec.ofChange gatherAloneWrong)

/-- 'quadrillekeep.GatherMisses': WHATEVER THE INPUT: true; the input reads as it did. -/
def gatherMissesSpec : ChangeSpec := { name := "gatherMisses", fn := fun _ => fun
  | [d1, d2, d3] => { results := [.lit (.bool true)], args := [d1, d2, d3] }
  | _ => none }
def gatherMissesRow : OpenClaim := { program := "ytdhlmgoodpepeaagreatdoor", sum := "cc69d3fc9dc382ff85fc6e476c2a1f7c2621cfb3f57cee735e01fee0ea05027b", func := "quadrille/quadrillekeep.GatherMisses", spec := "gatherMisses", inPlace := ["internal/reflectlite.ValueOf", "(internal/reflectlite.Value).Type", "(internal/reflectlite.Value).IsNil", "internal/reflectlite.TypeOf", "(internal/reflectlite.Value).Elem", "(internal/reflectlite.Value).Set"], unfollowed := true, recurses := true, named := ["quadrille/code.forms", "errors.errorType"], plainKeys := false, apart := false, laid := [("errors.errorType", laid_errors_errorType), ("quadrille/code.forms", laid_quadrille_code_forms)] }
def GatherMissesSaid : Prop := gatherMissesRow.holds Tryz.pinned (OpenSpec.ofChange gatherMissesSpec)

/-- ITS FALSE NEIGHBOUR: 'it returns false'. Refute it at one input. -/
def gatherMissesWrong : ChangeSpec := { name := "gatherMisses", fn := fun _ => fun
  | [d1, d2, d3] => { results := [.lit (.bool false)], args := [d1, d2, d3] }
  | _ => none }
def GatherMissesWrongFalsely : Prop := gatherMissesRow.holds Tryz.pinned (OpenSpec.ofChange gatherMissesWrong)

/-- 'quadrillekeep.GatherJoins': WHATEVER THE INPUT: true; the input reads as it did. -/
def gatherJoinsSpec : ChangeSpec := { name := "gatherJoins", fn := fun _ => fun
  | [d1, d2] => { results := [.lit (.bool true)], args := [d1, d2] }
  | _ => none }
def gatherJoinsRow : OpenClaim := { program := "ytdhlmgoodpepeaagreatdoor", sum := "cc69d3fc9dc382ff85fc6e476c2a1f7c2621cfb3f57cee735e01fee0ea05027b", func := "quadrille/quadrillekeep.GatherJoins", spec := "gatherJoins", inPlace := ["internal/reflectlite.ValueOf", "(internal/reflectlite.Value).Type", "(internal/reflectlite.Value).IsNil", "internal/reflectlite.TypeOf", "(internal/reflectlite.Value).Elem", "(internal/reflectlite.Value).Set"], unfollowed := true, recurses := true, named := ["quadrille/code.forms", "errors.errorType"], plainKeys := false, apart := false, laid := [("errors.errorType", laid_errors_errorType), ("quadrille/code.forms", laid_quadrille_code_forms)] }
def GatherJoinsSaid : Prop := gatherJoinsRow.holds Tryz.pinned (OpenSpec.ofChange gatherJoinsSpec)

/-- ITS FALSE NEIGHBOUR: 'it returns false'. Refute it at one input. -/
def gatherJoinsWrong : ChangeSpec := { name := "gatherJoins", fn := fun _ => fun
  | [d1, d2] => { results := [.lit (.bool false)], args := [d1, d2] }
  | _ => none }
def GatherJoinsWrongFalsely : Prop := gatherJoinsRow.holds Tryz.pinned (OpenSpec.ofChange gatherJoinsWrong)

/-- 'quadrillekeep.GatherLin': WHATEVER THE INPUT: true; the input reads as it did. -/
def gatherLinSpec : ChangeSpec := { name := "gatherLin", fn := fun _ => fun
  | [d1, d2, d3, d4, d5] => { results := [.lit (.bool true)], args := [d1, d2, d3, d4, d5] }
  | _ => none }
def gatherLinRow : OpenClaim := { program := "ytdhlmgoodpepeaagreatdoor", sum := "cc69d3fc9dc382ff85fc6e476c2a1f7c2621cfb3f57cee735e01fee0ea05027b", func := "quadrille/quadrillekeep.GatherLin", spec := "gatherLin", inPlace := ["internal/reflectlite.ValueOf", "(internal/reflectlite.Value).Type", "(internal/reflectlite.Value).IsNil", "internal/reflectlite.TypeOf", "(internal/reflectlite.Value).Elem", "(internal/reflectlite.Value).Set"], unfollowed := true, recurses := true, named := ["quadrille/code.forms", "errors.errorType"], plainKeys := false, apart := false, laid := [("errors.errorType", laid_errors_errorType), ("quadrille/code.forms", laid_quadrille_code_forms)] }
def GatherLinSaid : Prop := gatherLinRow.holds Tryz.pinned (OpenSpec.ofChange gatherLinSpec)

/-- ITS FALSE NEIGHBOUR: 'it returns false'. Refute it at one input. -/
def gatherLinWrong : ChangeSpec := { name := "gatherLin", fn := fun _ => fun
  | [d1, d2, d3, d4, d5] => { results := [.lit (.bool false)], args := [d1, d2, d3, d4, d5] }
  | _ => none }
def GatherLinWrongFalsely : Prop := gatherLinRow.holds Tryz.pinned (OpenSpec.ofChange gatherLinWrong)

/-- 'quadrillekeep.LinOrder': WHATEVER THE INPUT: true; the input reads as it did. -/
def linOrderSpec : ChangeSpec := { name := "linOrder", fn := fun _ => fun
  | [d1, d2, d3] => { results := [.lit (.bool true)], args := [d1, d2, d3] }
  | _ => none }
def linOrderRow : OpenClaim := { program := "ytdhlmgoodpepeaagreatdoor", sum := "cc69d3fc9dc382ff85fc6e476c2a1f7c2621cfb3f57cee735e01fee0ea05027b", func := "quadrille/quadrillekeep.LinOrder", spec := "linOrder", inPlace := ["internal/reflectlite.ValueOf", "(internal/reflectlite.Value).Type", "(internal/reflectlite.Value).IsNil", "internal/reflectlite.TypeOf", "(internal/reflectlite.Value).Elem", "(internal/reflectlite.Value).Set"], unfollowed := true, recurses := true, named := ["quadrille/code.forms", "errors.errorType"], plainKeys := false, apart := false, laid := [("errors.errorType", laid_errors_errorType), ("quadrille/code.forms", laid_quadrille_code_forms)] }
def LinOrderSaid : Prop := linOrderRow.holds Tryz.pinned (OpenSpec.ofChange linOrderSpec)

/-- ITS FALSE NEIGHBOUR: 'it returns false'. Refute it at one input. -/
def linOrderWrong : ChangeSpec := { name := "linOrder", fn := fun _ => fun
  | [d1, d2, d3] => { results := [.lit (.bool false)], args := [d1, d2, d3] }
  | _ => none }
def LinOrderWrongFalsely : Prop := linOrderRow.holds Tryz.pinned (OpenSpec.ofChange linOrderWrong)

/-- 'quadrillekeep.LinGrows': WHATEVER THE INPUT: true; the input reads as it did. -/
def linGrowsSpec : ChangeSpec := { name := "linGrows", fn := fun _ => fun
  | [d1, d2, d3, d4, d5] => { results := [.lit (.bool true)], args := [d1, d2, d3, d4, d5] }
  | _ => none }
def linGrowsRow : OpenClaim := { program := "ytdhlmgoodpepeaagreatdoor", sum := "cc69d3fc9dc382ff85fc6e476c2a1f7c2621cfb3f57cee735e01fee0ea05027b", func := "quadrille/quadrillekeep.LinGrows", spec := "linGrows", inPlace := ["internal/reflectlite.ValueOf", "(internal/reflectlite.Value).Type", "(internal/reflectlite.Value).IsNil", "internal/reflectlite.TypeOf", "(internal/reflectlite.Value).Elem", "(internal/reflectlite.Value).Set"], unfollowed := true, recurses := true, named := ["quadrille/code.forms", "errors.errorType"], plainKeys := false, apart := false, laid := [("errors.errorType", laid_errors_errorType), ("quadrille/code.forms", laid_quadrille_code_forms)] }
def LinGrowsSaid : Prop := linGrowsRow.holds Tryz.pinned (OpenSpec.ofChange linGrowsSpec)

/-- ITS FALSE NEIGHBOUR: 'it returns false'. Refute it at one input. -/
def linGrowsWrong : ChangeSpec := { name := "linGrows", fn := fun _ => fun
  | [d1, d2, d3, d4, d5] => { results := [.lit (.bool false)], args := [d1, d2, d3, d4, d5] }
  | _ => none }
def LinGrowsWrongFalsely : Prop := linGrowsRow.holds Tryz.pinned (OpenSpec.ofChange linGrowsWrong)

/- THE SECOND FORM. 'bulk': how many values and letters a reading holds, each counted each time it is reached (what is shared counts as often as it is met; a slice's spare places count too). A statement '..UptoSaid' is the law's where the arguments, and the package variables that the reading takes, are together of bulk at most 1048576: NARROWER than '..Said'. Prove '..Said' where nothing that the law and all that it calls make is longer than what came in: it says more and counts as full. Else prove '..UptoSaid'. A law counts once. -/
mutual
def uptoBulk {H : Type} : DataW H → Nat
  | .lit (.string bytes) => bytes.length + 1
  | .lit _ => 1
  | .nil => 1
  | .ptr d => uptoBulk d + 1
  | .slice elems spare => uptoBulkAll elems + uptoBulkAll spare + 1
  | .agg parts => uptoBulkAll parts + 1
  | .iface _ d => uptoBulk d + 1
  | .map entries => uptoBulkEntries entries + 1
  | .held _ => 1
def uptoBulkAll {H : Type} : List (DataW H) → Nat
  | [] => 0
  | d :: r => uptoBulk d + uptoBulkAll r
def uptoBulkEntries {H : Type} : List (Lit × DataW H) → Nat
  | [] => 0
  | x :: r => uptoBulkEntry x + uptoBulkEntries r
def uptoBulkEntry {H : Type} : Lit × DataW H → Nat
  | (.string bytes, d) => bytes.length + uptoBulk d + 1
  | (_, d) => uptoBulk d + 1
 end
def uptoSmall : (H : Type) → List (DataW H) → Bool := fun _ ds => decide (uptoBulkAll ds ≤ 1048576)
def OpenSpec.upto (s : _root_.Go.ChangeSpec) : _root_.Go.OpenSpec := { _root_.Go.OpenSpec.ofChange s with cond := some uptoSmall }

/-- 'quadrillekeep.GatherWithin', WHERE WHAT IT READS IS OF BULK AT MOST 1048576: true; the input reads as it did. -/
def gatherWithinUptoRow : OpenClaim := { program := "ytdhlmgoodpepeaagreatdoor", sum := "cc69d3fc9dc382ff85fc6e476c2a1f7c2621cfb3f57cee735e01fee0ea05027b", func := "quadrille/quadrillekeep.GatherWithin", spec := "gatherWithin", inPlace := ["internal/reflectlite.ValueOf", "(internal/reflectlite.Value).Type", "(internal/reflectlite.Value).IsNil", "internal/reflectlite.TypeOf", "(internal/reflectlite.Value).Elem", "(internal/reflectlite.Value).Set"], unfollowed := true, recurses := true, named := ["quadrille/code.forms", "errors.errorType"], plainKeys := false, apart := false, laid := [("errors.errorType", laid_errors_errorType), ("quadrille/code.forms", laid_quadrille_code_forms)], narrowed := true }
def GatherWithinUptoSaid : Prop := gatherWithinUptoRow.holds Tryz.pinned (OpenSpec.upto gatherWithinSpec)

/-- 'quadrillekeep.GatherPasses', WHERE WHAT IT READS IS OF BULK AT MOST 1048576: true; the input reads as it did. -/
def gatherPassesUptoRow : OpenClaim := { program := "ytdhlmgoodpepeaagreatdoor", sum := "cc69d3fc9dc382ff85fc6e476c2a1f7c2621cfb3f57cee735e01fee0ea05027b", func := "quadrille/quadrillekeep.GatherPasses", spec := "gatherPasses", inPlace := ["internal/reflectlite.ValueOf", "(internal/reflectlite.Value).Type", "(internal/reflectlite.Value).IsNil", "internal/reflectlite.TypeOf", "(internal/reflectlite.Value).Elem", "(internal/reflectlite.Value).Set"], unfollowed := true, recurses := true, named := ["quadrille/code.forms", "errors.errorType"], plainKeys := false, apart := false, laid := [("errors.errorType", laid_errors_errorType), ("quadrille/code.forms", laid_quadrille_code_forms)], narrowed := true }
def GatherPassesUptoSaid : Prop := gatherPassesUptoRow.holds Tryz.pinned (OpenSpec.upto gatherPassesSpec)

/-- 'quadrillekeep.GatherCloses', WHERE WHAT IT READS IS OF BULK AT MOST 1048576: true; the input reads as it did. -/
def gatherClosesUptoRow : OpenClaim := { program := "ytdhlmgoodpepeaagreatdoor", sum := "cc69d3fc9dc382ff85fc6e476c2a1f7c2621cfb3f57cee735e01fee0ea05027b", func := "quadrille/quadrillekeep.GatherCloses", spec := "gatherCloses", inPlace := ["internal/reflectlite.ValueOf", "(internal/reflectlite.Value).Type", "(internal/reflectlite.Value).IsNil", "internal/reflectlite.TypeOf", "(internal/reflectlite.Value).Elem", "(internal/reflectlite.Value).Set"], unfollowed := true, recurses := true, named := ["quadrille/code.forms", "errors.errorType"], plainKeys := false, apart := false, laid := [("errors.errorType", laid_errors_errorType), ("quadrille/code.forms", laid_quadrille_code_forms)], narrowed := true }
def GatherClosesUptoSaid : Prop := gatherClosesUptoRow.holds Tryz.pinned (OpenSpec.upto gatherClosesSpec)

/-- 'quadrillekeep.GatherAlone', WHERE WHAT IT READS IS OF BULK AT MOST 1048576: true; the input reads as it did. -/
def gatherAloneUptoRow : OpenClaim := { program := "ytdhlmgoodpepeaagreatdoor", sum := "cc69d3fc9dc382ff85fc6e476c2a1f7c2621cfb3f57cee735e01fee0ea05027b", func := "quadrille/quadrillekeep.GatherAlone", spec := "gatherAlone", inPlace := ["internal/reflectlite.ValueOf", "(internal/reflectlite.Value).Type", "(internal/reflectlite.Value).IsNil", "internal/reflectlite.TypeOf", "(internal/reflectlite.Value).Elem", "(internal/reflectlite.Value).Set"], unfollowed := true, recurses := true, named := ["quadrille/code.forms", "errors.errorType"], plainKeys := false, apart := false, laid := [("errors.errorType", laid_errors_errorType), ("quadrille/code.forms", laid_quadrille_code_forms)], narrowed := true }
def GatherAloneUptoSaid : Prop := gatherAloneUptoRow.holds Tryz.pinned (OpenSpec.upto gatherAloneSpec)

/-- 'quadrillekeep.GatherMisses', WHERE WHAT IT READS IS OF BULK AT MOST 1048576: true; the input reads as it did. -/
def gatherMissesUptoRow : OpenClaim := { program := "ytdhlmgoodpepeaagreatdoor", sum := "cc69d3fc9dc382ff85fc6e476c2a1f7c2621cfb3f57cee735e01fee0ea05027b", func := "quadrille/quadrillekeep.GatherMisses", spec := "gatherMisses", inPlace := ["internal/reflectlite.ValueOf", "(internal/reflectlite.Value).Type", "(internal/reflectlite.Value).IsNil", "internal/reflectlite.TypeOf", "(internal/reflectlite.Value).Elem", "(internal/reflectlite.Value).Set"], unfollowed := true, recurses := true, named := ["quadrille/code.forms", "errors.errorType"], plainKeys := false, apart := false, laid := [("errors.errorType", laid_errors_errorType), ("quadrille/code.forms", laid_quadrille_code_forms)], narrowed := true }
def GatherMissesUptoSaid : Prop := gatherMissesUptoRow.holds Tryz.pinned (OpenSpec.upto gatherMissesSpec)

/-- 'quadrillekeep.GatherJoins', WHERE WHAT IT READS IS OF BULK AT MOST 1048576: true; the input reads as it did. -/
def gatherJoinsUptoRow : OpenClaim := { program := "ytdhlmgoodpepeaagreatdoor", sum := "cc69d3fc9dc382ff85fc6e476c2a1f7c2621cfb3f57cee735e01fee0ea05027b", func := "quadrille/quadrillekeep.GatherJoins", spec := "gatherJoins", inPlace := ["internal/reflectlite.ValueOf", "(internal/reflectlite.Value).Type", "(internal/reflectlite.Value).IsNil", "internal/reflectlite.TypeOf", "(internal/reflectlite.Value).Elem", "(internal/reflectlite.Value).Set"], unfollowed := true, recurses := true, named := ["quadrille/code.forms", "errors.errorType"], plainKeys := false, apart := false, laid := [("errors.errorType", laid_errors_errorType), ("quadrille/code.forms", laid_quadrille_code_forms)], narrowed := true }
def GatherJoinsUptoSaid : Prop := gatherJoinsUptoRow.holds Tryz.pinned (OpenSpec.upto gatherJoinsSpec)

/-- 'quadrillekeep.GatherLin', WHERE WHAT IT READS IS OF BULK AT MOST 1048576: true; the input reads as it did. -/
def gatherLinUptoRow : OpenClaim := { program := "ytdhlmgoodpepeaagreatdoor", sum := "cc69d3fc9dc382ff85fc6e476c2a1f7c2621cfb3f57cee735e01fee0ea05027b", func := "quadrille/quadrillekeep.GatherLin", spec := "gatherLin", inPlace := ["internal/reflectlite.ValueOf", "(internal/reflectlite.Value).Type", "(internal/reflectlite.Value).IsNil", "internal/reflectlite.TypeOf", "(internal/reflectlite.Value).Elem", "(internal/reflectlite.Value).Set"], unfollowed := true, recurses := true, named := ["quadrille/code.forms", "errors.errorType"], plainKeys := false, apart := false, laid := [("errors.errorType", laid_errors_errorType), ("quadrille/code.forms", laid_quadrille_code_forms)], narrowed := true }
def GatherLinUptoSaid : Prop := gatherLinUptoRow.holds Tryz.pinned (OpenSpec.upto gatherLinSpec)

/-- 'quadrillekeep.LinOrder', WHERE WHAT IT READS IS OF BULK AT MOST 1048576: true; the input reads as it did. -/
def linOrderUptoRow : OpenClaim := { program := "ytdhlmgoodpepeaagreatdoor", sum := "cc69d3fc9dc382ff85fc6e476c2a1f7c2621cfb3f57cee735e01fee0ea05027b", func := "quadrille/quadrillekeep.LinOrder", spec := "linOrder", inPlace := ["internal/reflectlite.ValueOf", "(internal/reflectlite.Value).Type", "(internal/reflectlite.Value).IsNil", "internal/reflectlite.TypeOf", "(internal/reflectlite.Value).Elem", "(internal/reflectlite.Value).Set"], unfollowed := true, recurses := true, named := ["quadrille/code.forms", "errors.errorType"], plainKeys := false, apart := false, laid := [("errors.errorType", laid_errors_errorType), ("quadrille/code.forms", laid_quadrille_code_forms)], narrowed := true }
def LinOrderUptoSaid : Prop := linOrderUptoRow.holds Tryz.pinned (OpenSpec.upto linOrderSpec)

/-- 'quadrillekeep.LinGrows', WHERE WHAT IT READS IS OF BULK AT MOST 1048576: true; the input reads as it did. -/
def linGrowsUptoRow : OpenClaim := { program := "ytdhlmgoodpepeaagreatdoor", sum := "cc69d3fc9dc382ff85fc6e476c2a1f7c2621cfb3f57cee735e01fee0ea05027b", func := "quadrille/quadrillekeep.LinGrows", spec := "linGrows", inPlace := ["internal/reflectlite.ValueOf", "(internal/reflectlite.Value).Type", "(internal/reflectlite.Value).IsNil", "internal/reflectlite.TypeOf", "(internal/reflectlite.Value).Elem", "(internal/reflectlite.Value).Set"], unfollowed := true, recurses := true, named := ["quadrille/code.forms", "errors.errorType"], plainKeys := false, apart := false, laid := [("errors.errorType", laid_errors_errorType), ("quadrille/code.forms", laid_quadrille_code_forms)], narrowed := true }
def LinGrowsUptoSaid : Prop := linGrowsUptoRow.holds Tryz.pinned (OpenSpec.upto linGrowsSpec)

end Rows
end Go.Proofs.YtdhlmgoodpepeaaGreatDoor
