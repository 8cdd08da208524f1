/-
  No cell of these rows narrows 'for every input' (looked for: loops, veiled, ifaces, maps, wideKeys, modest, calm, conditions, laid).
  DERIVED. THE GIVEN ROWS OF THIS SEAT. 4 by the template 'for every input the law returns true; each argument reads behind the call as it read before'; 0 by the template 'total and deterministic' (their statements: YtaklikgdlalhdabTotals.lean).
  GIVEN WITH THE SEED: the statements are not yours to turn. If you find one false, say at which input.
  Laid BY PROGRAM, IN A SANDBOX (cutbox-rows.mjs): the forced cells as the released guide's own fill.sh prints them over the translation fbe40f8484680ed8… (all of the seat's roots in one cut). By AI agents, Wed Nov 11 2026. No macro, syntax, notation, axiom, sorry.
-/
import Derived.Test.YtaklikgdlalhdabChecked
import GoSem.Claim
import GoSem.ClaimJoined
import GoSem.ClaimMapViews
import Derived.JoinedTies
import Derived.KernelRfl
namespace Go.Proofs.Ytaklikgdlalhdab
/- THE CELL 'sum', in the pinned program and in every row, IS THE sha256 OF THE DUMP (.gsa) THAT YtaklikgdlalhdabProg.lean LOADS. Nothing in Lean hashes anything: it is a label: what it is worth is what the hold of that sum in a sandbox is worth. -/
noncomputable def Try.pinned : Pinned := { name := "ytaklikgdlalhdab", sum := "fbe40f8484680ed80862a14069f264229906981884e338cc6980926808bbf286", checked := Try.checked }
namespace Rows
def none {H : Type} : Left H := { results := [], args := [] }

/-- 'quadrillekeep.PhaserLeaves': WHATEVER THE INPUT: true; the input reads as it did. -/
def phaserLeavesSpec : ChangeSpec := { name := "phaserLeaves", fn := fun _ => fun
  | [d] => { results := [.lit (.bool true)], args := [d] }
  | _ => none }
def phaserLeavesRow : OpenClaim := { program := "ytaklikgdlalhdab", sum := "fbe40f8484680ed80862a14069f264229906981884e338cc6980926808bbf286", func := "quadrille/quadrillekeep.PhaserLeaves", spec := "phaserLeaves", apart := false }
def PhaserLeavesSaid : Prop := phaserLeavesRow.holds Try.pinned (OpenSpec.ofChange phaserLeavesSpec)

/-- ITS FALSE NEIGHBOUR: 'it returns false'. Refute it at one input. -/
def phaserLeavesWrong : ChangeSpec := { name := "phaserLeaves", fn := fun _ => fun
  | [d] => { results := [.lit (.bool false)], args := [d] }
  | _ => none }
def PhaserLeavesWrongFalsely : Prop := phaserLeavesRow.holds Try.pinned (OpenSpec.ofChange phaserLeavesWrong)

/-- 'quadrillekeep.PhaserComes': WHATEVER THE INPUT: true; the input reads as it did. -/
def phaserComesSpec : ChangeSpec := { name := "phaserComes", fn := fun _ => fun
  | [d1, d2] => { results := [.lit (.bool true)], args := [d1, d2] }
  | _ => none }
def phaserComesRow : OpenClaim := { program := "ytaklikgdlalhdab", sum := "fbe40f8484680ed80862a14069f264229906981884e338cc6980926808bbf286", func := "quadrille/quadrillekeep.PhaserComes", spec := "phaserComes", apart := false }
def PhaserComesSaid : Prop := phaserComesRow.holds Try.pinned (OpenSpec.ofChange phaserComesSpec)

/-- ITS FALSE NEIGHBOUR: 'it returns false'. Refute it at one input. -/
def phaserComesWrong : ChangeSpec := { name := "phaserComes", fn := fun _ => fun
  | [d1, d2] => { results := [.lit (.bool false)], args := [d1, d2] }
  | _ => none }
def PhaserComesWrongFalsely : Prop := phaserComesRow.holds Try.pinned (OpenSpec.ofChange phaserComesWrong)

/-- 'quadrillekeep.PhaserSwaps': WHATEVER THE INPUT: true; the input reads as it did. -/
def phaserSwapsSpec : ChangeSpec := { name := "phaserSwaps", fn := fun _ => fun
  | [d1, d2, d3] => { results := [.lit (.bool true)], args := [d1, d2, d3] }
  | _ => none }
def phaserSwapsRow : OpenClaim := { program := "ytaklikgdlalhdab", sum := "fbe40f8484680ed80862a14069f264229906981884e338cc6980926808bbf286", func := "quadrille/quadrillekeep.PhaserSwaps", spec := "phaserSwaps", apart := false }
def PhaserSwapsSaid : Prop := phaserSwapsRow.holds Try.pinned (OpenSpec.ofChange phaserSwapsSpec)

/-- ITS FALSE NEIGHBOUR: 'it returns false'. Refute it at one input. -/
def phaserSwapsWrong : ChangeSpec := { name := "phaserSwaps", fn := fun _ => fun
  | [d1, d2, d3] => { results := [.lit (.bool false)], args := [d1, d2, d3] }
  | _ => none }
def PhaserSwapsWrongFalsely : Prop := phaserSwapsRow.holds Try.pinned (OpenSpec.ofChange phaserSwapsWrong)

/-- 'quadrillekeep.PhaserParts': WHATEVER THE INPUT: true; the input reads as it did. -/
def phaserPartsSpec : ChangeSpec := { name := "phaserParts", fn := fun _ => fun
  | [d1, d2, d3, d4] => { results := [.lit (.bool true)], args := [d1, d2, d3, d4] }
  | _ => none }
def phaserPartsRow : OpenClaim := { program := "ytaklikgdlalhdab", sum := "fbe40f8484680ed80862a14069f264229906981884e338cc6980926808bbf286", func := "quadrille/quadrillekeep.PhaserParts", spec := "phaserParts", apart := false }
def PhaserPartsSaid : Prop := phaserPartsRow.holds Try.pinned (OpenSpec.ofChange phaserPartsSpec)

/-- ITS FALSE NEIGHBOUR: 'it returns false'. Refute it at one input. -/
def phaserPartsWrong : ChangeSpec := { name := "phaserParts", fn := fun _ => fun
  | [d1, d2, d3, d4] => { results := [.lit (.bool false)], args := [d1, d2, d3, d4] }
  | _ => none }
def PhaserPartsWrongFalsely : Prop := phaserPartsRow.holds Try.pinned (OpenSpec.ofChange phaserPartsWrong)

/- THE SECOND FORM. 'bulk': how many values and letters a reading holds, each counted each time it is reached (what is shared counts as often as it is met; a slice's spare places count too). A statement '..UptoSaid' is the law's where the arguments, and the package variables that the reading takes, are together of bulk at most 1048576: NARROWER than '..Said'. Prove '..Said' where nothing that the law and all that it calls make is longer than what came in: it says more and counts as full. Else prove '..UptoSaid'. A law counts once. -/
mutual
def uptoBulk {H : Type} : DataW H → Nat
  | .lit (.string bytes) => bytes.length + 1
  | .lit _ => 1
  | .nil => 1
  | .ptr d => uptoBulk d + 1
  | .slice elems spare => uptoBulkAll elems + uptoBulkAll spare + 1
  | .agg parts => uptoBulkAll parts + 1
  | .iface _ d => uptoBulk d + 1
  | .map entries => uptoBulkEntries entries + 1
  | .held _ => 1
def uptoBulkAll {H : Type} : List (DataW H) → Nat
  | [] => 0
  | d :: r => uptoBulk d + uptoBulkAll r
def uptoBulkEntries {H : Type} : List (Lit × DataW H) → Nat
  | [] => 0
  | x :: r => uptoBulkEntry x + uptoBulkEntries r
def uptoBulkEntry {H : Type} : Lit × DataW H → Nat
  | (.string bytes, d) => bytes.length + uptoBulk d + 1
  | (_, d) => uptoBulk d + 1
 end
def uptoSmall : (H : Type) → List (DataW H) → Bool := fun _ ds => decide (uptoBulkAll ds ≤ 1048576)
def OpenSpec.upto (s : _root_.Go.ChangeSpec) : _root_.Go.OpenSpec := { _root_.Go.OpenSpec.ofChange s with cond := some uptoSmall }

/-- 'quadrillekeep.PhaserLeaves', WHERE WHAT IT READS IS OF BULK AT MOST 1048576: true; the input reads as it did. -/
def phaserLeavesUptoRow : OpenClaim := { program := "ytaklikgdlalhdab", sum := "fbe40f8484680ed80862a14069f264229906981884e338cc6980926808bbf286", func := "quadrille/quadrillekeep.PhaserLeaves", spec := "phaserLeaves", apart := false, narrowed := true }
def PhaserLeavesUptoSaid : Prop := phaserLeavesUptoRow.holds Try.pinned (OpenSpec.upto phaserLeavesSpec)

/-- 'quadrillekeep.PhaserComes', WHERE WHAT IT READS IS OF BULK AT MOST 1048576: true; the input reads as it did. -/
def phaserComesUptoRow : OpenClaim := { program := "ytaklikgdlalhdab", sum := "fbe40f8484680ed80862a14069f264229906981884e338cc6980926808bbf286", func := "quadrille/quadrillekeep.PhaserComes", spec := "phaserComes", apart := false, narrowed := true }
def PhaserComesUptoSaid : Prop := phaserComesUptoRow.holds Try.pinned (OpenSpec.upto phaserComesSpec)

/-- 'quadrillekeep.PhaserSwaps', WHERE WHAT IT READS IS OF BULK AT MOST 1048576: true; the input reads as it did. -/
def phaserSwapsUptoRow : OpenClaim := { program := "ytaklikgdlalhdab", sum := "fbe40f8484680ed80862a14069f264229906981884e338cc6980926808bbf286", func := "quadrille/quadrillekeep.PhaserSwaps", spec := "phaserSwaps", apart := false, narrowed := true }
def PhaserSwapsUptoSaid : Prop := phaserSwapsUptoRow.holds Try.pinned (OpenSpec.upto phaserSwapsSpec)

/-- 'quadrillekeep.PhaserParts', WHERE WHAT IT READS IS OF BULK AT MOST 1048576: true; the input reads as it did. -/
def phaserPartsUptoRow : OpenClaim := { program := "ytaklikgdlalhdab", sum := "fbe40f8484680ed80862a14069f264229906981884e338cc6980926808bbf286", func := "quadrille/quadrillekeep.PhaserParts", spec := "phaserParts", apart := false, narrowed := true }
def PhaserPartsUptoSaid : Prop := phaserPartsUptoRow.holds Try.pinned (OpenSpec.upto phaserPartsSpec)

end Rows
end Go.Proofs.Ytaklikgdlalhdab
