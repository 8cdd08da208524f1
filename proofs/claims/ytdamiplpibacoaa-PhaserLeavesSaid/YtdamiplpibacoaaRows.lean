/-
  No cell of these rows narrows 'for every input' (looked for: loops, veiled, ifaces, maps, wideKeys, modest, calm, conditions, laid).
  DERIVED. THE GIVEN ROWS OF THIS SEAT. 9 by the template 'for every input the law returns true; each argument reads behind the call as it read before'; 0 by the template 'total and deterministic' (their statements: YtdamiplpibacoaaTotals.lean).
  GIVEN WITH THE SEED: the statements are not yours to turn. If you find one false, say at which input.
  Laid BY PROGRAM, IN A SANDBOX (cutbox-rows.mjs): the forced cells as the released guide's own fill.sh prints them over the translation 5cc333691f8090e5… (all of the seat's roots in one cut). By AI agents, Wed Nov 11 2026. No macro, syntax, notation, axiom, sorry.
-/
import Derived.Test.YtdamiplpibacoaaChecked
import GoSem.Claim
import GoSem.ClaimJoined
import GoSem.ClaimMapViews
import Derived.JoinedTies
import Derived.KernelRfl
namespace Go.Proofs.Ytdamiplpibacoaa
/- THE CELL 'sum', in the pinned program and in every row, IS THE sha256 OF THE DUMP (.gsa) THAT YtdamiplpibacoaaProg.lean LOADS. Nothing in Lean hashes anything: it is a label: what it is worth is what the hold of that sum in a sandbox is worth. -/
noncomputable def Try.pinned : Pinned := { name := "ytdamiplpibacoaa", sum := "5cc333691f8090e5ccadde3fb399cd64bdec3a3804cfd4b0d8146e54f5e83803", checked := Try.checked }
namespace Rows
def none {H : Type} : Left H := { results := [], args := [] }

/-- 'quadrillekeep.PackedBack': WHATEVER THE INPUT: true; the input reads as it did. -/
def packedBackSpec : ChangeSpec := { name := "packedBack", fn := fun _ => fun
  | [d1, d2] => { results := [.lit (.bool true)], args := [d1, d2] }
  | _ => none }
def packedBackRow : OpenClaim := { program := "ytdamiplpibacoaa", sum := "5cc333691f8090e5ccadde3fb399cd64bdec3a3804cfd4b0d8146e54f5e83803", func := "quadrille/quadrillekeep.PackedBack", spec := "packedBack", apart := false }
def PackedBackSaid : Prop := packedBackRow.holds Try.pinned (OpenSpec.ofChange packedBackSpec)

/-- ITS FALSE NEIGHBOUR: 'it returns false'. Refute it at one input. -/
def packedBackWrong : ChangeSpec := { name := "packedBack", fn := fun _ => fun
  | [d1, d2] => { results := [.lit (.bool false)], args := [d1, d2] }
  | _ => none }
def PackedBackWrongFalsely : Prop := packedBackRow.holds Try.pinned (OpenSpec.ofChange packedBackWrong)

/-- 'quadrillekeep.PackedOrder': WHATEVER THE INPUT: true; the input reads as it did. -/
def packedOrderSpec : ChangeSpec := { name := "packedOrder", fn := fun _ => fun
  | [d1, d2] => { results := [.lit (.bool true)], args := [d1, d2] }
  | _ => none }
def packedOrderRow : OpenClaim := { program := "ytdamiplpibacoaa", sum := "5cc333691f8090e5ccadde3fb399cd64bdec3a3804cfd4b0d8146e54f5e83803", func := "quadrille/quadrillekeep.PackedOrder", spec := "packedOrder", apart := false }
def PackedOrderSaid : Prop := packedOrderRow.holds Try.pinned (OpenSpec.ofChange packedOrderSpec)

/-- ITS FALSE NEIGHBOUR: 'it returns false'. Refute it at one input. -/
def packedOrderWrong : ChangeSpec := { name := "packedOrder", fn := fun _ => fun
  | [d1, d2] => { results := [.lit (.bool false)], args := [d1, d2] }
  | _ => none }
def PackedOrderWrongFalsely : Prop := packedOrderRow.holds Try.pinned (OpenSpec.ofChange packedOrderWrong)

/-- 'quadrillekeep.PackedParts': WHATEVER THE INPUT: true; the input reads as it did. -/
def packedPartsSpec : ChangeSpec := { name := "packedParts", fn := fun _ => fun
  | [d] => { results := [.lit (.bool true)], args := [d] }
  | _ => none }
def packedPartsRow : OpenClaim := { program := "ytdamiplpibacoaa", sum := "5cc333691f8090e5ccadde3fb399cd64bdec3a3804cfd4b0d8146e54f5e83803", func := "quadrille/quadrillekeep.PackedParts", spec := "packedParts", apart := false }
def PackedPartsSaid : Prop := packedPartsRow.holds Try.pinned (OpenSpec.ofChange packedPartsSpec)

/-- ITS FALSE NEIGHBOUR: 'it returns false'. Refute it at one input. -/
def packedPartsWrong : ChangeSpec := { name := "packedParts", fn := fun _ => fun
  | [d] => { results := [.lit (.bool false)], args := [d] }
  | _ => none }
def PackedPartsWrongFalsely : Prop := packedPartsRow.holds Try.pinned (OpenSpec.ofChange packedPartsWrong)

/-- 'quadrillekeep.PhaserStays': WHATEVER THE INPUT: true; the input reads as it did. -/
def phaserStaysSpec : ChangeSpec := { name := "phaserStays", fn := fun _ => fun
  | [d1, d2] => { results := [.lit (.bool true)], args := [d1, d2] }
  | _ => none }
def phaserStaysRow : OpenClaim := { program := "ytdamiplpibacoaa", sum := "5cc333691f8090e5ccadde3fb399cd64bdec3a3804cfd4b0d8146e54f5e83803", func := "quadrille/quadrillekeep.PhaserStays", spec := "phaserStays", apart := false }
def PhaserStaysSaid : Prop := phaserStaysRow.holds Try.pinned (OpenSpec.ofChange phaserStaysSpec)

/-- ITS FALSE NEIGHBOUR: 'it returns false'. Refute it at one input. -/
def phaserStaysWrong : ChangeSpec := { name := "phaserStays", fn := fun _ => fun
  | [d1, d2] => { results := [.lit (.bool false)], args := [d1, d2] }
  | _ => none }
def PhaserStaysWrongFalsely : Prop := phaserStaysRow.holds Try.pinned (OpenSpec.ofChange phaserStaysWrong)

/-- 'quadrillekeep.PhaserTurns': WHATEVER THE INPUT: true; the input reads as it did. -/
def phaserTurnsSpec : ChangeSpec := { name := "phaserTurns", fn := fun _ => fun
  | [d1, d2] => { results := [.lit (.bool true)], args := [d1, d2] }
  | _ => none }
def phaserTurnsRow : OpenClaim := { program := "ytdamiplpibacoaa", sum := "5cc333691f8090e5ccadde3fb399cd64bdec3a3804cfd4b0d8146e54f5e83803", func := "quadrille/quadrillekeep.PhaserTurns", spec := "phaserTurns", apart := false }
def PhaserTurnsSaid : Prop := phaserTurnsRow.holds Try.pinned (OpenSpec.ofChange phaserTurnsSpec)

/-- ITS FALSE NEIGHBOUR: 'it returns false'. Refute it at one input. -/
def phaserTurnsWrong : ChangeSpec := { name := "phaserTurns", fn := fun _ => fun
  | [d1, d2] => { results := [.lit (.bool false)], args := [d1, d2] }
  | _ => none }
def PhaserTurnsWrongFalsely : Prop := phaserTurnsRow.holds Try.pinned (OpenSpec.ofChange phaserTurnsWrong)

/-- 'quadrillekeep.PhaserLeaves': WHATEVER THE INPUT: true; the input reads as it did. -/
def phaserLeavesSpec : ChangeSpec := { name := "phaserLeaves", fn := fun _ => fun
  | [d] => { results := [.lit (.bool true)], args := [d] }
  | _ => none }
def phaserLeavesRow : OpenClaim := { program := "ytdamiplpibacoaa", sum := "5cc333691f8090e5ccadde3fb399cd64bdec3a3804cfd4b0d8146e54f5e83803", func := "quadrille/quadrillekeep.PhaserLeaves", spec := "phaserLeaves", apart := false }
def PhaserLeavesSaid : Prop := phaserLeavesRow.holds Try.pinned (OpenSpec.ofChange phaserLeavesSpec)

/-- ITS FALSE NEIGHBOUR: 'it returns false'. Refute it at one input. -/
def phaserLeavesWrong : ChangeSpec := { name := "phaserLeaves", fn := fun _ => fun
  | [d] => { results := [.lit (.bool false)], args := [d] }
  | _ => none }
def PhaserLeavesWrongFalsely : Prop := phaserLeavesRow.holds Try.pinned (OpenSpec.ofChange phaserLeavesWrong)

/-- 'quadrillekeep.PhaserComes': WHATEVER THE INPUT: true; the input reads as it did. -/
def phaserComesSpec : ChangeSpec := { name := "phaserComes", fn := fun _ => fun
  | [d1, d2] => { results := [.lit (.bool true)], args := [d1, d2] }
  | _ => none }
def phaserComesRow : OpenClaim := { program := "ytdamiplpibacoaa", sum := "5cc333691f8090e5ccadde3fb399cd64bdec3a3804cfd4b0d8146e54f5e83803", func := "quadrille/quadrillekeep.PhaserComes", spec := "phaserComes", apart := false }
def PhaserComesSaid : Prop := phaserComesRow.holds Try.pinned (OpenSpec.ofChange phaserComesSpec)

/-- ITS FALSE NEIGHBOUR: 'it returns false'. Refute it at one input. -/
def phaserComesWrong : ChangeSpec := { name := "phaserComes", fn := fun _ => fun
  | [d1, d2] => { results := [.lit (.bool false)], args := [d1, d2] }
  | _ => none }
def PhaserComesWrongFalsely : Prop := phaserComesRow.holds Try.pinned (OpenSpec.ofChange phaserComesWrong)

/-- 'quadrillekeep.PhaserSwaps': WHATEVER THE INPUT: true; the input reads as it did. -/
def phaserSwapsSpec : ChangeSpec := { name := "phaserSwaps", fn := fun _ => fun
  | [d1, d2, d3] => { results := [.lit (.bool true)], args := [d1, d2, d3] }
  | _ => none }
def phaserSwapsRow : OpenClaim := { program := "ytdamiplpibacoaa", sum := "5cc333691f8090e5ccadde3fb399cd64bdec3a3804cfd4b0d8146e54f5e83803", func := "quadrille/quadrillekeep.PhaserSwaps", spec := "phaserSwaps", apart := false }
def PhaserSwapsSaid : Prop := phaserSwapsRow.holds Try.pinned (OpenSpec.ofChange phaserSwapsSpec)

/-- ITS FALSE NEIGHBOUR: 'it returns false'. Refute it at one input. -/
def phaserSwapsWrong : ChangeSpec := { name := "phaserSwaps", fn := fun _ => fun
  | [d1, d2, d3] => { results := [.lit (.bool false)], args := [d1, d2, d3] }
  | _ => none }
def PhaserSwapsWrongFalsely : Prop := phaserSwapsRow.holds Try.pinned (OpenSpec.ofChange phaserSwapsWrong)

/-- 'quadrillekeep.PhaserParts': WHATEVER THE INPUT: true; the input reads as it did. -/
def phaserPartsSpec : ChangeSpec := { name := "phaserParts", fn := fun _ => fun
  | [d1, d2, d3, d4] => { results := [.lit (.bool true)], args := [d1, d2, d3, d4] }
  | _ => none }
def phaserPartsRow : OpenClaim := { program := "ytdamiplpibacoaa", sum := "5cc333691f8090e5ccadde3fb399cd64bdec3a3804cfd4b0d8146e54f5e83803", func := "quadrille/quadrillekeep.PhaserParts", spec := "phaserParts", apart := false }
def PhaserPartsSaid : Prop := phaserPartsRow.holds Try.pinned (OpenSpec.ofChange phaserPartsSpec)

/-- ITS FALSE NEIGHBOUR: 'it returns false'. Refute it at one input. -/
def phaserPartsWrong : ChangeSpec := { name := "phaserParts", fn := fun _ => fun
  | [d1, d2, d3, d4] => { results := [.lit (.bool false)], args := [d1, d2, d3, d4] }
  | _ => none }
def PhaserPartsWrongFalsely : Prop := phaserPartsRow.holds Try.pinned (OpenSpec.ofChange phaserPartsWrong)

/- THE SECOND FORM. 'bulk': how many values and letters a reading holds, each counted each time it is reached (what is shared counts as often as it is met; a slice's spare places count too). A statement '..UptoSaid' is the law's where the arguments, and the package variables that the reading takes, are together of bulk at most 1048576: NARROWER than '..Said'. Prove '..Said' where nothing that the law and all that it calls make is longer than what came in: it says more and counts as full. Else prove '..UptoSaid'. A law counts once. -/
mutual
def uptoBulk {H : Type} : DataW H → Nat
  | .lit (.string bytes) => bytes.length + 1
  | .lit _ => 1
  | .nil => 1
  | .ptr d => uptoBulk d + 1
  | .slice elems spare => uptoBulkAll elems + uptoBulkAll spare + 1
  | .agg parts => uptoBulkAll parts + 1
  | .iface _ d => uptoBulk d + 1
  | .map entries => uptoBulkEntries entries + 1
  | .held _ => 1
def uptoBulkAll {H : Type} : List (DataW H) → Nat
  | [] => 0
  | d :: r => uptoBulk d + uptoBulkAll r
def uptoBulkEntries {H : Type} : List (Lit × DataW H) → Nat
  | [] => 0
  | x :: r => uptoBulkEntry x + uptoBulkEntries r
def uptoBulkEntry {H : Type} : Lit × DataW H → Nat
  | (.string bytes, d) => bytes.length + uptoBulk d + 1
  | (_, d) => uptoBulk d + 1
 end
def uptoSmall : (H : Type) → List (DataW H) → Bool := fun _ ds => decide (uptoBulkAll ds ≤ 1048576)
def OpenSpec.upto (s : _root_.Go.ChangeSpec) : _root_.Go.OpenSpec := { _root_.Go.OpenSpec.ofChange s with cond := some uptoSmall }

/-- 'quadrillekeep.PackedBack', WHERE WHAT IT READS IS OF BULK AT MOST 1048576: true; the input reads as it did. -/
def packedBackUptoRow : OpenClaim := { program := "ytdamiplpibacoaa", sum := "5cc333691f8090e5ccadde3fb399cd64bdec3a3804cfd4b0d8146e54f5e83803", func := "quadrille/quadrillekeep.PackedBack", spec := "packedBack", apart := false, narrowed := true }
def PackedBackUptoSaid : Prop := packedBackUptoRow.holds Try.pinned (OpenSpec.upto packedBackSpec)

/-- 'quadrillekeep.PackedOrder', WHERE WHAT IT READS IS OF BULK AT MOST 1048576: true; the input reads as it did. -/
def packedOrderUptoRow : OpenClaim := { program := "ytdamiplpibacoaa", sum := "5cc333691f8090e5ccadde3fb399cd64bdec3a3804cfd4b0d8146e54f5e83803", func := "quadrille/quadrillekeep.PackedOrder", spec := "packedOrder", apart := false, narrowed := true }
def PackedOrderUptoSaid : Prop := packedOrderUptoRow.holds Try.pinned (OpenSpec.upto packedOrderSpec)

/-- 'quadrillekeep.PackedParts', WHERE WHAT IT READS IS OF BULK AT MOST 1048576: true; the input reads as it did. -/
def packedPartsUptoRow : OpenClaim := { program := "ytdamiplpibacoaa", sum := "5cc333691f8090e5ccadde3fb399cd64bdec3a3804cfd4b0d8146e54f5e83803", func := "quadrille/quadrillekeep.PackedParts", spec := "packedParts", apart := false, narrowed := true }
def PackedPartsUptoSaid : Prop := packedPartsUptoRow.holds Try.pinned (OpenSpec.upto packedPartsSpec)

/-- 'quadrillekeep.PhaserStays', WHERE WHAT IT READS IS OF BULK AT MOST 1048576: true; the input reads as it did. -/
def phaserStaysUptoRow : OpenClaim := { program := "ytdamiplpibacoaa", sum := "5cc333691f8090e5ccadde3fb399cd64bdec3a3804cfd4b0d8146e54f5e83803", func := "quadrille/quadrillekeep.PhaserStays", spec := "phaserStays", apart := false, narrowed := true }
def PhaserStaysUptoSaid : Prop := phaserStaysUptoRow.holds Try.pinned (OpenSpec.upto phaserStaysSpec)

/-- 'quadrillekeep.PhaserTurns', WHERE WHAT IT READS IS OF BULK AT MOST 1048576: true; the input reads as it did. -/
def phaserTurnsUptoRow : OpenClaim := { program := "ytdamiplpibacoaa", sum := "5cc333691f8090e5ccadde3fb399cd64bdec3a3804cfd4b0d8146e54f5e83803", func := "quadrille/quadrillekeep.PhaserTurns", spec := "phaserTurns", apart := false, narrowed := true }
def PhaserTurnsUptoSaid : Prop := phaserTurnsUptoRow.holds Try.pinned (OpenSpec.upto phaserTurnsSpec)

/-- 'quadrillekeep.PhaserLeaves', WHERE WHAT IT READS IS OF BULK AT MOST 1048576: true; the input reads as it did. -/
def phaserLeavesUptoRow : OpenClaim := { program := "ytdamiplpibacoaa", sum := "5cc333691f8090e5ccadde3fb399cd64bdec3a3804cfd4b0d8146e54f5e83803", func := "quadrille/quadrillekeep.PhaserLeaves", spec := "phaserLeaves", apart := false, narrowed := true }
def PhaserLeavesUptoSaid : Prop := phaserLeavesUptoRow.holds Try.pinned (OpenSpec.upto phaserLeavesSpec)

/-- 'quadrillekeep.PhaserComes', WHERE WHAT IT READS IS OF BULK AT MOST 1048576: true; the input reads as it did. -/
def phaserComesUptoRow : OpenClaim := { program := "ytdamiplpibacoaa", sum := "5cc333691f8090e5ccadde3fb399cd64bdec3a3804cfd4b0d8146e54f5e83803", func := "quadrille/quadrillekeep.PhaserComes", spec := "phaserComes", apart := false, narrowed := true }
def PhaserComesUptoSaid : Prop := phaserComesUptoRow.holds Try.pinned (OpenSpec.upto phaserComesSpec)

/-- 'quadrillekeep.PhaserSwaps', WHERE WHAT IT READS IS OF BULK AT MOST 1048576: true; the input reads as it did. -/
def phaserSwapsUptoRow : OpenClaim := { program := "ytdamiplpibacoaa", sum := "5cc333691f8090e5ccadde3fb399cd64bdec3a3804cfd4b0d8146e54f5e83803", func := "quadrille/quadrillekeep.PhaserSwaps", spec := "phaserSwaps", apart := false, narrowed := true }
def PhaserSwapsUptoSaid : Prop := phaserSwapsUptoRow.holds Try.pinned (OpenSpec.upto phaserSwapsSpec)

/-- 'quadrillekeep.PhaserParts', WHERE WHAT IT READS IS OF BULK AT MOST 1048576: true; the input reads as it did. -/
def phaserPartsUptoRow : OpenClaim := { program := "ytdamiplpibacoaa", sum := "5cc333691f8090e5ccadde3fb399cd64bdec3a3804cfd4b0d8146e54f5e83803", func := "quadrille/quadrillekeep.PhaserParts", spec := "phaserParts", apart := false, narrowed := true }
def PhaserPartsUptoSaid : Prop := phaserPartsUptoRow.holds Try.pinned (OpenSpec.upto phaserPartsSpec)

end Rows
end Go.Proofs.Ytdamiplpibacoaa
