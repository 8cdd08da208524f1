/-
  No cell of these rows narrows 'for every input' (looked for: loops, veiled, ifaces, maps, wideKeys, modest, calm, conditions, laid).
  DERIVED. THE GIVEN ROWS OF THIS SEAT. 5 by the template 'for every input the law returns true; each argument reads behind the call as it read before'; 0 by the template 'total and deterministic' (their statements: YtaklikgdlalhdaaTotals.lean).
  GIVEN WITH THE SEED: the statements are not yours to turn. If you find one false, say at which input.
  Laid BY PROGRAM, IN A SANDBOX (cutbox-rows.mjs): the forced cells as the released guide's own fill.sh prints them over the translation 07d43dd5ae3f73af… (all of the seat's roots in one cut). By AI agents, Wed Nov 11 2026. No macro, syntax, notation, axiom, sorry.
-/
import Derived.Test.YtaklikgdlalhdaaChecked
import GoSem.Claim
import GoSem.ClaimJoined
import GoSem.ClaimMapViews
import Derived.JoinedTies
import Derived.KernelRfl
namespace Go.Proofs.Ytaklikgdlalhdaa
/- THE CELL 'sum', in the pinned program and in every row, IS THE sha256 OF THE DUMP (.gsa) THAT YtaklikgdlalhdaaProg.lean LOADS. Nothing in Lean hashes anything: it is a label: what it is worth is what the hold of that sum in a sandbox is worth. -/
noncomputable def Try.pinned : Pinned := { name := "ytaklikgdlalhdaa", sum := "07d43dd5ae3f73af4d6becba2a99a8e3bde95a51c48c8a469d2a14eee1918529", checked := Try.checked }
namespace Rows
def none {H : Type} : Left H := { results := [], args := [] }

/-- 'quadrillekeep.PackedBack': WHATEVER THE INPUT: true; the input reads as it did. -/
def packedBackSpec : ChangeSpec := { name := "packedBack", fn := fun _ => fun
  | [d1, d2] => { results := [.lit (.bool true)], args := [d1, d2] }
  | _ => none }
def packedBackRow : OpenClaim := { program := "ytaklikgdlalhdaa", sum := "07d43dd5ae3f73af4d6becba2a99a8e3bde95a51c48c8a469d2a14eee1918529", func := "quadrille/quadrillekeep.PackedBack", spec := "packedBack", apart := false }
def PackedBackSaid : Prop := packedBackRow.holds Try.pinned (OpenSpec.ofChange packedBackSpec)

/-- ITS FALSE NEIGHBOUR: 'it returns false'. Refute it at one input. -/
def packedBackWrong : ChangeSpec := { name := "packedBack", fn := fun _ => fun
  | [d1, d2] => { results := [.lit (.bool false)], args := [d1, d2] }
  | _ => none }
def PackedBackWrongFalsely : Prop := packedBackRow.holds Try.pinned (OpenSpec.ofChange packedBackWrong)

/-- 'quadrillekeep.PackedOrder': WHATEVER THE INPUT: true; the input reads as it did. -/
def packedOrderSpec : ChangeSpec := { name := "packedOrder", fn := fun _ => fun
  | [d1, d2] => { results := [.lit (.bool true)], args := [d1, d2] }
  | _ => none }
def packedOrderRow : OpenClaim := { program := "ytaklikgdlalhdaa", sum := "07d43dd5ae3f73af4d6becba2a99a8e3bde95a51c48c8a469d2a14eee1918529", func := "quadrille/quadrillekeep.PackedOrder", spec := "packedOrder", apart := false }
def PackedOrderSaid : Prop := packedOrderRow.holds Try.pinned (OpenSpec.ofChange packedOrderSpec)

/-- ITS FALSE NEIGHBOUR: 'it returns false'. Refute it at one input. -/
def packedOrderWrong : ChangeSpec := { name := "packedOrder", fn := fun _ => fun
  | [d1, d2] => { results := [.lit (.bool false)], args := [d1, d2] }
  | _ => none }
def PackedOrderWrongFalsely : Prop := packedOrderRow.holds Try.pinned (OpenSpec.ofChange packedOrderWrong)

/-- 'quadrillekeep.PackedParts': WHATEVER THE INPUT: true; the input reads as it did. -/
def packedPartsSpec : ChangeSpec := { name := "packedParts", fn := fun _ => fun
  | [d] => { results := [.lit (.bool true)], args := [d] }
  | _ => none }
def packedPartsRow : OpenClaim := { program := "ytaklikgdlalhdaa", sum := "07d43dd5ae3f73af4d6becba2a99a8e3bde95a51c48c8a469d2a14eee1918529", func := "quadrille/quadrillekeep.PackedParts", spec := "packedParts", apart := false }
def PackedPartsSaid : Prop := packedPartsRow.holds Try.pinned (OpenSpec.ofChange packedPartsSpec)

/-- ITS FALSE NEIGHBOUR: 'it returns false'. Refute it at one input. -/
def packedPartsWrong : ChangeSpec := { name := "packedParts", fn := fun _ => fun
  | [d] => { results := [.lit (.bool false)], args := [d] }
  | _ => none }
def PackedPartsWrongFalsely : Prop := packedPartsRow.holds Try.pinned (OpenSpec.ofChange packedPartsWrong)

/-- 'quadrillekeep.PhaserStays': WHATEVER THE INPUT: true; the input reads as it did. -/
def phaserStaysSpec : ChangeSpec := { name := "phaserStays", fn := fun _ => fun
  | [d1, d2] => { results := [.lit (.bool true)], args := [d1, d2] }
  | _ => none }
def phaserStaysRow : OpenClaim := { program := "ytaklikgdlalhdaa", sum := "07d43dd5ae3f73af4d6becba2a99a8e3bde95a51c48c8a469d2a14eee1918529", func := "quadrille/quadrillekeep.PhaserStays", spec := "phaserStays", apart := false }
def PhaserStaysSaid : Prop := phaserStaysRow.holds Try.pinned (OpenSpec.ofChange phaserStaysSpec)

/-- ITS FALSE NEIGHBOUR: 'it returns false'. Refute it at one input. -/
def phaserStaysWrong : ChangeSpec := { name := "phaserStays", fn := fun _ => fun
  | [d1, d2] => { results := [.lit (.bool false)], args := [d1, d2] }
  | _ => none }
def PhaserStaysWrongFalsely : Prop := phaserStaysRow.holds Try.pinned (OpenSpec.ofChange phaserStaysWrong)

/-- 'quadrillekeep.PhaserTurns': WHATEVER THE INPUT: true; the input reads as it did. -/
def phaserTurnsSpec : ChangeSpec := { name := "phaserTurns", fn := fun _ => fun
  | [d1, d2] => { results := [.lit (.bool true)], args := [d1, d2] }
  | _ => none }
def phaserTurnsRow : OpenClaim := { program := "ytaklikgdlalhdaa", sum := "07d43dd5ae3f73af4d6becba2a99a8e3bde95a51c48c8a469d2a14eee1918529", func := "quadrille/quadrillekeep.PhaserTurns", spec := "phaserTurns", apart := false }
def PhaserTurnsSaid : Prop := phaserTurnsRow.holds Try.pinned (OpenSpec.ofChange phaserTurnsSpec)

/-- ITS FALSE NEIGHBOUR: 'it returns false'. Refute it at one input. -/
def phaserTurnsWrong : ChangeSpec := { name := "phaserTurns", fn := fun _ => fun
  | [d1, d2] => { results := [.lit (.bool false)], args := [d1, d2] }
  | _ => none }
def PhaserTurnsWrongFalsely : Prop := phaserTurnsRow.holds Try.pinned (OpenSpec.ofChange phaserTurnsWrong)

/- THE SECOND FORM. 'bulk': how many values and letters a reading holds, each counted each time it is reached (what is shared counts as often as it is met; a slice's spare places count too). A statement '..UptoSaid' is the law's where the arguments, and the package variables that the reading takes, are together of bulk at most 1048576: NARROWER than '..Said'. Prove '..Said' where nothing that the law and all that it calls make is longer than what came in: it says more and counts as full. Else prove '..UptoSaid'. A law counts once. -/
mutual
def uptoBulk {H : Type} : DataW H → Nat
  | .lit (.string bytes) => bytes.length + 1
  | .lit _ => 1
  | .nil => 1
  | .ptr d => uptoBulk d + 1
  | .slice elems spare => uptoBulkAll elems + uptoBulkAll spare + 1
  | .agg parts => uptoBulkAll parts + 1
  | .iface _ d => uptoBulk d + 1
  | .map entries => uptoBulkEntries entries + 1
  | .held _ => 1
def uptoBulkAll {H : Type} : List (DataW H) → Nat
  | [] => 0
  | d :: r => uptoBulk d + uptoBulkAll r
def uptoBulkEntries {H : Type} : List (Lit × DataW H) → Nat
  | [] => 0
  | x :: r => uptoBulkEntry x + uptoBulkEntries r
def uptoBulkEntry {H : Type} : Lit × DataW H → Nat
  | (.string bytes, d) => bytes.length + uptoBulk d + 1
  | (_, d) => uptoBulk d + 1
 end
def uptoSmall : (H : Type) → List (DataW H) → Bool := fun _ ds => decide (uptoBulkAll ds ≤ 1048576)
def OpenSpec.upto (s : _root_.Go.ChangeSpec) : _root_.Go.OpenSpec := { _root_.Go.OpenSpec.ofChange s with cond := some uptoSmall }

/-- 'quadrillekeep.PackedBack', WHERE WHAT IT READS IS OF BULK AT MOST 1048576: true; the input reads as it did. -/
def packedBackUptoRow : OpenClaim := { program := "ytaklikgdlalhdaa", sum := "07d43dd5ae3f73af4d6becba2a99a8e3bde95a51c48c8a469d2a14eee1918529", func := "quadrille/quadrillekeep.PackedBack", spec := "packedBack", apart := false, narrowed := true }
def PackedBackUptoSaid : Prop := packedBackUptoRow.holds Try.pinned (OpenSpec.upto packedBackSpec)

/-- 'quadrillekeep.PackedOrder', WHERE WHAT IT READS IS OF BULK AT MOST 1048576: true; the input reads as it did. -/
def packedOrderUptoRow : OpenClaim := { program := "ytaklikgdlalhdaa", sum := "07d43dd5ae3f73af4d6becba2a99a8e3bde95a51c48c8a469d2a14eee1918529", func := "quadrille/quadrillekeep.PackedOrder", spec := "packedOrder", apart := false, narrowed := true }
def PackedOrderUptoSaid : Prop := packedOrderUptoRow.holds Try.pinned (OpenSpec.upto packedOrderSpec)

/-- 'quadrillekeep.PackedParts', WHERE WHAT IT READS IS OF BULK AT MOST 1048576: true; the input reads as it did. -/
def packedPartsUptoRow : OpenClaim := { program := "ytaklikgdlalhdaa", sum := "07d43dd5ae3f73af4d6becba2a99a8e3bde95a51c48c8a469d2a14eee1918529", func := "quadrille/quadrillekeep.PackedParts", spec := "packedParts", apart := false, narrowed := true }
def PackedPartsUptoSaid : Prop := packedPartsUptoRow.holds Try.pinned (OpenSpec.upto packedPartsSpec)

/-- 'quadrillekeep.PhaserStays', WHERE WHAT IT READS IS OF BULK AT MOST 1048576: true; the input reads as it did. -/
def phaserStaysUptoRow : OpenClaim := { program := "ytaklikgdlalhdaa", sum := "07d43dd5ae3f73af4d6becba2a99a8e3bde95a51c48c8a469d2a14eee1918529", func := "quadrille/quadrillekeep.PhaserStays", spec := "phaserStays", apart := false, narrowed := true }
def PhaserStaysUptoSaid : Prop := phaserStaysUptoRow.holds Try.pinned (OpenSpec.upto phaserStaysSpec)

/-- 'quadrillekeep.PhaserTurns', WHERE WHAT IT READS IS OF BULK AT MOST 1048576: true; the input reads as it did. -/
def phaserTurnsUptoRow : OpenClaim := { program := "ytaklikgdlalhdaa", sum := "07d43dd5ae3f73af4d6becba2a99a8e3bde95a51c48c8a469d2a14eee1918529", func := "quadrille/quadrillekeep.PhaserTurns", spec := "phaserTurns", apart := false, narrowed := true }
def PhaserTurnsUptoSaid : Prop := phaserTurnsUptoRow.holds Try.pinned (OpenSpec.upto phaserTurnsSpec)

end Rows
end Go.Proofs.Ytaklikgdlalhdaa
