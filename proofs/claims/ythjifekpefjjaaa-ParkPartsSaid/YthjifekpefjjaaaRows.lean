/-
  No cell of these rows narrows 'for every input' (looked for: loops, veiled, ifaces, maps, wideKeys, modest, calm, conditions, laid).
  DERIVED. THE GIVEN ROWS OF THIS SEAT. 8 by the template 'for every input the law returns true; each argument reads behind the call as it read before'; 0 by the template 'total and deterministic' (their statements: YthjifekpefjjaaaTotals.lean).
  GIVEN WITH THE SEED: the statements are not yours to turn. If you find one false, say at which input.
  Laid BY PROGRAM, IN A SANDBOX (cutbox-rows.mjs): the forced cells as the released guide's own fill.sh prints them over the translation 0f4f9379c940ec1c… (all of the seat's roots in one cut). By AI agents, Wed Nov 11 2026. No macro, syntax, notation, axiom, sorry.
-/
import Derived.Test.YthjifekpefjjaaaChecked
import GoSem.Claim
import GoSem.ClaimJoined
import GoSem.ClaimMapViews
import Derived.JoinedTies
import Derived.KernelRfl
namespace Go.Proofs.Ythjifekpefjjaaa
/- THE CELL 'sum', in the pinned program and in every row, IS THE sha256 OF THE DUMP (.gsa) THAT YthjifekpefjjaaaProg.lean LOADS. Nothing in Lean hashes anything: it is a label: what it is worth is what the hold of that sum in a sandbox is worth. -/
noncomputable def Try.pinned : Pinned := { name := "ythjifekpefjjaaa", sum := "0f4f9379c940ec1cd38fb00ded6cb27459760b0d3c6543ff3dc2844af99e9dd9", checked := Try.checked }
namespace Rows
def none {H : Type} : Left H := { results := [], args := [] }

/-- 'quadrillekeep.MemLast': WHATEVER THE INPUT: true; the input reads as it did. -/
def memLastSpec : ChangeSpec := { name := "memLast", fn := fun _ => fun
  | [d1, d2, d3, d4, d5] => { results := [.lit (.bool true)], args := [d1, d2, d3, d4, d5] }
  | _ => none }
def memLastRow : OpenClaim := { program := "ythjifekpefjjaaa", sum := "0f4f9379c940ec1cd38fb00ded6cb27459760b0d3c6543ff3dc2844af99e9dd9", func := "quadrille/quadrillekeep.MemLast", spec := "memLast", apart := false }
def MemLastSaid : Prop := memLastRow.holds Try.pinned (OpenSpec.ofChange memLastSpec)

/-- ITS FALSE NEIGHBOUR: 'it returns false'. Refute it at one input. -/
def memLastWrong : ChangeSpec := { name := "memLast", fn := fun _ => fun
  | [d1, d2, d3, d4, d5] => { results := [.lit (.bool false)], args := [d1, d2, d3, d4, d5] }
  | _ => none }
def MemLastWrongFalsely : Prop := memLastRow.holds Try.pinned (OpenSpec.ofChange memLastWrong)

/-- 'quadrillekeep.MemSwaps': WHATEVER THE INPUT: true; the input reads as it did. -/
def memSwapsSpec : ChangeSpec := { name := "memSwaps", fn := fun _ => fun
  | [d1, d2, d3, d4] => { results := [.lit (.bool true)], args := [d1, d2, d3, d4] }
  | _ => none }
def memSwapsRow : OpenClaim := { program := "ythjifekpefjjaaa", sum := "0f4f9379c940ec1cd38fb00ded6cb27459760b0d3c6543ff3dc2844af99e9dd9", func := "quadrille/quadrillekeep.MemSwaps", spec := "memSwaps", apart := false }
def MemSwapsSaid : Prop := memSwapsRow.holds Try.pinned (OpenSpec.ofChange memSwapsSpec)

/-- ITS FALSE NEIGHBOUR: 'it returns false'. Refute it at one input. -/
def memSwapsWrong : ChangeSpec := { name := "memSwaps", fn := fun _ => fun
  | [d1, d2, d3, d4] => { results := [.lit (.bool false)], args := [d1, d2, d3, d4] }
  | _ => none }
def MemSwapsWrongFalsely : Prop := memSwapsRow.holds Try.pinned (OpenSpec.ofChange memSwapsWrong)

/-- 'quadrillekeep.MemSums': WHATEVER THE INPUT: true; the input reads as it did. -/
def memSumsSpec : ChangeSpec := { name := "memSums", fn := fun _ => fun
  | [d1, d2, d3] => { results := [.lit (.bool true)], args := [d1, d2, d3] }
  | _ => none }
def memSumsRow : OpenClaim := { program := "ythjifekpefjjaaa", sum := "0f4f9379c940ec1cd38fb00ded6cb27459760b0d3c6543ff3dc2844af99e9dd9", func := "quadrille/quadrillekeep.MemSums", spec := "memSums", apart := false }
def MemSumsSaid : Prop := memSumsRow.holds Try.pinned (OpenSpec.ofChange memSumsSpec)

/-- ITS FALSE NEIGHBOUR: 'it returns false'. Refute it at one input. -/
def memSumsWrong : ChangeSpec := { name := "memSums", fn := fun _ => fun
  | [d1, d2, d3] => { results := [.lit (.bool false)], args := [d1, d2, d3] }
  | _ => none }
def MemSumsWrongFalsely : Prop := memSumsRow.holds Try.pinned (OpenSpec.ofChange memSumsWrong)

/-- 'quadrillekeep.MemApart': WHATEVER THE INPUT: true; the input reads as it did. -/
def memApartSpec : ChangeSpec := { name := "memApart", fn := fun _ => fun
  | [d1, d2, d3] => { results := [.lit (.bool true)], args := [d1, d2, d3] }
  | _ => none }
def memApartRow : OpenClaim := { program := "ythjifekpefjjaaa", sum := "0f4f9379c940ec1cd38fb00ded6cb27459760b0d3c6543ff3dc2844af99e9dd9", func := "quadrille/quadrillekeep.MemApart", spec := "memApart", apart := false }
def MemApartSaid : Prop := memApartRow.holds Try.pinned (OpenSpec.ofChange memApartSpec)

/-- ITS FALSE NEIGHBOUR: 'it returns false'. Refute it at one input. -/
def memApartWrong : ChangeSpec := { name := "memApart", fn := fun _ => fun
  | [d1, d2, d3] => { results := [.lit (.bool false)], args := [d1, d2, d3] }
  | _ => none }
def MemApartWrongFalsely : Prop := memApartRow.holds Try.pinned (OpenSpec.ofChange memApartWrong)

/-- 'quadrillekeep.ParkFirst': WHATEVER THE INPUT: true; the input reads as it did. -/
def parkFirstSpec : ChangeSpec := { name := "parkFirst", fn := fun _ => fun
  | [d1, d2, d3] => { results := [.lit (.bool true)], args := [d1, d2, d3] }
  | _ => none }
def parkFirstRow : OpenClaim := { program := "ythjifekpefjjaaa", sum := "0f4f9379c940ec1cd38fb00ded6cb27459760b0d3c6543ff3dc2844af99e9dd9", func := "quadrille/quadrillekeep.ParkFirst", spec := "parkFirst", unfollowed := true, recurses := true, apart := false }
def ParkFirstSaid : Prop := parkFirstRow.holds Try.pinned (OpenSpec.ofChange parkFirstSpec)

/-- ITS FALSE NEIGHBOUR: 'it returns false'. Refute it at one input. -/
def parkFirstWrong : ChangeSpec := { name := "parkFirst", fn := fun _ => fun
  | [d1, d2, d3] => { results := [.lit (.bool false)], args := [d1, d2, d3] }
  | _ => none }
def ParkFirstWrongFalsely : Prop := parkFirstRow.holds Try.pinned (OpenSpec.ofChange parkFirstWrong)

/-- 'quadrillekeep.ParkParts': WHATEVER THE INPUT: true; the input reads as it did. -/
def parkPartsSpec : ChangeSpec := { name := "parkParts", fn := fun _ => fun
  | [d1, d2, d3, d4] => { results := [.lit (.bool true)], args := [d1, d2, d3, d4] }
  | _ => none }
def parkPartsRow : OpenClaim := { program := "ythjifekpefjjaaa", sum := "0f4f9379c940ec1cd38fb00ded6cb27459760b0d3c6543ff3dc2844af99e9dd9", func := "quadrille/quadrillekeep.ParkParts", spec := "parkParts", unfollowed := true, recurses := true, apart := false }
def ParkPartsSaid : Prop := parkPartsRow.holds Try.pinned (OpenSpec.ofChange parkPartsSpec)

/-- ITS FALSE NEIGHBOUR: 'it returns false'. Refute it at one input. -/
def parkPartsWrong : ChangeSpec := { name := "parkParts", fn := fun _ => fun
  | [d1, d2, d3, d4] => { results := [.lit (.bool false)], args := [d1, d2, d3, d4] }
  | _ => none }
def ParkPartsWrongFalsely : Prop := parkPartsRow.holds Try.pinned (OpenSpec.ofChange parkPartsWrong)

/-- 'quadrillekeep.ParkApart': WHATEVER THE INPUT: true; the input reads as it did. -/
def parkApartSpec : ChangeSpec := { name := "parkApart", fn := fun _ => fun
  | [d1, d2, d3, d4] => { results := [.lit (.bool true)], args := [d1, d2, d3, d4] }
  | _ => none }
def parkApartRow : OpenClaim := { program := "ythjifekpefjjaaa", sum := "0f4f9379c940ec1cd38fb00ded6cb27459760b0d3c6543ff3dc2844af99e9dd9", func := "quadrille/quadrillekeep.ParkApart", spec := "parkApart", unfollowed := true, recurses := true, apart := false }
def ParkApartSaid : Prop := parkApartRow.holds Try.pinned (OpenSpec.ofChange parkApartSpec)

/-- ITS FALSE NEIGHBOUR: 'it returns false'. Refute it at one input. -/
def parkApartWrong : ChangeSpec := { name := "parkApart", fn := fun _ => fun
  | [d1, d2, d3, d4] => { results := [.lit (.bool false)], args := [d1, d2, d3, d4] }
  | _ => none }
def ParkApartWrongFalsely : Prop := parkApartRow.holds Try.pinned (OpenSpec.ofChange parkApartWrong)

/-- 'quadrillekeep.ParkPokes': WHATEVER THE INPUT: true; the input reads as it did. -/
def parkPokesSpec : ChangeSpec := { name := "parkPokes", fn := fun _ => fun
  | [d1, d2] => { results := [.lit (.bool true)], args := [d1, d2] }
  | _ => none }
def parkPokesRow : OpenClaim := { program := "ythjifekpefjjaaa", sum := "0f4f9379c940ec1cd38fb00ded6cb27459760b0d3c6543ff3dc2844af99e9dd9", func := "quadrille/quadrillekeep.ParkPokes", spec := "parkPokes", unfollowed := true, recurses := true, apart := false }
def ParkPokesSaid : Prop := parkPokesRow.holds Try.pinned (OpenSpec.ofChange parkPokesSpec)

/-- ITS FALSE NEIGHBOUR: 'it returns false'. Refute it at one input. -/
def parkPokesWrong : ChangeSpec := { name := "parkPokes", fn := fun _ => fun
  | [d1, d2] => { results := [.lit (.bool false)], args := [d1, d2] }
  | _ => none }
def ParkPokesWrongFalsely : Prop := parkPokesRow.holds Try.pinned (OpenSpec.ofChange parkPokesWrong)

/- THE SECOND FORM. 'bulk': how many values and letters a reading holds, each counted each time it is reached (what is shared counts as often as it is met; a slice's spare places count too). A statement '..UptoSaid' is the law's where the arguments, and the package variables that the reading takes, are together of bulk at most 1048576: NARROWER than '..Said'. Prove '..Said' where nothing that the law and all that it calls make is longer than what came in: it says more and counts as full. Else prove '..UptoSaid'. A law counts once. -/
mutual
def uptoBulk {H : Type} : DataW H → Nat
  | .lit (.string bytes) => bytes.length + 1
  | .lit _ => 1
  | .nil => 1
  | .ptr d => uptoBulk d + 1
  | .slice elems spare => uptoBulkAll elems + uptoBulkAll spare + 1
  | .agg parts => uptoBulkAll parts + 1
  | .iface _ d => uptoBulk d + 1
  | .map entries => uptoBulkEntries entries + 1
  | .held _ => 1
def uptoBulkAll {H : Type} : List (DataW H) → Nat
  | [] => 0
  | d :: r => uptoBulk d + uptoBulkAll r
def uptoBulkEntries {H : Type} : List (Lit × DataW H) → Nat
  | [] => 0
  | x :: r => uptoBulkEntry x + uptoBulkEntries r
def uptoBulkEntry {H : Type} : Lit × DataW H → Nat
  | (.string bytes, d) => bytes.length + uptoBulk d + 1
  | (_, d) => uptoBulk d + 1
 end
def uptoSmall : (H : Type) → List (DataW H) → Bool := fun _ ds => decide (uptoBulkAll ds ≤ 1048576)
def OpenSpec.upto (s : _root_.Go.ChangeSpec) : _root_.Go.OpenSpec := { _root_.Go.OpenSpec.ofChange s with cond := some uptoSmall }

/-- 'quadrillekeep.MemLast', WHERE WHAT IT READS IS OF BULK AT MOST 1048576: true; the input reads as it did. -/
def memLastUptoRow : OpenClaim := { program := "ythjifekpefjjaaa", sum := "0f4f9379c940ec1cd38fb00ded6cb27459760b0d3c6543ff3dc2844af99e9dd9", func := "quadrille/quadrillekeep.MemLast", spec := "memLast", apart := false, narrowed := true }
def MemLastUptoSaid : Prop := memLastUptoRow.holds Try.pinned (OpenSpec.upto memLastSpec)

/-- 'quadrillekeep.MemSwaps', WHERE WHAT IT READS IS OF BULK AT MOST 1048576: true; the input reads as it did. -/
def memSwapsUptoRow : OpenClaim := { program := "ythjifekpefjjaaa", sum := "0f4f9379c940ec1cd38fb00ded6cb27459760b0d3c6543ff3dc2844af99e9dd9", func := "quadrille/quadrillekeep.MemSwaps", spec := "memSwaps", apart := false, narrowed := true }
def MemSwapsUptoSaid : Prop := memSwapsUptoRow.holds Try.pinned (OpenSpec.upto memSwapsSpec)

/-- 'quadrillekeep.MemSums', WHERE WHAT IT READS IS OF BULK AT MOST 1048576: true; the input reads as it did. -/
def memSumsUptoRow : OpenClaim := { program := "ythjifekpefjjaaa", sum := "0f4f9379c940ec1cd38fb00ded6cb27459760b0d3c6543ff3dc2844af99e9dd9", func := "quadrille/quadrillekeep.MemSums", spec := "memSums", apart := false, narrowed := true }
def MemSumsUptoSaid : Prop := memSumsUptoRow.holds Try.pinned (OpenSpec.upto memSumsSpec)

/-- 'quadrillekeep.MemApart', WHERE WHAT IT READS IS OF BULK AT MOST 1048576: true; the input reads as it did. -/
def memApartUptoRow : OpenClaim := { program := "ythjifekpefjjaaa", sum := "0f4f9379c940ec1cd38fb00ded6cb27459760b0d3c6543ff3dc2844af99e9dd9", func := "quadrille/quadrillekeep.MemApart", spec := "memApart", apart := false, narrowed := true }
def MemApartUptoSaid : Prop := memApartUptoRow.holds Try.pinned (OpenSpec.upto memApartSpec)

/-- 'quadrillekeep.ParkFirst', WHERE WHAT IT READS IS OF BULK AT MOST 1048576: true; the input reads as it did. -/
def parkFirstUptoRow : OpenClaim := { program := "ythjifekpefjjaaa", sum := "0f4f9379c940ec1cd38fb00ded6cb27459760b0d3c6543ff3dc2844af99e9dd9", func := "quadrille/quadrillekeep.ParkFirst", spec := "parkFirst", unfollowed := true, recurses := true, apart := false, narrowed := true }
def ParkFirstUptoSaid : Prop := parkFirstUptoRow.holds Try.pinned (OpenSpec.upto parkFirstSpec)

/-- 'quadrillekeep.ParkParts', WHERE WHAT IT READS IS OF BULK AT MOST 1048576: true; the input reads as it did. -/
def parkPartsUptoRow : OpenClaim := { program := "ythjifekpefjjaaa", sum := "0f4f9379c940ec1cd38fb00ded6cb27459760b0d3c6543ff3dc2844af99e9dd9", func := "quadrille/quadrillekeep.ParkParts", spec := "parkParts", unfollowed := true, recurses := true, apart := false, narrowed := true }
def ParkPartsUptoSaid : Prop := parkPartsUptoRow.holds Try.pinned (OpenSpec.upto parkPartsSpec)

/-- 'quadrillekeep.ParkApart', WHERE WHAT IT READS IS OF BULK AT MOST 1048576: true; the input reads as it did. -/
def parkApartUptoRow : OpenClaim := { program := "ythjifekpefjjaaa", sum := "0f4f9379c940ec1cd38fb00ded6cb27459760b0d3c6543ff3dc2844af99e9dd9", func := "quadrille/quadrillekeep.ParkApart", spec := "parkApart", unfollowed := true, recurses := true, apart := false, narrowed := true }
def ParkApartUptoSaid : Prop := parkApartUptoRow.holds Try.pinned (OpenSpec.upto parkApartSpec)

/-- 'quadrillekeep.ParkPokes', WHERE WHAT IT READS IS OF BULK AT MOST 1048576: true; the input reads as it did. -/
def parkPokesUptoRow : OpenClaim := { program := "ythjifekpefjjaaa", sum := "0f4f9379c940ec1cd38fb00ded6cb27459760b0d3c6543ff3dc2844af99e9dd9", func := "quadrille/quadrillekeep.ParkPokes", spec := "parkPokes", unfollowed := true, recurses := true, apart := false, narrowed := true }
def ParkPokesUptoSaid : Prop := parkPokesUptoRow.holds Try.pinned (OpenSpec.upto parkPokesSpec)

end Rows
end Go.Proofs.Ythjifekpefjjaaa
