/-
  Parties that tell, and await, by tables that are checked.
-/
import Derived.Test.YtkhaeabbbhfloaaDoorQF3
namespace Go.Proofs.YtkhaeabbbhfloaaDoor
set_option maxRecDepth 100000
set_option linter.unusedVariables false

/-- Tables: who tells a cell (its piece), what a party knows behind so many pieces (bit by bit), which piece can be done ahead of which. -/
structure TabK where
  tel : List (Nat × Nat)
  know : List (List Nat)
  rank : List (List Nat)
def TabK.telOf (T : TabK) (n c : Nat) : Option (Nat × Nat) := match T.tel[c]? with
  | some p => if p.1 < n then some p else none
  | none => none
def TabK.knows (T : TabK) (t i w : Nat) : Bool := ((T.know.getD t []).getD i 0).testBit w
section
variable {ops : Nat → List BOp} {n nc : Nat} {T : TabK}

end

/-- Static (chapter 8). -/
def staticOps (n id : Nat) : List BOp := (if 2 * id + 1 < n then [.await (2 * id + 1)] else []) ++ (if 2 * id + 2 < n then [.await (2 * id + 2)] else []) ++ (if id = 0 then [.tell n n] else [.tell id 1, .await n])
/-- Levels: how often 1 is doubled. -/
def lvls (n : Nat) : Nat := ((List.range 5).find? fun l => decide (n ≤ 2 ^ l)).getD 0
/-- Spread (chapter 9). -/
def spreadOps (n id : Nat) : List BOp := (List.range (lvls n)).flatMap fun r => [.tell ((id + 2 ^ r) % n * lvls n + r) 1, .await (id * lvls n + r)]
/-- Tourney (chapter 10): how many levels a party wins. -/
def wins (n id : Nat) : Nat := ((List.range (lvls n)).find? fun r => !decide (id % 2 ^ (r + 1) = 0)).getD (lvls n)
def tourneyOps (n id : Nat) : List BOp :=
  ((List.range (wins n id)).flatMap fun r => if id + 2 ^ r < n then [.await (id * lvls n + r)] else []) ++
  (if wins n id < lvls n then [.tell ((id - 2 ^ wins n id) * lvls n + wins n id) 1, .await (n * lvls n + id)] else []) ++
  ((List.range (wins n id)).reverse.flatMap fun r => if id + 2 ^ r < n then [.tell (n * lvls n + id + 2 ^ r) 1] else [])
/-- Mcs (chapter 11). -/
def mcsOps (n id : Nat) : List BOp :=
  ((List.range 4).flatMap fun k => if 4 * id + 1 + k < n then [.await (4 * id + 1 + k)] else []) ++
  (if id = 0 then [] else [.tell id 1, .await (n + id)]) ++
  ((List.range 2).flatMap fun k => if 2 * id + 1 + k < n then [.tell (n + (2 * id + 1 + k)) 1] else [])
end Go.Proofs.YtkhaeabbbhfloaaDoor
