/-
  The laws' 'bed': a lot of sixteen behind nods.
-/
import Derived.Test.YtpomjobgodfjmaaBedA
import Derived.Deep.RegionWith
namespace Go.Proofs.Ytpomjobgodfjmaa
open Go.RowKit Go.Shelf

/-- What one nod does to those that sleep. -/
def stepNod (l : List (Int × Int)) (x : Int × Int × Bool) : List (Int × Int) :=
  if x.2.2 then l.eraseP (isThread (pickI x.1 16)) else if l.any (isThread (pickI x.1 16)) then l else l ++ [(pickI x.1 16, pickI x.2.1 4)]
/-- Those that sleep behind nods, in order. -/
def bedL (nods : List (Int × Int × Bool)) : List (Int × Int) := nods.foldl stepNod []

theorem bedL_take (nods : List (Int × Int × Bool)) (k : Nat) (hk : k < nods.length) : bedL (nods.take (k + 1)) = stepNod (bedL (nods.take k)) (nods.getD k default) := by
  unfold bedL
  rw [List.take_succ_eq_append_getElem hk, List.foldl_append, List.getD_eq_getElem?_getD, List.getElem?_eq_getElem hk]
  rfl

theorem stepNod_length (l : List (Int × Int)) (x : Int × Int × Bool) : (stepNod l x).length ≤ l.length + 1 := by
  unfold stepNod
  split
  · exact Nat.le_trans List.length_eraseP_le (Nat.le_succ _)
  · split
    · omega
    · simp

theorem bedL_length (nods : List (Int × Int × Bool)) (k : Nat) (hk : k ≤ nods.length) : (bedL (nods.take k)).length ≤ k := by
  induction k with
  | zero => simp [bedL]
  | succ k ih =>
    rw [bedL_take nods k (by omega)]
    exact Nat.le_trans (stepNod_length _ _) (by have := ih (by omega); omega)

/-- A slice of nods as it came in. -/
structure Nods (w : World) (B : Nat) (A : Option Addr) (n : Nat) (xs : List (Int × Int × Bool)) : Prop where
  len : xs.length = n
  row : 0 < n → ∃ b off, A = some ⟨b, off, none⟩ ∧ b < B ∧ ∀ i, i < n → w.cell? ⟨b, off + i * 3, none⟩ = some (.int .i64 (xs.getD i default).1) ∧ w.cell? ⟨b, off + i * 3 + 1, none⟩ = some (.int .i64 (xs.getD i default).2.1) ∧ w.cell? ⟨b, off + i * 3 + 2, none⟩ = some (.bool (xs.getD i default).2.2)

theorem Nods.below {w w' : World} {B n : Nat} {A : Option Addr} {xs : List (Int × Int × Bool)} (h : Nods w B A n xs) (hb : Below B w w') : Nods w' B A n xs :=
  ⟨h.len, fun h0 => by
    obtain ⟨b, off, e, hlt, hc⟩ := h.row h0
    refine ⟨b, off, e, hlt, fun i hi => ?_⟩
    obtain ⟨h1, h2, h3⟩ := hc i hi
    exact ⟨(hb.cell (p := ⟨b, _, none⟩) hlt).trans h1, (hb.cell (p := ⟨b, _, none⟩) hlt).trans h2, (hb.cell (p := ⟨b, _, none⟩) hlt).trans h3⟩⟩

end Go.Proofs.Ytpomjobgodfjmaa
