/-
  The walk of ParkApart.
-/
import Derived.Test.YtpomjobgodfjmaaSleepL
namespace Go.Proofs.Ytpomjobgodfjmaa
open Go.RowKit Go.Shelf

theorem own_keeps {S : Nat → Prop} {w w' : World} {B e sz n : Nat} {v : Value} {xs : List Value} (h : w.ownsRow B e sz v n xs) (hk : Keeps S w w') (hS : ∀ g, v.ownBlock = some g → ¬ S g) : w'.ownsRow B e sz v n xs := by
  refine ⟨h.1, ?_⟩
  rcases h.2 with hn | ⟨g, cap, cur, rfl, hb, hg, rest⟩
  · exact .inl hn
  · exact .inr ⟨g, cap, cur, rfl, hb, (hk.block g (lt_of_block hg) (hS g rfl)).trans hg, rest⟩

theorem threads_len {l : List (Int × Int)} (h : l.length ≤ 60) (c : Int) : (threadsAt l c).length ≤ 60 := Nat.le_trans (threadsAt_length l c) h

end Go.Proofs.Ytpomjobgodfjmaa
