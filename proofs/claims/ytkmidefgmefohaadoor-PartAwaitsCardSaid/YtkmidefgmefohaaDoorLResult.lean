/-
  What a program of registers says at last.
-/
import Derived.Test.YtkmidefgmefohaaDoorMGoneW
import Derived.Test.YtkmidefgmefohaaDoorRegF
namespace Go.Proofs.YtkmidefgmefohaaDoor
set_option maxRecDepth 100000
open Go.RowKit Go.Shelf Go.Sort
set_option linter.unusedVariables false
set_option linter.unusedSimpArgs false

theorem own_grown0 {w w' : World} {B e sz n : Nat} {v : Value} {xs : List Value} (h : w.ownsRow B e sz v n xs) (hg : w.grownBy w' none) : w'.ownsRow B e sz v n xs := h.kept hg (Classical.em _)
theorem MBig.iter {cells0 : List Int} : ∀ (n : Nat) {m : Mach}, MBig cells0 m → MBig cells0 (iterM 20000 n m)
  | 0, m, h => h
  | n + 1, m, h => MBig.iter n (h.step 0)
theorem iter_succ (k : Nat) (m : Mach) : iterM 20000 (k + 1) m = (stepM 20000 (iterM 20000 k m) 0).2 := by
  rw [iterM_add]
  rfl

/-- A machine of one program, made of two blocks. -/
theorem one_new {w W : World} (hw : CW w) {b1 b2 b3 n cap : Nat} {p : List Ins5} (hl : b1 < W.heap.size ∧ b2 < W.heap.size ∧ b3 < W.heap.size) (hI : Inss W W.heap.size (some ⟨b1, 0, none⟩) n p) (hn : p.length = n)
    (h2 : W.heap[b2]? = some (.cells #[.slice (some ⟨b1, 0, none⟩) n cap] 35)) (h3 : W.heap[b3]? = some (.cells #[.int .u64 0] 50)) (hb : Below w.heap.size w W) (hR : RightL p 1) :
    Calls Tryd.prog 14 #[.slice (some ⟨b2, 0, none⟩) 1 1, .slice (some ⟨b3, 0, none⟩) 1 1] W fun e w' => ∃ c, e = .returned (.tuple #[.pointer (some ⟨c, 0, none⟩), .nilIface]) ∧ At w c (newM [p] [0]) w' := by
  subst hn
  have hP : Progs W W.heap.size (some ⟨b2, 0, none⟩) 1 [p] := by
    refine ⟨rfl, fun _ => ⟨_, _, rfl, hl.2.1, fun i hi => ?_⟩⟩
    match i, hi with
    | 0, _ => exact ⟨some ⟨b1, 0, none⟩, cap, (cell_in h2 0).trans rfl, hI⟩
  have hI0 : Ints .u64 W W.heap.size (some ⟨b3, 0, none⟩) 1 [0] := by
    refine ⟨rfl, fun _ => ⟨_, _, rfl, hl.2.2, fun i hi => ?_⟩⟩
    match i, hi with
    | 0, _ => exact (cell_in h3 0).trans rfl
  refine (knew_ok (hw.old hb) _ _ 1 1 1 1 [p] [0] hP hI0 (by decide) (by decide) (fun i hi => ?_)).mono ?_
  · match i, hi with
    | 0, _ => exact hR
  rintro e w' ⟨S, X, he, hC, hB⟩
  exact ⟨X.c, he, S, X, rfl, hC.lower hb.size, hb.trans (hB.mono hb.size)⟩

end Go.Proofs.YtkmidefgmefohaaDoor
