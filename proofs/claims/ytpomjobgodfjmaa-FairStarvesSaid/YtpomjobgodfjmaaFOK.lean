/-
  What fair.Is and fair.Rounds come to (told by FairOK); picked: the fact that the laws on fairness ask first.
-/
import Derived.Test.YtpomjobgodfjmaaBase
import Derived.Test.YtpomjobgodfjmaaKFair
import Derived.Test.YtpomjobgodfjmaaEqI
import Derived.Test.YtpomjobgodfjmaaPickI
namespace Go.Proofs.Ytpomjobgodfjmaa
open Go.RowKit
set_option linter.unusedVariables false
set_option linter.unusedSimpArgs false

/-- Whether picks are fair. -/
def isFair (l : List Int) (n window : Int) : Prop := 0 ≤ n ∧ n ≤ 16 ∧ 1 ≤ window ∧ FairW l n.toNat window.toNat

/-- What fairness comes to. -/
structure FairOK : Prop where
  turns : ∀ {w : World} {n times : Nat}, n ≤ 16 → times ≤ 1000 → Calls Try.prog 11 #[.int .i64 (n : Nat), .int .i64 (times : Nat)] w fun e w' => ∃ A cap, e = .returned (.tuple #[.slice A (n * times) cap, .nilIface]) ∧ w'.ownsRow w.heap.size 3 1 (.slice A (n * times) cap) (n * times) ((turnsL n times).map (Value.int .i64)) ∧ Below w.heap.size w w'
  fair : ∀ {w : World} {A : Option Addr} {cap m : Nat} {l : List Int} {n window : Int}, Ints .i64 w w.heap.size A m l → m ≤ 4294967296 → -9223372036854775808 ≤ n → n ≤ 9223372036854775807 → -9223372036854775808 ≤ window → window ≤ 9223372036854775807 → Calls Try.prog 10 #[.slice A m cap, .int .i64 n, .int .i64 window] w fun e w' => ∃ b, e = .returned (.bool b) ∧ (b = true ↔ isFair l n window) ∧ Below w.heap.size w w'

theorem wrap_is {z : Int} (h1 : -9223372036854775808 ≤ z) (h2 : z < 9223372036854775808) : wrap64 z = z := by
  unfold wrap64
  omega
theorem cell_inF {w : World} {b : Nat} {cur : Array Value} {t : TypeId} (h : w.heap[b]? = some (.cells cur t)) (j : Nat) : w.cell? ⟨b, j, none⟩ = cur[j]? := by
  simp [World.cell?, h]
theorem Ints.oldF {k : IntKind} {w w' : World} {n : Nat} {A : Option Addr} {l : List Int} (h : Ints k w w.heap.size A n l) (hb : Below w.heap.size w w') : Ints k w' w'.heap.size A n l :=
  h.keep hb.size (fun p hp => World.cell?_of_block (a := p) (hb.block _ hp))
theorem grown_drewF (w : World) (q : Nat) : w.grownBy (w.drewN q) none := ⟨rfl, rfl, rfl, Nat.le_refl _, fun _ _ _ => rfl⟩
theorem grown_belF {w w' : World} (hg : w.grownBy w' none) : Below w.heap.size w w' := Below.grown (Below.refl _ _) hg (Nat.le_refl _) (by intro k hk; cases hk)
theorem picked_1 : isFair (turnsL 2 2) 2 2 := ⟨by decide, by decide, by decide, (fair_turns (n := 2) (times := 2) (w := 2) (by decide) (by decide) (by decide)).2 (by decide)⟩
theorem picked_2 : ¬ isFair [0, 0, 1] 2 2 := by
  rintro ⟨_, _, _, h⟩
  have := h 0 (by decide) 1 (by decide)
  revert this
  decide

set_option maxHeartbeats 2000000 in
theorem picked_any {w : World} (H : FairOK) : Calls Try.prog 5 #[] w fun e w' => e = .returned (.bool true) ∧ Below w.heap.size w w' := by
  have HR := Lib.hid (H.turns (w := w) (n := 2) (times := 2) (by decide) (by decide))
  go_enter Try.func5, Try.ntmps5
  go_wp2_with fail
  refine HR.out.mono ?_
  rintro e w1 ⟨A, cap, rfl, ho, hb⟩
  have HO := Lib.hid ho
  have HB := Lib.hid hb
  clear ho hb HR
  go_wp2_with fail
  have hat := heap_alloc_new w1 (.cells #[.int .i64 0, .int .i64 1, .int .i64 0, .int .i64 1] 3)
  have hI : Ints .i64 (w1.alloc (.cells #[.int .i64 0, .int .i64 1, .int .i64 0, .int .i64 1] 3)) (w1.alloc (.cells #[.int .i64 0, .int .i64 1, .int .i64 0, .int .i64 1] 3)).heap.size (some ⟨w1.heap.size, 0, none⟩) 4 (turnsL 2 2) := by
    refine ⟨rfl, fun _ => ⟨_, _, rfl, by simp, fun i hi => ?_⟩⟩
    match i, hi with
    | 0, _ | 1, _ | 2, _ | 3, _ => exact (cell_inF hat _).trans rfl
  have hO : Ints .i64 (w1.alloc (.cells #[.int .i64 0, .int .i64 1, .int .i64 0, .int .i64 1] 3)) (w1.alloc (.cells #[.int .i64 0, .int .i64 1, .int .i64 0, .int .i64 1] 3)).heap.size A 4 (turnsL 2 2) := Ints.of_own (HO.out.alloc _)
  have HB2 := Lib.hid (HB.out.alloc HB.out.size (.cells #[.int .i64 0, .int .i64 1, .int .i64 0, .int .i64 1] 3))
  refine (equalI_same A _ 4 cap 4 (turnsL 2 2) _ (by decide) _ hO hI).mono ?_
  rintro e w2 ⟨rfl, q, rfl⟩
  have HB3 := Lib.hid (HB2.out.trans ((grown_belF (grown_drewF _ q)).mono HB2.out.size))
  have HI3 := Lib.hid (hO.oldF (grown_belF (grown_drewF _ q)))
  clear hat hI hO HB2 HB HO
  generalize ((w1.alloc _).drewN q) = w2 at *
  go_wp2_with fail
  refine (H.fair HI3.out (by decide) (by decide) (by decide) (by decide) (by decide)).mono ?_
  rintro e w3 ⟨b, rfl, hb, hb3⟩
  obtain rfl : b = true := hb.2 picked_1
  have HB4 := Lib.hid (HB3.out.trans (hb3.mono HB3.out.size))
  clear hb hb3 HB3 HI3
  go_wp2_with fail
  have hat2 := heap_alloc_new w3 (.cells #[.int .i64 0, .int .i64 0, .int .i64 1] 3)
  have hI2 : Ints .i64 (w3.alloc (.cells #[.int .i64 0, .int .i64 0, .int .i64 1] 3)) (w3.alloc (.cells #[.int .i64 0, .int .i64 0, .int .i64 1] 3)).heap.size (some ⟨w3.heap.size, 0, none⟩) 3 [0, 0, 1] := by
    refine ⟨rfl, fun _ => ⟨_, _, rfl, by simp, fun i hi => ?_⟩⟩
    match i, hi with
    | 0, _ | 1, _ | 2, _ => exact (cell_inF hat2 _).trans rfl
  have HB5 := Lib.hid (HB4.out.alloc HB4.out.size (.cells #[.int .i64 0, .int .i64 0, .int .i64 1] 3))
  refine (H.fair hI2 (by decide) (by decide) (by decide) (by decide) (by decide)).mono ?_
  rintro e w4 ⟨b, rfl, hb, hb4⟩
  have hbf : b = false := by
    cases b with
    | false => rfl
    | true => exact absurd (hb.1 rfl) picked_2
  subst hbf
  have HB6 := Lib.hid (HB5.out.trans (hb4.mono HB5.out.size))
  clear hb hb4 hat2 hI2 HB4 HB5
  go_wp2
  go_ret
  exact ⟨rfl, HB6.out⟩
end Go.Proofs.Ytpomjobgodfjmaa
