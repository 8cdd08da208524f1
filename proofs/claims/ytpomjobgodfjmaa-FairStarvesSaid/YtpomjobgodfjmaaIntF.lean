/-
  slices.IndexFunc and slices.ContainsFunc at []int, where the predicate holds of none.
-/
import Derived.Test.YtpomjobgodfjmaaParkApart
namespace Go.Proofs.Ytpomjobgodfjmaa
open Go.RowKit Go.Shelf

/-- What is asked of a predicate on integers that makes no more than blocks. -/
def PredI (g : Nat) (lb : Array Value) (p : Int → Bool) (w : World) (row : Option Nat) : Prop :=
  ∀ (W : World) (t : Int), w.grownBy W row → Calls Try.prog g (#[.int .i64 t] ++ lb) W fun e w' => e = .returned (.bool (p t)) ∧ W.grownBy w' none

set_option maxHeartbeats 400000 in
theorem indexFuncI_none {w : World} (A : Option Addr) (n c : Nat) (xs : List Int) (h : Ints .i64 w w.heap.size A n xs) (hn : n ≤ 9223372036854775807) (p : Int → Bool) (g : Nat) (lb : Array Value) (eg : ∀ args w, (callFunc g args).run Try.prog w = .ok (.enter g args) w) (hp : PredI g lb p w none) (hall : ∀ t ∈ xs, p t = false) :
    Calls Try.prog 13 #[.slice A n c, .func (.func g) #[] lb] w (Told1 (-1) w) := by
  have HP := Lib.hid hp
  have HA := Lib.hid hall
  have HH := Lib.hid h
  clear hp hall h
  go_enter Try.func13, Try.ntmps13
  go_wp2
  go_loopw [5, 8] (fun _ j wr => ∃ k : Nat, k ≤ n ∧ j = .int .i64 k ∧ w.grownBy wr none) (fun _ j _ => n - (intOf j).toNat)
  case atStart => exact ⟨0, Nat.zero_le _, rfl, World.grownBy.refl w _⟩
  case round =>
    obtain ⟨k, hk, rfl, hg⟩ := hrel
    by_cases hlt : k < n
    · have hkn : (k : Int) < (n : Int) := by omega
      obtain ⟨b, off, rfl, hb, hc⟩ := HH.out.row (by omega)
      have hcell : wr.cell? ⟨b, off + k, none⟩ = some (.int .i64 (xs.getD k 0)) := (World.cell?_of_block (a := ⟨b, off + k, none⟩) (hg.block b hb (by simp))).trans (hc k hlt)
      have hm : xs.getD k 0 ∈ xs := by
        have hl := HH.out.len
        rw [List.getD_eq_getElem?_getD, List.getElem?_eq_getElem (by omega)]
        exact List.getElem_mem _
      have hcall := HP.out wr (xs.getD k 0) hg
      rw [HA.out _ hm] at hcall
      generalize xs.getD k 0 = t at hcell hcall
      have HC := Lib.hid hcall
      have HG := Lib.hid hg
      clear hc hm hcall hg
      go_wp2_with fail
      refine HC.out.mono ?_
      rintro e w' ⟨rfl, hg'⟩
      have hg2 := HG.out.andThen hg' (by intro j hj; cases hj)
      clear hg' HC HG
      go_wp2
      go_roundw
      case rel => exact ⟨k + 1, by omega, by go_num, hg2⟩
      case measure => simp [intOf]; omega
    · have hkn : ¬ (k : Int) < (n : Int) := by omega
      have HG := Lib.hid hg
      clear hg
      go_wp2
      go_ret
      exact ⟨rfl, HG.out⟩

end Go.Proofs.Ytpomjobgodfjmaa
