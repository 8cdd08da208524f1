/-
  slices.ContainsFunc at acts and at events.
-/
import Derived.Test.YtaagdmompaphiaaGreatDoorQN2
namespace Go.Proofs.YtaagdmompaphiaaGreatDoor
set_option maxRecDepth 100000
open Go.RowKit Go.Shelf Go.Sort
set_option linter.unusedVariables false
set_option linter.unusedSimpArgs false

def evD (t : Ev4) : Value := .agg #[.int .i64 t.1, .int .i64 t.2.1, .int .i64 t.2.2.1, .int .i64 t.2.2.2]

/-- What is asked of a predicate that makes no more than blocks. -/
def PredE (g : Nat) (lb : Array Value) (p : Ev4 → Bool) (w : World) : Prop :=
  ∀ (W : World) (t : Ev4), w.grownBy W none → Calls Tryz.prog g (#[evD t] ++ lb) W fun e w' => e = .returned (.bool (p t)) ∧ W.grownBy w' none

set_option maxHeartbeats 800000 in
theorem indexFuncE_any {w : World} (A : Option Addr) (c : Nat) (l : List Ev4) (h : EvRow w A l.length l) (hn : l.length ≤ 20000) (p : Ev4 → Bool) (g : Nat) (lb : Array Value) (eg : ∀ args w, (callFunc g args).run Tryz.prog w = .ok (.enter g args) w) (hp : PredE g lb p w) :
    Calls Tryz.prog 41 #[.slice A l.length c, .func (.func g) #[] lb] w fun e w' => ∃ r : Int, e = .returned (.int .i64 r) ∧ -1 ≤ r ∧ r < l.length ∧ (r < 0 ↔ ∀ t ∈ l, p t = false) ∧ w.grownBy w' none := by
  have HP := Lib.hid hp
  have HH := Lib.hid h
  clear hp h
  go_enter Tryz.func41, Tryz.ntmps41
  go_wp2
  go_loopw [5, 8] (fun _ j wr => ∃ k : Nat, k ≤ l.length ∧ j = .int .i64 k ∧ w.grownBy wr none ∧ ∀ t ∈ l.take k, p t = false) (fun _ j _ => l.length - (intOf j).toNat)
  case atStart => exact ⟨0, Nat.zero_le _, rfl, World.grownBy.refl w _, fun t ht => by simp at ht⟩
  case round =>
    obtain ⟨k, hk, rfl, hg, hno⟩ := hrel
    have HNo := Lib.hid hno
    by_cases hlt : k < l.length
    · have hkn : (k : Int) < (l.length : Int) := by omega
      obtain ⟨b, off, rfl, x1, x2, x3, x4⟩ := (show EvRow wr A l.length l from fun i hi => by
        obtain ⟨b, off, e, x1, x2, x3, x4⟩ := HH.out i hi
        exact ⟨b, off, e, (World.cell?_of_block (a := ⟨b, _, none⟩) (hg.block b (World.block_lt_of_cell? w _ x1) (by simp))).trans x1, (World.cell?_of_block (a := ⟨b, _, none⟩) (hg.block b (World.block_lt_of_cell? w _ x1) (by simp))).trans x2, (World.cell?_of_block (a := ⟨b, _, none⟩) (hg.block b (World.block_lt_of_cell? w _ x1) (by simp))).trans x3, (World.cell?_of_block (a := ⟨b, _, none⟩) (hg.block b (World.block_lt_of_cell? w _ x1) (by simp))).trans x4⟩) k hlt
      have hcall := HP.out wr (l.getD k default) hg
      have HT := Lib.hid (take_more hlt)
      have HM := Lib.hid (show l.getD k default ∈ l by rw [List.getD_eq_getElem?_getD, List.getElem?_eq_getElem hlt]; exact List.getElem_mem _)
      generalize l.getD k default = t at *
      unfold evD at hcall
      have HC := Lib.hid hcall
      have HG := Lib.hid hg
      clear hcall hg hno
      go_wp2_with fail
      refine HC.out.mono ?_
      rintro e w' ⟨rfl, hg'⟩
      have hg2 := Lib.hid (HG.out.andThen hg' (by intro j hj; cases hj))
      clear hg' HC HG
      cases hpt : p t
      · go_wp2
        go_roundw
        case rel => exact ⟨k + 1, by omega, by go_num, hg2.out, fun u hu => by
          rw [HT.out] at hu
          rcases List.mem_append.1 hu with hu | hu
          · exact HNo.out u hu
          · rw [List.mem_singleton] at hu
            rw [hu]
            exact hpt⟩
        case measure => simp [intOf]; omega
      · go_wp2
        go_ret
        exact ⟨_, rfl, by omega, by omega, ⟨fun h => by omega, fun h => by rw [h t HM.out] at hpt; cases hpt⟩, hg2.out⟩
    · have hkn : ¬ (k : Int) < (l.length : Int) := by omega
      have HG := Lib.hid hg
      have hno' := hno
      rw [show k = l.length by omega, List.take_length] at hno'
      have HNo2 := Lib.hid hno'
      clear hg hno hno' HNo
      go_wp2
      go_ret
      exact ⟨_, rfl, by decide, by omega, ⟨fun _ => by intros; exact HNo2.out _ (by assumption), fun _ => by decide⟩, HG.out⟩

set_option maxHeartbeats 400000 in
theorem containsFuncE_any {w : World} (A : Option Addr) (c : Nat) (l : List Ev4) (h : EvRow w A l.length l) (hn : l.length ≤ 20000) (p : Ev4 → Bool) (g : Nat) (lb : Array Value) (eg : ∀ args w, (callFunc g args).run Tryz.prog w = .ok (.enter g args) w) (hp : PredE g lb p w) :
    Calls Tryz.prog 19 #[.slice A l.length c, .func (.func g) #[] lb] w fun e w' => e = .returned (.bool (l.any p)) ∧ w.grownBy w' none := by
  have HI := Lib.hid (indexFuncE_any A c l h hn p g lb eg hp)
  clear h hp
  go_enter Tryz.func19, Tryz.ntmps19
  go_wp2_with fail
  refine HI.out.mono ?_
  rintro e w' ⟨r, rfl, h1, h2, h3, hg⟩
  by_cases hr : r < 0
  · have ha : l.any p = false := by
      rw [List.any_eq_false]
      intro t ht
      rw [h3.1 hr t ht]
      decide
    have HA := Lib.hid ha
    have HG := Lib.hid hg
    have hr' : ¬ 0 ≤ r := by omega
    clear hg h3 HI ha
    go_wp2
    go_ret
    exact ⟨by rw [HA.out]; simp <;> omega, HG.out⟩
  · have ha : l.any p = true := by
      cases e : l.any p with
      | true => rfl
      | false =>
        rw [List.any_eq_false] at e
        exact absurd (h3.2 fun t ht => by simpa using e t ht) hr
    have HA := Lib.hid ha
    have HG := Lib.hid hg
    have hr' : 0 ≤ r := by omega
    clear hg h3 HI ha
    go_wp2
    go_ret
    exact ⟨by rw [HA.out]; simp <;> omega, HG.out⟩
end Go.Proofs.YtaagdmompaphiaaGreatDoor
