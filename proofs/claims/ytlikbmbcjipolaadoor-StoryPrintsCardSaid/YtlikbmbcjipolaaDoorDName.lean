/-
  dance: the name of a kind.
-/
import Derived.Test.YtlikbmbcjipolaaDoorODance
namespace Go.Proofs.YtlikbmbcjipolaaDoor
set_option maxRecDepth 100000
open Go.RowKit Go.Sort
set_option linter.unusedVariables false
set_option linter.unusedSimpArgs false

theorem run_store_nf (P : Program) (w : World) (a : Addr) (m : Mode) :
    (store a .nilFunc m).run P w = match w.cell? a with
      | some _ => if w.frozen? a then .halt (.unsupported (.unsafePointer "a write to bytes that a string shares")) w else .ok () (w.setCell a .nilFunc)
      | none => match w.farStore P a .nilFunc (m == .atomic) with
        | .ok (w', _) => .ok () w'
        | .error h => .halt h w := run_store P w a _ m rfl
attribute [local go_sem] run_store_nf

theorem of_no_at (k : Int) (w : World) (hk : (k < 1 ∧ ¬ 1 ≤ k) ∨ (¬ k < 1 ∧ 7 ≤ k)) : Calls Tryd.prog 33 #[.int .i64 k] w fun e w' => e = .returned (.tuple #[.agg #[.string { data := #[] }, .nilFunc, .nilFunc], .iface 25 (.int .i64 1)]) ∧ Below w.heap.size w w' := by
  have f0 := heap_alloc_new w (.cells #[.string { data := #[] }, .nilFunc, .nilFunc] 79)
  have hb0 := (Below.refl w.heap.size w).alloc (Nat.le_refl _) (.cells #[.string { data := #[] }, .nilFunc, .nilFunc] 79)
  obtain ⟨w1, hw1⟩ : ∃ w1, w.alloc (.cells #[.string { data := #[] }, .nilFunc, .nilFunc] 79) = w1 := ⟨_, rfl⟩
  obtain ⟨b, hb⟩ : ∃ b, w.heap.size = b := ⟨_, rfl⟩
  rw [hw1, hb] at f0
  rw [hw1] at hb0
  have c0 : w1.cell? ⟨b, 0, none⟩ = some (.string { data := #[] }) := (cell_of_row _ _ 0 _ _ _ f0).trans rfl
  have c1 : w1.cell? ⟨b, 1, none⟩ = some .nilFunc := (cell_of_row _ _ 1 _ _ _ f0).trans rfl
  have c2 : w1.cell? ⟨b, 2, none⟩ = some .nilFunc := (cell_of_row _ _ 2 _ _ _ f0).trans rfl
  have g0 : w1.frozen? ⟨b, 0, none⟩ = false := frozen_of_row _ _ 0 _ _ f0
  have g1 : w1.frozen? ⟨b, 1, none⟩ = false := frozen_of_row _ _ 1 _ _ f0
  have g2 : w1.frozen? ⟨b, 2, none⟩ = false := frozen_of_row _ _ 2 _ _ f0
  have HR := Lib.hid f0
  have HB := Lib.hid (show Below b w w1 by rw [← hb]; exact hb0)
  have HLO := Lib.hid (Nat.le_refl b)
  clear f0 hb0
  have fin : ∀ tmps : Array Value, tmps.getD 2 undef = .pointer (some ⟨b, 0, none⟩) → tmps.getD 3 undef = .iface 25 (.int .i64 1) → (results Tryd.f33 tmps).run Tryd.prog (((w1.setCell ⟨b, 0, none⟩ (.string { data := #[] })).setCell ⟨b, 1, none⟩ .nilFunc).setCell ⟨b, 2, none⟩ .nilFunc) = .ok (.tuple #[.agg #[.string { data := #[] }, .nilFunc, .nilFunc], .iface 25 (.int .i64 1)]) (((w1.setCell ⟨b, 0, none⟩ (.string { data := #[] })).setCell ⟨b, 1, none⟩ .nilFunc).setCell ⟨b, 2, none⟩ .nilFunc) := by
    intro tmps h2 h3
    have r1 := heap_setCell_same _ _ 0 _ _ (.string { data := #[] }) HR.out
    have r2 := heap_setCell_same _ _ 1 _ _ .nilFunc r1
    have r3 := heap_setCell_same _ _ 2 _ _ .nilFunc r2
    rw [results_cell_tmp (fn := Tryd.f33) (p := 2) (u := 3) (ty := 79) (by kernel_rfl)]
    have hld := run_loadVar_row (P := Tryd.prog) _ b 79 79 _ _ _ r3 Tryd.underlying79 rfl (by kernel_rfl)
    rw [h2, h3]
    simp [asAddr, Result.andThen, hld]
  have FIN := Lib.hid fin
  clear fin
  rcases hk with ⟨h1, h2⟩ | ⟨h1, h2⟩
  · go_enter Tryd.func33, Tryd.ntmps33
    go_wp2
    --MA
    exact bodyPost_ret (FIN.out _ rfl rfl) rfl ⟨rfl, below_setI (below_setI (below_setI HB.out HLO.out) HLO.out) HLO.out⟩
  · go_enter Tryd.func33, Tryd.ntmps33
    go_wp2
    exact bodyPost_ret (FIN.out _ rfl rfl) rfl ⟨rfl, below_setI (below_setI (below_setI HB.out HLO.out) HLO.out) HLO.out⟩

/-- What a kind's name is told to be. -/
def ToldName (k : Int) (w : World) (e : Ending) (w' : World) : Prop := Below w.heap.size w w' ∧ ∃ s v, e = .returned (.tuple #[.string s, v]) ∧ ((v = .nilIface ∧ 1 ≤ k ∧ k ≤ 6) ∨ (v = .iface 25 (.int .i64 1) ∧ ¬ (1 ≤ k ∧ k ≤ 6)))
set_option maxHeartbeats 1000000 in
theorem name_any (k : Int) (w : World) : Calls Tryd.prog 25 #[.int .i64 k] w (ToldName k w) := by
  have key : ∃ s f g v, Calls Tryd.prog 33 #[.int .i64 k] w (fun e w' => e = .returned (.tuple #[.agg #[.string s, f, g], v]) ∧ Below w.heap.size w w') ∧ ((v = .nilIface ∧ 1 ≤ k ∧ k ≤ 6) ∨ (v = .iface 25 (.int .i64 1) ∧ ¬ (1 ≤ k ∧ k ≤ 6))) ∧ f.oneCell' = true ∧ g.oneCell' = true := by
    by_cases hk : 1 ≤ k ∧ k ≤ 6
    · obtain ⟨j, rfl⟩ : ∃ j : Nat, k = j := ⟨k.toNat, by omega⟩
      have h := of_any (w := w) (k := j) (by omega) (by omega)
      rcases (by omega : j = 1 ∨ j = 2 ∨ j = 3 ∨ j = 4 ∨ j = 5 ∨ j = 6) with rfl | rfl | rfl | rfl | rfl | rfl
      all_goals exact ⟨_, _, _, _, h, .inl ⟨rfl, hk⟩, rfl, rfl⟩
    · exact ⟨_, _, _, _, of_no_at k w (by omega), .inr ⟨rfl, hk⟩, rfl, rfl⟩
  obtain ⟨s, f, g, v, hc, hv, hf, hg⟩ := key
  have HC := Lib.hid hc
  have HV := Lib.hid hv
  have HFG := Lib.hid (And.intro hf hg)
  clear hc hv hf hg
  go_enter Tryd.func25, Tryd.ntmps25
  go_wp2_with fail
  refine HC.out.mono ?_
  rintro e w1 ⟨rfl, hb1⟩
  have HB := Lib.hid (hb1.alloc hb1.size (.cells #[.string s, f, g] 79))
  have hcs : (#[.string s, f, g] : Array Value).all (·.oneCell') = true := by
    have h1 := HFG.out.1
    have h2 := HFG.out.2
    exact Array.all_eq_true.2 (fun i hi => by
      match i, hi with
      | 0, _ => rfl
      | 1, _ => exact h1
      | 2, _ => exact h2)
  clear HC hb1
  go_wp2_with (refine wpList_store_new w1 rfl 79 _ _ rfl #[.string { data := #[] }, .nilFunc, .nilFunc] #[.string s, f, g] rfl rfl (by kernel_rfl) rfl hcs ?_)
  --MB
  go_ret2
  exact ⟨HB.out, s, v, rfl, HV.out⟩
end Go.Proofs.YtlikbmbcjipolaaDoor
