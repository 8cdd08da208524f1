/-
  The reference's StoryRight.
-/
import Derived.Test.YtlikbmbcjipolaaDoorStA
import Derived.Test.YtlikbmbcjipolaaDoorRScA
import Derived.Test.YtlikbmbcjipolaaDoorHeldH
namespace Go.Proofs.YtlikbmbcjipolaaDoor
set_option maxRecDepth 100000
open Go.RowKit Go.Sort
set_option linter.unusedVariables false
set_option linter.unusedSimpArgs false

theorem lastW_pre (l : List Ev4) (i : Nat) (h0 : 0 < i) (h : i ≤ l.length) : lastW 0 (l.take i) = (l.getD (i - 1) default).1 := by
  obtain ⟨j, rfl⟩ : ∃ j, i = j + 1 := ⟨i - 1, by omega⟩
  rw [List.take_succ_eq_append_getElem (by omega), lastW_snoc, Nat.add_sub_cancel, ← getE (by omega : j < l.length)]
theorem sc_wrapJ {x : Int} (h0 : 0 ≤ x) (h1 : x < 1000000) : IntKind.i64.wrap x = x := by
  simp [IntKind.wrap, IntKind.signed, IntKind.bits]
  omega

set_option maxHeartbeats 4000000 in
theorem rStRight_any (l : List Ev4) (A : Option Addr) (n c : Nat) (w : World) (hE : EvRow w A n l) (hlen : l.length = n) (hn : n ≤ 100000) :
    Calls Tryd.prog 20 #[.slice A n c] w (ToldRightE l w) := by
  have HE := Lib.hid hE
  clear hE
  go_enter Tryd.func20, Tryd.ntmps20
  go_wp2
  go_loopw [7] (fun j wr => ∃ i : Nat, i ≤ n ∧ j = .int .i64 i ∧ rightS 0 (l.take i) ∧ Below w.heap.size w wr) (fun j _ => n - (intOf j).toNat)
  case atStart => exact ⟨0, Nat.zero_le _, rfl, trivial, Below.refl _ _⟩
  case round =>
    obtain ⟨i, hin, rfl, hr, hb⟩ := hrel
    by_cases hlt : i < n
    · have hii : (i : Int) < (n : Int) := by omega
      obtain ⟨ab, off, rfl, c1, c2, c3, c4⟩ := (HE.out.of hb) i hlt
      have hbw : ab < wr.heap.size := World.block_lt_of_cell? wr ⟨ab, off + i * 4, none⟩ c1
      have hbne : ab ≠ wr.heap.size := by omega
      have hst := rightS_step (ah := 0) (l := l) (i := i) (by omega)
      have hlo := rightS_last hr
      have hpw : 0 < i → lastW 0 (l.take i) = (l.getD (i - 1) default).1 ∧ wr.cell? ⟨ab, off + (i - 1) * 4, none⟩ = some (.int .i64 (l.getD (i - 1) default).1) := fun h0 => by
        refine ⟨lastW_pre l i h0 (by omega), ?_⟩
        obtain ⟨ab', off', e, d1, _⟩ := (HE.out.of hb) (i - 1) (by omega)
        injection e with e
        injection e with e1 e2 _
        subst e1 e2
        exact d1
      have hl0 : i = 0 → lastW 0 (l.take i) = 0 := fun h0 => by rw [h0]; rfl
      obtain ⟨x, hx⟩ : ∃ x, l.getD i default = x := ⟨_, rfl⟩
      rw [hx] at c1 c2 c3 c4 hst
      obtain ⟨x1, x2, x3, x4⟩ := x
      dsimp only at c1 c2 c3 c4
      have HN := Lib.hid (fun h => rightS_no (ah := 0) (l := l) (i := i + 1) h)
      have hxa := heap_alloc_new wr (.cells #[.int .i64 x1, .int .i64 x2, .int .i64 x3, .int .i64 x4] 62)
      have hba := (Below.refl wr.heap.size wr).alloc (Nat.le_refl _) (.cells #[.int .i64 x1, .int .i64 x2, .int .i64 x3, .int .i64 x4] 62)
      obtain ⟨eb, heb⟩ : ∃ eb, wr.heap.size = eb := ⟨_, rfl⟩
      obtain ⟨wa, hwa⟩ : ∃ wa, wr.alloc (.cells #[.int .i64 x1, .int .i64 x2, .int .i64 x3, .int .i64 x4] 62) = wa := ⟨_, rfl⟩
      rw [hwa] at hxa hba
      rw [heb] at hxa
      have HC3 := Lib.hid (show wa.drew.cell? ⟨eb, 0, none⟩ = some (.int .i64 x1) ∧ wa.drew.cell? ⟨eb, 1, none⟩ = some (.int .i64 x2) ∧ wa.drew.cell? ⟨eb, 2, none⟩ = some (.int .i64 x3) from ⟨by rw [cell_of_row wa.drew eb 0 _ _ _ hxa]; rfl, by rw [cell_of_row wa.drew eb 1 _ _ _ hxa]; rfl, by rw [cell_of_row wa.drew eb 2 _ _ _ hxa]; rfl⟩)
      have hbd : Below w.heap.size w wa.drew := below_drewN (hb.trans (hba.mono hb.size)) 1
      have HBD := Lib.hid hbd
      have HST := Lib.hid hst
      have HR := Lib.hid hr
      have HLO := Lib.hid hlo
      have HPP := Lib.hid (fun h0 => And.intro (hpw h0).1 ((hba.cell (p := ⟨ab, off + (i - 1) * 4, none⟩) hbw).trans (hpw h0).2))
      have HL0 := Lib.hid hl0
      have HW1 := Lib.hid (fun w => scWithin_any x2 1 3 w)
      have HW2 := Lib.hid (fun w => scWithin_any x3 0 15 w)
      clear hr hb hst hlo hpw hl0 hx hxa hba hbd
      generalize lastW 0 (l.take i) = ah at *
      go_wp2
      by_cases h1 : x1 < 1
      · have HS0 := Lib.hid HC3.out
        have HNN := Lib.hid (HN.out fun h => by have := (HST.out.1 h).2.1; have := HLO.out; (try dsimp only at this); omega)
        clear HN
        --Lf
        refine region_heldH (S := (fun u => u.cell? ⟨eb, 0, none⟩ = some (.int .i64 x1) ∧ u.cell? ⟨eb, 1, none⟩ = some (.int .i64 x2) ∧ u.cell? ⟨eb, 2, none⟩ = some (.int .i64 x3))) 30 rfl (by kernel_rfl) HS0.out (fun hHeld => ?_)
        refine heldH_take (n := 29) (i := 0) (oi := _) (v := ?vf0) (dst := some 12) rfl rfl rfl (by kernel_rfl) (by kernel_rfl) (by kernel_rfl) (fun _ _ _ h => h) (Or.inl ⟨by rfl, ?hyf0⟩) (by assumption) ?restf0
        case hyf0 => intro u hSu; (try dsimp only at hSu); go_simp; try (with_reducible rfl)
        simp only [Act.put, List.setIfInBounds_toArray, List.set_cons_zero, List.set_cons_succ]
        refine heldH_take (n := 28) (i := 1) (oi := _) (v := ?vf1) (dst := some 13) rfl rfl rfl (by kernel_rfl) (by kernel_rfl) (by kernel_rfl) (fun _ _ _ h => h) (Or.inl ⟨by rfl, ?hyf1⟩) (by assumption) ?restf1
        case hyf1 => intro u hSu; (try dsimp only at hSu); go_simp; try (with_reducible rfl)
        simp only [Act.put, List.setIfInBounds_toArray, List.set_cons_zero, List.set_cons_succ]
        refine heldH_take (n := 27) (i := 2) (oi := _) (v := ?vf2) (dst := some 14) rfl rfl rfl (by kernel_rfl) (by kernel_rfl) (by kernel_rfl) (fun _ _ _ h => h) (Or.inl ⟨by rfl, ?hyf2⟩) (by assumption) ?restf2
        case hyf2 => intro u hSu; (try dsimp only at hSu); go_simp; try (with_reducible rfl)
        simp only [Act.put, List.setIfInBounds_toArray, List.set_cons_zero, List.set_cons_succ]
        refine heldH_take (n := 26) (i := 3) (oi := _) (v := ?vf3) (dst := some 15) rfl rfl rfl (by kernel_rfl) (by kernel_rfl) (by kernel_rfl) (fun _ _ _ h => h) (Or.inl ⟨by rfl, ?hyf3⟩) (by assumption) ?restf3
        case hyf3 => intro u hSu; (try dsimp only at hSu); go_simp; try (with_reducible rfl)
        simp only [Act.put, List.setIfInBounds_toArray, List.set_cons_zero, List.set_cons_succ]
        refine heldH_take (n := 25) (i := 4) (oi := _) (v := undef) (dst := some 16) rfl rfl rfl (by kernel_rfl) (by kernel_rfl) (by kernel_rfl) (fun _ _ _ h => h) (Or.inr ⟨by rfl, rfl⟩) (by assumption) ?restf4
        simp only [Act.put, List.setIfInBounds_toArray, List.set_cons_zero, List.set_cons_succ]
        refine heldH_take (n := 24) (i := 5) (oi := _) (v := undef) (dst := some 17) rfl rfl rfl (by kernel_rfl) (by kernel_rfl) (by kernel_rfl) (fun _ _ _ h => h) (Or.inr ⟨by rfl, rfl⟩) (by assumption) ?restf5
        simp only [Act.put, List.setIfInBounds_toArray, List.set_cons_zero, List.set_cons_succ]
        refine heldH_take (n := 23) (i := 6) (oi := _) (v := undef) (dst := some 18) rfl rfl rfl (by kernel_rfl) (by kernel_rfl) (by kernel_rfl) (fun _ _ _ h => h) (Or.inr ⟨by rfl, rfl⟩) (by assumption) ?restf6
        simp only [Act.put, List.setIfInBounds_toArray, List.set_cons_zero, List.set_cons_succ]
        refine heldH_take (n := 22) (i := 7) (oi := _) (v := undef) (dst := some 19) rfl rfl rfl (by kernel_rfl) (by kernel_rfl) (by kernel_rfl) (fun _ _ _ h => h) (Or.inr ⟨by rfl, rfl⟩) (by assumption) ?restf7
        simp only [Act.put, List.setIfInBounds_toArray, List.set_cons_zero, List.set_cons_succ]
        refine heldH_take (n := 21) (i := 8) (oi := _) (v := undef) (dst := some 20) rfl rfl rfl (by kernel_rfl) (by kernel_rfl) (by kernel_rfl) (fun _ _ _ h => h) (Or.inr ⟨by rfl, rfl⟩) (by assumption) ?restf8
        simp only [Act.put, List.setIfInBounds_toArray, List.set_cons_zero, List.set_cons_succ]
        refine heldH_take (n := 20) (i := 9) (oi := _) (v := undef) (dst := some 21) rfl rfl rfl (by kernel_rfl) (by kernel_rfl) (by kernel_rfl) (fun _ _ _ h => h) (Or.inr ⟨by rfl, rfl⟩) (by assumption) ?restf9
        simp only [Act.put, List.setIfInBounds_toArray, List.set_cons_zero, List.set_cons_succ]
        refine heldH_take (n := 19) (i := 10) (oi := _) (v := undef) (dst := some 22) rfl rfl rfl (by kernel_rfl) (by kernel_rfl) (by kernel_rfl) (fun _ _ _ h => h) (Or.inr ⟨by rfl, rfl⟩) (by assumption) ?restf10
        simp only [Act.put, List.setIfInBounds_toArray, List.set_cons_zero, List.set_cons_succ]
        refine heldH_take (n := 18) (i := 11) (oi := _) (v := undef) (dst := some 23) rfl rfl rfl (by kernel_rfl) (by kernel_rfl) (by kernel_rfl) (fun _ _ _ h => h) (Or.inr ⟨by rfl, rfl⟩) (by assumption) ?restf11
        simp only [Act.put, List.setIfInBounds_toArray, List.set_cons_zero, List.set_cons_succ]
        refine heldH_take (n := 17) (i := 12) (oi := _) (v := undef) (dst := some 24) rfl rfl rfl (by kernel_rfl) (by kernel_rfl) (by kernel_rfl) (fun _ _ _ h => h) (Or.inr ⟨by rfl, rfl⟩) (by assumption) ?restf12
        simp only [Act.put, List.setIfInBounds_toArray, List.set_cons_zero, List.set_cons_succ]
        refine heldH_take (n := 16) (i := 13) (oi := _) (v := undef) (dst := some 25) rfl rfl rfl (by kernel_rfl) (by kernel_rfl) (by kernel_rfl) (fun _ _ _ h => h) (Or.inr ⟨by rfl, rfl⟩) (by assumption) ?restf13
        simp only [Act.put, List.setIfInBounds_toArray, List.set_cons_zero, List.set_cons_succ]
        refine heldH_take (n := 15) (i := 14) (oi := _) (v := undef) (dst := some 26) rfl rfl rfl (by kernel_rfl) (by kernel_rfl) (by kernel_rfl) (fun _ _ _ h => h) (Or.inr ⟨by rfl, rfl⟩) (by assumption) ?restf14
        simp only [Act.put, List.setIfInBounds_toArray, List.set_cons_zero, List.set_cons_succ]
        refine heldH_take (n := 14) (i := 15) (oi := _) (v := undef) (dst := some 27) rfl rfl rfl (by kernel_rfl) (by kernel_rfl) (by kernel_rfl) (fun _ _ _ h => h) (Or.inr ⟨by rfl, rfl⟩) (by assumption) ?restf15
        simp only [Act.put, List.setIfInBounds_toArray, List.set_cons_zero, List.set_cons_succ]
        refine heldH_take (n := 13) (i := 16) (oi := _) (v := undef) (dst := some 28) rfl rfl rfl (by kernel_rfl) (by kernel_rfl) (by kernel_rfl) (fun _ _ _ h => h) (Or.inr ⟨by rfl, rfl⟩) (by assumption) ?restf16
        simp only [Act.put, List.setIfInBounds_toArray, List.set_cons_zero, List.set_cons_succ]
        refine heldH_take (n := 12) (i := 17) (oi := _) (v := ?vf17) (dst := some 29) rfl rfl rfl (by kernel_rfl) (by kernel_rfl) (by kernel_rfl) (fun _ _ _ h => h) (Or.inl ⟨by rfl, ?hyf17⟩) (by assumption) ?restf17
        case hyf17 => intro u hSu; (try dsimp only at hSu); go_simp; try (with_reducible rfl)
        simp only [Act.put, List.setIfInBounds_toArray, List.set_cons_zero, List.set_cons_succ]
        refine heldH_take (n := 11) (i := 18) (oi := _) (v := ?vf18) (dst := some 30) rfl rfl rfl (by kernel_rfl) (by kernel_rfl) (by kernel_rfl) (fun _ _ _ h => h) (Or.inl ⟨by rfl, ?hyf18⟩) (by assumption) ?restf18
        case hyf18 => intro u hSu; (try dsimp only at hSu); go_simp; try (with_reducible rfl)
        simp only [Act.put, List.setIfInBounds_toArray, List.set_cons_zero, List.set_cons_succ]
        refine heldH_take (n := 10) (i := 19) (oi := _) (v := undef) (dst := some 31) rfl rfl rfl (by kernel_rfl) (by kernel_rfl) (by kernel_rfl) (fun _ _ _ h => h) (Or.inr ⟨by rfl, rfl⟩) (by assumption) ?restf19
        simp only [Act.put, List.setIfInBounds_toArray, List.set_cons_zero, List.set_cons_succ]
        refine heldH_take (n := 9) (i := 20) (oi := _) (v := undef) (dst := some 32) rfl rfl rfl (by kernel_rfl) (by kernel_rfl) (by kernel_rfl) (fun _ _ _ h => h) (Or.inr ⟨by rfl, rfl⟩) (by assumption) ?restf20
        simp only [Act.put, List.setIfInBounds_toArray, List.set_cons_zero, List.set_cons_succ]
        refine heldH_take (n := 8) (i := 21) (oi := _) (v := undef) (dst := some 33) rfl rfl rfl (by kernel_rfl) (by kernel_rfl) (by kernel_rfl) (fun _ _ _ h => h) (Or.inr ⟨by rfl, rfl⟩) (by assumption) ?restf21
        simp only [Act.put, List.setIfInBounds_toArray, List.set_cons_zero, List.set_cons_succ]
        refine heldH_take (n := 7) (i := 22) (oi := _) (v := undef) (dst := some 34) rfl rfl rfl (by kernel_rfl) (by kernel_rfl) (by kernel_rfl) (fun _ _ _ h => h) (Or.inr ⟨by rfl, rfl⟩) (by assumption) ?restf22
        simp only [Act.put, List.setIfInBounds_toArray, List.set_cons_zero, List.set_cons_succ]
        refine heldH_take (n := 6) (i := 23) (oi := _) (v := ?vf23) (dst := some 35) rfl rfl rfl (by kernel_rfl) (by kernel_rfl) (by kernel_rfl) (fun _ _ _ h => h) (Or.inl ⟨by rfl, ?hyf23⟩) (by assumption) ?restf23
        case hyf23 => intro u hSu; (try dsimp only at hSu); go_simp; try (with_reducible rfl)
        simp only [Act.put, List.setIfInBounds_toArray, List.set_cons_zero, List.set_cons_succ]
        refine heldH_take (n := 5) (i := 24) (oi := _) (v := ?vf24) (dst := some 36) rfl rfl rfl (by kernel_rfl) (by kernel_rfl) (by kernel_rfl) (fun _ _ _ h => h) (Or.inl ⟨by rfl, ?hyf24⟩) (by assumption) ?restf24
        case hyf24 => intro u hSu; (try dsimp only at hSu); go_simp; try (with_reducible rfl)
        simp only [Act.put, List.setIfInBounds_toArray, List.set_cons_zero, List.set_cons_succ]
        refine heldH_take (n := 4) (i := 25) (oi := _) (v := undef) (dst := some 37) rfl rfl rfl (by kernel_rfl) (by kernel_rfl) (by kernel_rfl) (fun _ _ _ h => h) (Or.inr ⟨by rfl, rfl⟩) (by assumption) ?restf25
        simp only [Act.put, List.setIfInBounds_toArray, List.set_cons_zero, List.set_cons_succ]
        refine heldH_take (n := 3) (i := 26) (oi := _) (v := undef) (dst := some 38) rfl rfl rfl (by kernel_rfl) (by kernel_rfl) (by kernel_rfl) (fun _ _ _ h => h) (Or.inr ⟨by rfl, rfl⟩) (by assumption) ?restf26
        simp only [Act.put, List.setIfInBounds_toArray, List.set_cons_zero, List.set_cons_succ]
        refine heldH_take (n := 2) (i := 27) (oi := _) (v := undef) (dst := some 39) rfl rfl rfl (by kernel_rfl) (by kernel_rfl) (by kernel_rfl) (fun _ _ _ h => h) (Or.inr ⟨by rfl, rfl⟩) (by assumption) ?restf27
        simp only [Act.put, List.setIfInBounds_toArray, List.set_cons_zero, List.set_cons_succ]
        refine heldH_take (n := 1) (i := 28) (oi := _) (v := undef) (dst := some 40) rfl rfl rfl (by kernel_rfl) (by kernel_rfl) (by kernel_rfl) (fun _ _ _ h => h) (Or.inr ⟨by rfl, rfl⟩) (by assumption) ?restf28
        simp only [Act.put, List.setIfInBounds_toArray, List.set_cons_zero, List.set_cons_succ]
        refine heldH_take (n := 0) (i := 29) (oi := _) (v := ?vf29) (dst := some 41) rfl rfl rfl (by kernel_rfl) (by kernel_rfl) (by kernel_rfl) (fun _ _ _ h => h) (Or.inl ⟨by rfl, ?hyf29⟩) (by assumption) ?restf29
        case hyf29 => intro u hSu; (try dsimp only at hSu); go_simp; try (with_reducible rfl)
        simp only [Act.put, List.setIfInBounds_toArray, List.set_cons_zero, List.set_cons_succ]
        refine wpAnyH_done (by kernel_rfl) ?_ _
        go_wp2
        go_ret
        exact ⟨false, rfl, ⟨(fun h => by cases h), fun h => absurd h HNN.out⟩, HBD.out⟩
      · by_cases hi0 : i = 0
        · have hah := HL0.out hi0
          have hig : ¬ 0 < i := by omega
          have HS0 := Lib.hid HC3.out
          have HPW := Lib.hid (show ah < x1 by omega)
          clear hah hi0
          by_cases h2 : 1 ≤ x2 ∧ x2 ≤ 3
          · rw [decide_eq_true h2] at HW1
            by_cases h3 : 0 ≤ x3 ∧ x3 ≤ 15
            · rw [decide_eq_true h3] at HW2
              have HOK := Lib.hid (HST.out.2 ⟨HR.out, HPW.out, h2.1, h2.2, h3.1, (show x3 < 16 by omega)⟩)
              clear HN h2 h3
              --Lza
              refine region_heldH (S := (fun u => u.cell? ⟨eb, 0, none⟩ = some (.int .i64 x1) ∧ u.cell? ⟨eb, 1, none⟩ = some (.int .i64 x2) ∧ u.cell? ⟨eb, 2, none⟩ = some (.int .i64 x3))) 30 rfl (by kernel_rfl) HS0.out (fun hHeld => ?_)
              refine heldH_take (n := 29) (i := 0) (oi := _) (v := ?vza0) (dst := some 12) rfl rfl rfl (by kernel_rfl) (by kernel_rfl) (by kernel_rfl) (fun _ _ _ h => h) (Or.inl ⟨by rfl, ?hyza0⟩) (by assumption) ?restza0
              case hyza0 => intro u hSu; (try dsimp only at hSu); go_simp; try (with_reducible rfl)
              simp only [Act.put, List.setIfInBounds_toArray, List.set_cons_zero, List.set_cons_succ]
              refine heldH_take (n := 28) (i := 1) (oi := _) (v := ?vza1) (dst := some 13) rfl rfl rfl (by kernel_rfl) (by kernel_rfl) (by kernel_rfl) (fun _ _ _ h => h) (Or.inl ⟨by rfl, ?hyza1⟩) (by assumption) ?restza1
              case hyza1 => intro u hSu; (try dsimp only at hSu); go_simp; try (with_reducible rfl)
              simp only [Act.put, List.setIfInBounds_toArray, List.set_cons_zero, List.set_cons_succ]
              refine heldH_take (n := 27) (i := 2) (oi := _) (v := ?vza2) (dst := some 14) rfl rfl rfl (by kernel_rfl) (by kernel_rfl) (by kernel_rfl) (fun _ _ _ h => h) (Or.inl ⟨by rfl, ?hyza2⟩) (by assumption) ?restza2
              case hyza2 => intro u hSu; (try dsimp only at hSu); go_simp; try (with_reducible rfl)
              simp only [Act.put, List.setIfInBounds_toArray, List.set_cons_zero, List.set_cons_succ]
              refine heldH_take (n := 26) (i := 3) (oi := _) (v := ?vza3) (dst := some 15) rfl rfl rfl (by kernel_rfl) (by kernel_rfl) (by kernel_rfl) (fun _ _ _ h => h) (Or.inl ⟨by rfl, ?hyza3⟩) (by assumption) ?restza3
              case hyza3 => intro u hSu; (try dsimp only at hSu); go_simp; try (with_reducible rfl)
              simp only [Act.put, List.setIfInBounds_toArray, List.set_cons_zero, List.set_cons_succ]
              refine heldH_take (n := 25) (i := 4) (oi := _) (v := ?vza4) (dst := some 16) rfl rfl rfl (by kernel_rfl) (by kernel_rfl) (by kernel_rfl) (fun _ _ _ h => h) (Or.inl ⟨by rfl, ?hyza4⟩) (by assumption) ?restza4
              case hyza4 => intro u hSu; (try dsimp only at hSu); go_simp; try (with_reducible rfl)
              simp only [Act.put, List.setIfInBounds_toArray, List.set_cons_zero, List.set_cons_succ]
              refine heldH_take (n := 24) (i := 5) (oi := _) (v := ?vza5) (dst := some 17) rfl rfl rfl (by kernel_rfl) (by kernel_rfl) (by kernel_rfl) (fun _ _ _ h => h) (Or.inl ⟨by rfl, ?hyza5⟩) (by assumption) ?restza5
              case hyza5 => intro u hSu; (try dsimp only at hSu); go_simp; try (with_reducible rfl)
              simp only [Act.put, List.setIfInBounds_toArray, List.set_cons_zero, List.set_cons_succ]
              refine heldH_take (n := 23) (i := 6) (oi := _) (v := ?vza6) (dst := some 18) rfl rfl rfl (by kernel_rfl) (by kernel_rfl) (by kernel_rfl) (fun _ _ _ h => h) (Or.inl ⟨by rfl, ?hyza6⟩) (by assumption) ?restza6
              case hyza6 => intro u hSu; (try dsimp only at hSu); go_simp; try (with_reducible rfl)
              simp only [Act.put, List.setIfInBounds_toArray, List.set_cons_zero, List.set_cons_succ]
              refine heldH_take (n := 22) (i := 7) (oi := _) (v := undef) (dst := some 19) rfl rfl rfl (by kernel_rfl) (by kernel_rfl) (by kernel_rfl) (fun _ _ _ h => h) (Or.inr ⟨by rfl, rfl⟩) (by assumption) ?restza7
              simp only [Act.put, List.setIfInBounds_toArray, List.set_cons_zero, List.set_cons_succ]
              refine heldH_take (n := 21) (i := 8) (oi := _) (v := undef) (dst := some 20) rfl rfl rfl (by kernel_rfl) (by kernel_rfl) (by kernel_rfl) (fun _ _ _ h => h) (Or.inr ⟨by rfl, rfl⟩) (by assumption) ?restza8
              simp only [Act.put, List.setIfInBounds_toArray, List.set_cons_zero, List.set_cons_succ]
              refine heldH_take (n := 20) (i := 9) (oi := _) (v := undef) (dst := some 21) rfl rfl rfl (by kernel_rfl) (by kernel_rfl) (by kernel_rfl) (fun _ _ _ h => h) (Or.inr ⟨by rfl, rfl⟩) (by assumption) ?restza9
              simp only [Act.put, List.setIfInBounds_toArray, List.set_cons_zero, List.set_cons_succ]
              refine heldH_take (n := 19) (i := 10) (oi := _) (v := undef) (dst := some 22) rfl rfl rfl (by kernel_rfl) (by kernel_rfl) (by kernel_rfl) (fun _ _ _ h => h) (Or.inr ⟨by rfl, rfl⟩) (by assumption) ?restza10
              simp only [Act.put, List.setIfInBounds_toArray, List.set_cons_zero, List.set_cons_succ]
              refine heldH_take (n := 18) (i := 11) (oi := _) (v := undef) (dst := some 23) rfl rfl rfl (by kernel_rfl) (by kernel_rfl) (by kernel_rfl) (fun _ _ _ h => h) (Or.inr ⟨by rfl, rfl⟩) (by assumption) ?restza11
              simp only [Act.put, List.setIfInBounds_toArray, List.set_cons_zero, List.set_cons_succ]
              refine heldH_take (n := 17) (i := 12) (oi := _) (v := undef) (dst := some 24) rfl rfl rfl (by kernel_rfl) (by kernel_rfl) (by kernel_rfl) (fun _ _ _ h => h) (Or.inr ⟨by rfl, rfl⟩) (by assumption) ?restza12
              simp only [Act.put, List.setIfInBounds_toArray, List.set_cons_zero, List.set_cons_succ]
              refine heldH_take (n := 16) (i := 13) (oi := _) (v := undef) (dst := some 25) rfl rfl rfl (by kernel_rfl) (by kernel_rfl) (by kernel_rfl) (fun _ _ _ h => h) (Or.inr ⟨by rfl, rfl⟩) (by assumption) ?restza13
              simp only [Act.put, List.setIfInBounds_toArray, List.set_cons_zero, List.set_cons_succ]
              refine heldH_take (n := 15) (i := 14) (oi := _) (v := undef) (dst := some 26) rfl rfl rfl (by kernel_rfl) (by kernel_rfl) (by kernel_rfl) (fun _ _ _ h => h) (Or.inr ⟨by rfl, rfl⟩) (by assumption) ?restza14
              simp only [Act.put, List.setIfInBounds_toArray, List.set_cons_zero, List.set_cons_succ]
              refine heldH_take (n := 14) (i := 15) (oi := _) (v := undef) (dst := some 27) rfl rfl rfl (by kernel_rfl) (by kernel_rfl) (by kernel_rfl) (fun _ _ _ h => h) (Or.inr ⟨by rfl, rfl⟩) (by assumption) ?restza15
              simp only [Act.put, List.setIfInBounds_toArray, List.set_cons_zero, List.set_cons_succ]
              refine heldH_take (n := 13) (i := 16) (oi := _) (v := ?vza16) (dst := some 28) rfl rfl rfl (by kernel_rfl) (by kernel_rfl) (by kernel_rfl) (fun _ _ _ h => h) (Or.inl ⟨by rfl, ?hyza16⟩) (by assumption) ?restza16
              case hyza16 => intro u hSu; (try dsimp only at hSu); go_simp; try (with_reducible rfl)
              simp only [Act.put, List.setIfInBounds_toArray, List.set_cons_zero, List.set_cons_succ]
              refine heldH_take (n := 12) (i := 17) (oi := _) (v := ?vza17) (dst := some 29) rfl rfl rfl (by kernel_rfl) (by kernel_rfl) (by kernel_rfl) (fun _ _ _ h => h) (Or.inl ⟨by rfl, ?hyza17⟩) (by assumption) ?restza17
              case hyza17 => intro u hSu; (try dsimp only at hSu); go_simp; try (with_reducible rfl)
              simp only [Act.put, List.setIfInBounds_toArray, List.set_cons_zero, List.set_cons_succ]
              refine heldH_take (n := 11) (i := 18) (oi := _) (v := ?vza18) (dst := some 30) rfl rfl rfl (by kernel_rfl) (by kernel_rfl) (by kernel_rfl) (fun _ _ _ h => h) (Or.inl ⟨by rfl, ?hyza18⟩) (by assumption) ?restza18
              case hyza18 => intro u hSu; (try dsimp only at hSu); go_simp; try (with_reducible rfl)
              simp only [Act.put, List.setIfInBounds_toArray, List.set_cons_zero, List.set_cons_succ]
              refine heldH_take (n := 10) (i := 19) (oi := _) (v := ?vza19) (dst := some 31) rfl rfl rfl (by kernel_rfl) (by kernel_rfl) (by kernel_rfl) (fun _ _ _ h => h) (Or.inl ⟨by rfl, ?hyza19⟩) (by assumption) ?restza19
              case hyza19 => intro u hSu; (try dsimp only at hSu); go_simp; try (with_reducible rfl)
              simp only [Act.put, List.setIfInBounds_toArray, List.set_cons_zero, List.set_cons_succ]
              refine heldH_take (n := 9) (i := 20) (oi := _) (v := ?vza20) (dst := some 32) rfl rfl rfl (by kernel_rfl) (by kernel_rfl) (by kernel_rfl) (fun _ _ _ h => h) (Or.inl ⟨by rfl, ?hyza20⟩) (by assumption) ?restza20
              case hyza20 => intro u hSu; (try dsimp only at hSu); go_simp; try (with_reducible rfl)
              simp only [Act.put, List.setIfInBounds_toArray, List.set_cons_zero, List.set_cons_succ]
              refine heldH_step (n := 8) (i := 21) (o := _) rfl (by kernel_rfl) rfl (fun K hK => ?_)
              have HK2 := Lib.hid hK
              clear hK
              go_simp
              refine (HW1.out _).mono ?_
              rintro e w5 ⟨rfl, rfl⟩
              go_simp
              refine HK2.out _ _ hHeld (fun hHeld => ?_)
              clear HK2 K
              refine heldH_take (n := 7) (i := 22) (oi := _) (v := ?vza22) (dst := some 34) rfl rfl rfl (by kernel_rfl) (by kernel_rfl) (by kernel_rfl) (fun _ _ _ h => h) (Or.inl ⟨by rfl, ?hyza22⟩) (by assumption) ?restza22
              case hyza22 => intro u hSu; (try dsimp only at hSu); go_simp; try (with_reducible rfl)
              simp only [Act.put, List.setIfInBounds_toArray, List.set_cons_zero, List.set_cons_succ]
              refine heldH_take (n := 6) (i := 23) (oi := _) (v := ?vza23) (dst := some 35) rfl rfl rfl (by kernel_rfl) (by kernel_rfl) (by kernel_rfl) (fun _ _ _ h => h) (Or.inl ⟨by rfl, ?hyza23⟩) (by assumption) ?restza23
              case hyza23 => intro u hSu; (try dsimp only at hSu); go_simp; try (with_reducible rfl)
              simp only [Act.put, List.setIfInBounds_toArray, List.set_cons_zero, List.set_cons_succ]
              refine heldH_take (n := 5) (i := 24) (oi := _) (v := ?vza24) (dst := some 36) rfl rfl rfl (by kernel_rfl) (by kernel_rfl) (by kernel_rfl) (fun _ _ _ h => h) (Or.inl ⟨by rfl, ?hyza24⟩) (by assumption) ?restza24
              case hyza24 => intro u hSu; (try dsimp only at hSu); go_simp; try (with_reducible rfl)
              simp only [Act.put, List.setIfInBounds_toArray, List.set_cons_zero, List.set_cons_succ]
              refine heldH_take (n := 4) (i := 25) (oi := _) (v := ?vza25) (dst := some 37) rfl rfl rfl (by kernel_rfl) (by kernel_rfl) (by kernel_rfl) (fun _ _ _ h => h) (Or.inl ⟨by rfl, ?hyza25⟩) (by assumption) ?restza25
              case hyza25 => intro u hSu; (try dsimp only at hSu); go_simp; try (with_reducible rfl)
              simp only [Act.put, List.setIfInBounds_toArray, List.set_cons_zero, List.set_cons_succ]
              refine heldH_take (n := 3) (i := 26) (oi := _) (v := ?vza26) (dst := some 38) rfl rfl rfl (by kernel_rfl) (by kernel_rfl) (by kernel_rfl) (fun _ _ _ h => h) (Or.inl ⟨by rfl, ?hyza26⟩) (by assumption) ?restza26
              case hyza26 => intro u hSu; (try dsimp only at hSu); go_simp; try (with_reducible rfl)
              simp only [Act.put, List.setIfInBounds_toArray, List.set_cons_zero, List.set_cons_succ]
              refine heldH_step (n := 2) (i := 27) (o := _) rfl (by kernel_rfl) rfl (fun K hK => ?_)
              have HK2 := Lib.hid hK
              clear hK
              go_simp
              refine (HW2.out _).mono ?_
              rintro e w6 ⟨rfl, rfl⟩
              go_simp
              refine HK2.out _ _ hHeld (fun hHeld => ?_)
              clear HK2 K
              refine heldH_take (n := 1) (i := 28) (oi := _) (v := ?vza28) (dst := some 40) rfl rfl rfl (by kernel_rfl) (by kernel_rfl) (by kernel_rfl) (fun _ _ _ h => h) (Or.inl ⟨by rfl, ?hyza28⟩) (by assumption) ?restza28
              case hyza28 => intro u hSu; (try dsimp only at hSu); go_simp; try (with_reducible rfl)
              simp only [Act.put, List.setIfInBounds_toArray, List.set_cons_zero, List.set_cons_succ]
              refine heldH_take (n := 0) (i := 29) (oi := _) (v := ?vza29) (dst := some 41) rfl rfl rfl (by kernel_rfl) (by kernel_rfl) (by kernel_rfl) (fun _ _ _ h => h) (Or.inl ⟨by rfl, ?hyza29⟩) (by assumption) ?restza29
              case hyza29 => intro u hSu; (try dsimp only at hSu); go_simp; try (with_reducible rfl)
              simp only [Act.put, List.setIfInBounds_toArray, List.set_cons_zero, List.set_cons_succ]
              refine wpAnyH_done (by kernel_rfl) ?_ _
              go_wp2
              go_roundw
              case rel => exact ⟨i + 1, by omega, by go_num, HOK.out, HBD.out⟩
              case measure => simp [intOf]; omega
            · rw [decide_eq_false h3] at HW2
              have HNN := Lib.hid (HN.out fun h => by have := (HST.out.1 h).2; exact h3 ⟨this.2.2.2.1, by have q : x3 < 16 := this.2.2.2.2; omega⟩)
              clear HN h2 h3
              --Lzb
              refine region_heldH (S := (fun u => u.cell? ⟨eb, 0, none⟩ = some (.int .i64 x1) ∧ u.cell? ⟨eb, 1, none⟩ = some (.int .i64 x2) ∧ u.cell? ⟨eb, 2, none⟩ = some (.int .i64 x3))) 30 rfl (by kernel_rfl) HS0.out (fun hHeld => ?_)
              refine heldH_take (n := 29) (i := 0) (oi := _) (v := ?vzb0) (dst := some 12) rfl rfl rfl (by kernel_rfl) (by kernel_rfl) (by kernel_rfl) (fun _ _ _ h => h) (Or.inl ⟨by rfl, ?hyzb0⟩) (by assumption) ?restzb0
              case hyzb0 => intro u hSu; (try dsimp only at hSu); go_simp; try (with_reducible rfl)
              simp only [Act.put, List.setIfInBounds_toArray, List.set_cons_zero, List.set_cons_succ]
              refine heldH_take (n := 28) (i := 1) (oi := _) (v := ?vzb1) (dst := some 13) rfl rfl rfl (by kernel_rfl) (by kernel_rfl) (by kernel_rfl) (fun _ _ _ h => h) (Or.inl ⟨by rfl, ?hyzb1⟩) (by assumption) ?restzb1
              case hyzb1 => intro u hSu; (try dsimp only at hSu); go_simp; try (with_reducible rfl)
              simp only [Act.put, List.setIfInBounds_toArray, List.set_cons_zero, List.set_cons_succ]
              refine heldH_take (n := 27) (i := 2) (oi := _) (v := ?vzb2) (dst := some 14) rfl rfl rfl (by kernel_rfl) (by kernel_rfl) (by kernel_rfl) (fun _ _ _ h => h) (Or.inl ⟨by rfl, ?hyzb2⟩) (by assumption) ?restzb2
              case hyzb2 => intro u hSu; (try dsimp only at hSu); go_simp; try (with_reducible rfl)
              simp only [Act.put, List.setIfInBounds_toArray, List.set_cons_zero, List.set_cons_succ]
              refine heldH_take (n := 26) (i := 3) (oi := _) (v := ?vzb3) (dst := some 15) rfl rfl rfl (by kernel_rfl) (by kernel_rfl) (by kernel_rfl) (fun _ _ _ h => h) (Or.inl ⟨by rfl, ?hyzb3⟩) (by assumption) ?restzb3
              case hyzb3 => intro u hSu; (try dsimp only at hSu); go_simp; try (with_reducible rfl)
              simp only [Act.put, List.setIfInBounds_toArray, List.set_cons_zero, List.set_cons_succ]
              refine heldH_take (n := 25) (i := 4) (oi := _) (v := ?vzb4) (dst := some 16) rfl rfl rfl (by kernel_rfl) (by kernel_rfl) (by kernel_rfl) (fun _ _ _ h => h) (Or.inl ⟨by rfl, ?hyzb4⟩) (by assumption) ?restzb4
              case hyzb4 => intro u hSu; (try dsimp only at hSu); go_simp; try (with_reducible rfl)
              simp only [Act.put, List.setIfInBounds_toArray, List.set_cons_zero, List.set_cons_succ]
              refine heldH_take (n := 24) (i := 5) (oi := _) (v := ?vzb5) (dst := some 17) rfl rfl rfl (by kernel_rfl) (by kernel_rfl) (by kernel_rfl) (fun _ _ _ h => h) (Or.inl ⟨by rfl, ?hyzb5⟩) (by assumption) ?restzb5
              case hyzb5 => intro u hSu; (try dsimp only at hSu); go_simp; try (with_reducible rfl)
              simp only [Act.put, List.setIfInBounds_toArray, List.set_cons_zero, List.set_cons_succ]
              refine heldH_take (n := 23) (i := 6) (oi := _) (v := ?vzb6) (dst := some 18) rfl rfl rfl (by kernel_rfl) (by kernel_rfl) (by kernel_rfl) (fun _ _ _ h => h) (Or.inl ⟨by rfl, ?hyzb6⟩) (by assumption) ?restzb6
              case hyzb6 => intro u hSu; (try dsimp only at hSu); go_simp; try (with_reducible rfl)
              simp only [Act.put, List.setIfInBounds_toArray, List.set_cons_zero, List.set_cons_succ]
              refine heldH_take (n := 22) (i := 7) (oi := _) (v := undef) (dst := some 19) rfl rfl rfl (by kernel_rfl) (by kernel_rfl) (by kernel_rfl) (fun _ _ _ h => h) (Or.inr ⟨by rfl, rfl⟩) (by assumption) ?restzb7
              simp only [Act.put, List.setIfInBounds_toArray, List.set_cons_zero, List.set_cons_succ]
              refine heldH_take (n := 21) (i := 8) (oi := _) (v := undef) (dst := some 20) rfl rfl rfl (by kernel_rfl) (by kernel_rfl) (by kernel_rfl) (fun _ _ _ h => h) (Or.inr ⟨by rfl, rfl⟩) (by assumption) ?restzb8
              simp only [Act.put, List.setIfInBounds_toArray, List.set_cons_zero, List.set_cons_succ]
              refine heldH_take (n := 20) (i := 9) (oi := _) (v := undef) (dst := some 21) rfl rfl rfl (by kernel_rfl) (by kernel_rfl) (by kernel_rfl) (fun _ _ _ h => h) (Or.inr ⟨by rfl, rfl⟩) (by assumption) ?restzb9
              simp only [Act.put, List.setIfInBounds_toArray, List.set_cons_zero, List.set_cons_succ]
              refine heldH_take (n := 19) (i := 10) (oi := _) (v := undef) (dst := some 22) rfl rfl rfl (by kernel_rfl) (by kernel_rfl) (by kernel_rfl) (fun _ _ _ h => h) (Or.inr ⟨by rfl, rfl⟩) (by assumption) ?restzb10
              simp only [Act.put, List.setIfInBounds_toArray, List.set_cons_zero, List.set_cons_succ]
              refine heldH_take (n := 18) (i := 11) (oi := _) (v := undef) (dst := some 23) rfl rfl rfl (by kernel_rfl) (by kernel_rfl) (by kernel_rfl) (fun _ _ _ h => h) (Or.inr ⟨by rfl, rfl⟩) (by assumption) ?restzb11
              simp only [Act.put, List.setIfInBounds_toArray, List.set_cons_zero, List.set_cons_succ]
              refine heldH_take (n := 17) (i := 12) (oi := _) (v := undef) (dst := some 24) rfl rfl rfl (by kernel_rfl) (by kernel_rfl) (by kernel_rfl) (fun _ _ _ h => h) (Or.inr ⟨by rfl, rfl⟩) (by assumption) ?restzb12
              simp only [Act.put, List.setIfInBounds_toArray, List.set_cons_zero, List.set_cons_succ]
              refine heldH_take (n := 16) (i := 13) (oi := _) (v := undef) (dst := some 25) rfl rfl rfl (by kernel_rfl) (by kernel_rfl) (by kernel_rfl) (fun _ _ _ h => h) (Or.inr ⟨by rfl, rfl⟩) (by assumption) ?restzb13
              simp only [Act.put, List.setIfInBounds_toArray, List.set_cons_zero, List.set_cons_succ]
              refine heldH_take (n := 15) (i := 14) (oi := _) (v := undef) (dst := some 26) rfl rfl rfl (by kernel_rfl) (by kernel_rfl) (by kernel_rfl) (fun _ _ _ h => h) (Or.inr ⟨by rfl, rfl⟩) (by assumption) ?restzb14
              simp only [Act.put, List.setIfInBounds_toArray, List.set_cons_zero, List.set_cons_succ]
              refine heldH_take (n := 14) (i := 15) (oi := _) (v := undef) (dst := some 27) rfl rfl rfl (by kernel_rfl) (by kernel_rfl) (by kernel_rfl) (fun _ _ _ h => h) (Or.inr ⟨by rfl, rfl⟩) (by assumption) ?restzb15
              simp only [Act.put, List.setIfInBounds_toArray, List.set_cons_zero, List.set_cons_succ]
              refine heldH_take (n := 13) (i := 16) (oi := _) (v := ?vzb16) (dst := some 28) rfl rfl rfl (by kernel_rfl) (by kernel_rfl) (by kernel_rfl) (fun _ _ _ h => h) (Or.inl ⟨by rfl, ?hyzb16⟩) (by assumption) ?restzb16
              case hyzb16 => intro u hSu; (try dsimp only at hSu); go_simp; try (with_reducible rfl)
              simp only [Act.put, List.setIfInBounds_toArray, List.set_cons_zero, List.set_cons_succ]
              refine heldH_take (n := 12) (i := 17) (oi := _) (v := ?vzb17) (dst := some 29) rfl rfl rfl (by kernel_rfl) (by kernel_rfl) (by kernel_rfl) (fun _ _ _ h => h) (Or.inl ⟨by rfl, ?hyzb17⟩) (by assumption) ?restzb17
              case hyzb17 => intro u hSu; (try dsimp only at hSu); go_simp; try (with_reducible rfl)
              simp only [Act.put, List.setIfInBounds_toArray, List.set_cons_zero, List.set_cons_succ]
              refine heldH_take (n := 11) (i := 18) (oi := _) (v := ?vzb18) (dst := some 30) rfl rfl rfl (by kernel_rfl) (by kernel_rfl) (by kernel_rfl) (fun _ _ _ h => h) (Or.inl ⟨by rfl, ?hyzb18⟩) (by assumption) ?restzb18
              case hyzb18 => intro u hSu; (try dsimp only at hSu); go_simp; try (with_reducible rfl)
              simp only [Act.put, List.setIfInBounds_toArray, List.set_cons_zero, List.set_cons_succ]
              refine heldH_take (n := 10) (i := 19) (oi := _) (v := ?vzb19) (dst := some 31) rfl rfl rfl (by kernel_rfl) (by kernel_rfl) (by kernel_rfl) (fun _ _ _ h => h) (Or.inl ⟨by rfl, ?hyzb19⟩) (by assumption) ?restzb19
              case hyzb19 => intro u hSu; (try dsimp only at hSu); go_simp; try (with_reducible rfl)
              simp only [Act.put, List.setIfInBounds_toArray, List.set_cons_zero, List.set_cons_succ]
              refine heldH_take (n := 9) (i := 20) (oi := _) (v := ?vzb20) (dst := some 32) rfl rfl rfl (by kernel_rfl) (by kernel_rfl) (by kernel_rfl) (fun _ _ _ h => h) (Or.inl ⟨by rfl, ?hyzb20⟩) (by assumption) ?restzb20
              case hyzb20 => intro u hSu; (try dsimp only at hSu); go_simp; try (with_reducible rfl)
              simp only [Act.put, List.setIfInBounds_toArray, List.set_cons_zero, List.set_cons_succ]
              refine heldH_step (n := 8) (i := 21) (o := _) rfl (by kernel_rfl) rfl (fun K hK => ?_)
              have HK2 := Lib.hid hK
              clear hK
              go_simp
              refine (HW1.out _).mono ?_
              rintro e w5 ⟨rfl, rfl⟩
              go_simp
              refine HK2.out _ _ hHeld (fun hHeld => ?_)
              clear HK2 K
              refine heldH_take (n := 7) (i := 22) (oi := _) (v := ?vzb22) (dst := some 34) rfl rfl rfl (by kernel_rfl) (by kernel_rfl) (by kernel_rfl) (fun _ _ _ h => h) (Or.inl ⟨by rfl, ?hyzb22⟩) (by assumption) ?restzb22
              case hyzb22 => intro u hSu; (try dsimp only at hSu); go_simp; try (with_reducible rfl)
              simp only [Act.put, List.setIfInBounds_toArray, List.set_cons_zero, List.set_cons_succ]
              refine heldH_take (n := 6) (i := 23) (oi := _) (v := ?vzb23) (dst := some 35) rfl rfl rfl (by kernel_rfl) (by kernel_rfl) (by kernel_rfl) (fun _ _ _ h => h) (Or.inl ⟨by rfl, ?hyzb23⟩) (by assumption) ?restzb23
              case hyzb23 => intro u hSu; (try dsimp only at hSu); go_simp; try (with_reducible rfl)
              simp only [Act.put, List.setIfInBounds_toArray, List.set_cons_zero, List.set_cons_succ]
              refine heldH_take (n := 5) (i := 24) (oi := _) (v := ?vzb24) (dst := some 36) rfl rfl rfl (by kernel_rfl) (by kernel_rfl) (by kernel_rfl) (fun _ _ _ h => h) (Or.inl ⟨by rfl, ?hyzb24⟩) (by assumption) ?restzb24
              case hyzb24 => intro u hSu; (try dsimp only at hSu); go_simp; try (with_reducible rfl)
              simp only [Act.put, List.setIfInBounds_toArray, List.set_cons_zero, List.set_cons_succ]
              refine heldH_take (n := 4) (i := 25) (oi := _) (v := ?vzb25) (dst := some 37) rfl rfl rfl (by kernel_rfl) (by kernel_rfl) (by kernel_rfl) (fun _ _ _ h => h) (Or.inl ⟨by rfl, ?hyzb25⟩) (by assumption) ?restzb25
              case hyzb25 => intro u hSu; (try dsimp only at hSu); go_simp; try (with_reducible rfl)
              simp only [Act.put, List.setIfInBounds_toArray, List.set_cons_zero, List.set_cons_succ]
              refine heldH_take (n := 3) (i := 26) (oi := _) (v := ?vzb26) (dst := some 38) rfl rfl rfl (by kernel_rfl) (by kernel_rfl) (by kernel_rfl) (fun _ _ _ h => h) (Or.inl ⟨by rfl, ?hyzb26⟩) (by assumption) ?restzb26
              case hyzb26 => intro u hSu; (try dsimp only at hSu); go_simp; try (with_reducible rfl)
              simp only [Act.put, List.setIfInBounds_toArray, List.set_cons_zero, List.set_cons_succ]
              refine heldH_step (n := 2) (i := 27) (o := _) rfl (by kernel_rfl) rfl (fun K hK => ?_)
              have HK2 := Lib.hid hK
              clear hK
              go_simp
              refine (HW2.out _).mono ?_
              rintro e w6 ⟨rfl, rfl⟩
              go_simp
              refine HK2.out _ _ hHeld (fun hHeld => ?_)
              clear HK2 K
              refine heldH_take (n := 1) (i := 28) (oi := _) (v := ?vzb28) (dst := some 40) rfl rfl rfl (by kernel_rfl) (by kernel_rfl) (by kernel_rfl) (fun _ _ _ h => h) (Or.inl ⟨by rfl, ?hyzb28⟩) (by assumption) ?restzb28
              case hyzb28 => intro u hSu; (try dsimp only at hSu); go_simp; try (with_reducible rfl)
              simp only [Act.put, List.setIfInBounds_toArray, List.set_cons_zero, List.set_cons_succ]
              refine heldH_take (n := 0) (i := 29) (oi := _) (v := ?vzb29) (dst := some 41) rfl rfl rfl (by kernel_rfl) (by kernel_rfl) (by kernel_rfl) (fun _ _ _ h => h) (Or.inl ⟨by rfl, ?hyzb29⟩) (by assumption) ?restzb29
              case hyzb29 => intro u hSu; (try dsimp only at hSu); go_simp; try (with_reducible rfl)
              simp only [Act.put, List.setIfInBounds_toArray, List.set_cons_zero, List.set_cons_succ]
              refine wpAnyH_done (by kernel_rfl) ?_ _
              go_wp2
              go_ret
              exact ⟨false, rfl, ⟨(fun h => by cases h), fun h => absurd h HNN.out⟩, HBD.out⟩
          · rw [decide_eq_false h2] at HW1
            have HNN := Lib.hid (HN.out fun h => by have := (HST.out.1 h).2; exact h2 ⟨this.2.1, this.2.2.1⟩)
            clear HN h2
            --Lzc
            refine region_heldH (S := (fun u => u.cell? ⟨eb, 0, none⟩ = some (.int .i64 x1) ∧ u.cell? ⟨eb, 1, none⟩ = some (.int .i64 x2) ∧ u.cell? ⟨eb, 2, none⟩ = some (.int .i64 x3))) 30 rfl (by kernel_rfl) HS0.out (fun hHeld => ?_)
            refine heldH_take (n := 29) (i := 0) (oi := _) (v := ?vzc0) (dst := some 12) rfl rfl rfl (by kernel_rfl) (by kernel_rfl) (by kernel_rfl) (fun _ _ _ h => h) (Or.inl ⟨by rfl, ?hyzc0⟩) (by assumption) ?restzc0
            case hyzc0 => intro u hSu; (try dsimp only at hSu); go_simp; try (with_reducible rfl)
            simp only [Act.put, List.setIfInBounds_toArray, List.set_cons_zero, List.set_cons_succ]
            refine heldH_take (n := 28) (i := 1) (oi := _) (v := ?vzc1) (dst := some 13) rfl rfl rfl (by kernel_rfl) (by kernel_rfl) (by kernel_rfl) (fun _ _ _ h => h) (Or.inl ⟨by rfl, ?hyzc1⟩) (by assumption) ?restzc1
            case hyzc1 => intro u hSu; (try dsimp only at hSu); go_simp; try (with_reducible rfl)
            simp only [Act.put, List.setIfInBounds_toArray, List.set_cons_zero, List.set_cons_succ]
            refine heldH_take (n := 27) (i := 2) (oi := _) (v := ?vzc2) (dst := some 14) rfl rfl rfl (by kernel_rfl) (by kernel_rfl) (by kernel_rfl) (fun _ _ _ h => h) (Or.inl ⟨by rfl, ?hyzc2⟩) (by assumption) ?restzc2
            case hyzc2 => intro u hSu; (try dsimp only at hSu); go_simp; try (with_reducible rfl)
            simp only [Act.put, List.setIfInBounds_toArray, List.set_cons_zero, List.set_cons_succ]
            refine heldH_take (n := 26) (i := 3) (oi := _) (v := ?vzc3) (dst := some 15) rfl rfl rfl (by kernel_rfl) (by kernel_rfl) (by kernel_rfl) (fun _ _ _ h => h) (Or.inl ⟨by rfl, ?hyzc3⟩) (by assumption) ?restzc3
            case hyzc3 => intro u hSu; (try dsimp only at hSu); go_simp; try (with_reducible rfl)
            simp only [Act.put, List.setIfInBounds_toArray, List.set_cons_zero, List.set_cons_succ]
            refine heldH_take (n := 25) (i := 4) (oi := _) (v := ?vzc4) (dst := some 16) rfl rfl rfl (by kernel_rfl) (by kernel_rfl) (by kernel_rfl) (fun _ _ _ h => h) (Or.inl ⟨by rfl, ?hyzc4⟩) (by assumption) ?restzc4
            case hyzc4 => intro u hSu; (try dsimp only at hSu); go_simp; try (with_reducible rfl)
            simp only [Act.put, List.setIfInBounds_toArray, List.set_cons_zero, List.set_cons_succ]
            refine heldH_take (n := 24) (i := 5) (oi := _) (v := ?vzc5) (dst := some 17) rfl rfl rfl (by kernel_rfl) (by kernel_rfl) (by kernel_rfl) (fun _ _ _ h => h) (Or.inl ⟨by rfl, ?hyzc5⟩) (by assumption) ?restzc5
            case hyzc5 => intro u hSu; (try dsimp only at hSu); go_simp; try (with_reducible rfl)
            simp only [Act.put, List.setIfInBounds_toArray, List.set_cons_zero, List.set_cons_succ]
            refine heldH_take (n := 23) (i := 6) (oi := _) (v := ?vzc6) (dst := some 18) rfl rfl rfl (by kernel_rfl) (by kernel_rfl) (by kernel_rfl) (fun _ _ _ h => h) (Or.inl ⟨by rfl, ?hyzc6⟩) (by assumption) ?restzc6
            case hyzc6 => intro u hSu; (try dsimp only at hSu); go_simp; try (with_reducible rfl)
            simp only [Act.put, List.setIfInBounds_toArray, List.set_cons_zero, List.set_cons_succ]
            refine heldH_take (n := 22) (i := 7) (oi := _) (v := undef) (dst := some 19) rfl rfl rfl (by kernel_rfl) (by kernel_rfl) (by kernel_rfl) (fun _ _ _ h => h) (Or.inr ⟨by rfl, rfl⟩) (by assumption) ?restzc7
            simp only [Act.put, List.setIfInBounds_toArray, List.set_cons_zero, List.set_cons_succ]
            refine heldH_take (n := 21) (i := 8) (oi := _) (v := undef) (dst := some 20) rfl rfl rfl (by kernel_rfl) (by kernel_rfl) (by kernel_rfl) (fun _ _ _ h => h) (Or.inr ⟨by rfl, rfl⟩) (by assumption) ?restzc8
            simp only [Act.put, List.setIfInBounds_toArray, List.set_cons_zero, List.set_cons_succ]
            refine heldH_take (n := 20) (i := 9) (oi := _) (v := undef) (dst := some 21) rfl rfl rfl (by kernel_rfl) (by kernel_rfl) (by kernel_rfl) (fun _ _ _ h => h) (Or.inr ⟨by rfl, rfl⟩) (by assumption) ?restzc9
            simp only [Act.put, List.setIfInBounds_toArray, List.set_cons_zero, List.set_cons_succ]
            refine heldH_take (n := 19) (i := 10) (oi := _) (v := undef) (dst := some 22) rfl rfl rfl (by kernel_rfl) (by kernel_rfl) (by kernel_rfl) (fun _ _ _ h => h) (Or.inr ⟨by rfl, rfl⟩) (by assumption) ?restzc10
            simp only [Act.put, List.setIfInBounds_toArray, List.set_cons_zero, List.set_cons_succ]
            refine heldH_take (n := 18) (i := 11) (oi := _) (v := undef) (dst := some 23) rfl rfl rfl (by kernel_rfl) (by kernel_rfl) (by kernel_rfl) (fun _ _ _ h => h) (Or.inr ⟨by rfl, rfl⟩) (by assumption) ?restzc11
            simp only [Act.put, List.setIfInBounds_toArray, List.set_cons_zero, List.set_cons_succ]
            refine heldH_take (n := 17) (i := 12) (oi := _) (v := undef) (dst := some 24) rfl rfl rfl (by kernel_rfl) (by kernel_rfl) (by kernel_rfl) (fun _ _ _ h => h) (Or.inr ⟨by rfl, rfl⟩) (by assumption) ?restzc12
            simp only [Act.put, List.setIfInBounds_toArray, List.set_cons_zero, List.set_cons_succ]
            refine heldH_take (n := 16) (i := 13) (oi := _) (v := undef) (dst := some 25) rfl rfl rfl (by kernel_rfl) (by kernel_rfl) (by kernel_rfl) (fun _ _ _ h => h) (Or.inr ⟨by rfl, rfl⟩) (by assumption) ?restzc13
            simp only [Act.put, List.setIfInBounds_toArray, List.set_cons_zero, List.set_cons_succ]
            refine heldH_take (n := 15) (i := 14) (oi := _) (v := undef) (dst := some 26) rfl rfl rfl (by kernel_rfl) (by kernel_rfl) (by kernel_rfl) (fun _ _ _ h => h) (Or.inr ⟨by rfl, rfl⟩) (by assumption) ?restzc14
            simp only [Act.put, List.setIfInBounds_toArray, List.set_cons_zero, List.set_cons_succ]
            refine heldH_take (n := 14) (i := 15) (oi := _) (v := undef) (dst := some 27) rfl rfl rfl (by kernel_rfl) (by kernel_rfl) (by kernel_rfl) (fun _ _ _ h => h) (Or.inr ⟨by rfl, rfl⟩) (by assumption) ?restzc15
            simp only [Act.put, List.setIfInBounds_toArray, List.set_cons_zero, List.set_cons_succ]
            refine heldH_take (n := 13) (i := 16) (oi := _) (v := ?vzc16) (dst := some 28) rfl rfl rfl (by kernel_rfl) (by kernel_rfl) (by kernel_rfl) (fun _ _ _ h => h) (Or.inl ⟨by rfl, ?hyzc16⟩) (by assumption) ?restzc16
            case hyzc16 => intro u hSu; (try dsimp only at hSu); go_simp; try (with_reducible rfl)
            simp only [Act.put, List.setIfInBounds_toArray, List.set_cons_zero, List.set_cons_succ]
            refine heldH_take (n := 12) (i := 17) (oi := _) (v := ?vzc17) (dst := some 29) rfl rfl rfl (by kernel_rfl) (by kernel_rfl) (by kernel_rfl) (fun _ _ _ h => h) (Or.inl ⟨by rfl, ?hyzc17⟩) (by assumption) ?restzc17
            case hyzc17 => intro u hSu; (try dsimp only at hSu); go_simp; try (with_reducible rfl)
            simp only [Act.put, List.setIfInBounds_toArray, List.set_cons_zero, List.set_cons_succ]
            refine heldH_take (n := 11) (i := 18) (oi := _) (v := ?vzc18) (dst := some 30) rfl rfl rfl (by kernel_rfl) (by kernel_rfl) (by kernel_rfl) (fun _ _ _ h => h) (Or.inl ⟨by rfl, ?hyzc18⟩) (by assumption) ?restzc18
            case hyzc18 => intro u hSu; (try dsimp only at hSu); go_simp; try (with_reducible rfl)
            simp only [Act.put, List.setIfInBounds_toArray, List.set_cons_zero, List.set_cons_succ]
            refine heldH_take (n := 10) (i := 19) (oi := _) (v := ?vzc19) (dst := some 31) rfl rfl rfl (by kernel_rfl) (by kernel_rfl) (by kernel_rfl) (fun _ _ _ h => h) (Or.inl ⟨by rfl, ?hyzc19⟩) (by assumption) ?restzc19
            case hyzc19 => intro u hSu; (try dsimp only at hSu); go_simp; try (with_reducible rfl)
            simp only [Act.put, List.setIfInBounds_toArray, List.set_cons_zero, List.set_cons_succ]
            refine heldH_take (n := 9) (i := 20) (oi := _) (v := ?vzc20) (dst := some 32) rfl rfl rfl (by kernel_rfl) (by kernel_rfl) (by kernel_rfl) (fun _ _ _ h => h) (Or.inl ⟨by rfl, ?hyzc20⟩) (by assumption) ?restzc20
            case hyzc20 => intro u hSu; (try dsimp only at hSu); go_simp; try (with_reducible rfl)
            simp only [Act.put, List.setIfInBounds_toArray, List.set_cons_zero, List.set_cons_succ]
            refine heldH_step (n := 8) (i := 21) (o := _) rfl (by kernel_rfl) rfl (fun K hK => ?_)
            have HK2 := Lib.hid hK
            clear hK
            go_simp
            refine (HW1.out _).mono ?_
            rintro e w5 ⟨rfl, rfl⟩
            go_simp
            refine HK2.out _ _ hHeld (fun hHeld => ?_)
            clear HK2 K
            refine heldH_take (n := 7) (i := 22) (oi := _) (v := ?vzc22) (dst := some 34) rfl rfl rfl (by kernel_rfl) (by kernel_rfl) (by kernel_rfl) (fun _ _ _ h => h) (Or.inl ⟨by rfl, ?hyzc22⟩) (by assumption) ?restzc22
            case hyzc22 => intro u hSu; (try dsimp only at hSu); go_simp; try (with_reducible rfl)
            simp only [Act.put, List.setIfInBounds_toArray, List.set_cons_zero, List.set_cons_succ]
            refine heldH_take (n := 6) (i := 23) (oi := _) (v := ?vzc23) (dst := some 35) rfl rfl rfl (by kernel_rfl) (by kernel_rfl) (by kernel_rfl) (fun _ _ _ h => h) (Or.inl ⟨by rfl, ?hyzc23⟩) (by assumption) ?restzc23
            case hyzc23 => intro u hSu; (try dsimp only at hSu); go_simp; try (with_reducible rfl)
            simp only [Act.put, List.setIfInBounds_toArray, List.set_cons_zero, List.set_cons_succ]
            refine heldH_take (n := 5) (i := 24) (oi := _) (v := ?vzc24) (dst := some 36) rfl rfl rfl (by kernel_rfl) (by kernel_rfl) (by kernel_rfl) (fun _ _ _ h => h) (Or.inl ⟨by rfl, ?hyzc24⟩) (by assumption) ?restzc24
            case hyzc24 => intro u hSu; (try dsimp only at hSu); go_simp; try (with_reducible rfl)
            simp only [Act.put, List.setIfInBounds_toArray, List.set_cons_zero, List.set_cons_succ]
            refine heldH_take (n := 4) (i := 25) (oi := _) (v := undef) (dst := some 37) rfl rfl rfl (by kernel_rfl) (by kernel_rfl) (by kernel_rfl) (fun _ _ _ h => h) (Or.inr ⟨by rfl, rfl⟩) (by assumption) ?restzc25
            simp only [Act.put, List.setIfInBounds_toArray, List.set_cons_zero, List.set_cons_succ]
            refine heldH_take (n := 3) (i := 26) (oi := _) (v := undef) (dst := some 38) rfl rfl rfl (by kernel_rfl) (by kernel_rfl) (by kernel_rfl) (fun _ _ _ h => h) (Or.inr ⟨by rfl, rfl⟩) (by assumption) ?restzc26
            simp only [Act.put, List.setIfInBounds_toArray, List.set_cons_zero, List.set_cons_succ]
            refine heldH_take (n := 2) (i := 27) (oi := _) (v := undef) (dst := some 39) rfl rfl rfl (by kernel_rfl) (by kernel_rfl) (by kernel_rfl) (fun _ _ _ h => h) (Or.inr ⟨by rfl, rfl⟩) (by assumption) ?restzc27
            simp only [Act.put, List.setIfInBounds_toArray, List.set_cons_zero, List.set_cons_succ]
            refine heldH_take (n := 1) (i := 28) (oi := _) (v := undef) (dst := some 40) rfl rfl rfl (by kernel_rfl) (by kernel_rfl) (by kernel_rfl) (fun _ _ _ h => h) (Or.inr ⟨by rfl, rfl⟩) (by assumption) ?restzc28
            simp only [Act.put, List.setIfInBounds_toArray, List.set_cons_zero, List.set_cons_succ]
            refine heldH_take (n := 0) (i := 29) (oi := _) (v := ?vzc29) (dst := some 41) rfl rfl rfl (by kernel_rfl) (by kernel_rfl) (by kernel_rfl) (fun _ _ _ h => h) (Or.inl ⟨by rfl, ?hyzc29⟩) (by assumption) ?restzc29
            case hyzc29 => intro u hSu; (try dsimp only at hSu); go_simp; try (with_reducible rfl)
            simp only [Act.put, List.setIfInBounds_toArray, List.set_cons_zero, List.set_cons_succ]
            refine wpAnyH_done (by kernel_rfl) ?_ _
            go_wp2
            go_ret
            exact ⟨false, rfl, ⟨(fun h => by cases h), fun h => absurd h HNN.out⟩, HBD.out⟩
        · have hig : 0 < i := by omega
          obtain ⟨hah, hpc⟩ := HPP.out (by omega)
          have hwi : IntKind.i64.wrap ((i : Int) - 1) = ((i - 1 : Nat) : Int) := by rw [sc_wrapJ (by omega) (by omega)]; omega
          have hi1 : (0 : Int) ≤ ((i - 1 : Nat) : Int) := by omega
          have hi2 : ((i - 1 : Nat) : Int) < (n : Int) := by omega
          rw [← hah] at hpc
          have HS0 := Lib.hid (show (wa.drew.cell? ⟨eb, 0, none⟩ = some (.int .i64 x1) ∧ wa.drew.cell? ⟨eb, 1, none⟩ = some (.int .i64 x2) ∧ wa.drew.cell? ⟨eb, 2, none⟩ = some (.int .i64 x3) ∧ wa.drew.cell? ⟨ab, off + (i - 1) * 4, none⟩ = some (.int .i64 ah)) from ⟨HC3.out.1, HC3.out.2.1, HC3.out.2.2, hpc⟩)
          clear hah hpc HPP
          by_cases hle : x1 ≤ ah
          · have HNN := Lib.hid (HN.out fun h => by have := (HST.out.1 h).2.1; (try dsimp only at this); omega)
            clear HN
            --Ll
            refine region_heldH (S := (fun u => u.cell? ⟨eb, 0, none⟩ = some (.int .i64 x1) ∧ u.cell? ⟨eb, 1, none⟩ = some (.int .i64 x2) ∧ u.cell? ⟨eb, 2, none⟩ = some (.int .i64 x3) ∧ u.cell? ⟨ab, off + (i - 1) * 4, none⟩ = some (.int .i64 ah))) 30 rfl (by kernel_rfl) HS0.out (fun hHeld => ?_)
            refine heldH_take (n := 29) (i := 0) (oi := _) (v := ?vl0) (dst := some 12) rfl rfl rfl (by kernel_rfl) (by kernel_rfl) (by kernel_rfl) (fun _ _ _ h => h) (Or.inl ⟨by rfl, ?hyl0⟩) (by assumption) ?restl0
            case hyl0 => intro u hSu; (try dsimp only at hSu); go_simp; try (with_reducible rfl)
            simp only [Act.put, List.setIfInBounds_toArray, List.set_cons_zero, List.set_cons_succ]
            refine heldH_take (n := 28) (i := 1) (oi := _) (v := ?vl1) (dst := some 13) rfl rfl rfl (by kernel_rfl) (by kernel_rfl) (by kernel_rfl) (fun _ _ _ h => h) (Or.inl ⟨by rfl, ?hyl1⟩) (by assumption) ?restl1
            case hyl1 => intro u hSu; (try dsimp only at hSu); go_simp; try (with_reducible rfl)
            simp only [Act.put, List.setIfInBounds_toArray, List.set_cons_zero, List.set_cons_succ]
            refine heldH_take (n := 27) (i := 2) (oi := _) (v := ?vl2) (dst := some 14) rfl rfl rfl (by kernel_rfl) (by kernel_rfl) (by kernel_rfl) (fun _ _ _ h => h) (Or.inl ⟨by rfl, ?hyl2⟩) (by assumption) ?restl2
            case hyl2 => intro u hSu; (try dsimp only at hSu); go_simp; try (with_reducible rfl)
            simp only [Act.put, List.setIfInBounds_toArray, List.set_cons_zero, List.set_cons_succ]
            refine heldH_take (n := 26) (i := 3) (oi := _) (v := ?vl3) (dst := some 15) rfl rfl rfl (by kernel_rfl) (by kernel_rfl) (by kernel_rfl) (fun _ _ _ h => h) (Or.inl ⟨by rfl, ?hyl3⟩) (by assumption) ?restl3
            case hyl3 => intro u hSu; (try dsimp only at hSu); go_simp; try (with_reducible rfl)
            simp only [Act.put, List.setIfInBounds_toArray, List.set_cons_zero, List.set_cons_succ]
            refine heldH_take (n := 25) (i := 4) (oi := _) (v := ?vl4) (dst := some 16) rfl rfl rfl (by kernel_rfl) (by kernel_rfl) (by kernel_rfl) (fun _ _ _ h => h) (Or.inl ⟨by rfl, ?hyl4⟩) (by assumption) ?restl4
            case hyl4 => intro u hSu; (try dsimp only at hSu); go_simp; try (with_reducible rfl)
            simp only [Act.put, List.setIfInBounds_toArray, List.set_cons_zero, List.set_cons_succ]
            refine heldH_take (n := 24) (i := 5) (oi := _) (v := ?vl5) (dst := some 17) rfl rfl rfl (by kernel_rfl) (by kernel_rfl) (by kernel_rfl) (fun _ _ _ h => h) (Or.inl ⟨by rfl, ?hyl5⟩) (by assumption) ?restl5
            case hyl5 => intro u hSu; (try dsimp only at hSu); go_simp; try (with_reducible rfl)
            simp only [Act.put, List.setIfInBounds_toArray, List.set_cons_zero, List.set_cons_succ]
            refine heldH_take (n := 23) (i := 6) (oi := _) (v := ?vl6) (dst := some 18) rfl rfl rfl (by kernel_rfl) (by kernel_rfl) (by kernel_rfl) (fun _ _ _ h => h) (Or.inl ⟨by rfl, ?hyl6⟩) (by assumption) ?restl6
            case hyl6 => intro u hSu; (try dsimp only at hSu); go_simp; try (with_reducible rfl)
            simp only [Act.put, List.setIfInBounds_toArray, List.set_cons_zero, List.set_cons_succ]
            refine heldH_take (n := 22) (i := 7) (oi := _) (v := ?vl7) (dst := some 19) rfl rfl rfl (by kernel_rfl) (by kernel_rfl) (by kernel_rfl) (fun _ _ _ h => h) (Or.inl ⟨by rfl, ?hyl7⟩) (by assumption) ?restl7
            case hyl7 => intro u hSu; (try dsimp only at hSu); go_simp; try (with_reducible rfl)
            simp only [Act.put, List.setIfInBounds_toArray, List.set_cons_zero, List.set_cons_succ]
            refine heldH_take (n := 21) (i := 8) (oi := _) (v := ?vl8) (dst := some 20) rfl rfl rfl (by kernel_rfl) (by kernel_rfl) (by kernel_rfl) (fun _ _ _ h => h) (Or.inl ⟨by rfl, ?hyl8⟩) (by assumption) ?restl8
            case hyl8 => intro u hSu; (try dsimp only at hSu); go_simp; try (with_reducible rfl)
            simp only [Act.put, List.setIfInBounds_toArray, List.set_cons_zero, List.set_cons_succ]
            refine heldH_take (n := 20) (i := 9) (oi := _) (v := ?vl9) (dst := some 21) rfl rfl rfl (by kernel_rfl) (by kernel_rfl) (by kernel_rfl) (fun _ _ _ h => h) (Or.inl ⟨by rfl, ?hyl9⟩) (by assumption) ?restl9
            case hyl9 => intro u hSu; (try dsimp only at hSu); go_simp; try (with_reducible rfl)
            simp only [Act.put, List.setIfInBounds_toArray, List.set_cons_zero, List.set_cons_succ]
            refine heldH_take (n := 19) (i := 10) (oi := _) (v := ?vl10) (dst := some 22) rfl rfl rfl (by kernel_rfl) (by kernel_rfl) (by kernel_rfl) (fun _ _ _ h => h) (Or.inl ⟨by rfl, ?hyl10⟩) (by assumption) ?restl10
            case hyl10 => intro u hSu; (try dsimp only at hSu); go_simp; try (with_reducible rfl)
            simp only [Act.put, List.setIfInBounds_toArray, List.set_cons_zero, List.set_cons_succ]
            refine heldH_take (n := 18) (i := 11) (oi := _) (v := ?vl11) (dst := some 23) rfl rfl rfl (by kernel_rfl) (by kernel_rfl) (by kernel_rfl) (fun _ _ _ h => h) (Or.inl ⟨by rfl, ?hyl11⟩) (by assumption) ?restl11
            case hyl11 => intro u hSu; (try dsimp only at hSu); go_simp; try (with_reducible rfl)
            simp only [Act.put, List.setIfInBounds_toArray, List.set_cons_zero, List.set_cons_succ]
            refine heldH_take (n := 17) (i := 12) (oi := _) (v := ?vl12) (dst := some 24) rfl rfl rfl (by kernel_rfl) (by kernel_rfl) (by kernel_rfl) (fun _ _ _ h => h) (Or.inl ⟨by rfl, ?hyl12⟩) (by assumption) ?restl12
            case hyl12 => intro u hSu; (try dsimp only at hSu); go_simp; try (with_reducible rfl)
            simp only [Act.put, List.setIfInBounds_toArray, List.set_cons_zero, List.set_cons_succ]
            refine heldH_take (n := 16) (i := 13) (oi := _) (v := ?vl13) (dst := some 25) rfl rfl rfl (by kernel_rfl) (by kernel_rfl) (by kernel_rfl) (fun _ _ _ h => h) (Or.inl ⟨by rfl, ?hyl13⟩) (by assumption) ?restl13
            case hyl13 => intro u hSu; (try dsimp only at hSu); go_simp; try (with_reducible rfl)
            simp only [Act.put, List.setIfInBounds_toArray, List.set_cons_zero, List.set_cons_succ]
            refine heldH_take (n := 15) (i := 14) (oi := _) (v := ?vl14) (dst := some 26) rfl rfl rfl (by kernel_rfl) (by kernel_rfl) (by kernel_rfl) (fun _ _ _ h => h) (Or.inl ⟨by rfl, ?hyl14⟩) (by assumption) ?restl14
            case hyl14 => intro u hSu; (try dsimp only at hSu); go_simp; try (with_reducible rfl)
            simp only [Act.put, List.setIfInBounds_toArray, List.set_cons_zero, List.set_cons_succ]
            refine heldH_take (n := 14) (i := 15) (oi := _) (v := ?vl15) (dst := some 27) rfl rfl rfl (by kernel_rfl) (by kernel_rfl) (by kernel_rfl) (fun _ _ _ h => h) (Or.inl ⟨by rfl, ?hyl15⟩) (by assumption) ?restl15
            case hyl15 => intro u hSu; (try dsimp only at hSu); go_simp; try (with_reducible rfl)
            simp only [Act.put, List.setIfInBounds_toArray, List.set_cons_zero, List.set_cons_succ]
            refine heldH_take (n := 13) (i := 16) (oi := _) (v := ?vl16) (dst := some 28) rfl rfl rfl (by kernel_rfl) (by kernel_rfl) (by kernel_rfl) (fun _ _ _ h => h) (Or.inl ⟨by rfl, ?hyl16⟩) (by assumption) ?restl16
            case hyl16 => intro u hSu; (try dsimp only at hSu); go_simp; try (with_reducible rfl)
            simp only [Act.put, List.setIfInBounds_toArray, List.set_cons_zero, List.set_cons_succ]
            refine heldH_take (n := 12) (i := 17) (oi := _) (v := ?vl17) (dst := some 29) rfl rfl rfl (by kernel_rfl) (by kernel_rfl) (by kernel_rfl) (fun _ _ _ h => h) (Or.inl ⟨by rfl, ?hyl17⟩) (by assumption) ?restl17
            case hyl17 => intro u hSu; (try dsimp only at hSu); go_simp; try (with_reducible rfl)
            simp only [Act.put, List.setIfInBounds_toArray, List.set_cons_zero, List.set_cons_succ]
            refine heldH_take (n := 11) (i := 18) (oi := _) (v := ?vl18) (dst := some 30) rfl rfl rfl (by kernel_rfl) (by kernel_rfl) (by kernel_rfl) (fun _ _ _ h => h) (Or.inl ⟨by rfl, ?hyl18⟩) (by assumption) ?restl18
            case hyl18 => intro u hSu; (try dsimp only at hSu); go_simp; try (with_reducible rfl)
            simp only [Act.put, List.setIfInBounds_toArray, List.set_cons_zero, List.set_cons_succ]
            refine heldH_take (n := 10) (i := 19) (oi := _) (v := undef) (dst := some 31) rfl rfl rfl (by kernel_rfl) (by kernel_rfl) (by kernel_rfl) (fun _ _ _ h => h) (Or.inr ⟨by rfl, rfl⟩) (by assumption) ?restl19
            simp only [Act.put, List.setIfInBounds_toArray, List.set_cons_zero, List.set_cons_succ]
            refine heldH_take (n := 9) (i := 20) (oi := _) (v := undef) (dst := some 32) rfl rfl rfl (by kernel_rfl) (by kernel_rfl) (by kernel_rfl) (fun _ _ _ h => h) (Or.inr ⟨by rfl, rfl⟩) (by assumption) ?restl20
            simp only [Act.put, List.setIfInBounds_toArray, List.set_cons_zero, List.set_cons_succ]
            refine heldH_take (n := 8) (i := 21) (oi := _) (v := undef) (dst := some 33) rfl rfl rfl (by kernel_rfl) (by kernel_rfl) (by kernel_rfl) (fun _ _ _ h => h) (Or.inr ⟨by rfl, rfl⟩) (by assumption) ?restl21
            simp only [Act.put, List.setIfInBounds_toArray, List.set_cons_zero, List.set_cons_succ]
            refine heldH_take (n := 7) (i := 22) (oi := _) (v := undef) (dst := some 34) rfl rfl rfl (by kernel_rfl) (by kernel_rfl) (by kernel_rfl) (fun _ _ _ h => h) (Or.inr ⟨by rfl, rfl⟩) (by assumption) ?restl22
            simp only [Act.put, List.setIfInBounds_toArray, List.set_cons_zero, List.set_cons_succ]
            refine heldH_take (n := 6) (i := 23) (oi := _) (v := ?vl23) (dst := some 35) rfl rfl rfl (by kernel_rfl) (by kernel_rfl) (by kernel_rfl) (fun _ _ _ h => h) (Or.inl ⟨by rfl, ?hyl23⟩) (by assumption) ?restl23
            case hyl23 => intro u hSu; (try dsimp only at hSu); go_simp; try (with_reducible rfl)
            simp only [Act.put, List.setIfInBounds_toArray, List.set_cons_zero, List.set_cons_succ]
            refine heldH_take (n := 5) (i := 24) (oi := _) (v := ?vl24) (dst := some 36) rfl rfl rfl (by kernel_rfl) (by kernel_rfl) (by kernel_rfl) (fun _ _ _ h => h) (Or.inl ⟨by rfl, ?hyl24⟩) (by assumption) ?restl24
            case hyl24 => intro u hSu; (try dsimp only at hSu); go_simp; try (with_reducible rfl)
            simp only [Act.put, List.setIfInBounds_toArray, List.set_cons_zero, List.set_cons_succ]
            refine heldH_take (n := 4) (i := 25) (oi := _) (v := undef) (dst := some 37) rfl rfl rfl (by kernel_rfl) (by kernel_rfl) (by kernel_rfl) (fun _ _ _ h => h) (Or.inr ⟨by rfl, rfl⟩) (by assumption) ?restl25
            simp only [Act.put, List.setIfInBounds_toArray, List.set_cons_zero, List.set_cons_succ]
            refine heldH_take (n := 3) (i := 26) (oi := _) (v := undef) (dst := some 38) rfl rfl rfl (by kernel_rfl) (by kernel_rfl) (by kernel_rfl) (fun _ _ _ h => h) (Or.inr ⟨by rfl, rfl⟩) (by assumption) ?restl26
            simp only [Act.put, List.setIfInBounds_toArray, List.set_cons_zero, List.set_cons_succ]
            refine heldH_take (n := 2) (i := 27) (oi := _) (v := undef) (dst := some 39) rfl rfl rfl (by kernel_rfl) (by kernel_rfl) (by kernel_rfl) (fun _ _ _ h => h) (Or.inr ⟨by rfl, rfl⟩) (by assumption) ?restl27
            simp only [Act.put, List.setIfInBounds_toArray, List.set_cons_zero, List.set_cons_succ]
            refine heldH_take (n := 1) (i := 28) (oi := _) (v := undef) (dst := some 40) rfl rfl rfl (by kernel_rfl) (by kernel_rfl) (by kernel_rfl) (fun _ _ _ h => h) (Or.inr ⟨by rfl, rfl⟩) (by assumption) ?restl28
            simp only [Act.put, List.setIfInBounds_toArray, List.set_cons_zero, List.set_cons_succ]
            refine heldH_take (n := 0) (i := 29) (oi := _) (v := ?vl29) (dst := some 41) rfl rfl rfl (by kernel_rfl) (by kernel_rfl) (by kernel_rfl) (fun _ _ _ h => h) (Or.inl ⟨by rfl, ?hyl29⟩) (by assumption) ?restl29
            case hyl29 => intro u hSu; (try dsimp only at hSu); go_simp; try (with_reducible rfl)
            simp only [Act.put, List.setIfInBounds_toArray, List.set_cons_zero, List.set_cons_succ]
            refine wpAnyH_done (by kernel_rfl) ?_ _
            go_wp2
            go_ret
            exact ⟨false, rfl, ⟨(fun h => by cases h), fun h => absurd h HNN.out⟩, HBD.out⟩
          · have HPW := Lib.hid (show ah < x1 by omega)
            by_cases h2 : 1 ≤ x2 ∧ x2 ≤ 3
            · rw [decide_eq_true h2] at HW1
              by_cases h3 : 0 ≤ x3 ∧ x3 ≤ 15
              · rw [decide_eq_true h3] at HW2
                have HOK := Lib.hid (HST.out.2 ⟨HR.out, HPW.out, h2.1, h2.2, h3.1, (show x3 < 16 by omega)⟩)
                clear HN h2 h3
                --Lga
                refine region_heldH (S := (fun u => u.cell? ⟨eb, 0, none⟩ = some (.int .i64 x1) ∧ u.cell? ⟨eb, 1, none⟩ = some (.int .i64 x2) ∧ u.cell? ⟨eb, 2, none⟩ = some (.int .i64 x3) ∧ u.cell? ⟨ab, off + (i - 1) * 4, none⟩ = some (.int .i64 ah))) 30 rfl (by kernel_rfl) HS0.out (fun hHeld => ?_)
                refine heldH_take (n := 29) (i := 0) (oi := _) (v := ?vga0) (dst := some 12) rfl rfl rfl (by kernel_rfl) (by kernel_rfl) (by kernel_rfl) (fun _ _ _ h => h) (Or.inl ⟨by rfl, ?hyga0⟩) (by assumption) ?restga0
                case hyga0 => intro u hSu; (try dsimp only at hSu); go_simp; try (with_reducible rfl)
                simp only [Act.put, List.setIfInBounds_toArray, List.set_cons_zero, List.set_cons_succ]
                refine heldH_take (n := 28) (i := 1) (oi := _) (v := ?vga1) (dst := some 13) rfl rfl rfl (by kernel_rfl) (by kernel_rfl) (by kernel_rfl) (fun _ _ _ h => h) (Or.inl ⟨by rfl, ?hyga1⟩) (by assumption) ?restga1
                case hyga1 => intro u hSu; (try dsimp only at hSu); go_simp; try (with_reducible rfl)
                simp only [Act.put, List.setIfInBounds_toArray, List.set_cons_zero, List.set_cons_succ]
                refine heldH_take (n := 27) (i := 2) (oi := _) (v := ?vga2) (dst := some 14) rfl rfl rfl (by kernel_rfl) (by kernel_rfl) (by kernel_rfl) (fun _ _ _ h => h) (Or.inl ⟨by rfl, ?hyga2⟩) (by assumption) ?restga2
                case hyga2 => intro u hSu; (try dsimp only at hSu); go_simp; try (with_reducible rfl)
                simp only [Act.put, List.setIfInBounds_toArray, List.set_cons_zero, List.set_cons_succ]
                refine heldH_take (n := 26) (i := 3) (oi := _) (v := ?vga3) (dst := some 15) rfl rfl rfl (by kernel_rfl) (by kernel_rfl) (by kernel_rfl) (fun _ _ _ h => h) (Or.inl ⟨by rfl, ?hyga3⟩) (by assumption) ?restga3
                case hyga3 => intro u hSu; (try dsimp only at hSu); go_simp; try (with_reducible rfl)
                simp only [Act.put, List.setIfInBounds_toArray, List.set_cons_zero, List.set_cons_succ]
                refine heldH_take (n := 25) (i := 4) (oi := _) (v := ?vga4) (dst := some 16) rfl rfl rfl (by kernel_rfl) (by kernel_rfl) (by kernel_rfl) (fun _ _ _ h => h) (Or.inl ⟨by rfl, ?hyga4⟩) (by assumption) ?restga4
                case hyga4 => intro u hSu; (try dsimp only at hSu); go_simp; try (with_reducible rfl)
                simp only [Act.put, List.setIfInBounds_toArray, List.set_cons_zero, List.set_cons_succ]
                refine heldH_take (n := 24) (i := 5) (oi := _) (v := ?vga5) (dst := some 17) rfl rfl rfl (by kernel_rfl) (by kernel_rfl) (by kernel_rfl) (fun _ _ _ h => h) (Or.inl ⟨by rfl, ?hyga5⟩) (by assumption) ?restga5
                case hyga5 => intro u hSu; (try dsimp only at hSu); go_simp; try (with_reducible rfl)
                simp only [Act.put, List.setIfInBounds_toArray, List.set_cons_zero, List.set_cons_succ]
                refine heldH_take (n := 23) (i := 6) (oi := _) (v := ?vga6) (dst := some 18) rfl rfl rfl (by kernel_rfl) (by kernel_rfl) (by kernel_rfl) (fun _ _ _ h => h) (Or.inl ⟨by rfl, ?hyga6⟩) (by assumption) ?restga6
                case hyga6 => intro u hSu; (try dsimp only at hSu); go_simp; try (with_reducible rfl)
                simp only [Act.put, List.setIfInBounds_toArray, List.set_cons_zero, List.set_cons_succ]
                refine heldH_take (n := 22) (i := 7) (oi := _) (v := ?vga7) (dst := some 19) rfl rfl rfl (by kernel_rfl) (by kernel_rfl) (by kernel_rfl) (fun _ _ _ h => h) (Or.inl ⟨by rfl, ?hyga7⟩) (by assumption) ?restga7
                case hyga7 => intro u hSu; (try dsimp only at hSu); go_simp; try (with_reducible rfl)
                simp only [Act.put, List.setIfInBounds_toArray, List.set_cons_zero, List.set_cons_succ]
                refine heldH_take (n := 21) (i := 8) (oi := _) (v := ?vga8) (dst := some 20) rfl rfl rfl (by kernel_rfl) (by kernel_rfl) (by kernel_rfl) (fun _ _ _ h => h) (Or.inl ⟨by rfl, ?hyga8⟩) (by assumption) ?restga8
                case hyga8 => intro u hSu; (try dsimp only at hSu); go_simp; try (with_reducible rfl)
                simp only [Act.put, List.setIfInBounds_toArray, List.set_cons_zero, List.set_cons_succ]
                refine heldH_take (n := 20) (i := 9) (oi := _) (v := ?vga9) (dst := some 21) rfl rfl rfl (by kernel_rfl) (by kernel_rfl) (by kernel_rfl) (fun _ _ _ h => h) (Or.inl ⟨by rfl, ?hyga9⟩) (by assumption) ?restga9
                case hyga9 => intro u hSu; (try dsimp only at hSu); go_simp; try (with_reducible rfl)
                simp only [Act.put, List.setIfInBounds_toArray, List.set_cons_zero, List.set_cons_succ]
                refine heldH_take (n := 19) (i := 10) (oi := _) (v := ?vga10) (dst := some 22) rfl rfl rfl (by kernel_rfl) (by kernel_rfl) (by kernel_rfl) (fun _ _ _ h => h) (Or.inl ⟨by rfl, ?hyga10⟩) (by assumption) ?restga10
                case hyga10 => intro u hSu; (try dsimp only at hSu); go_simp; try (with_reducible rfl)
                simp only [Act.put, List.setIfInBounds_toArray, List.set_cons_zero, List.set_cons_succ]
                refine heldH_take (n := 18) (i := 11) (oi := _) (v := ?vga11) (dst := some 23) rfl rfl rfl (by kernel_rfl) (by kernel_rfl) (by kernel_rfl) (fun _ _ _ h => h) (Or.inl ⟨by rfl, ?hyga11⟩) (by assumption) ?restga11
                case hyga11 => intro u hSu; (try dsimp only at hSu); go_simp; try (with_reducible rfl)
                simp only [Act.put, List.setIfInBounds_toArray, List.set_cons_zero, List.set_cons_succ]
                refine heldH_take (n := 17) (i := 12) (oi := _) (v := ?vga12) (dst := some 24) rfl rfl rfl (by kernel_rfl) (by kernel_rfl) (by kernel_rfl) (fun _ _ _ h => h) (Or.inl ⟨by rfl, ?hyga12⟩) (by assumption) ?restga12
                case hyga12 => intro u hSu; (try dsimp only at hSu); go_simp; try (with_reducible rfl)
                simp only [Act.put, List.setIfInBounds_toArray, List.set_cons_zero, List.set_cons_succ]
                refine heldH_take (n := 16) (i := 13) (oi := _) (v := ?vga13) (dst := some 25) rfl rfl rfl (by kernel_rfl) (by kernel_rfl) (by kernel_rfl) (fun _ _ _ h => h) (Or.inl ⟨by rfl, ?hyga13⟩) (by assumption) ?restga13
                case hyga13 => intro u hSu; (try dsimp only at hSu); go_simp; try (with_reducible rfl)
                simp only [Act.put, List.setIfInBounds_toArray, List.set_cons_zero, List.set_cons_succ]
                refine heldH_take (n := 15) (i := 14) (oi := _) (v := ?vga14) (dst := some 26) rfl rfl rfl (by kernel_rfl) (by kernel_rfl) (by kernel_rfl) (fun _ _ _ h => h) (Or.inl ⟨by rfl, ?hyga14⟩) (by assumption) ?restga14
                case hyga14 => intro u hSu; (try dsimp only at hSu); go_simp; try (with_reducible rfl)
                simp only [Act.put, List.setIfInBounds_toArray, List.set_cons_zero, List.set_cons_succ]
                refine heldH_take (n := 14) (i := 15) (oi := _) (v := ?vga15) (dst := some 27) rfl rfl rfl (by kernel_rfl) (by kernel_rfl) (by kernel_rfl) (fun _ _ _ h => h) (Or.inl ⟨by rfl, ?hyga15⟩) (by assumption) ?restga15
                case hyga15 => intro u hSu; (try dsimp only at hSu); go_simp; try (with_reducible rfl)
                simp only [Act.put, List.setIfInBounds_toArray, List.set_cons_zero, List.set_cons_succ]
                refine heldH_take (n := 13) (i := 16) (oi := _) (v := ?vga16) (dst := some 28) rfl rfl rfl (by kernel_rfl) (by kernel_rfl) (by kernel_rfl) (fun _ _ _ h => h) (Or.inl ⟨by rfl, ?hyga16⟩) (by assumption) ?restga16
                case hyga16 => intro u hSu; (try dsimp only at hSu); go_simp; try (with_reducible rfl)
                simp only [Act.put, List.setIfInBounds_toArray, List.set_cons_zero, List.set_cons_succ]
                refine heldH_take (n := 12) (i := 17) (oi := _) (v := ?vga17) (dst := some 29) rfl rfl rfl (by kernel_rfl) (by kernel_rfl) (by kernel_rfl) (fun _ _ _ h => h) (Or.inl ⟨by rfl, ?hyga17⟩) (by assumption) ?restga17
                case hyga17 => intro u hSu; (try dsimp only at hSu); go_simp; try (with_reducible rfl)
                simp only [Act.put, List.setIfInBounds_toArray, List.set_cons_zero, List.set_cons_succ]
                refine heldH_take (n := 11) (i := 18) (oi := _) (v := ?vga18) (dst := some 30) rfl rfl rfl (by kernel_rfl) (by kernel_rfl) (by kernel_rfl) (fun _ _ _ h => h) (Or.inl ⟨by rfl, ?hyga18⟩) (by assumption) ?restga18
                case hyga18 => intro u hSu; (try dsimp only at hSu); go_simp; try (with_reducible rfl)
                simp only [Act.put, List.setIfInBounds_toArray, List.set_cons_zero, List.set_cons_succ]
                refine heldH_take (n := 10) (i := 19) (oi := _) (v := ?vga19) (dst := some 31) rfl rfl rfl (by kernel_rfl) (by kernel_rfl) (by kernel_rfl) (fun _ _ _ h => h) (Or.inl ⟨by rfl, ?hyga19⟩) (by assumption) ?restga19
                case hyga19 => intro u hSu; (try dsimp only at hSu); go_simp; try (with_reducible rfl)
                simp only [Act.put, List.setIfInBounds_toArray, List.set_cons_zero, List.set_cons_succ]
                refine heldH_take (n := 9) (i := 20) (oi := _) (v := ?vga20) (dst := some 32) rfl rfl rfl (by kernel_rfl) (by kernel_rfl) (by kernel_rfl) (fun _ _ _ h => h) (Or.inl ⟨by rfl, ?hyga20⟩) (by assumption) ?restga20
                case hyga20 => intro u hSu; (try dsimp only at hSu); go_simp; try (with_reducible rfl)
                simp only [Act.put, List.setIfInBounds_toArray, List.set_cons_zero, List.set_cons_succ]
                refine heldH_step (n := 8) (i := 21) (o := _) rfl (by kernel_rfl) rfl (fun K hK => ?_)
                have HK2 := Lib.hid hK
                clear hK
                go_simp
                refine (HW1.out _).mono ?_
                rintro e w5 ⟨rfl, rfl⟩
                go_simp
                refine HK2.out _ _ hHeld (fun hHeld => ?_)
                clear HK2 K
                refine heldH_take (n := 7) (i := 22) (oi := _) (v := ?vga22) (dst := some 34) rfl rfl rfl (by kernel_rfl) (by kernel_rfl) (by kernel_rfl) (fun _ _ _ h => h) (Or.inl ⟨by rfl, ?hyga22⟩) (by assumption) ?restga22
                case hyga22 => intro u hSu; (try dsimp only at hSu); go_simp; try (with_reducible rfl)
                simp only [Act.put, List.setIfInBounds_toArray, List.set_cons_zero, List.set_cons_succ]
                refine heldH_take (n := 6) (i := 23) (oi := _) (v := ?vga23) (dst := some 35) rfl rfl rfl (by kernel_rfl) (by kernel_rfl) (by kernel_rfl) (fun _ _ _ h => h) (Or.inl ⟨by rfl, ?hyga23⟩) (by assumption) ?restga23
                case hyga23 => intro u hSu; (try dsimp only at hSu); go_simp; try (with_reducible rfl)
                simp only [Act.put, List.setIfInBounds_toArray, List.set_cons_zero, List.set_cons_succ]
                refine heldH_take (n := 5) (i := 24) (oi := _) (v := ?vga24) (dst := some 36) rfl rfl rfl (by kernel_rfl) (by kernel_rfl) (by kernel_rfl) (fun _ _ _ h => h) (Or.inl ⟨by rfl, ?hyga24⟩) (by assumption) ?restga24
                case hyga24 => intro u hSu; (try dsimp only at hSu); go_simp; try (with_reducible rfl)
                simp only [Act.put, List.setIfInBounds_toArray, List.set_cons_zero, List.set_cons_succ]
                refine heldH_take (n := 4) (i := 25) (oi := _) (v := ?vga25) (dst := some 37) rfl rfl rfl (by kernel_rfl) (by kernel_rfl) (by kernel_rfl) (fun _ _ _ h => h) (Or.inl ⟨by rfl, ?hyga25⟩) (by assumption) ?restga25
                case hyga25 => intro u hSu; (try dsimp only at hSu); go_simp; try (with_reducible rfl)
                simp only [Act.put, List.setIfInBounds_toArray, List.set_cons_zero, List.set_cons_succ]
                refine heldH_take (n := 3) (i := 26) (oi := _) (v := ?vga26) (dst := some 38) rfl rfl rfl (by kernel_rfl) (by kernel_rfl) (by kernel_rfl) (fun _ _ _ h => h) (Or.inl ⟨by rfl, ?hyga26⟩) (by assumption) ?restga26
                case hyga26 => intro u hSu; (try dsimp only at hSu); go_simp; try (with_reducible rfl)
                simp only [Act.put, List.setIfInBounds_toArray, List.set_cons_zero, List.set_cons_succ]
                refine heldH_step (n := 2) (i := 27) (o := _) rfl (by kernel_rfl) rfl (fun K hK => ?_)
                have HK2 := Lib.hid hK
                clear hK
                go_simp
                refine (HW2.out _).mono ?_
                rintro e w6 ⟨rfl, rfl⟩
                go_simp
                refine HK2.out _ _ hHeld (fun hHeld => ?_)
                clear HK2 K
                refine heldH_take (n := 1) (i := 28) (oi := _) (v := ?vga28) (dst := some 40) rfl rfl rfl (by kernel_rfl) (by kernel_rfl) (by kernel_rfl) (fun _ _ _ h => h) (Or.inl ⟨by rfl, ?hyga28⟩) (by assumption) ?restga28
                case hyga28 => intro u hSu; (try dsimp only at hSu); go_simp; try (with_reducible rfl)
                simp only [Act.put, List.setIfInBounds_toArray, List.set_cons_zero, List.set_cons_succ]
                refine heldH_take (n := 0) (i := 29) (oi := _) (v := ?vga29) (dst := some 41) rfl rfl rfl (by kernel_rfl) (by kernel_rfl) (by kernel_rfl) (fun _ _ _ h => h) (Or.inl ⟨by rfl, ?hyga29⟩) (by assumption) ?restga29
                case hyga29 => intro u hSu; (try dsimp only at hSu); go_simp; try (with_reducible rfl)
                simp only [Act.put, List.setIfInBounds_toArray, List.set_cons_zero, List.set_cons_succ]
                refine wpAnyH_done (by kernel_rfl) ?_ _
                go_wp2
                go_roundw
                case rel => exact ⟨i + 1, by omega, by go_num, HOK.out, HBD.out⟩
                case measure => simp [intOf]; omega
              · rw [decide_eq_false h3] at HW2
                have HNN := Lib.hid (HN.out fun h => by have := (HST.out.1 h).2; exact h3 ⟨this.2.2.2.1, by have q : x3 < 16 := this.2.2.2.2; omega⟩)
                clear HN h2 h3
                --Lgb
                refine region_heldH (S := (fun u => u.cell? ⟨eb, 0, none⟩ = some (.int .i64 x1) ∧ u.cell? ⟨eb, 1, none⟩ = some (.int .i64 x2) ∧ u.cell? ⟨eb, 2, none⟩ = some (.int .i64 x3) ∧ u.cell? ⟨ab, off + (i - 1) * 4, none⟩ = some (.int .i64 ah))) 30 rfl (by kernel_rfl) HS0.out (fun hHeld => ?_)
                refine heldH_take (n := 29) (i := 0) (oi := _) (v := ?vgb0) (dst := some 12) rfl rfl rfl (by kernel_rfl) (by kernel_rfl) (by kernel_rfl) (fun _ _ _ h => h) (Or.inl ⟨by rfl, ?hygb0⟩) (by assumption) ?restgb0
                case hygb0 => intro u hSu; (try dsimp only at hSu); go_simp; try (with_reducible rfl)
                simp only [Act.put, List.setIfInBounds_toArray, List.set_cons_zero, List.set_cons_succ]
                refine heldH_take (n := 28) (i := 1) (oi := _) (v := ?vgb1) (dst := some 13) rfl rfl rfl (by kernel_rfl) (by kernel_rfl) (by kernel_rfl) (fun _ _ _ h => h) (Or.inl ⟨by rfl, ?hygb1⟩) (by assumption) ?restgb1
                case hygb1 => intro u hSu; (try dsimp only at hSu); go_simp; try (with_reducible rfl)
                simp only [Act.put, List.setIfInBounds_toArray, List.set_cons_zero, List.set_cons_succ]
                refine heldH_take (n := 27) (i := 2) (oi := _) (v := ?vgb2) (dst := some 14) rfl rfl rfl (by kernel_rfl) (by kernel_rfl) (by kernel_rfl) (fun _ _ _ h => h) (Or.inl ⟨by rfl, ?hygb2⟩) (by assumption) ?restgb2
                case hygb2 => intro u hSu; (try dsimp only at hSu); go_simp; try (with_reducible rfl)
                simp only [Act.put, List.setIfInBounds_toArray, List.set_cons_zero, List.set_cons_succ]
                refine heldH_take (n := 26) (i := 3) (oi := _) (v := ?vgb3) (dst := some 15) rfl rfl rfl (by kernel_rfl) (by kernel_rfl) (by kernel_rfl) (fun _ _ _ h => h) (Or.inl ⟨by rfl, ?hygb3⟩) (by assumption) ?restgb3
                case hygb3 => intro u hSu; (try dsimp only at hSu); go_simp; try (with_reducible rfl)
                simp only [Act.put, List.setIfInBounds_toArray, List.set_cons_zero, List.set_cons_succ]
                refine heldH_take (n := 25) (i := 4) (oi := _) (v := ?vgb4) (dst := some 16) rfl rfl rfl (by kernel_rfl) (by kernel_rfl) (by kernel_rfl) (fun _ _ _ h => h) (Or.inl ⟨by rfl, ?hygb4⟩) (by assumption) ?restgb4
                case hygb4 => intro u hSu; (try dsimp only at hSu); go_simp; try (with_reducible rfl)
                simp only [Act.put, List.setIfInBounds_toArray, List.set_cons_zero, List.set_cons_succ]
                refine heldH_take (n := 24) (i := 5) (oi := _) (v := ?vgb5) (dst := some 17) rfl rfl rfl (by kernel_rfl) (by kernel_rfl) (by kernel_rfl) (fun _ _ _ h => h) (Or.inl ⟨by rfl, ?hygb5⟩) (by assumption) ?restgb5
                case hygb5 => intro u hSu; (try dsimp only at hSu); go_simp; try (with_reducible rfl)
                simp only [Act.put, List.setIfInBounds_toArray, List.set_cons_zero, List.set_cons_succ]
                refine heldH_take (n := 23) (i := 6) (oi := _) (v := ?vgb6) (dst := some 18) rfl rfl rfl (by kernel_rfl) (by kernel_rfl) (by kernel_rfl) (fun _ _ _ h => h) (Or.inl ⟨by rfl, ?hygb6⟩) (by assumption) ?restgb6
                case hygb6 => intro u hSu; (try dsimp only at hSu); go_simp; try (with_reducible rfl)
                simp only [Act.put, List.setIfInBounds_toArray, List.set_cons_zero, List.set_cons_succ]
                refine heldH_take (n := 22) (i := 7) (oi := _) (v := ?vgb7) (dst := some 19) rfl rfl rfl (by kernel_rfl) (by kernel_rfl) (by kernel_rfl) (fun _ _ _ h => h) (Or.inl ⟨by rfl, ?hygb7⟩) (by assumption) ?restgb7
                case hygb7 => intro u hSu; (try dsimp only at hSu); go_simp; try (with_reducible rfl)
                simp only [Act.put, List.setIfInBounds_toArray, List.set_cons_zero, List.set_cons_succ]
                refine heldH_take (n := 21) (i := 8) (oi := _) (v := ?vgb8) (dst := some 20) rfl rfl rfl (by kernel_rfl) (by kernel_rfl) (by kernel_rfl) (fun _ _ _ h => h) (Or.inl ⟨by rfl, ?hygb8⟩) (by assumption) ?restgb8
                case hygb8 => intro u hSu; (try dsimp only at hSu); go_simp; try (with_reducible rfl)
                simp only [Act.put, List.setIfInBounds_toArray, List.set_cons_zero, List.set_cons_succ]
                refine heldH_take (n := 20) (i := 9) (oi := _) (v := ?vgb9) (dst := some 21) rfl rfl rfl (by kernel_rfl) (by kernel_rfl) (by kernel_rfl) (fun _ _ _ h => h) (Or.inl ⟨by rfl, ?hygb9⟩) (by assumption) ?restgb9
                case hygb9 => intro u hSu; (try dsimp only at hSu); go_simp; try (with_reducible rfl)
                simp only [Act.put, List.setIfInBounds_toArray, List.set_cons_zero, List.set_cons_succ]
                refine heldH_take (n := 19) (i := 10) (oi := _) (v := ?vgb10) (dst := some 22) rfl rfl rfl (by kernel_rfl) (by kernel_rfl) (by kernel_rfl) (fun _ _ _ h => h) (Or.inl ⟨by rfl, ?hygb10⟩) (by assumption) ?restgb10
                case hygb10 => intro u hSu; (try dsimp only at hSu); go_simp; try (with_reducible rfl)
                simp only [Act.put, List.setIfInBounds_toArray, List.set_cons_zero, List.set_cons_succ]
                refine heldH_take (n := 18) (i := 11) (oi := _) (v := ?vgb11) (dst := some 23) rfl rfl rfl (by kernel_rfl) (by kernel_rfl) (by kernel_rfl) (fun _ _ _ h => h) (Or.inl ⟨by rfl, ?hygb11⟩) (by assumption) ?restgb11
                case hygb11 => intro u hSu; (try dsimp only at hSu); go_simp; try (with_reducible rfl)
                simp only [Act.put, List.setIfInBounds_toArray, List.set_cons_zero, List.set_cons_succ]
                refine heldH_take (n := 17) (i := 12) (oi := _) (v := ?vgb12) (dst := some 24) rfl rfl rfl (by kernel_rfl) (by kernel_rfl) (by kernel_rfl) (fun _ _ _ h => h) (Or.inl ⟨by rfl, ?hygb12⟩) (by assumption) ?restgb12
                case hygb12 => intro u hSu; (try dsimp only at hSu); go_simp; try (with_reducible rfl)
                simp only [Act.put, List.setIfInBounds_toArray, List.set_cons_zero, List.set_cons_succ]
                refine heldH_take (n := 16) (i := 13) (oi := _) (v := ?vgb13) (dst := some 25) rfl rfl rfl (by kernel_rfl) (by kernel_rfl) (by kernel_rfl) (fun _ _ _ h => h) (Or.inl ⟨by rfl, ?hygb13⟩) (by assumption) ?restgb13
                case hygb13 => intro u hSu; (try dsimp only at hSu); go_simp; try (with_reducible rfl)
                simp only [Act.put, List.setIfInBounds_toArray, List.set_cons_zero, List.set_cons_succ]
                refine heldH_take (n := 15) (i := 14) (oi := _) (v := ?vgb14) (dst := some 26) rfl rfl rfl (by kernel_rfl) (by kernel_rfl) (by kernel_rfl) (fun _ _ _ h => h) (Or.inl ⟨by rfl, ?hygb14⟩) (by assumption) ?restgb14
                case hygb14 => intro u hSu; (try dsimp only at hSu); go_simp; try (with_reducible rfl)
                simp only [Act.put, List.setIfInBounds_toArray, List.set_cons_zero, List.set_cons_succ]
                refine heldH_take (n := 14) (i := 15) (oi := _) (v := ?vgb15) (dst := some 27) rfl rfl rfl (by kernel_rfl) (by kernel_rfl) (by kernel_rfl) (fun _ _ _ h => h) (Or.inl ⟨by rfl, ?hygb15⟩) (by assumption) ?restgb15
                case hygb15 => intro u hSu; (try dsimp only at hSu); go_simp; try (with_reducible rfl)
                simp only [Act.put, List.setIfInBounds_toArray, List.set_cons_zero, List.set_cons_succ]
                refine heldH_take (n := 13) (i := 16) (oi := _) (v := ?vgb16) (dst := some 28) rfl rfl rfl (by kernel_rfl) (by kernel_rfl) (by kernel_rfl) (fun _ _ _ h => h) (Or.inl ⟨by rfl, ?hygb16⟩) (by assumption) ?restgb16
                case hygb16 => intro u hSu; (try dsimp only at hSu); go_simp; try (with_reducible rfl)
                simp only [Act.put, List.setIfInBounds_toArray, List.set_cons_zero, List.set_cons_succ]
                refine heldH_take (n := 12) (i := 17) (oi := _) (v := ?vgb17) (dst := some 29) rfl rfl rfl (by kernel_rfl) (by kernel_rfl) (by kernel_rfl) (fun _ _ _ h => h) (Or.inl ⟨by rfl, ?hygb17⟩) (by assumption) ?restgb17
                case hygb17 => intro u hSu; (try dsimp only at hSu); go_simp; try (with_reducible rfl)
                simp only [Act.put, List.setIfInBounds_toArray, List.set_cons_zero, List.set_cons_succ]
                refine heldH_take (n := 11) (i := 18) (oi := _) (v := ?vgb18) (dst := some 30) rfl rfl rfl (by kernel_rfl) (by kernel_rfl) (by kernel_rfl) (fun _ _ _ h => h) (Or.inl ⟨by rfl, ?hygb18⟩) (by assumption) ?restgb18
                case hygb18 => intro u hSu; (try dsimp only at hSu); go_simp; try (with_reducible rfl)
                simp only [Act.put, List.setIfInBounds_toArray, List.set_cons_zero, List.set_cons_succ]
                refine heldH_take (n := 10) (i := 19) (oi := _) (v := ?vgb19) (dst := some 31) rfl rfl rfl (by kernel_rfl) (by kernel_rfl) (by kernel_rfl) (fun _ _ _ h => h) (Or.inl ⟨by rfl, ?hygb19⟩) (by assumption) ?restgb19
                case hygb19 => intro u hSu; (try dsimp only at hSu); go_simp; try (with_reducible rfl)
                simp only [Act.put, List.setIfInBounds_toArray, List.set_cons_zero, List.set_cons_succ]
                refine heldH_take (n := 9) (i := 20) (oi := _) (v := ?vgb20) (dst := some 32) rfl rfl rfl (by kernel_rfl) (by kernel_rfl) (by kernel_rfl) (fun _ _ _ h => h) (Or.inl ⟨by rfl, ?hygb20⟩) (by assumption) ?restgb20
                case hygb20 => intro u hSu; (try dsimp only at hSu); go_simp; try (with_reducible rfl)
                simp only [Act.put, List.setIfInBounds_toArray, List.set_cons_zero, List.set_cons_succ]
                refine heldH_step (n := 8) (i := 21) (o := _) rfl (by kernel_rfl) rfl (fun K hK => ?_)
                have HK2 := Lib.hid hK
                clear hK
                go_simp
                refine (HW1.out _).mono ?_
                rintro e w5 ⟨rfl, rfl⟩
                go_simp
                refine HK2.out _ _ hHeld (fun hHeld => ?_)
                clear HK2 K
                refine heldH_take (n := 7) (i := 22) (oi := _) (v := ?vgb22) (dst := some 34) rfl rfl rfl (by kernel_rfl) (by kernel_rfl) (by kernel_rfl) (fun _ _ _ h => h) (Or.inl ⟨by rfl, ?hygb22⟩) (by assumption) ?restgb22
                case hygb22 => intro u hSu; (try dsimp only at hSu); go_simp; try (with_reducible rfl)
                simp only [Act.put, List.setIfInBounds_toArray, List.set_cons_zero, List.set_cons_succ]
                refine heldH_take (n := 6) (i := 23) (oi := _) (v := ?vgb23) (dst := some 35) rfl rfl rfl (by kernel_rfl) (by kernel_rfl) (by kernel_rfl) (fun _ _ _ h => h) (Or.inl ⟨by rfl, ?hygb23⟩) (by assumption) ?restgb23
                case hygb23 => intro u hSu; (try dsimp only at hSu); go_simp; try (with_reducible rfl)
                simp only [Act.put, List.setIfInBounds_toArray, List.set_cons_zero, List.set_cons_succ]
                refine heldH_take (n := 5) (i := 24) (oi := _) (v := ?vgb24) (dst := some 36) rfl rfl rfl (by kernel_rfl) (by kernel_rfl) (by kernel_rfl) (fun _ _ _ h => h) (Or.inl ⟨by rfl, ?hygb24⟩) (by assumption) ?restgb24
                case hygb24 => intro u hSu; (try dsimp only at hSu); go_simp; try (with_reducible rfl)
                simp only [Act.put, List.setIfInBounds_toArray, List.set_cons_zero, List.set_cons_succ]
                refine heldH_take (n := 4) (i := 25) (oi := _) (v := ?vgb25) (dst := some 37) rfl rfl rfl (by kernel_rfl) (by kernel_rfl) (by kernel_rfl) (fun _ _ _ h => h) (Or.inl ⟨by rfl, ?hygb25⟩) (by assumption) ?restgb25
                case hygb25 => intro u hSu; (try dsimp only at hSu); go_simp; try (with_reducible rfl)
                simp only [Act.put, List.setIfInBounds_toArray, List.set_cons_zero, List.set_cons_succ]
                refine heldH_take (n := 3) (i := 26) (oi := _) (v := ?vgb26) (dst := some 38) rfl rfl rfl (by kernel_rfl) (by kernel_rfl) (by kernel_rfl) (fun _ _ _ h => h) (Or.inl ⟨by rfl, ?hygb26⟩) (by assumption) ?restgb26
                case hygb26 => intro u hSu; (try dsimp only at hSu); go_simp; try (with_reducible rfl)
                simp only [Act.put, List.setIfInBounds_toArray, List.set_cons_zero, List.set_cons_succ]
                refine heldH_step (n := 2) (i := 27) (o := _) rfl (by kernel_rfl) rfl (fun K hK => ?_)
                have HK2 := Lib.hid hK
                clear hK
                go_simp
                refine (HW2.out _).mono ?_
                rintro e w6 ⟨rfl, rfl⟩
                go_simp
                refine HK2.out _ _ hHeld (fun hHeld => ?_)
                clear HK2 K
                refine heldH_take (n := 1) (i := 28) (oi := _) (v := ?vgb28) (dst := some 40) rfl rfl rfl (by kernel_rfl) (by kernel_rfl) (by kernel_rfl) (fun _ _ _ h => h) (Or.inl ⟨by rfl, ?hygb28⟩) (by assumption) ?restgb28
                case hygb28 => intro u hSu; (try dsimp only at hSu); go_simp; try (with_reducible rfl)
                simp only [Act.put, List.setIfInBounds_toArray, List.set_cons_zero, List.set_cons_succ]
                refine heldH_take (n := 0) (i := 29) (oi := _) (v := ?vgb29) (dst := some 41) rfl rfl rfl (by kernel_rfl) (by kernel_rfl) (by kernel_rfl) (fun _ _ _ h => h) (Or.inl ⟨by rfl, ?hygb29⟩) (by assumption) ?restgb29
                case hygb29 => intro u hSu; (try dsimp only at hSu); go_simp; try (with_reducible rfl)
                simp only [Act.put, List.setIfInBounds_toArray, List.set_cons_zero, List.set_cons_succ]
                refine wpAnyH_done (by kernel_rfl) ?_ _
                go_wp2
                go_ret
                exact ⟨false, rfl, ⟨(fun h => by cases h), fun h => absurd h HNN.out⟩, HBD.out⟩
            · rw [decide_eq_false h2] at HW1
              have HNN := Lib.hid (HN.out fun h => by have := (HST.out.1 h).2; exact h2 ⟨this.2.1, this.2.2.1⟩)
              clear HN h2
              --Lgc
              refine region_heldH (S := (fun u => u.cell? ⟨eb, 0, none⟩ = some (.int .i64 x1) ∧ u.cell? ⟨eb, 1, none⟩ = some (.int .i64 x2) ∧ u.cell? ⟨eb, 2, none⟩ = some (.int .i64 x3) ∧ u.cell? ⟨ab, off + (i - 1) * 4, none⟩ = some (.int .i64 ah))) 30 rfl (by kernel_rfl) HS0.out (fun hHeld => ?_)
              refine heldH_take (n := 29) (i := 0) (oi := _) (v := ?vgc0) (dst := some 12) rfl rfl rfl (by kernel_rfl) (by kernel_rfl) (by kernel_rfl) (fun _ _ _ h => h) (Or.inl ⟨by rfl, ?hygc0⟩) (by assumption) ?restgc0
              case hygc0 => intro u hSu; (try dsimp only at hSu); go_simp; try (with_reducible rfl)
              simp only [Act.put, List.setIfInBounds_toArray, List.set_cons_zero, List.set_cons_succ]
              refine heldH_take (n := 28) (i := 1) (oi := _) (v := ?vgc1) (dst := some 13) rfl rfl rfl (by kernel_rfl) (by kernel_rfl) (by kernel_rfl) (fun _ _ _ h => h) (Or.inl ⟨by rfl, ?hygc1⟩) (by assumption) ?restgc1
              case hygc1 => intro u hSu; (try dsimp only at hSu); go_simp; try (with_reducible rfl)
              simp only [Act.put, List.setIfInBounds_toArray, List.set_cons_zero, List.set_cons_succ]
              refine heldH_take (n := 27) (i := 2) (oi := _) (v := ?vgc2) (dst := some 14) rfl rfl rfl (by kernel_rfl) (by kernel_rfl) (by kernel_rfl) (fun _ _ _ h => h) (Or.inl ⟨by rfl, ?hygc2⟩) (by assumption) ?restgc2
              case hygc2 => intro u hSu; (try dsimp only at hSu); go_simp; try (with_reducible rfl)
              simp only [Act.put, List.setIfInBounds_toArray, List.set_cons_zero, List.set_cons_succ]
              refine heldH_take (n := 26) (i := 3) (oi := _) (v := ?vgc3) (dst := some 15) rfl rfl rfl (by kernel_rfl) (by kernel_rfl) (by kernel_rfl) (fun _ _ _ h => h) (Or.inl ⟨by rfl, ?hygc3⟩) (by assumption) ?restgc3
              case hygc3 => intro u hSu; (try dsimp only at hSu); go_simp; try (with_reducible rfl)
              simp only [Act.put, List.setIfInBounds_toArray, List.set_cons_zero, List.set_cons_succ]
              refine heldH_take (n := 25) (i := 4) (oi := _) (v := ?vgc4) (dst := some 16) rfl rfl rfl (by kernel_rfl) (by kernel_rfl) (by kernel_rfl) (fun _ _ _ h => h) (Or.inl ⟨by rfl, ?hygc4⟩) (by assumption) ?restgc4
              case hygc4 => intro u hSu; (try dsimp only at hSu); go_simp; try (with_reducible rfl)
              simp only [Act.put, List.setIfInBounds_toArray, List.set_cons_zero, List.set_cons_succ]
              refine heldH_take (n := 24) (i := 5) (oi := _) (v := ?vgc5) (dst := some 17) rfl rfl rfl (by kernel_rfl) (by kernel_rfl) (by kernel_rfl) (fun _ _ _ h => h) (Or.inl ⟨by rfl, ?hygc5⟩) (by assumption) ?restgc5
              case hygc5 => intro u hSu; (try dsimp only at hSu); go_simp; try (with_reducible rfl)
              simp only [Act.put, List.setIfInBounds_toArray, List.set_cons_zero, List.set_cons_succ]
              refine heldH_take (n := 23) (i := 6) (oi := _) (v := ?vgc6) (dst := some 18) rfl rfl rfl (by kernel_rfl) (by kernel_rfl) (by kernel_rfl) (fun _ _ _ h => h) (Or.inl ⟨by rfl, ?hygc6⟩) (by assumption) ?restgc6
              case hygc6 => intro u hSu; (try dsimp only at hSu); go_simp; try (with_reducible rfl)
              simp only [Act.put, List.setIfInBounds_toArray, List.set_cons_zero, List.set_cons_succ]
              refine heldH_take (n := 22) (i := 7) (oi := _) (v := ?vgc7) (dst := some 19) rfl rfl rfl (by kernel_rfl) (by kernel_rfl) (by kernel_rfl) (fun _ _ _ h => h) (Or.inl ⟨by rfl, ?hygc7⟩) (by assumption) ?restgc7
              case hygc7 => intro u hSu; (try dsimp only at hSu); go_simp; try (with_reducible rfl)
              simp only [Act.put, List.setIfInBounds_toArray, List.set_cons_zero, List.set_cons_succ]
              refine heldH_take (n := 21) (i := 8) (oi := _) (v := ?vgc8) (dst := some 20) rfl rfl rfl (by kernel_rfl) (by kernel_rfl) (by kernel_rfl) (fun _ _ _ h => h) (Or.inl ⟨by rfl, ?hygc8⟩) (by assumption) ?restgc8
              case hygc8 => intro u hSu; (try dsimp only at hSu); go_simp; try (with_reducible rfl)
              simp only [Act.put, List.setIfInBounds_toArray, List.set_cons_zero, List.set_cons_succ]
              refine heldH_take (n := 20) (i := 9) (oi := _) (v := ?vgc9) (dst := some 21) rfl rfl rfl (by kernel_rfl) (by kernel_rfl) (by kernel_rfl) (fun _ _ _ h => h) (Or.inl ⟨by rfl, ?hygc9⟩) (by assumption) ?restgc9
              case hygc9 => intro u hSu; (try dsimp only at hSu); go_simp; try (with_reducible rfl)
              simp only [Act.put, List.setIfInBounds_toArray, List.set_cons_zero, List.set_cons_succ]
              refine heldH_take (n := 19) (i := 10) (oi := _) (v := ?vgc10) (dst := some 22) rfl rfl rfl (by kernel_rfl) (by kernel_rfl) (by kernel_rfl) (fun _ _ _ h => h) (Or.inl ⟨by rfl, ?hygc10⟩) (by assumption) ?restgc10
              case hygc10 => intro u hSu; (try dsimp only at hSu); go_simp; try (with_reducible rfl)
              simp only [Act.put, List.setIfInBounds_toArray, List.set_cons_zero, List.set_cons_succ]
              refine heldH_take (n := 18) (i := 11) (oi := _) (v := ?vgc11) (dst := some 23) rfl rfl rfl (by kernel_rfl) (by kernel_rfl) (by kernel_rfl) (fun _ _ _ h => h) (Or.inl ⟨by rfl, ?hygc11⟩) (by assumption) ?restgc11
              case hygc11 => intro u hSu; (try dsimp only at hSu); go_simp; try (with_reducible rfl)
              simp only [Act.put, List.setIfInBounds_toArray, List.set_cons_zero, List.set_cons_succ]
              refine heldH_take (n := 17) (i := 12) (oi := _) (v := ?vgc12) (dst := some 24) rfl rfl rfl (by kernel_rfl) (by kernel_rfl) (by kernel_rfl) (fun _ _ _ h => h) (Or.inl ⟨by rfl, ?hygc12⟩) (by assumption) ?restgc12
              case hygc12 => intro u hSu; (try dsimp only at hSu); go_simp; try (with_reducible rfl)
              simp only [Act.put, List.setIfInBounds_toArray, List.set_cons_zero, List.set_cons_succ]
              refine heldH_take (n := 16) (i := 13) (oi := _) (v := ?vgc13) (dst := some 25) rfl rfl rfl (by kernel_rfl) (by kernel_rfl) (by kernel_rfl) (fun _ _ _ h => h) (Or.inl ⟨by rfl, ?hygc13⟩) (by assumption) ?restgc13
              case hygc13 => intro u hSu; (try dsimp only at hSu); go_simp; try (with_reducible rfl)
              simp only [Act.put, List.setIfInBounds_toArray, List.set_cons_zero, List.set_cons_succ]
              refine heldH_take (n := 15) (i := 14) (oi := _) (v := ?vgc14) (dst := some 26) rfl rfl rfl (by kernel_rfl) (by kernel_rfl) (by kernel_rfl) (fun _ _ _ h => h) (Or.inl ⟨by rfl, ?hygc14⟩) (by assumption) ?restgc14
              case hygc14 => intro u hSu; (try dsimp only at hSu); go_simp; try (with_reducible rfl)
              simp only [Act.put, List.setIfInBounds_toArray, List.set_cons_zero, List.set_cons_succ]
              refine heldH_take (n := 14) (i := 15) (oi := _) (v := ?vgc15) (dst := some 27) rfl rfl rfl (by kernel_rfl) (by kernel_rfl) (by kernel_rfl) (fun _ _ _ h => h) (Or.inl ⟨by rfl, ?hygc15⟩) (by assumption) ?restgc15
              case hygc15 => intro u hSu; (try dsimp only at hSu); go_simp; try (with_reducible rfl)
              simp only [Act.put, List.setIfInBounds_toArray, List.set_cons_zero, List.set_cons_succ]
              refine heldH_take (n := 13) (i := 16) (oi := _) (v := ?vgc16) (dst := some 28) rfl rfl rfl (by kernel_rfl) (by kernel_rfl) (by kernel_rfl) (fun _ _ _ h => h) (Or.inl ⟨by rfl, ?hygc16⟩) (by assumption) ?restgc16
              case hygc16 => intro u hSu; (try dsimp only at hSu); go_simp; try (with_reducible rfl)
              simp only [Act.put, List.setIfInBounds_toArray, List.set_cons_zero, List.set_cons_succ]
              refine heldH_take (n := 12) (i := 17) (oi := _) (v := ?vgc17) (dst := some 29) rfl rfl rfl (by kernel_rfl) (by kernel_rfl) (by kernel_rfl) (fun _ _ _ h => h) (Or.inl ⟨by rfl, ?hygc17⟩) (by assumption) ?restgc17
              case hygc17 => intro u hSu; (try dsimp only at hSu); go_simp; try (with_reducible rfl)
              simp only [Act.put, List.setIfInBounds_toArray, List.set_cons_zero, List.set_cons_succ]
              refine heldH_take (n := 11) (i := 18) (oi := _) (v := ?vgc18) (dst := some 30) rfl rfl rfl (by kernel_rfl) (by kernel_rfl) (by kernel_rfl) (fun _ _ _ h => h) (Or.inl ⟨by rfl, ?hygc18⟩) (by assumption) ?restgc18
              case hygc18 => intro u hSu; (try dsimp only at hSu); go_simp; try (with_reducible rfl)
              simp only [Act.put, List.setIfInBounds_toArray, List.set_cons_zero, List.set_cons_succ]
              refine heldH_take (n := 10) (i := 19) (oi := _) (v := ?vgc19) (dst := some 31) rfl rfl rfl (by kernel_rfl) (by kernel_rfl) (by kernel_rfl) (fun _ _ _ h => h) (Or.inl ⟨by rfl, ?hygc19⟩) (by assumption) ?restgc19
              case hygc19 => intro u hSu; (try dsimp only at hSu); go_simp; try (with_reducible rfl)
              simp only [Act.put, List.setIfInBounds_toArray, List.set_cons_zero, List.set_cons_succ]
              refine heldH_take (n := 9) (i := 20) (oi := _) (v := ?vgc20) (dst := some 32) rfl rfl rfl (by kernel_rfl) (by kernel_rfl) (by kernel_rfl) (fun _ _ _ h => h) (Or.inl ⟨by rfl, ?hygc20⟩) (by assumption) ?restgc20
              case hygc20 => intro u hSu; (try dsimp only at hSu); go_simp; try (with_reducible rfl)
              simp only [Act.put, List.setIfInBounds_toArray, List.set_cons_zero, List.set_cons_succ]
              refine heldH_step (n := 8) (i := 21) (o := _) rfl (by kernel_rfl) rfl (fun K hK => ?_)
              have HK2 := Lib.hid hK
              clear hK
              go_simp
              refine (HW1.out _).mono ?_
              rintro e w5 ⟨rfl, rfl⟩
              go_simp
              refine HK2.out _ _ hHeld (fun hHeld => ?_)
              clear HK2 K
              refine heldH_take (n := 7) (i := 22) (oi := _) (v := ?vgc22) (dst := some 34) rfl rfl rfl (by kernel_rfl) (by kernel_rfl) (by kernel_rfl) (fun _ _ _ h => h) (Or.inl ⟨by rfl, ?hygc22⟩) (by assumption) ?restgc22
              case hygc22 => intro u hSu; (try dsimp only at hSu); go_simp; try (with_reducible rfl)
              simp only [Act.put, List.setIfInBounds_toArray, List.set_cons_zero, List.set_cons_succ]
              refine heldH_take (n := 6) (i := 23) (oi := _) (v := ?vgc23) (dst := some 35) rfl rfl rfl (by kernel_rfl) (by kernel_rfl) (by kernel_rfl) (fun _ _ _ h => h) (Or.inl ⟨by rfl, ?hygc23⟩) (by assumption) ?restgc23
              case hygc23 => intro u hSu; (try dsimp only at hSu); go_simp; try (with_reducible rfl)
              simp only [Act.put, List.setIfInBounds_toArray, List.set_cons_zero, List.set_cons_succ]
              refine heldH_take (n := 5) (i := 24) (oi := _) (v := ?vgc24) (dst := some 36) rfl rfl rfl (by kernel_rfl) (by kernel_rfl) (by kernel_rfl) (fun _ _ _ h => h) (Or.inl ⟨by rfl, ?hygc24⟩) (by assumption) ?restgc24
              case hygc24 => intro u hSu; (try dsimp only at hSu); go_simp; try (with_reducible rfl)
              simp only [Act.put, List.setIfInBounds_toArray, List.set_cons_zero, List.set_cons_succ]
              refine heldH_take (n := 4) (i := 25) (oi := _) (v := undef) (dst := some 37) rfl rfl rfl (by kernel_rfl) (by kernel_rfl) (by kernel_rfl) (fun _ _ _ h => h) (Or.inr ⟨by rfl, rfl⟩) (by assumption) ?restgc25
              simp only [Act.put, List.setIfInBounds_toArray, List.set_cons_zero, List.set_cons_succ]
              refine heldH_take (n := 3) (i := 26) (oi := _) (v := undef) (dst := some 38) rfl rfl rfl (by kernel_rfl) (by kernel_rfl) (by kernel_rfl) (fun _ _ _ h => h) (Or.inr ⟨by rfl, rfl⟩) (by assumption) ?restgc26
              simp only [Act.put, List.setIfInBounds_toArray, List.set_cons_zero, List.set_cons_succ]
              refine heldH_take (n := 2) (i := 27) (oi := _) (v := undef) (dst := some 39) rfl rfl rfl (by kernel_rfl) (by kernel_rfl) (by kernel_rfl) (fun _ _ _ h => h) (Or.inr ⟨by rfl, rfl⟩) (by assumption) ?restgc27
              simp only [Act.put, List.setIfInBounds_toArray, List.set_cons_zero, List.set_cons_succ]
              refine heldH_take (n := 1) (i := 28) (oi := _) (v := undef) (dst := some 40) rfl rfl rfl (by kernel_rfl) (by kernel_rfl) (by kernel_rfl) (fun _ _ _ h => h) (Or.inr ⟨by rfl, rfl⟩) (by assumption) ?restgc28
              simp only [Act.put, List.setIfInBounds_toArray, List.set_cons_zero, List.set_cons_succ]
              refine heldH_take (n := 0) (i := 29) (oi := _) (v := ?vgc29) (dst := some 41) rfl rfl rfl (by kernel_rfl) (by kernel_rfl) (by kernel_rfl) (fun _ _ _ h => h) (Or.inl ⟨by rfl, ?hygc29⟩) (by assumption) ?restgc29
              case hygc29 => intro u hSu; (try dsimp only at hSu); go_simp; try (with_reducible rfl)
              simp only [Act.put, List.setIfInBounds_toArray, List.set_cons_zero, List.set_cons_succ]
              refine wpAnyH_done (by kernel_rfl) ?_ _
              go_wp2
              go_ret
              exact ⟨false, rfl, ⟨(fun h => by cases h), fun h => absurd h HNN.out⟩, HBD.out⟩
    · obtain rfl : i = n := by omega
      rw [List.take_of_length_le (by omega)] at hr
      have hii : ¬ (i : Int) < (i : Int) := by omega
      go_wp2
      go_ret
      exact ⟨true, rfl, ⟨fun _ => hr, fun _ => rfl⟩, hb⟩
end Go.Proofs.YtlikbmbcjipolaaDoor
