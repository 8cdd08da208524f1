/-
  The laws' helpers on threads that ask a phaser: begins.
-/
import Derived.Test.YtdhlmgoodpepeaaGreatDoorQT2
import Derived.Deep.RegionLaw
import Derived.Deep.CutRange
namespace Go.Proofs.YtdhlmgoodpepeaaGreatDoor
set_option maxRecDepth 100000
open Go.RowKit Go.Shelf Go.Sort
set_option linter.unusedVariables false
set_option linter.unusedSimpArgs false

def tabB (u : Nat) : Int := ([0, 0, 1, 2147483647, 2147483646] : List Int).getD u 0
theorem tabB_rng (u : Nat) : 0 ≤ tabB u ∧ tabB u ≤ 2147483647 := by
  unfold tabB
  match u with
  | 0 => exact ⟨by decide, by decide⟩
  | 1 => exact ⟨by decide, by decide⟩
  | 2 => exact ⟨by decide, by decide⟩
  | 3 => exact ⟨by decide, by decide⟩
  | 4 => exact ⟨by decide, by decide⟩
  | u + 5 => exact ⟨by show (0 : Int) ≤ 0; decide, by show (0 : Int) ≤ 2147483647; decide⟩
def cellsB : Array Value := #[.int .i64 0, .int .i64 0, .int .i64 1, .int .i64 2147483647, .int .i64 2147483646]
theorem cellsB_at {u : Nat} (hu : u < 5) : cellsB[u]? = some (.int .i64 (tabB u)) := by
  match u, hu with
  | 0, _ => rfl
  | 1, _ => rfl
  | 2, _ => rfl
  | 3, _ => rfl
  | 4, _ => rfl
/-- A state that is being made, and the result's cell. -/
structure BegAt (w wx : World) (b : Nat) (f v : Int) : Prop where
  bel : Below w.heap.size w wx
  res : PhAt wx w.heap.size false 0 0 0
  ph : PhAt wx b false f v 0
  lo : w.heap.size < b
section
variable {w X : World} (hB : Below w.heap.size w X) (hR : PhAt X w.heap.size false 0 0 0) (hl : w.heap.size < X.heap.size)
include hB hR hl
theorem begA (O : Obj) (f v : Int) : BegAt w ((X.alloc O).alloc (.cells #[.bool false, .int .i64 f, .int .i64 v, .int .i64 0] 28)).drew (X.heap.size + 1) f v := by
  have h1 := hB.alloc hB.size O
  have h2 := h1.alloc h1.size (.cells #[.bool false, .int .i64 f, .int .i64 v, .int .i64 0] 28)
  exact ⟨h2.drew, (hR.alloc O).alloc _, PhAt.new2 X O false f v 0, by omega⟩
theorem begB (O : Obj) (f v : Int) : BegAt w ((X.alloc (.cells #[.bool false, .int .i64 f, .int .i64 v, .int .i64 0] 28)).alloc O).drew X.heap.size f v := by
  have h1 := hB.alloc hB.size (.cells #[.bool false, .int .i64 f, .int .i64 v, .int .i64 0] 28)
  have h2 := h1.alloc h1.size O
  exact ⟨h2.drew, (hR.alloc _).alloc O, (PhAt.new X false f v 0).alloc O, hl⟩
end
set_option maxHeartbeats 8000000 in
theorem begins_any (phase parties : Int) : ∃ f p : Int, PhS.ok ⟨false, f, p, p⟩ ∧ ∀ w : World, Calls Tryz.prog 14 #[.int .i64 phase, .int .i64 parties] w fun e w' => e = .returned (.tuple #[.agg #[.bool false, .int .i64 f, .int .i64 p, .int .i64 p], .int .u64 (PhS.word ⟨false, f, p, p⟩), .bool true]) ∧ Below w.heap.size w w' := by
  obtain ⟨u, hu, hpu⟩ := ga_pick phase 5 (by decide) (by decide)
  obtain ⟨v, hv, hpv⟩ := ga_pick parties 5 (by decide) (by decide)
  have hr := tabB_rng u
  have hok : PhS.ok ⟨false, tabB u, (v : Int), (v : Int)⟩ := ⟨hr, ⟨by show (0 : Int) ≤ (v : Int); omega, by show (v : Int) ≤ 65535; omega⟩, by show (0 : Int) ≤ (v : Int); omega, Int.le_refl _⟩
  refine ⟨tabB u, (v : Int), hok, fun w => ?_⟩
  have HPu := Lib.hid hpu
  have HPv := Lib.hid hpv
  have HP := Lib.hid (fun w => pkWord_yes false (tabB u) (v : Int) (v : Int) w hok)
  have hat := cellsB_at hu
  have HT := Lib.hid (fun (W : World) (b : Nat) (h : W.heap[b]? = some (.cells cellsB 3 (0, 0))) => (cell_of_row W b u _ _ _ h).trans hat)
  have hu5 : (u : Int) < 5 := by omega
  generalize PhS.word ⟨false, tabB u, (v : Int), (v : Int)⟩ = wd at *
  generalize tabB u = f at *
  clear hok hr hat hpu hpv hu hv
  go_enter Tryz.func14, Tryz.ntmps14
  go_upto_region 1 with (fail)
  have hR0 : PhAt (w.alloc (.cells #[.bool false, .int .i64 0, .int .i64 0, .int .i64 0] 28)) w.heap.size false 0 0 0 := PhAt.new w false 0 0 0
  have hB0 := (Below.refl w.heap.size w).alloc (Nat.le_refl _) (.cells #[.bool false, .int .i64 0, .int .i64 0, .int .i64 0] 28)
  have hlt0 : w.heap.size < (w.alloc (.cells #[.bool false, .int .i64 0, .int .i64 0, .int .i64 0] 28)).heap.size := by simp
  obtain ⟨X, hX⟩ : ∃ X, w.alloc (.cells #[.bool false, .int .i64 0, .int .i64 0, .int .i64 0] 28) = X := ⟨_, rfl⟩
  rw [hX] at hR0 hB0 hlt0 ⊢
  have HR0 := Lib.hid hR0
  have HB0 := Lib.hid hB0
  have HLt0 := Lib.hid hlt0
  clear hX hR0 hB0 hlt0
  --MA
  go_cut [7] from 10 to 17 (fun v7 wx => ∃ b : Nat, v7 = .pointer (some ⟨b, 0, none⟩) ∧ Hid (BegAt w wx b f (v : Int)))
  case first =>
    have hz0 : (X.drew.alloc (.cells #[.bool false, .int .i64 0, .int .i64 0, .int .i64 0] 28)).heap.size = X.heap.size + 1 := by simp
    have t1 := HT.out (X.drew.alloc (.cells cellsB 3)) X.heap.size (heap_alloc_new _ _)
    have t2 := HT.out ((X.drew.alloc (.cells cellsB 3)).alloc (.cells #[.bool false, .int .i64 0, .int .i64 0, .int .i64 0] 28)) X.heap.size ((Below.heap_alloc _ _ X.heap.size (by simp)).trans (heap_alloc_new _ _))
    have t3 := HT.out ((X.drew.alloc (.cells #[.bool false, .int .i64 0, .int .i64 0, .int .i64 0] 28)).alloc (.cells cellsB 3)) (X.heap.size + 1) (by rw [← hz0]; exact heap_alloc_new _ _)
    have hz1 : (X.alloc (.cells #[.bool false, .int .i64 0, .int .i64 0, .int .i64 0] 28)).heap.size = X.heap.size + 1 := by simp
    have s1 := HT.out (X.alloc (.cells cellsB 3)) X.heap.size (heap_alloc_new _ _)
    have s2 := HT.out ((X.alloc (.cells cellsB 3)).alloc (.cells #[.bool false, .int .i64 0, .int .i64 0, .int .i64 0] 28)) X.heap.size ((Below.heap_alloc _ _ X.heap.size (by simp)).trans (heap_alloc_new _ _))
    have s3 := HT.out ((X.alloc (.cells #[.bool false, .int .i64 0, .int .i64 0, .int .i64 0] 28)).alloc (.cells cellsB 3)) (X.heap.size + 1) (by rw [← hz1]; exact heap_alloc_new _ _)
    unfold cellsB at t1 t2 t3 s1 s2 s3
    clear hz0 hz1
    --MB
    go_region_with (first | (go_at_call_of 23 (Value.int .i64 phase); refine (HPu.out _).mono ?_; rintro e w2 ⟨rfl, rfl⟩) | (go_at_call_of 23 (Value.int .i64 parties); refine (HPv.out _).mono ?_; rintro e w2 ⟨rfl, rfl⟩))
    --MC
    all_goals
      clear t1 t2 t3 s1 s2 s3
      go_wp2_with fail
      go_meet
      first | exact ⟨X.heap.size + 1, rfl, begA HB0.out HR0.out HLt0.out _ f _⟩ | exact ⟨X.heap.size, rfl, begB HB0.out HR0.out HLt0.out _ f _⟩
  case rest =>
    obtain ⟨b, rfl, hq⟩ := hcut
    obtain ⟨hb, hr, hp, hlo⟩ := hq.out
    clear hq HR0 HB0 HLt0 HT HPu HPv
    obtain ⟨c0, c1, c2, c3⟩ := hp.cells
    have z0 := hp.frozen 3
    have HBb := Lib.hid hb
    have HRr := Lib.hid hr
    have HPp := Lib.hid hp
    have HLo := Lib.hid hlo
    have hbl := hp.lt
    clear hb hr hp hlo
    --MD
    go_wp2_with fail
    --ME
    refine (HP.out _).mono ?_
    rintro e w5 ⟨rfl, hb5⟩
    have hP5 := (HPp.out.set3 (v : Int)).below hb5 (by simp; exact hbl)
    have hR5 := (HRr.out.far (a := ⟨b, 3, none⟩) (by have := HLo.out; show w.heap.size ≠ b; omega) (.int .i64 (v : Int))).below hb5 (by simp; have := HRr.out.lt; exact this)
    have hB5 := (HBb.out.setCell (p := ⟨b, 3, none⟩) (by show w.heap.size ≤ b; have := HLo.out; omega) (.int .i64 (v : Int))).trans (hb5.mono (by simp; exact HBb.out.size))
    obtain ⟨d0, d1, d2, d3⟩ := hP5.cells
    obtain ⟨r0, r1, r2, r3⟩ := hR5.cells
    have s0 := hR5.frozen 0
    have s1 := hR5.frozen 1
    have s2 := hR5.frozen 2
    have s3 := hR5.frozen 3
    have HB5 := Lib.hid hB5
    have HR5 := Lib.hid hR5
    clear hb5 hP5 hR5 hB5 HPp HRr HBb HP c0 c1 c2 c3 z0 hbl
    go_wp2_with fail
    --MF
    go_region
    --MG
    all_goals
      go_wp2
      --MH
      refine bodyPost_ret (v := .tuple #[.agg #[.bool false, .int .i64 f, .int .i64 (v : Int), .int .i64 (v : Int)], .int .u64 wd, .bool true]) ?_ rfl ⟨rfl, ?_⟩
      · exact ((HR5.out.set4 false f (v : Int) (v : Int)).drew).res3 (fn := Tryz.f14) (p0 := 4) (u := 5) (x := 6) (by kernel_rfl) _ (by rfl) (by rfl) (by rfl)
      · exact (below4 HB5.out (Nat.le_refl _) false f (v : Int) (v : Int)).drew
end Go.Proofs.YtdhlmgoodpepeaaGreatDoor
