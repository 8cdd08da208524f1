/-
  The walk of MemNews.
-/
import Derived.Test.YthjifekpefjjaaaDoorMemErr
import Derived.Test.YthjifekpefjjaaaDoorBare
import Derived.Deep.RegionWith
namespace Go.Proofs.YthjifekpefjjaaaDoor
set_option maxRecDepth 100000
open Go.RowKit

set_option maxHeartbeats 400000 in
theorem memNews_no {w : World} (n : Int) (hg : ErrVar w) (hn : n < 0 ∨ 300 < n) :
    Calls Tryd.prog 4 #[.int .i64 n] w fun e w' => e = .returned (.bool true) ∧ Below w.heap.size w w' := by
  have HB := Lib.hid (bare_errno 2 w hg)
  have HN := Lib.hid (new_no (w := w) n hn)
  rcases Int.lt_or_le n 0 with h0 | h0
  · clear hg hn
    go_enter Tryd.func4, Tryd.ntmps4
    go_wp2_with fail
    refine HN.out.mono ?_
    rintro e w1 ⟨rfl, rfl⟩
    go_wp2_with fail
    refine HB.out.mono ?_
    rintro e w1 ⟨rfl, hgr⟩
    have hb := (Below.refl w.heap.size w).grown hgr (Nat.le_refl _) (by intro k hk; cases hk)
    clear hgr
    go_wp2
    go_ret
    exact ⟨rfl, hb⟩
  · have h1 : ¬ n < 0 := by omega
    have h2 : 300 < n := by omega
    clear hg hn
    go_enter Tryd.func4, Tryd.ntmps4
    go_wp2_with fail
    refine HN.out.mono ?_
    rintro e w1 ⟨rfl, rfl⟩
    go_wp2_with fail
    refine HB.out.mono ?_
    rintro e w1 ⟨rfl, hgr⟩
    have hb := (Below.refl w.heap.size w).grown hgr (Nat.le_refl _) (by intro k hk; cases hk)
    clear hgr
    go_wp2
    go_ret
    exact ⟨rfl, hb⟩

/-- A row of zeros that was made reads as zeros. -/
theorem made_zeros (n : Nat) (hn : n ≤ 300) (C : Array Value) (hC : C.toList = (List.replicate n (0 : Int)).map (Value.int .u64)) (W : World) : Ints .u64 (W.alloc (.cells C 34)) (W.alloc (.cells C 34)).heap.size (some ⟨W.heap.size, 0, none⟩) n (List.replicate n 0) := by
  have hs : C.size = n * 1 := by rw [← Array.length_toList, hC]; simp
  have h := World.ownsRow_lit (base := W.heap.size) (e := 34) (size := 1) W C n (Nat.le_refl _) (by unfold maxLen; omega) hs
  rw [hC] at h
  exact Ints.of_own h

theorem Ints.grow2 {k : IntKind} {w w' : World} {n : Nat} {A : Option Addr} {xs : List Int} (h : Ints k w w.heap.size A n xs) (hg : w.grownBy w' none) : Ints k w' w'.heap.size A n xs :=
  h.keep hg.size fun p hp => World.cell?_of_block (hg.block p.block hp (by simp))

/-- What Words comes to, from X on. -/
def ToldWords (n : Nat) (zs : List Int) (X : World) (e : Ending) (w' : World) : Prop := ∃ A c, e = .returned (.slice A n c) ∧ Ints .u64 w' w'.heap.size A n zs ∧ X.grownBy w' none

set_option maxHeartbeats 8000000 in
theorem memNews_yes {w : World} (n : Nat) (hn : n ≤ 300) :
    Calls Tryd.prog 4 #[.int .i64 n] w fun e w' => e = .returned (.bool true) ∧ Below w.heap.size w w' := by
  obtain ⟨i0, hi, hz0, hz1, hz2⟩ := info_parts infoU64
  obtain ⟨C, hCdef⟩ : ∃ C, madeCells #[Value.int .u64 0] (n * 1) = C := ⟨_, rfl⟩
  have hC : C.toList = (List.replicate n (0 : Int)).map (Value.int .u64) := by
    rw [← hCdef, toList_madeCells_one]
    simp
  have hmk : ∀ W : World, Sem.run Tryd.prog (Instr.makeSlice 22 (.int .i64 (n : Int)) (.int .i64 (n : Int))) W = .ok (.slice (some ⟨W.heap.size, 0, none⟩) n n) (W.alloc (.cells C 34)) := by
    intro W
    have hr := run_make (P := Tryd.prog) W 22 34 i0 (.int .u64 0) Tryd.underlying22 hi hz0 .i64 .i64 n n (by omega) (Int.le_refl _) (by rw [hz2]; omega) (by omega)
    simp only [Int.toNat_natCast, hz1] at hr
    rw [← hCdef]
    exact hr
  have h1 : ¬ (n : Int) < 0 := by omega
  have h2 : ¬ (300 : Int) < (n : Int) := by omega
  have HC := Lib.hid hC
  obtain ⟨zs, hzs⟩ : ∃ zs : List Int, zs = List.replicate n 0 := ⟨_, rfl⟩
  have HZ := Lib.hid hzs
  clear hC hCdef hzs hi hz0 hz1 hz2
  go_enter Tryd.func4, Tryd.ntmps4
  go_wp2_with fail
  refine (new_ok n hn).mono ?_
  rintro e w1 ⟨m, v, rfl, hM, hg1⟩
  have hb1 := (Below.refl w.heap.size w).grown hg1 (Nat.le_refl _) (by intro k hk; cases hk)
  have hwd : ∀ X, w1.grownBy X none → Calls Tryd.prog 19 #[.pointer (some ⟨m, 0, none⟩)] X (ToldWords n zs X) := by
    intro X hX
    have h := words_any (hM.grown hX (by simp) (.inl rfl)) (by rw [List.length_replicate]; omega)
    rw [List.length_replicate, ← HZ.out] at h
    refine h.mono ?_
    rintro e w' ⟨v', rfl, hown, hg⟩
    obtain ⟨A, c, rfl⟩ := slice_of_own hown
    exact ⟨A, c, rfl, Ints.of_own hown, hg⟩
  have heq : ∀ (X : World) (A D : Option Addr) (c d : Nat), Ints .u64 X X.heap.size A n zs → Ints .u64 X X.heap.size D n zs → Calls Tryd.prog 18 #[.slice A n c, .slice D n d] X fun e w' => e = .returned (.bool true) ∧ ∃ q, w' = X.drewN q :=
    fun X A D c d hA hD => equalU_same A D n c d zs X (by omega) _ hA hD
  have hmz : ∀ W : World, Ints .u64 (W.alloc (.cells C 34)) (W.alloc (.cells C 34)).heap.size (some ⟨W.heap.size, 0, none⟩) n zs := fun W => by rw [HZ.out]; exact made_zeros n hn C HC.out W
  have HW := Lib.hid hwd
  have HE := Lib.hid heq
  have HMZ := Lib.hid hmz
  have HB := Lib.hid hb1
  have HD0 := Lib.hid (show w1.grownBy w1.drew none from ⟨rfl, rfl, rfl, Nat.le_refl _, fun _ _ _ => rfl⟩)
  have HD1 := Lib.hid (show w1.grownBy (w1.alloc (.cells C 34)).drew none from (World.grownBy_alloc w1 (.cells C 34) none).andThen (show (w1.alloc (.cells C 34)).grownBy (w1.alloc (.cells C 34)).drew none from ⟨rfl, rfl, rfl, Nat.le_refl _, fun _ _ _ => rfl⟩) (by intro j hj; cases hj))
  have HM1 := Lib.hid (show ∀ x1, ((w1.alloc (.cells C 34)).drew).grownBy x1 none → Ints .u64 x1 x1.heap.size (some ⟨w1.heap.size, 0, none⟩) n zs from fun x1 hx => (show Ints .u64 (w1.alloc (.cells C 34)).drew (w1.alloc (.cells C 34)).drew.heap.size (some ⟨w1.heap.size, 0, none⟩) n zs from ⟨(hmz w1).len, (hmz w1).row⟩).grow2 hx)
  clear hg1 hwd heq hmz hM hb1
  go_wp2_with fail
  go_region_with (first | (go_at_call 19; refine (HW.out _ (by first | exact HD0.out | exact HD1.out)).mono ?_; rintro e x1 ⟨A, c, rfl, hI, hx⟩) | (go_at_call 18; refine (HE.out _ _ _ _ _ (by first | exact hI | exact hI.grow2 (World.grownBy_alloc _ _ none)) (by first | exact HM1.out _ hx | exact HMZ.out _)).mono ?_; rintro e x2 ⟨rfl, q, rfl⟩))
  all_goals
    have hb := HB.out
    clear HW HE HMZ HM1 HC HZ HB hmk
    go_wp2
    go_ret
    first
      | exact ⟨rfl, below_drewN (hb.trans (((Below.refl _ _).grown (HD0.out.andThen hx (by intro j hj; cases hj)) hb.size (by intro k hk; cases hk)).alloc (Nat.le_trans hb.size (HD0.out.andThen hx (by intro j hj; cases hj)).size) _)) q⟩
      | exact ⟨rfl, below_drewN (hb.grown (HD1.out.andThen hx (by intro j hj; cases hj)) hb.size (by intro k hk; cases hk)) q⟩
end Go.Proofs.YthjifekpefjjaaaDoor
