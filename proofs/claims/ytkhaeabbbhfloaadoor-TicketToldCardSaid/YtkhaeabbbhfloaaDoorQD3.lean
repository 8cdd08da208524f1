/-
  do, Op by Op.
-/
import Derived.Test.YtkhaeabbbhfloaaDoorQD
import Derived.Deep.AppendLies
import Derived.Test.YtkhaeabbbhfloaaDoorQC2
namespace Go.Proofs.YtkhaeabbbhfloaaDoor
set_option maxRecDepth 100000
open Go.RowKit Go.Shelf Go.Sort
set_option linter.unusedVariables false
set_option linter.unusedSimpArgs false

set_option maxHeartbeats 2000000 in
theorem do_0 {w : World} {B : Nat} {S : Nat → Prop} {X : KB} {m : Mach} {k i : Nat} {a b c d : Int} (h : Core w B S X m) (hB : B ≤ w.heap.size) (hd : DoAt m k i (0, a, b, c, d)) (hf : Fits (at1 m k i) k (0, a, b, c, d)) :
    Calls Tryd.prog 35 #[.pointer (some ⟨X.c, 0, none⟩), .int .i64 k] w fun e w' => e = .returned (.nilIface) ∧ Moved w B S X (after (at1 m k i) k 0 (eff (0, a, b, c, d) (m.regs.getD k []) m.cells)) w' := by
  obtain ⟨tb, cap, g, pl, pc, n, hn, htv, hr⟩ := doRead h hd
  obtain ⟨c2, p0, p1, i0, i1, i2, i3, i4, f1, hi, hk, htb⟩ := hr
  dsimp only at i0 i1 i2 i3 i4
  have hin : (i : Int) < (pl : Int) := by omega
  have hkn : (k : Int) < (n : Int) := by omega
  have hw1 : wrap64 ((i : Int) + 1) = (i : Int) + 1 := by have := hd.small; unfold wrap64; omega
  have hgl : g < w.heap.size := World.block_lt_of_cell? w _ i0
  have htne : tb ≠ w.heap.size := by omega
  have hgne : g ≠ w.heap.size := by omega
  have hcl : X.c < w.heap.size := lt_of_block h.at_
  have hcne : X.c ≠ w.heap.size := by omega
  have HAT := Lib.hid (do_at h hd htv)
  have HE := Lib.hid (fun w' (hg : (w.setCell ⟨tb, k * 11 + 1, none⟩ (.int .i64 ((i : Int) + 1))).grownBy w' none) => And.intro ((HAT.out w' hg).1.setEnd hf.le hf.hk htv) (HAT.out w' hg).2)
  obtain ⟨-, -, e1, -, ef⟩ := h.thread hd.hk htv
  have e2 := ef (k * 11 + 2)
  obtain ⟨M, hM⟩ : ∃ M : World → Prop, M = Moved w B S X (after (at1 m k i) k 0 (eff (0, a, b, c, d) (m.regs.getD k []) m.cells)) := ⟨_, rfl⟩
  have HM := Lib.hid hM
  rw [← hM]
  generalize m.ended.getD k false = en at e1
  clear h hd hf hM htv hn HAT hB ef
  go_enter Tryd.func35, Tryd.ntmps35
  go_wp2
  go_region
  go_wp2
  go_ret
  refine ⟨rfl, ?_⟩
  rw [HM.out]
  obtain ⟨⟨h1, h2⟩, h3⟩ := HE.out _ (World.grownBy.refl _ none)
  exact (Moved.of h1 (h3.trans h2)).grow (grown_d (grown_a (World.grownBy.refl _ none) _))

set_option maxHeartbeats 2000000 in
theorem do_1 {w : World} {B : Nat} {S : Nat → Prop} {X : KB} {m : Mach} {k i : Nat} {a b c d : Int} (h : Core w B S X m) (hB : B ≤ w.heap.size) (hd : DoAt m k i (1, a, b, c, d)) (hf : Fits (at1 m k i) k (1, a, b, c, d)) :
    Calls Tryd.prog 35 #[.pointer (some ⟨X.c, 0, none⟩), .int .i64 k] w fun e w' => e = .returned (.nilIface) ∧ Moved w B S X (after (at1 m k i) k 1 (eff (1, a, b, c, d) (m.regs.getD k []) m.cells)) w' := by
  obtain ⟨tb, cap, g, pl, pc, n, hn, htv, hr⟩ := doRead h hd
  obtain ⟨c2, p0, p1, i0, i1, i2, i3, i4, f1, hi, hk, htb⟩ := hr
  dsimp only at i0 i1 i2 i3 i4
  have hin : (i : Int) < (pl : Int) := by omega
  have hkn : (k : Int) < (n : Int) := by omega
  have hw1 : wrap64 ((i : Int) + 1) = (i : Int) + 1 := by have := hd.small; unfold wrap64; omega
  have hgl : g < w.heap.size := World.block_lt_of_cell? w _ i0
  have htne : tb ≠ w.heap.size := by omega
  have hgne : g ≠ w.heap.size := by omega
  have hcl : X.c < w.heap.size := lt_of_block h.at_
  have hcne : X.c ≠ w.heap.size := by omega
  have HAT := Lib.hid (do_at h hd htv)
  have HSUB := Lib.hid (fun w' (hg : (w.setCell ⟨tb, k * 11 + 1, none⟩ (.int .i64 ((i : Int) + 1))).grownBy w' none) => (kreckon_any (HAT.out w' hg).1 hf htv (by simp)).mono (R' := fun e w'' => e = .returned (.tuple #[]) ∧ Moved w B S X (after (at1 m k i) k 1 (eff (1, a, b, c, d) (m.regs.getD k []) m.cells)) w'') fun e w'' ⟨he, hm⟩ => ⟨he, hm.from (HAT.out w' hg).2⟩)
  obtain ⟨M, hM⟩ : ∃ M : World → Prop, M = Moved w B S X (after (at1 m k i) k 1 (eff (1, a, b, c, d) (m.regs.getD k []) m.cells)) := ⟨_, rfl⟩
  rw [← hM] at HSUB ⊢
  clear h hd hf hM htv hn HAT hB
  unfold insV at HSUB
  go_enter Tryd.func35, Tryd.ntmps35
  go_wp2
  go_region
  go_wp2_with fail
  refine (HSUB.out _ (grown_d (grown_a (World.grownBy.refl _ none) _))).mono ?_
  rintro e w3 ⟨rfl, hm⟩
  have HMM := Lib.hid hm
  clear hm HSUB
  go_wp2
  go_ret
  exact ⟨rfl, HMM.out⟩

set_option maxHeartbeats 2000000 in
theorem do_2 {w : World} {B : Nat} {S : Nat → Prop} {X : KB} {m : Mach} {k i : Nat} {a b c d : Int} (h : Core w B S X m) (hB : B ≤ w.heap.size) (hd : DoAt m k i (2, a, b, c, d)) (hf : Fits (at1 m k i) k (2, a, b, c, d)) :
    Calls Tryd.prog 35 #[.pointer (some ⟨X.c, 0, none⟩), .int .i64 k] w fun e w' => e = .returned (.nilIface) ∧ Moved w B S X (after (at1 m k i) k 2 (eff (2, a, b, c, d) (m.regs.getD k []) m.cells)) w' := by
  obtain ⟨tb, cap, g, pl, pc, n, hn, htv, hr⟩ := doRead h hd
  obtain ⟨c2, p0, p1, i0, i1, i2, i3, i4, f1, hi, hk, htb⟩ := hr
  dsimp only at i0 i1 i2 i3 i4
  have hin : (i : Int) < (pl : Int) := by omega
  have hkn : (k : Int) < (n : Int) := by omega
  have hw1 : wrap64 ((i : Int) + 1) = (i : Int) + 1 := by have := hd.small; unfold wrap64; omega
  have hgl : g < w.heap.size := World.block_lt_of_cell? w _ i0
  have htne : tb ≠ w.heap.size := by omega
  have hgne : g ≠ w.heap.size := by omega
  have hcl : X.c < w.heap.size := lt_of_block h.at_
  have hcne : X.c ≠ w.heap.size := by omega
  have HAT := Lib.hid (do_at h hd htv)
  have HSUB := Lib.hid (fun w' (hg : (w.setCell ⟨tb, k * 11 + 1, none⟩ (.int .i64 ((i : Int) + 1))).grownBy w' none) => (kreckon_any (HAT.out w' hg).1 hf htv (by simp)).mono (R' := fun e w'' => e = .returned (.tuple #[]) ∧ Moved w B S X (after (at1 m k i) k 2 (eff (2, a, b, c, d) (m.regs.getD k []) m.cells)) w'') fun e w'' ⟨he, hm⟩ => ⟨he, hm.from (HAT.out w' hg).2⟩)
  obtain ⟨M, hM⟩ : ∃ M : World → Prop, M = Moved w B S X (after (at1 m k i) k 2 (eff (2, a, b, c, d) (m.regs.getD k []) m.cells)) := ⟨_, rfl⟩
  rw [← hM] at HSUB ⊢
  clear h hd hf hM htv hn HAT hB
  unfold insV at HSUB
  go_enter Tryd.func35, Tryd.ntmps35
  go_wp2
  go_region
  go_wp2_with fail
  refine (HSUB.out _ (grown_d (grown_a (World.grownBy.refl _ none) _))).mono ?_
  rintro e w3 ⟨rfl, hm⟩
  have HMM := Lib.hid hm
  clear hm HSUB
  go_wp2
  go_ret
  exact ⟨rfl, HMM.out⟩

set_option maxHeartbeats 2000000 in
theorem do_3 {w : World} {B : Nat} {S : Nat → Prop} {X : KB} {m : Mach} {k i : Nat} {a b c d : Int} (h : Core w B S X m) (hB : B ≤ w.heap.size) (hd : DoAt m k i (3, a, b, c, d)) (hf : Fits (at1 m k i) k (3, a, b, c, d)) :
    Calls Tryd.prog 35 #[.pointer (some ⟨X.c, 0, none⟩), .int .i64 k] w fun e w' => e = .returned (.nilIface) ∧ Moved w B S X (after (at1 m k i) k 3 (eff (3, a, b, c, d) (m.regs.getD k []) m.cells)) w' := by
  obtain ⟨tb, cap, g, pl, pc, n, hn, htv, hr⟩ := doRead h hd
  obtain ⟨c2, p0, p1, i0, i1, i2, i3, i4, f1, hi, hk, htb⟩ := hr
  dsimp only at i0 i1 i2 i3 i4
  have hin : (i : Int) < (pl : Int) := by omega
  have hkn : (k : Int) < (n : Int) := by omega
  have hw1 : wrap64 ((i : Int) + 1) = (i : Int) + 1 := by have := hd.small; unfold wrap64; omega
  have hgl : g < w.heap.size := World.block_lt_of_cell? w _ i0
  have htne : tb ≠ w.heap.size := by omega
  have hgne : g ≠ w.heap.size := by omega
  have hcl : X.c < w.heap.size := lt_of_block h.at_
  have hcne : X.c ≠ w.heap.size := by omega
  have HAT := Lib.hid (do_at h hd htv)
  have HSUB := Lib.hid (fun w' (hg : (w.setCell ⟨tb, k * 11 + 1, none⟩ (.int .i64 ((i : Int) + 1))).grownBy w' none) => (kreckon_any (HAT.out w' hg).1 hf htv (by simp)).mono (R' := fun e w'' => e = .returned (.tuple #[]) ∧ Moved w B S X (after (at1 m k i) k 3 (eff (3, a, b, c, d) (m.regs.getD k []) m.cells)) w'') fun e w'' ⟨he, hm⟩ => ⟨he, hm.from (HAT.out w' hg).2⟩)
  obtain ⟨M, hM⟩ : ∃ M : World → Prop, M = Moved w B S X (after (at1 m k i) k 3 (eff (3, a, b, c, d) (m.regs.getD k []) m.cells)) := ⟨_, rfl⟩
  rw [← hM] at HSUB ⊢
  clear h hd hf hM htv hn HAT hB
  unfold insV at HSUB
  go_enter Tryd.func35, Tryd.ntmps35
  go_wp2
  go_region
  go_wp2_with fail
  refine (HSUB.out _ (grown_d (grown_a (World.grownBy.refl _ none) _))).mono ?_
  rintro e w3 ⟨rfl, hm⟩
  have HMM := Lib.hid hm
  clear hm HSUB
  go_wp2
  go_ret
  exact ⟨rfl, HMM.out⟩

set_option maxHeartbeats 2000000 in
theorem do_4 {w : World} {B : Nat} {S : Nat → Prop} {X : KB} {m : Mach} {k i : Nat} {a b c d : Int} (h : Core w B S X m) (hB : B ≤ w.heap.size) (hd : DoAt m k i (4, a, b, c, d)) (hf : Fits (at1 m k i) k (4, a, b, c, d)) :
    Calls Tryd.prog 35 #[.pointer (some ⟨X.c, 0, none⟩), .int .i64 k] w fun e w' => e = .returned (.nilIface) ∧ Moved w B S X (after (at1 m k i) k 4 (eff (4, a, b, c, d) (m.regs.getD k []) m.cells)) w' := by
  obtain ⟨tb, cap, g, pl, pc, n, hn, htv, hr⟩ := doRead h hd
  obtain ⟨c2, p0, p1, i0, i1, i2, i3, i4, f1, hi, hk, htb⟩ := hr
  dsimp only at i0 i1 i2 i3 i4
  have hin : (i : Int) < (pl : Int) := by omega
  have hkn : (k : Int) < (n : Int) := by omega
  have hw1 : wrap64 ((i : Int) + 1) = (i : Int) + 1 := by have := hd.small; unfold wrap64; omega
  have hgl : g < w.heap.size := World.block_lt_of_cell? w _ i0
  have htne : tb ≠ w.heap.size := by omega
  have hgne : g ≠ w.heap.size := by omega
  have hcl : X.c < w.heap.size := lt_of_block h.at_
  have hcne : X.c ≠ w.heap.size := by omega
  have HAT := Lib.hid (do_at h hd htv)
  have HSUB := Lib.hid (fun w' (hg : (w.setCell ⟨tb, k * 11 + 1, none⟩ (.int .i64 ((i : Int) + 1))).grownBy w' none) => (kreckon_any (HAT.out w' hg).1 hf htv (by simp)).mono (R' := fun e w'' => e = .returned (.tuple #[]) ∧ Moved w B S X (after (at1 m k i) k 4 (eff (4, a, b, c, d) (m.regs.getD k []) m.cells)) w'') fun e w'' ⟨he, hm⟩ => ⟨he, hm.from (HAT.out w' hg).2⟩)
  obtain ⟨M, hM⟩ : ∃ M : World → Prop, M = Moved w B S X (after (at1 m k i) k 4 (eff (4, a, b, c, d) (m.regs.getD k []) m.cells)) := ⟨_, rfl⟩
  rw [← hM] at HSUB ⊢
  clear h hd hf hM htv hn HAT hB
  unfold insV at HSUB
  go_enter Tryd.func35, Tryd.ntmps35
  go_wp2
  go_region
  go_wp2_with fail
  refine (HSUB.out _ (grown_d (grown_a (World.grownBy.refl _ none) _))).mono ?_
  rintro e w3 ⟨rfl, hm⟩
  have HMM := Lib.hid hm
  clear hm HSUB
  go_wp2
  go_ret
  exact ⟨rfl, HMM.out⟩

set_option maxHeartbeats 2000000 in
theorem do_5 {w : World} {B : Nat} {S : Nat → Prop} {X : KB} {m : Mach} {k i : Nat} {a b c d : Int} (h : Core w B S X m) (hB : B ≤ w.heap.size) (hd : DoAt m k i (5, a, b, c, d)) (hf : Fits (at1 m k i) k (5, a, b, c, d)) :
    Calls Tryd.prog 35 #[.pointer (some ⟨X.c, 0, none⟩), .int .i64 k] w fun e w' => e = .returned (.nilIface) ∧ Moved w B S X (after (at1 m k i) k 5 (eff (5, a, b, c, d) (m.regs.getD k []) m.cells)) w' := by
  obtain ⟨tb, cap, g, pl, pc, n, hn, htv, hr⟩ := doRead h hd
  obtain ⟨c2, p0, p1, i0, i1, i2, i3, i4, f1, hi, hk, htb⟩ := hr
  dsimp only at i0 i1 i2 i3 i4
  have hin : (i : Int) < (pl : Int) := by omega
  have hkn : (k : Int) < (n : Int) := by omega
  have hw1 : wrap64 ((i : Int) + 1) = (i : Int) + 1 := by have := hd.small; unfold wrap64; omega
  have hgl : g < w.heap.size := World.block_lt_of_cell? w _ i0
  have htne : tb ≠ w.heap.size := by omega
  have hgne : g ≠ w.heap.size := by omega
  have hcl : X.c < w.heap.size := lt_of_block h.at_
  have hcne : X.c ≠ w.heap.size := by omega
  have HAT := Lib.hid (do_at h hd htv)
  have HSUB := Lib.hid (fun w' (hg : (w.setCell ⟨tb, k * 11 + 1, none⟩ (.int .i64 ((i : Int) + 1))).grownBy w' none) => (kreckon_any (HAT.out w' hg).1 hf htv (by simp)).mono (R' := fun e w'' => e = .returned (.tuple #[]) ∧ Moved w B S X (after (at1 m k i) k 5 (eff (5, a, b, c, d) (m.regs.getD k []) m.cells)) w'') fun e w'' ⟨he, hm⟩ => ⟨he, hm.from (HAT.out w' hg).2⟩)
  obtain ⟨M, hM⟩ : ∃ M : World → Prop, M = Moved w B S X (after (at1 m k i) k 5 (eff (5, a, b, c, d) (m.regs.getD k []) m.cells)) := ⟨_, rfl⟩
  rw [← hM] at HSUB ⊢
  clear h hd hf hM htv hn HAT hB
  unfold insV at HSUB
  go_enter Tryd.func35, Tryd.ntmps35
  go_wp2
  go_region
  go_wp2_with fail
  refine (HSUB.out _ (grown_d (grown_a (World.grownBy.refl _ none) _))).mono ?_
  rintro e w3 ⟨rfl, hm⟩
  have HMM := Lib.hid hm
  clear hm HSUB
  go_wp2
  go_ret
  exact ⟨rfl, HMM.out⟩

set_option maxHeartbeats 2000000 in
theorem do_10 {w : World} {B : Nat} {S : Nat → Prop} {X : KB} {m : Mach} {k i : Nat} {a b c d : Int} (h : Core w B S X m) (hB : B ≤ w.heap.size) (hd : DoAt m k i (10, a, b, c, d)) (hf : Fits (at1 m k i) k (10, a, b, c, d)) :
    Calls Tryd.prog 35 #[.pointer (some ⟨X.c, 0, none⟩), .int .i64 k] w fun e w' => e = .returned (.nilIface) ∧ Moved w B S X (after (at1 m k i) k 10 (eff (10, a, b, c, d) (m.regs.getD k []) m.cells)) w' := by
  obtain ⟨tb, cap, g, pl, pc, n, hn, htv, hr⟩ := doRead h hd
  obtain ⟨c2, p0, p1, i0, i1, i2, i3, i4, f1, hi, hk, htb⟩ := hr
  dsimp only at i0 i1 i2 i3 i4
  have hin : (i : Int) < (pl : Int) := by omega
  have hkn : (k : Int) < (n : Int) := by omega
  have hw1 : wrap64 ((i : Int) + 1) = (i : Int) + 1 := by have := hd.small; unfold wrap64; omega
  have hgl : g < w.heap.size := World.block_lt_of_cell? w _ i0
  have htne : tb ≠ w.heap.size := by omega
  have hgne : g ≠ w.heap.size := by omega
  have hcl : X.c < w.heap.size := lt_of_block h.at_
  have hcne : X.c ≠ w.heap.size := by omega
  have HAT := Lib.hid (do_at h hd htv)
  have HSUB := Lib.hid (fun w' (hg : (w.setCell ⟨tb, k * 11 + 1, none⟩ (.int .i64 ((i : Int) + 1))).grownBy w' none) => (kturn_any (HAT.out w' hg).1 hf htv (by simp)).mono (R' := fun e w'' => e = .returned (.tuple #[]) ∧ Moved w B S X (after (at1 m k i) k 10 (eff (10, a, b, c, d) (m.regs.getD k []) m.cells)) w'') fun e w'' ⟨he, hm⟩ => ⟨he, hm.from (HAT.out w' hg).2⟩)
  obtain ⟨M, hM⟩ : ∃ M : World → Prop, M = Moved w B S X (after (at1 m k i) k 10 (eff (10, a, b, c, d) (m.regs.getD k []) m.cells)) := ⟨_, rfl⟩
  rw [← hM] at HSUB ⊢
  clear h hd hf hM htv hn HAT hB
  unfold insV at HSUB
  go_enter Tryd.func35, Tryd.ntmps35
  go_wp2
  go_region
  go_wp2_with fail
  refine (HSUB.out _ (grown_d (grown_a (World.grownBy.refl _ none) _))).mono ?_
  rintro e w3 ⟨rfl, hm⟩
  have HMM := Lib.hid hm
  clear hm HSUB
  go_wp2
  go_ret
  exact ⟨rfl, HMM.out⟩

set_option maxHeartbeats 2000000 in
theorem do_11 {w : World} {B : Nat} {S : Nat → Prop} {X : KB} {m : Mach} {k i : Nat} {a b c d : Int} (h : Core w B S X m) (hB : B ≤ w.heap.size) (hd : DoAt m k i (11, a, b, c, d)) (hf : Fits (at1 m k i) k (11, a, b, c, d)) :
    Calls Tryd.prog 35 #[.pointer (some ⟨X.c, 0, none⟩), .int .i64 k] w fun e w' => e = .returned (.nilIface) ∧ Moved w B S X (after (at1 m k i) k 11 (eff (11, a, b, c, d) (m.regs.getD k []) m.cells)) w' := by
  obtain ⟨tb, cap, g, pl, pc, n, hn, htv, hr⟩ := doRead h hd
  obtain ⟨c2, p0, p1, i0, i1, i2, i3, i4, f1, hi, hk, htb⟩ := hr
  dsimp only at i0 i1 i2 i3 i4
  have hin : (i : Int) < (pl : Int) := by omega
  have hkn : (k : Int) < (n : Int) := by omega
  have hw1 : wrap64 ((i : Int) + 1) = (i : Int) + 1 := by have := hd.small; unfold wrap64; omega
  have hgl : g < w.heap.size := World.block_lt_of_cell? w _ i0
  have htne : tb ≠ w.heap.size := by omega
  have hgne : g ≠ w.heap.size := by omega
  have hcl : X.c < w.heap.size := lt_of_block h.at_
  have hcne : X.c ≠ w.heap.size := by omega
  have HAT := Lib.hid (do_at h hd htv)
  have HSUB := Lib.hid (fun w' (hg : (w.setCell ⟨tb, k * 11 + 1, none⟩ (.int .i64 ((i : Int) + 1))).grownBy w' none) => (kturn_any (HAT.out w' hg).1 hf htv (by simp)).mono (R' := fun e w'' => e = .returned (.tuple #[]) ∧ Moved w B S X (after (at1 m k i) k 11 (eff (11, a, b, c, d) (m.regs.getD k []) m.cells)) w'') fun e w'' ⟨he, hm⟩ => ⟨he, hm.from (HAT.out w' hg).2⟩)
  obtain ⟨M, hM⟩ : ∃ M : World → Prop, M = Moved w B S X (after (at1 m k i) k 11 (eff (11, a, b, c, d) (m.regs.getD k []) m.cells)) := ⟨_, rfl⟩
  rw [← hM] at HSUB ⊢
  clear h hd hf hM htv hn HAT hB
  unfold insV at HSUB
  go_enter Tryd.func35, Tryd.ntmps35
  go_wp2
  go_region
  go_wp2_with fail
  refine (HSUB.out _ (grown_d (grown_a (World.grownBy.refl _ none) _))).mono ?_
  rintro e w3 ⟨rfl, hm⟩
  have HMM := Lib.hid hm
  clear hm HSUB
  go_wp2
  go_ret
  exact ⟨rfl, HMM.out⟩
end Go.Proofs.YtkhaeabbbhfloaaDoor
