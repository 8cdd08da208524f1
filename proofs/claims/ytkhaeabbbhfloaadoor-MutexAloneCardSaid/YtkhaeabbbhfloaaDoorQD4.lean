/-
  do, Op by Op.
-/
import Derived.Test.YtkhaeabbbhfloaaDoorQD
import Derived.Deep.AppendLies
import Derived.Test.YtkhaeabbbhfloaaDoorQC2
namespace Go.Proofs.YtkhaeabbbhfloaaDoor
set_option maxRecDepth 100000
open Go.RowKit Go.Shelf Go.Sort
set_option linter.unusedVariables false
set_option linter.unusedSimpArgs false

set_option maxHeartbeats 2000000 in
theorem do_6 {w : World} {B : Nat} {S : Nat → Prop} {X : KB} {m : Mach} {k i : Nat} {a b c d : Int} (h : Core w B S X m) (hB : B ≤ w.heap.size) (hd : DoAt m k i (6, a, b, c, d)) (hf : Fits (at1 m k i) k (6, a, b, c, d)) :
    Calls Tryd.prog 35 #[.pointer (some ⟨X.c, 0, none⟩), .int .i64 k] w fun e w' => e = .returned (.nilIface) ∧ Moved w B S X (after (at1 m k i) k 6 (eff (6, a, b, c, d) (m.regs.getD k []) m.cells)) w' := by
  obtain ⟨tb, cap, g, pl, pc, n, hn, htv, hr⟩ := doRead h hd
  obtain ⟨c2, p0, p1, i0, i1, i2, i3, i4, f1, hi, hk, htb⟩ := hr
  dsimp only at i0 i1 i2 i3 i4
  have hin : (i : Int) < (pl : Int) := by omega
  have hkn : (k : Int) < (n : Int) := by omega
  have hw1 : wrap64 ((i : Int) + 1) = (i : Int) + 1 := by have := hd.small; unfold wrap64; omega
  have hgl : g < w.heap.size := World.block_lt_of_cell? w _ i0
  have htne : tb ≠ w.heap.size := by omega
  have hgne : g ≠ w.heap.size := by omega
  have hcl : X.c < w.heap.size := lt_of_block h.at_
  have hcne : X.c ≠ w.heap.size := by omega
  have HAT := Lib.hid (do_at h hd htv)
  have HSUB := Lib.hid (fun w' (hg : (w.setCell ⟨tb, k * 11 + 1, none⟩ (.int .i64 ((i : Int) + 1))).grownBy w' none) => (ktouch_any (HAT.out w' hg).1 (by have h1 := (HAT.out w' hg).2.size; omega) hf (by simp)).mono (R' := fun e w'' => e = .returned (.tuple #[]) ∧ Moved w B S X (after (at1 m k i) k 6 (eff (6, a, b, c, d) (m.regs.getD k []) m.cells)) w'') fun e w'' ⟨he, hm⟩ => ⟨he, hm.from (HAT.out w' hg).2⟩)
  obtain ⟨M, hM⟩ : ∃ M : World → Prop, M = Moved w B S X (after (at1 m k i) k 6 (eff (6, a, b, c, d) (m.regs.getD k []) m.cells)) := ⟨_, rfl⟩
  rw [← hM] at HSUB ⊢
  clear h hd hf hM htv hn HAT hB
  unfold insV at HSUB
  go_enter Tryd.func35, Tryd.ntmps35
  go_wp2
  go_region
  go_wp2_with fail
  refine (HSUB.out _ (grown_d (grown_a (World.grownBy.refl _ none) _))).mono ?_
  rintro e w3 ⟨rfl, hm⟩
  have HMM := Lib.hid hm
  clear hm HSUB
  go_wp2
  go_ret
  exact ⟨rfl, HMM.out⟩

set_option maxHeartbeats 2000000 in
theorem do_7 {w : World} {B : Nat} {S : Nat → Prop} {X : KB} {m : Mach} {k i : Nat} {a b c d : Int} (h : Core w B S X m) (hB : B ≤ w.heap.size) (hd : DoAt m k i (7, a, b, c, d)) (hf : Fits (at1 m k i) k (7, a, b, c, d)) :
    Calls Tryd.prog 35 #[.pointer (some ⟨X.c, 0, none⟩), .int .i64 k] w fun e w' => e = .returned (errV (errEff (eff (7, a, b, c, d) (m.regs.getD k []) m.cells))) ∧ Moved w B S X (after (at1 m k i) k 7 (eff (7, a, b, c, d) (m.regs.getD k []) m.cells)) w' := by
  obtain ⟨tb, cap, g, pl, pc, n, hn, htv, hr⟩ := doRead h hd
  obtain ⟨c2, p0, p1, i0, i1, i2, i3, i4, f1, hi, hk, htb⟩ := hr
  dsimp only at i0 i1 i2 i3 i4
  have hin : (i : Int) < (pl : Int) := by omega
  have hkn : (k : Int) < (n : Int) := by omega
  have hw1 : wrap64 ((i : Int) + 1) = (i : Int) + 1 := by have := hd.small; unfold wrap64; omega
  have hgl : g < w.heap.size := World.block_lt_of_cell? w _ i0
  have htne : tb ≠ w.heap.size := by omega
  have hgne : g ≠ w.heap.size := by omega
  have hcl : X.c < w.heap.size := lt_of_block h.at_
  have hcne : X.c ≠ w.heap.size := by omega
  have HAT := Lib.hid (do_at h hd htv)
  have HSUB := Lib.hid (fun w' (hg : (w.setCell ⟨tb, k * 11 + 1, none⟩ (.int .i64 ((i : Int) + 1))).grownBy w' none) => (kreach_any (HAT.out w' hg).1 (by have h1 := (HAT.out w' hg).2.size; omega) hf (by simp)).mono (R' := fun e w'' => e = .returned (errV (errEff (eff (7, a, b, c, d) (m.regs.getD k []) m.cells))) ∧ Moved w B S X (after (at1 m k i) k 7 (eff (7, a, b, c, d) (m.regs.getD k []) m.cells)) w'') fun e w'' ⟨he, hm⟩ => ⟨he, hm.from (HAT.out w' hg).2⟩)
  obtain ⟨RV, hRV⟩ : ∃ v, v = errV (errEff (eff (7, a, b, c, d) (m.regs.getD k []) m.cells)) := ⟨_, rfl⟩
  rw [← hRV] at HSUB ⊢
  obtain ⟨M, hM⟩ : ∃ M : World → Prop, M = Moved w B S X (after (at1 m k i) k 7 (eff (7, a, b, c, d) (m.regs.getD k []) m.cells)) := ⟨_, rfl⟩
  rw [← hM] at HSUB ⊢
  clear h hd hf hM htv hn HAT hB hRV
  unfold insV at HSUB
  go_enter Tryd.func35, Tryd.ntmps35
  go_wp2
  go_region
  go_wp2_with fail
  refine (HSUB.out _ (grown_d (grown_a (World.grownBy.refl _ none) _))).mono ?_
  rintro e w3 ⟨rfl, hm⟩
  have HMM := Lib.hid hm
  clear hm HSUB
  go_wp2
  go_ret
  exact ⟨rfl, HMM.out⟩

set_option maxHeartbeats 2000000 in
theorem do_8 {w : World} {B : Nat} {S : Nat → Prop} {X : KB} {m : Mach} {k i : Nat} {a b c d : Int} (h : Core w B S X m) (hB : B ≤ w.heap.size) (hd : DoAt m k i (8, a, b, c, d)) (hf : Fits (at1 m k i) k (8, a, b, c, d)) :
    Calls Tryd.prog 35 #[.pointer (some ⟨X.c, 0, none⟩), .int .i64 k] w fun e w' => e = .returned (.nilIface) ∧ Moved w B S X (after (at1 m k i) k 8 (eff (8, a, b, c, d) (m.regs.getD k []) m.cells)) w' := by
  obtain ⟨tb, cap, g, pl, pc, n, hn, htv, hr⟩ := doRead h hd
  obtain ⟨c2, p0, p1, i0, i1, i2, i3, i4, f1, hi, hk, htb⟩ := hr
  dsimp only at i0 i1 i2 i3 i4
  have hin : (i : Int) < (pl : Int) := by omega
  have hkn : (k : Int) < (n : Int) := by omega
  have hw1 : wrap64 ((i : Int) + 1) = (i : Int) + 1 := by have := hd.small; unfold wrap64; omega
  have hgl : g < w.heap.size := World.block_lt_of_cell? w _ i0
  have htne : tb ≠ w.heap.size := by omega
  have hgne : g ≠ w.heap.size := by omega
  have hcl : X.c < w.heap.size := lt_of_block h.at_
  have hcne : X.c ≠ w.heap.size := by omega
  have HAT := Lib.hid (do_at h hd htv)
  have HSUB := Lib.hid (fun w' (hg : (w.setCell ⟨tb, k * 11 + 1, none⟩ (.int .i64 ((i : Int) + 1))).grownBy w' none) => (ktouch_any (HAT.out w' hg).1 (by have h1 := (HAT.out w' hg).2.size; omega) hf (by simp)).mono (R' := fun e w'' => e = .returned (.tuple #[]) ∧ Moved w B S X (after (at1 m k i) k 8 (eff (8, a, b, c, d) (m.regs.getD k []) m.cells)) w'') fun e w'' ⟨he, hm⟩ => ⟨he, hm.from (HAT.out w' hg).2⟩)
  obtain ⟨M, hM⟩ : ∃ M : World → Prop, M = Moved w B S X (after (at1 m k i) k 8 (eff (8, a, b, c, d) (m.regs.getD k []) m.cells)) := ⟨_, rfl⟩
  rw [← hM] at HSUB ⊢
  clear h hd hf hM htv hn HAT hB
  unfold insV at HSUB
  go_enter Tryd.func35, Tryd.ntmps35
  go_wp2
  go_region
  go_wp2_with fail
  refine (HSUB.out _ (grown_d (grown_a (World.grownBy.refl _ none) _))).mono ?_
  rintro e w3 ⟨rfl, hm⟩
  have HMM := Lib.hid hm
  clear hm HSUB
  go_wp2
  go_ret
  exact ⟨rfl, HMM.out⟩

set_option maxHeartbeats 2000000 in
theorem do_9 {w : World} {B : Nat} {S : Nat → Prop} {X : KB} {m : Mach} {k i : Nat} {a b c d : Int} (h : Core w B S X m) (hB : B ≤ w.heap.size) (hd : DoAt m k i (9, a, b, c, d)) (hf : Fits (at1 m k i) k (9, a, b, c, d)) :
    Calls Tryd.prog 35 #[.pointer (some ⟨X.c, 0, none⟩), .int .i64 k] w fun e w' => e = .returned (.nilIface) ∧ Moved w B S X (after (at1 m k i) k 9 (eff (9, a, b, c, d) (m.regs.getD k []) m.cells)) w' := by
  obtain ⟨tb, cap, g, pl, pc, n, hn, htv, hr⟩ := doRead h hd
  obtain ⟨c2, p0, p1, i0, i1, i2, i3, i4, f1, hi, hk, htb⟩ := hr
  dsimp only at i0 i1 i2 i3 i4
  have hin : (i : Int) < (pl : Int) := by omega
  have hkn : (k : Int) < (n : Int) := by omega
  have hw1 : wrap64 ((i : Int) + 1) = (i : Int) + 1 := by have := hd.small; unfold wrap64; omega
  have hgl : g < w.heap.size := World.block_lt_of_cell? w _ i0
  have htne : tb ≠ w.heap.size := by omega
  have hgne : g ≠ w.heap.size := by omega
  have hcl : X.c < w.heap.size := lt_of_block h.at_
  have hcne : X.c ≠ w.heap.size := by omega
  have HAT := Lib.hid (do_at h hd htv)
  have HSUB := Lib.hid (fun w' (hg : (w.setCell ⟨tb, k * 11 + 1, none⟩ (.int .i64 ((i : Int) + 1))).grownBy w' none) => (ktouch_any (HAT.out w' hg).1 (by have h1 := (HAT.out w' hg).2.size; omega) hf (by simp)).mono (R' := fun e w'' => e = .returned (.tuple #[]) ∧ Moved w B S X (after (at1 m k i) k 9 (eff (9, a, b, c, d) (m.regs.getD k []) m.cells)) w'') fun e w'' ⟨he, hm⟩ => ⟨he, hm.from (HAT.out w' hg).2⟩)
  obtain ⟨M, hM⟩ : ∃ M : World → Prop, M = Moved w B S X (after (at1 m k i) k 9 (eff (9, a, b, c, d) (m.regs.getD k []) m.cells)) := ⟨_, rfl⟩
  rw [← hM] at HSUB ⊢
  clear h hd hf hM htv hn HAT hB
  unfold insV at HSUB
  go_enter Tryd.func35, Tryd.ntmps35
  go_wp2
  go_region
  go_wp2_with fail
  refine (HSUB.out _ (grown_d (grown_a (World.grownBy.refl _ none) _))).mono ?_
  rintro e w3 ⟨rfl, hm⟩
  have HMM := Lib.hid hm
  clear hm HSUB
  go_wp2
  go_ret
  exact ⟨rfl, HMM.out⟩

set_option maxHeartbeats 2000000 in
theorem do_12 {w : World} {B : Nat} {S : Nat → Prop} {X : KB} {m : Mach} {k i : Nat} {a b c d : Int} (h : Core w B S X m) (hB : B ≤ w.heap.size) (hd : DoAt m k i (12, a, b, c, d)) (hf : Fits (at1 m k i) k (12, a, b, c, d)) :
    Calls Tryd.prog 35 #[.pointer (some ⟨X.c, 0, none⟩), .int .i64 k] w fun e w' => e = .returned (.nilIface) ∧ Moved w B S X (after (at1 m k i) k 12 (eff (12, a, b, c, d) (m.regs.getD k []) m.cells)) w' := by
  obtain ⟨tb, cap, g, pl, pc, n, hn, htv, hr⟩ := doRead h hd
  obtain ⟨c2, p0, p1, i0, i1, i2, i3, i4, f1, hi, hk, htb⟩ := hr
  dsimp only at i0 i1 i2 i3 i4
  have hin : (i : Int) < (pl : Int) := by omega
  have hkn : (k : Int) < (n : Int) := by omega
  have hw1 : wrap64 ((i : Int) + 1) = (i : Int) + 1 := by have := hd.small; unfold wrap64; omega
  have hgl : g < w.heap.size := World.block_lt_of_cell? w _ i0
  have htne : tb ≠ w.heap.size := by omega
  have hgne : g ≠ w.heap.size := by omega
  have hcl : X.c < w.heap.size := lt_of_block h.at_
  have hcne : X.c ≠ w.heap.size := by omega
  have HAT := Lib.hid (do_at h hd htv)
  have HSUB := Lib.hid (fun w' (hg : (w.setCell ⟨tb, k * 11 + 1, none⟩ (.int .i64 ((i : Int) + 1))).grownBy w' none) => (kturn_any (HAT.out w' hg).1 hf htv (by simp)).mono (R' := fun e w'' => e = .returned (.tuple #[]) ∧ Moved w B S X (after (at1 m k i) k 12 (eff (12, a, b, c, d) (m.regs.getD k []) m.cells)) w'') fun e w'' ⟨he, hm⟩ => ⟨he, hm.from (HAT.out w' hg).2⟩)
  obtain ⟨M, hM⟩ : ∃ M : World → Prop, M = Moved w B S X (after (at1 m k i) k 12 (eff (12, a, b, c, d) (m.regs.getD k []) m.cells)) := ⟨_, rfl⟩
  rw [← hM] at HSUB ⊢
  clear h hd hf hM htv hn HAT hB
  unfold insV at HSUB
  go_enter Tryd.func35, Tryd.ntmps35
  go_wp2
  go_region
  go_wp2_with fail
  refine (HSUB.out _ (grown_d (grown_a (World.grownBy.refl _ none) _))).mono ?_
  rintro e w3 ⟨rfl, hm⟩
  have HMM := Lib.hid hm
  clear hm HSUB
  go_wp2
  go_ret
  exact ⟨rfl, HMM.out⟩

set_option maxHeartbeats 2000000 in
theorem do_13 {w : World} {B : Nat} {S : Nat → Prop} {X : KB} {m : Mach} {k i : Nat} {a b c d : Int} (h : Core w B S X m) (hB : B ≤ w.heap.size) (hd : DoAt m k i (13, a, b, c, d)) (hf : Fits (at1 m k i) k (13, a, b, c, d)) :
    Calls Tryd.prog 35 #[.pointer (some ⟨X.c, 0, none⟩), .int .i64 k] w fun e w' => e = .returned (.nilIface) ∧ Moved w B S X (after (at1 m k i) k 13 (eff (13, a, b, c, d) (m.regs.getD k []) m.cells)) w' := by
  obtain ⟨tb, cap, g, pl, pc, n, hn, htv, hr⟩ := doRead h hd
  obtain ⟨c2, p0, p1, i0, i1, i2, i3, i4, f1, hi, hk, htb⟩ := hr
  dsimp only at i0 i1 i2 i3 i4
  have hin : (i : Int) < (pl : Int) := by omega
  have hkn : (k : Int) < (n : Int) := by omega
  have hw1 : wrap64 ((i : Int) + 1) = (i : Int) + 1 := by have := hd.small; unfold wrap64; omega
  have hgl : g < w.heap.size := World.block_lt_of_cell? w _ i0
  have htne : tb ≠ w.heap.size := by omega
  have hgne : g ≠ w.heap.size := by omega
  have hcl : X.c < w.heap.size := lt_of_block h.at_
  have hcne : X.c ≠ w.heap.size := by omega
  have HAT := Lib.hid (do_at h hd htv)
  have HSUB := Lib.hid (fun w' (hg : (w.setCell ⟨tb, k * 11 + 1, none⟩ (.int .i64 ((i : Int) + 1))).grownBy w' none) => (kturn_any (HAT.out w' hg).1 hf htv (by simp)).mono (R' := fun e w'' => e = .returned (.tuple #[]) ∧ Moved w B S X (after (at1 m k i) k 13 (eff (13, a, b, c, d) (m.regs.getD k []) m.cells)) w'') fun e w'' ⟨he, hm⟩ => ⟨he, hm.from (HAT.out w' hg).2⟩)
  obtain ⟨M, hM⟩ : ∃ M : World → Prop, M = Moved w B S X (after (at1 m k i) k 13 (eff (13, a, b, c, d) (m.regs.getD k []) m.cells)) := ⟨_, rfl⟩
  rw [← hM] at HSUB ⊢
  clear h hd hf hM htv hn HAT hB
  unfold insV at HSUB
  go_enter Tryd.func35, Tryd.ntmps35
  go_wp2
  go_region
  go_wp2_with fail
  refine (HSUB.out _ (grown_d (grown_a (World.grownBy.refl _ none) _))).mono ?_
  rintro e w3 ⟨rfl, hm⟩
  have HMM := Lib.hid hm
  clear hm HSUB
  go_wp2
  go_ret
  exact ⟨rfl, HMM.out⟩

set_option maxHeartbeats 2000000 in
theorem do_14 {w : World} {B : Nat} {S : Nat → Prop} {X : KB} {m : Mach} {k i : Nat} {a b c d : Int} (h : Core w B S X m) (hB : B ≤ w.heap.size) (hd : DoAt m k i (14, a, b, c, d)) (hf : Fits (at1 m k i) k (14, a, b, c, d)) :
    Calls Tryd.prog 35 #[.pointer (some ⟨X.c, 0, none⟩), .int .i64 k] w fun e w' => e = .returned (.nilIface) ∧ Moved w B S X (after (at1 m k i) k 14 (eff (14, a, b, c, d) (m.regs.getD k []) m.cells)) w' := by
  obtain ⟨tb, cap, g, pl, pc, n, hn, htv, hr⟩ := doRead h hd
  obtain ⟨c2, p0, p1, i0, i1, i2, i3, i4, f1, hi, hk, htb⟩ := hr
  dsimp only at i0 i1 i2 i3 i4
  have hin : (i : Int) < (pl : Int) := by omega
  have hkn : (k : Int) < (n : Int) := by omega
  have hw1 : wrap64 ((i : Int) + 1) = (i : Int) + 1 := by have := hd.small; unfold wrap64; omega
  have hgl : g < w.heap.size := World.block_lt_of_cell? w _ i0
  have htne : tb ≠ w.heap.size := by omega
  have hgne : g ≠ w.heap.size := by omega
  have hcl : X.c < w.heap.size := lt_of_block h.at_
  have hcne : X.c ≠ w.heap.size := by omega
  have HAT := Lib.hid (do_at h hd htv)
  have HSUB := Lib.hid (fun w' (hg : (w.setCell ⟨tb, k * 11 + 1, none⟩ (.int .i64 ((i : Int) + 1))).grownBy w' none) => (kwait_any (HAT.out w' hg).1 (by have h1 := (HAT.out w' hg).2.size; omega) hf rfl).mono (R' := fun e w'' => e = .returned (.tuple #[]) ∧ Moved w B S X (after (at1 m k i) k 14 (eff (14, a, b, c, d) (m.regs.getD k []) m.cells)) w'') fun e w'' ⟨he, hm⟩ => ⟨he, hm.from (HAT.out w' hg).2⟩)
  obtain ⟨M, hM⟩ : ∃ M : World → Prop, M = Moved w B S X (after (at1 m k i) k 14 (eff (14, a, b, c, d) (m.regs.getD k []) m.cells)) := ⟨_, rfl⟩
  rw [← hM] at HSUB ⊢
  clear h hd hf hM htv hn HAT hB
  unfold insV at HSUB
  go_enter Tryd.func35, Tryd.ntmps35
  go_wp2
  go_region
  go_wp2_with fail
  refine (HSUB.out _ (grown_d (grown_a (World.grownBy.refl _ none) _))).mono ?_
  rintro e w3 ⟨rfl, hm⟩
  have HMM := Lib.hid hm
  clear hm HSUB
  go_wp2
  go_ret
  exact ⟨rfl, HMM.out⟩

set_option maxHeartbeats 2000000 in
theorem do_15 {w : World} {B : Nat} {S : Nat → Prop} {X : KB} {m : Mach} {k i : Nat} {a b c d : Int} (h : Core w B S X m) (hB : B ≤ w.heap.size) (hd : DoAt m k i (15, a, b, c, d)) (hf : Fits (at1 m k i) k (15, a, b, c, d)) :
    Calls Tryd.prog 35 #[.pointer (some ⟨X.c, 0, none⟩), .int .i64 k] w fun e w' => e = .returned (errV (errEff (eff (15, a, b, c, d) (m.regs.getD k []) m.cells))) ∧ Moved w B S X (after (at1 m k i) k 15 (eff (15, a, b, c, d) (m.regs.getD k []) m.cells)) w' := by
  obtain ⟨tb, cap, g, pl, pc, n, hn, htv, hr⟩ := doRead h hd
  obtain ⟨c2, p0, p1, i0, i1, i2, i3, i4, f1, hi, hk, htb⟩ := hr
  dsimp only at i0 i1 i2 i3 i4
  have hin : (i : Int) < (pl : Int) := by omega
  have hkn : (k : Int) < (n : Int) := by omega
  have hw1 : wrap64 ((i : Int) + 1) = (i : Int) + 1 := by have := hd.small; unfold wrap64; omega
  have hgl : g < w.heap.size := World.block_lt_of_cell? w _ i0
  have htne : tb ≠ w.heap.size := by omega
  have hgne : g ≠ w.heap.size := by omega
  have hcl : X.c < w.heap.size := lt_of_block h.at_
  have hcne : X.c ≠ w.heap.size := by omega
  have HAT := Lib.hid (do_at h hd htv)
  have HSUB := Lib.hid (fun w' (hg : (w.setCell ⟨tb, k * 11 + 1, none⟩ (.int .i64 ((i : Int) + 1))).grownBy w' none) => (kreach_any (HAT.out w' hg).1 (by have h1 := (HAT.out w' hg).2.size; omega) hf (by simp)).mono (R' := fun e w'' => e = .returned (errV (errEff (eff (15, a, b, c, d) (m.regs.getD k []) m.cells))) ∧ Moved w B S X (after (at1 m k i) k 15 (eff (15, a, b, c, d) (m.regs.getD k []) m.cells)) w'') fun e w'' ⟨he, hm⟩ => ⟨he, hm.from (HAT.out w' hg).2⟩)
  obtain ⟨RV, hRV⟩ : ∃ v, v = errV (errEff (eff (15, a, b, c, d) (m.regs.getD k []) m.cells)) := ⟨_, rfl⟩
  rw [← hRV] at HSUB ⊢
  obtain ⟨M, hM⟩ : ∃ M : World → Prop, M = Moved w B S X (after (at1 m k i) k 15 (eff (15, a, b, c, d) (m.regs.getD k []) m.cells)) := ⟨_, rfl⟩
  rw [← hM] at HSUB ⊢
  clear h hd hf hM htv hn HAT hB hRV
  unfold insV at HSUB
  go_enter Tryd.func35, Tryd.ntmps35
  go_wp2
  go_region
  go_wp2_with fail
  refine (HSUB.out _ (grown_d (grown_a (World.grownBy.refl _ none) _))).mono ?_
  rintro e w3 ⟨rfl, hm⟩
  have HMM := Lib.hid hm
  clear hm HSUB
  go_wp2
  go_ret
  exact ⟨rfl, HMM.out⟩
end Go.Proofs.YtkhaeabbbhfloaaDoor
