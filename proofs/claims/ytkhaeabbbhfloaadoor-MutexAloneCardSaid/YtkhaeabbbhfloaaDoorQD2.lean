/-
  do, Op by Op.
-/
import Derived.Test.YtkhaeabbbhfloaaDoorQD
import Derived.Deep.AppendLies
import Derived.Test.YtkhaeabbbhfloaaDoorQC2
namespace Go.Proofs.YtkhaeabbbhfloaaDoor
set_option maxRecDepth 100000
open Go.RowKit Go.Shelf Go.Sort
set_option linter.unusedVariables false
set_option linter.unusedSimpArgs false

theorem evOne {a b c d : Int} : ∀ u ∈ [Value.int .i64 a, Value.int .i64 b, Value.int .i64 c, Value.int .i64 d], u.oneCell' = true := by
  intro u hu
  simp at hu
  rcases hu with rfl | rfl | rfl | rfl <;> rfl
theorem ev_block {w w1 : World} {B : Nat} {S : Nat → Prop} {X : KB} {m : Mach} (h : Core w B S X m) (hg : w.grownBy w1 X.ev.ownBlock) {g : Nat} {cur : Array Value} {t : TypeId} {f : Nat × Nat} (hb : w.heap[g]? = some (.cells cur t f)) (ht : t ≠ 79) : w1.heap[g]? = w.heap[g]? :=
  hg.block g (lt_of_block hb) (fun e => by
    obtain ⟨c, fz, hc⟩ := Lib.ownsRow_kind h.events g e.symm
    rw [hb] at hc
    injection hc with hc
    injection hc with _ h2 _
    exact ht h2)
theorem ev_kept {w w1 : World} {B : Nat} {S : Nat → Prop} {X : KB} {m : Mach} (h : Core w B S X m) (hg : w.grownBy w1 X.ev.ownBlock) :
    w1.cell? ⟨X.c, 4, none⟩ = some X.ev ∧ w1.cell? ⟨X.c, 5, none⟩ = some (.int .i64 (m.steps : Int)) ∧ w1.frozen? ⟨X.c, 4, none⟩ = false := by
  have hb := ev_block h hg h.at_ (by decide)
  obtain ⟨_, _, _, _, d4, d5⟩ := h.cells
  exact ⟨(World.cell?_of_block (a := ⟨X.c, 4, none⟩) hb).trans d4, (World.cell?_of_block (a := ⟨X.c, 5, none⟩) hb).trans d5, (World.frozen?_of_block (a := ⟨X.c, 4, none⟩) hb).trans (h.loose 4)⟩
theorem kept4 {w w1 : World} {B : Nat} {S : Nat → Prop} {X : KB} {m : Mach} {tb xb q : Nat} {st a b rb : Int} (h : Core w B S X m) (hg : w.grownBy w1 X.ev.ownBlock) (htv : X.tv.ownBlock = some tb) (hxx : ∃ cur f, w.heap[xb]? = some (.cells cur 89 f))
    (hz : w.cell? ⟨X.c, 5, none⟩ = some (.int .i64 st) ∧ w.cell? ⟨xb, 1, none⟩ = some (.int .i64 a) ∧ w.cell? ⟨xb, 2, none⟩ = some (.int .i64 b) ∧ w.cell? ⟨tb, q, none⟩ = some (.int .u64 rb)) :
    w1.cell? ⟨X.c, 5, none⟩ = some (.int .i64 st) ∧ w1.cell? ⟨xb, 1, none⟩ = some (.int .i64 a) ∧ w1.cell? ⟨xb, 2, none⟩ = some (.int .i64 b) ∧ w1.cell? ⟨tb, q, none⟩ = some (.int .u64 rb) := by
  have hc := ev_block h hg h.at_ (by decide)
  obtain ⟨cur, f, hx⟩ := hxx
  have hx2 := ev_block h hg hx (by decide)
  obtain ⟨xs, ho, -⟩ := h.thr
  obtain ⟨c, fz, ht⟩ := Lib.ownsRow_kind ho tb htv
  have ht2 := ev_block h hg ht (by decide)
  exact ⟨(World.cell?_of_block (a := ⟨X.c, 5, none⟩) hc).trans hz.1, (World.cell?_of_block (a := ⟨xb, 1, none⟩) hx2).trans hz.2.1, (World.cell?_of_block (a := ⟨xb, 2, none⟩) hx2).trans hz.2.2.1, (World.cell?_of_block (a := ⟨tb, q, none⟩) ht2).trans hz.2.2.2⟩

theorem ev_one {l : List Ev4} {x : Ev4} : cellsE l ++ [.int .i64 x.1, .int .i64 x.2.1, .int .i64 x.2.2.1, .int .i64 x.2.2.2] = cellsE (l ++ [x]) := by
  rw [cellsE_append, cellsE_one]
  rfl
/-- What is left of Say: the row that is longer is stored. -/
theorem said_of {w W w1 : World} {B : Nat} {S : Nat → Prop} {X : KB} {m1 : Mach} {x : Ev4} {g cap n : Nat} (hC : Core W B S X m1) (hk : Keeps S w W) (hn : n = m1.events.length)
    (ho : w1.ownsRow B 79 4 (.slice (some ⟨g, 0, none⟩) (n + 1) cap) (n + 1) (cellsE m1.events ++ [.int .i64 x.1, .int .i64 x.2.1, .int .i64 x.2.2.1, .int .i64 x.2.2.2])) (hg : W.grownBy w1 X.ev.ownBlock) (hat : X.ev.ownBlock = some g ∨ g = W.heap.size) :
    Moved w B S X { m1 with events := m1.events ++ [x] } (w1.setCell ⟨X.c, 4, none⟩ (.slice (some ⟨g, 0, none⟩) (n + 1) cap)) := by
  subst hn
  rw [ev_one] at ho
  have hl : (m1.events ++ [x]).length = m1.events.length + 1 := by simp
  obtain ⟨h1, h2, h3⟩ := hC.addEvent (l := m1.events ++ [x]) (ev := .slice (some ⟨g, 0, none⟩) (m1.events.length + 1) cap) (by rw [hl]; exact ho) hg (by
    rcases hat with e | e
    · exact .inl e.symm
    · exact .inr (by rw [e]; rfl))
  exact ⟨_, { X with ev := .slice (some ⟨g, 0, none⟩) (m1.events.length + 1) cap }, rfl, rfl, h1, fun k hs => (h3 k hs).imp id (fun h => Nat.le_trans hk.size h), hk.on (Since.refl _ _) h2⟩
theorem signed_wrap {v : Int} (h : okU v) : IntKind.i64.wrap v = signed v := by
  obtain ⟨h0, h1⟩ := h
  simp [IntKind.wrap, IntKind.signed, IntKind.bits]
  unfold signed m64
  split <;> omega

set_option maxHeartbeats 2000000 in
theorem do_16 {w : World} {B : Nat} {S : Nat → Prop} {X : KB} {m : Mach} {k i : Nat} {a b c d : Int} (h : Core w B S X m) (hB : B ≤ w.heap.size) (hd : DoAt m k i (16, a, b, c, d)) (hf : Fits (at1 m k i) k (16, a, b, c, d)) :
    Calls Tryd.prog 35 #[.pointer (some ⟨X.c, 0, none⟩), .int .i64 k] w fun e w' => e = .returned (.nilIface) ∧ Moved w B S X (after (at1 m k i) k 16 (eff (16, a, b, c, d) (m.regs.getD k []) m.cells)) w' := by
  obtain ⟨tb, cap, g, pl, pc, n, hn, htv, hr⟩ := doRead h hd
  obtain ⟨c2, p0, p1, i0, i1, i2, i3, i4, f1, hi, hk, htb⟩ := hr
  dsimp only at i0 i1 i2 i3 i4
  have hin : (i : Int) < (pl : Int) := by omega
  have hkn : (k : Int) < (n : Int) := by omega
  have hw1 : wrap64 ((i : Int) + 1) = (i : Int) + 1 := by have := hd.small; unfold wrap64; omega
  have hgl : g < w.heap.size := World.block_lt_of_cell? w _ i0
  have htne : tb ≠ w.heap.size := by omega
  have hgne : g ≠ w.heap.size := by omega
  have hcl : X.c < w.heap.size := lt_of_block h.at_
  have hcne : X.c ≠ w.heap.size := by omega
  have HAT := Lib.hid (do_at h hd htv)
  obtain ⟨b0, b7⟩ := hf.fit.rb (by simp)
  obtain ⟨b, rfl⟩ := nat_of b0
  dsimp only at b7
  have hb : b < 8 := by omega
  have hb0 : (0 : Int) ≤ (b : Int) := by omega
  have hb8 : (b : Int) < 8 := by omega
  have hrb := getD_okU hf.ru b
  have HSI := Lib.hid (show IntKind.i64.wrap ((m.regs.getD k []).getD b 0) = signed ((m.regs.getD k []).getD b 0) from signed_wrap hrb)
  obtain ⟨i0', hi', hz0, hz1, hz2⟩ := info_parts info_E
  have HRD := Lib.hid (fun w' hg => (HAT.out w' hg).1.registers hf.hk htv)
  obtain ⟨M, hM⟩ : ∃ M : World → Prop, M = Moved w B S X (after (at1 m k i) k 16 (eff (16, a, (b : Int), c, d) (m.regs.getD k []) m.cells)) := ⟨_, rfl⟩
  have HM := Lib.hid hM
  rw [← hM]
  have HTV := Lib.hid (show X.tv.ownBlock = some tb by rw [htv]; rfl)
  have HBZ := Lib.hid hB
  have HEV := Lib.hid (show (at1 m k i).events.length ≤ 20000 from hf.events)
  clear h hd hf hM htv hn hB hrb b0
  go_enter Tryd.func35, Tryd.ntmps35
  go_wp2
  go_region
  go_wp2_with fail
  obtain ⟨W, hW⟩ : ∃ W, W = ((w.setCell ⟨tb, k * 11 + 1, none⟩ (.int .i64 ((i : Int) + 1))).alloc (.cells #[.int .i64 16, .int .i64 a, .int .i64 b, .int .i64 c, .int .i64 d] 89)).drew := ⟨_, rfl⟩
  have HG := Lib.hid (show (w.setCell ⟨tb, k * 11 + 1, none⟩ (.int .i64 ((i : Int) + 1))).grownBy W none from by rw [hW]; exact grown_d (grown_a (World.grownBy.refl _ none) _))
  have hxw : W.heap[w.heap.size]? = some (.cells #[.int .i64 16, .int .i64 a, .int .i64 b, .int .i64 c, .int .i64 d] 89 (0, 0)) := by
    rw [hW, show w.heap.size = (w.setCell ⟨tb, k * 11 + 1, none⟩ (.int .i64 ((i : Int) + 1))).heap.size by simp]
    exact heap_alloc_new _ _
  rw [← hW]
  clear hW
  obtain ⟨HC, HK⟩ := HAT.out W HG.out
  have HCC := Lib.hid HC
  have HKK := Lib.hid HK
  obtain ⟨-, -, -, -, y4, y5⟩ := HC.cells
  have y6 := HC.loose 4
  obtain ⟨-, y1, y2, -⟩ := ins_cell (x := (16, a, (b : Int), c, d)) hxw
  have y3 : W.cell? ⟨tb, k * 11 + 3 + b, none⟩ = some (.int .u64 ((m.regs.getD k []).getD b 0)) := (HRD.out W HG.out).cell b hb
  have hsi := HSI.out
  have hsw : w.heap.size < W.heap.size := lt_of_block hxw
  have hcW : X.c < W.heap.size := lt_of_block HC.at_
  have htW : tb < W.heap.size := World.block_lt_of_cell? W _ y3
  have hcWn : X.c ≠ W.heap.size := by omega
  have htWn : tb ≠ W.heap.size := by omega
  have hxWn : w.heap.size ≠ W.heap.size := by omega
  have hct : X.c ≠ tb := fun e => by
    obtain ⟨xs, ho, -⟩ := HC.thr
    obtain ⟨c', fz, hc'⟩ := Lib.ownsRow_kind ho tb HTV.out
    rw [← e, HC.at_] at hc'
    injection hc' with hc'
    injection hc' with _ ht _
    exact absurd ht (by decide)
  have hxc : X.c ≠ w.heap.size := hcne
  generalize w.heap.size = xb at *
  have HAP := Lib.hid (And.intro hxc hct)
  generalize hgr : (m.regs.getD k []).getD b 0 = rb at *
  have HGR := Lib.hid hgr
  obtain ⟨st, hst⟩ : ∃ s, ((at1 m k i).steps : Int) = s := ⟨_, rfl⟩
  rw [hst] at y5
  have HST := Lib.hid hst
  have HG3 := Lib.hid (grown_a (grown_d (World.grownBy.refl W none)) (.cells #[.int .i64 st, .int .i64 a, .int .i64 k, .int .i64 (signed rb)] 79))
  have HCA := Lib.hid (HC.grow HG3.out)
  have HNB := Lib.hid (show (W.drew.alloc (.cells #[.int .i64 st, .int .i64 a, .int .i64 k, .int .i64 (signed rb)] 79)).heap[W.heap.size]? = some (.cells #[.int .i64 st, .int .i64 a, .int .i64 k, .int .i64 (signed rb)] 79 (0, 0)) from heap_alloc_new W.drew (.cells #[.int .i64 st, .int .i64 a, .int .i64 k, .int .i64 (signed rb)] 79))
  have HBB := Lib.hid (show B ≤ (W.drew.alloc (.cells #[.int .i64 st, .int .i64 a, .int .i64 k, .int .i64 (signed rb)] 79)).heap.size by have h1 := HBZ.out; have h2 := HKK.out.size; simp; omega)
  have z1 : (W.drew.alloc (.cells #[.int .i64 st, .int .i64 a, .int .i64 k, .int .i64 (signed rb)] 79)).cell? ⟨X.c, 5, none⟩ = some (.int .i64 st) := (World.cell?_alloc_lt _ _ ⟨X.c, 5, none⟩ hcW).trans y5
  have z2 : (W.drew.alloc (.cells #[.int .i64 st, .int .i64 a, .int .i64 k, .int .i64 (signed rb)] 79)).cell? ⟨xb, 1, none⟩ = some (.int .i64 a) := (World.cell?_alloc_lt _ _ ⟨xb, 1, none⟩ hsw).trans y1
  have z3 : (W.drew.alloc (.cells #[.int .i64 st, .int .i64 a, .int .i64 k, .int .i64 (signed rb)] 79)).cell? ⟨xb, 2, none⟩ = some (.int .i64 b) := (World.cell?_alloc_lt _ _ ⟨xb, 2, none⟩ hsw).trans y2
  have z4 : (W.drew.alloc (.cells #[.int .i64 st, .int .i64 a, .int .i64 k, .int .i64 (signed rb)] 79)).cell? ⟨tb, k * 11 + 3 + b, none⟩ = some (.int .u64 rb) := (World.cell?_alloc_lt _ _ ⟨tb, k * 11 + 3 + b, none⟩ htW).trans y3
  have HXX := Lib.hid (show ∃ cur f, (W.drew.alloc (.cells #[.int .i64 st, .int .i64 a, .int .i64 k, .int .i64 (signed rb)] 79)).heap[xb]? = some (.cells cur 89 f) from ⟨_, _, (Below.heap_alloc W.drew _ xb hsw).trans hxw⟩)
  have HZ := Lib.hid (And.intro z1 (And.intro z2 (And.intro z3 z4)))
  have hz0c : W.cell? ⟨X.c, 4, none⟩ = some X.ev := y4
  have HY := Lib.hid (And.intro ((World.cell?_alloc_lt _ (.cells #[.int .i64 st, .int .i64 a, .int .i64 k, .int .i64 (signed rb)] 79) ⟨X.c, 4, none⟩ (show X.c < W.drew.heap.size from hcW)).trans (show W.drew.cell? ⟨X.c, 4, none⟩ = some X.ev from y4)) HZ.out)
  clear HC HK hst hgr hxw HAT HRD HSI z1 z2 z3 z4
  refine region_heldL (L := 25) (S := fun u => u.cell? ⟨X.c, 4, none⟩ = some X.ev ∧ u.cell? ⟨X.c, 5, none⟩ = some (.int .i64 st) ∧ u.cell? ⟨xb, 1, none⟩ = some (.int .i64 a) ∧ u.cell? ⟨xb, 2, none⟩ = some (.int .i64 b) ∧ u.cell? ⟨tb, k * 11 + 3 + b, none⟩ = some (.int .u64 rb)) 26 rfl (by kernel_rfl) ⟨y4, y5, y1, y2, y3⟩ (fun hHeld => ?_)
  refine heldL_take (n := 25) (i := 0) (oi := _) (v := ?v0) (dst := some 79) rfl rfl rfl (by kernel_rfl) (by kernel_rfl) (by kernel_rfl) (by kernel_rfl) (by kernel_rfl) (fun _ _ _ h => h) (Or.inl ⟨by rfl, ?hy0⟩) (by assumption) ?rest0
  case hy0 => intro u hSu; (try dsimp only at hSu); go_simp; try (with_reducible rfl)
  simp only [Act.put, List.setIfInBounds_toArray, List.set_cons_zero, List.set_cons_succ]
  refine heldL_take (n := 24) (i := 1) (oi := _) (v := ?v1) (dst := some 80) rfl rfl rfl (by kernel_rfl) (by kernel_rfl) (by kernel_rfl) (by kernel_rfl) (by kernel_rfl) (fun _ _ _ h => h) (Or.inl ⟨by rfl, ?hy1⟩) (by assumption) ?rest1
  case hy1 => intro u hSu; (try dsimp only at hSu); go_simp; try (with_reducible rfl)
  simp only [Act.put, List.setIfInBounds_toArray, List.set_cons_zero, List.set_cons_succ]
  refine heldL_take (n := 23) (i := 2) (oi := _) (v := ?v2) (dst := some 81) rfl rfl rfl (by kernel_rfl) (by kernel_rfl) (by kernel_rfl) (by kernel_rfl) (by kernel_rfl) (fun _ _ _ h => h) (Or.inl ⟨by rfl, ?hy2⟩) (by assumption) ?rest2
  case hy2 => intro u hSu; (try dsimp only at hSu); go_simp; try (with_reducible rfl)
  simp only [Act.put, List.setIfInBounds_toArray, List.set_cons_zero, List.set_cons_succ]
  refine heldL_take (n := 22) (i := 3) (oi := _) (v := ?v3) (dst := some 82) rfl rfl rfl (by kernel_rfl) (by kernel_rfl) (by kernel_rfl) (by kernel_rfl) (by kernel_rfl) (fun _ _ _ h => h) (Or.inl ⟨by rfl, ?hy3⟩) (by assumption) ?rest3
  case hy3 => intro u hSu; (try dsimp only at hSu); go_simp; try (with_reducible rfl)
  simp only [Act.put, List.setIfInBounds_toArray, List.set_cons_zero, List.set_cons_succ]
  refine heldL_take (n := 21) (i := 4) (oi := _) (v := ?v4) (dst := some 83) rfl rfl rfl (by kernel_rfl) (by kernel_rfl) (by kernel_rfl) (by kernel_rfl) (by kernel_rfl) (fun _ _ _ h => h) (Or.inl ⟨by rfl, ?hy4⟩) (by assumption) ?rest4
  case hy4 => intro u hSu; (try dsimp only at hSu); go_simp; try (with_reducible rfl)
  simp only [Act.put, List.setIfInBounds_toArray, List.set_cons_zero, List.set_cons_succ]
  refine heldL_take (n := 20) (i := 5) (oi := _) (v := ?v5) (dst := some 84) rfl rfl rfl (by kernel_rfl) (by kernel_rfl) (by kernel_rfl) (by kernel_rfl) (by kernel_rfl) (fun _ _ _ h => h) (Or.inl ⟨by rfl, ?hy5⟩) (by assumption) ?rest5
  case hy5 => intro u hSu; (try dsimp only at hSu); go_simp; try (with_reducible rfl)
  simp only [Act.put, List.setIfInBounds_toArray, List.set_cons_zero, List.set_cons_succ]
  refine heldL_take (n := 19) (i := 6) (oi := _) (v := ?v6) (dst := some 85) rfl rfl rfl (by kernel_rfl) (by kernel_rfl) (by kernel_rfl) (by kernel_rfl) (by kernel_rfl) (fun _ _ _ h => h) (Or.inl ⟨by rfl, ?hy6⟩) (by assumption) ?rest6
  case hy6 => intro u hSu; (try dsimp only at hSu); go_simp; try (with_reducible rfl)
  simp only [Act.put, List.setIfInBounds_toArray, List.set_cons_zero, List.set_cons_succ]
  refine heldL_take (n := 18) (i := 7) (oi := _) (v := ?v7) (dst := some 86) rfl rfl rfl (by kernel_rfl) (by kernel_rfl) (by kernel_rfl) (by kernel_rfl) (by kernel_rfl) (fun _ _ _ h => h) (Or.inl ⟨by rfl, ?hy7⟩) (by assumption) ?rest7
  case hy7 => intro u hSu; (try dsimp only at hSu); go_simp; try (with_reducible rfl)
  simp only [Act.put, List.setIfInBounds_toArray, List.set_cons_zero, List.set_cons_succ]
  refine heldL_take (n := 17) (i := 8) (oi := _) (v := ?v8) (dst := some 87) rfl rfl rfl (by kernel_rfl) (by kernel_rfl) (by kernel_rfl) (by kernel_rfl) (by kernel_rfl) (fun _ _ _ h => h) (Or.inl ⟨by rfl, ?hy8⟩) (by assumption) ?rest8
  case hy8 => intro u hSu; (try dsimp only at hSu); go_simp; try (with_reducible rfl)
  simp only [Act.put, List.setIfInBounds_toArray, List.set_cons_zero, List.set_cons_succ]
  refine heldL_take (n := 16) (i := 9) (oi := _) (v := ?v9) (dst := some 88) rfl rfl rfl (by kernel_rfl) (by kernel_rfl) (by kernel_rfl) (by kernel_rfl) (by kernel_rfl) (fun _ _ _ h => h) (Or.inl ⟨by rfl, ?hy9⟩) (by assumption) ?rest9
  case hy9 => intro u hSu; (try dsimp only at hSu); go_simp; try (with_reducible rfl)
  simp only [Act.put, List.setIfInBounds_toArray, List.set_cons_zero, List.set_cons_succ]
  refine heldL_take (n := 15) (i := 10) (oi := _) (v := ?v10) (dst := some 89) rfl rfl rfl (by kernel_rfl) (by kernel_rfl) (by kernel_rfl) (by kernel_rfl) (by kernel_rfl) (fun _ _ _ h => h) (Or.inl ⟨by rfl, ?hy10⟩) (by assumption) ?rest10
  case hy10 => intro u hSu; (try dsimp only at hSu); go_simp; try (with_reducible rfl)
  simp only [Act.put, List.setIfInBounds_toArray, List.set_cons_zero, List.set_cons_succ]
  refine heldL_take (n := 14) (i := 11) (oi := _) (v := ?v11) (dst := some 90) rfl rfl rfl (by kernel_rfl) (by kernel_rfl) (by kernel_rfl) (by kernel_rfl) (by kernel_rfl) (fun _ _ _ h => h) (Or.inl ⟨by rfl, ?hy11⟩) (by assumption) ?rest11
  case hy11 => intro u hSu; (try dsimp only at hSu); go_simp; try (with_reducible rfl)
  simp only [Act.put, List.setIfInBounds_toArray, List.set_cons_zero, List.set_cons_succ]
  refine heldL_take (n := 13) (i := 12) (oi := _) (v := ?v12) (dst := some 91) rfl rfl rfl (by kernel_rfl) (by kernel_rfl) (by kernel_rfl) (by kernel_rfl) (by kernel_rfl) (fun _ _ _ h => h) (Or.inl ⟨by rfl, ?hy12⟩) (by assumption) ?rest12
  case hy12 => intro u hSu; (try dsimp only at hSu); go_simp; try (with_reducible rfl)
  simp only [Act.put, List.setIfInBounds_toArray, List.set_cons_zero, List.set_cons_succ]
  refine heldL_take (n := 12) (i := 13) (oi := _) (v := ?v13) (dst := some 92) rfl rfl rfl (by kernel_rfl) (by kernel_rfl) (by kernel_rfl) (by kernel_rfl) (by kernel_rfl) (fun _ _ _ h => h) (Or.inl ⟨by rfl, ?hy13⟩) (by assumption) ?rest13
  case hy13 => intro u hSu; (try dsimp only at hSu); go_simp; try (with_reducible rfl)
  simp only [Act.put, List.setIfInBounds_toArray, List.set_cons_zero, List.set_cons_succ]
  refine heldL_take (n := 11) (i := 14) (oi := _) (v := ?v14) (dst := some 93) rfl rfl rfl (by kernel_rfl) (by kernel_rfl) (by kernel_rfl) (by kernel_rfl) (by kernel_rfl) (fun _ _ _ h => h) (Or.inl ⟨by rfl, ?hy14⟩) (by assumption) ?rest14
  case hy14 => intro u hSu; (try dsimp only at hSu); go_simp; try (with_reducible rfl)
  simp only [Act.put, List.setIfInBounds_toArray, List.set_cons_zero, List.set_cons_succ]
  refine heldL_take (n := 10) (i := 15) (oi := _) (v := ?v15) (dst := some 94) rfl rfl rfl (by kernel_rfl) (by kernel_rfl) (by kernel_rfl) (by kernel_rfl) (by kernel_rfl) (fun _ _ _ h => h) (Or.inl ⟨by rfl, ?hy15⟩) (by assumption) ?rest15
  case hy15 => intro u hSu; (try dsimp only at hSu); go_simp; try (with_reducible rfl)
  simp only [Act.put, List.setIfInBounds_toArray, List.set_cons_zero, List.set_cons_succ]
  refine heldL_take (n := 9) (i := 16) (oi := _) (v := ?v16) (dst := some 95) rfl rfl rfl (by kernel_rfl) (by kernel_rfl) (by kernel_rfl) (by kernel_rfl) (by kernel_rfl) (fun _ _ _ h => h) (Or.inl ⟨by rfl, ?hy16⟩) (by assumption) ?rest16
  case hy16 => intro u hSu; (try dsimp only at hSu); go_simp; try (with_reducible rfl)
  simp only [Act.put, List.setIfInBounds_toArray, List.set_cons_zero, List.set_cons_succ]
  refine heldL_take (n := 8) (i := 17) (oi := _) (v := ?v17) (dst := some 96) rfl rfl rfl (by kernel_rfl) (by kernel_rfl) (by kernel_rfl) (by kernel_rfl) (by kernel_rfl) (fun _ _ _ h => h) (Or.inl ⟨by rfl, ?hy17⟩) (by assumption) ?rest17
  case hy17 => intro u hSu; (try dsimp only at hSu); go_simp; try (with_reducible rfl)
  simp only [Act.put, List.setIfInBounds_toArray, List.set_cons_zero, List.set_cons_succ]
  refine heldL_take (n := 7) (i := 18) (oi := _) (v := ?v18) (dst := some 97) rfl rfl rfl (by kernel_rfl) (by kernel_rfl) (by kernel_rfl) (by kernel_rfl) (by kernel_rfl) (fun _ _ _ h => h) (Or.inl ⟨by rfl, ?hy18⟩) (by assumption) ?rest18
  case hy18 => intro u hSu; (try dsimp only at hSu); go_simp; try (with_reducible rfl)
  simp only [Act.put, List.setIfInBounds_toArray, List.set_cons_zero, List.set_cons_succ]
  refine heldL_take (n := 6) (i := 19) (oi := _) (v := ?v19) (dst := some 98) rfl rfl rfl (by kernel_rfl) (by kernel_rfl) (by kernel_rfl) (by kernel_rfl) (by kernel_rfl) (fun _ _ _ h => h) (Or.inl ⟨by rfl, ?hy19⟩) (by assumption) ?rest19
  case hy19 => intro u hSu; (try dsimp only at hSu); go_simp; try (with_reducible rfl)
  simp only [Act.put, List.setIfInBounds_toArray, List.set_cons_zero, List.set_cons_succ]
  refine heldL_take (n := 5) (i := 20) (oi := _) (v := ?v20) (dst := some 99) rfl rfl rfl (by kernel_rfl) (by kernel_rfl) (by kernel_rfl) (by kernel_rfl) (by kernel_rfl) (fun _ _ _ h => h) (Or.inl ⟨by rfl, ?hy20⟩) (by assumption) ?rest20
  case hy20 => intro u hSu; (try dsimp only at hSu); go_simp; try (with_reducible rfl)
  simp only [Act.put, List.setIfInBounds_toArray, List.set_cons_zero, List.set_cons_succ]
  refine heldL_step (n := 4) (i := 21) (o := _) rfl (by kernel_rfl) rfl (fun K hK => ?_)
  have HK2 := Lib.hid hK
  clear hK
  go_simp
  refine HK2.out _ _ HY.out (fun hHeld => ?_)
  clear HK2 K
  refine heldL_step (n := 3) (i := 22) (o := _) rfl (by kernel_rfl) rfl (fun K hK => ?_)
  have HK2 := Lib.hid hK
  clear hK
  refine step_append_lies _ rfl (.tmp 83) (.tmp 100) 42 rfl B 79 i0' (.agg #[.int .i64 0, .int .i64 0, .int .i64 0, .int .i64 0]) 4 32 Tryd.underlying42 hi' hz0 hz1 hz2 rfl (by decide) X.ev (at1 m k i).events.length (cellsE (at1 m k i).events) (by simp [Act.eval]) HCA.out.events ⟨W.heap.size, 0, none⟩ 1 1 [.int .i64 st, .int .i64 a, .int .i64 k, .int .i64 (signed rb)] (by simp [Act.eval]) rfl (World.news_of_block (cs := #[.int .i64 st, .int .i64 a, .int .i64 k, .int .i64 (signed rb)]) HNB.out) evOne (by decide) (by have := HEV.out; unfold maxLen; omega) (by have := HEV.out; omega) HBB.out _ rfl ?_
  intro g2 cg w1 hown hgrow hat hlt
  obtain ⟨v1, v2, v3⟩ := ev_kept HCA.out hgrow
  have v0 := And.intro v1 (kept4 HCA.out hgrow HTV.out HXX.out HZ.out)
  refine HK2.out _ _ v0 (fun hHeld => ?_)
  clear HK2 K
  simp only [Act.put, List.setIfInBounds_toArray, List.set_cons_zero, List.set_cons_succ]
  refine heldL_step (n := 2) (i := 23) (o := _) rfl (by kernel_rfl) rfl (fun K hK => ?_)
  have HK2 := Lib.hid hK
  clear hK
  go_simp
  refine HK2.out _ _ v0 (fun hHeld => ?_)
  clear HK2 K
  refine heldL_step (n := 1) (i := 24) (o := _) rfl (by kernel_rfl) rfl (fun K hK => ?_)
  have HK2 := Lib.hid hK
  clear hK
  go_simp
  refine HK2.out _ _ v0 (fun hHeld => ?_)
  clear HK2 K
  refine heldL_last (n := 0) (o := _) rfl (by kernel_rfl) (by kernel_rfl) (by decide) rfl (fun K hK => ?_)
  have HK2 := Lib.hid hK
  clear hK
  go_simp
  refine HK2.out _ _ ?_
  have HF := Lib.hid (said_of (x := (st, a, (k : Int), signed rb)) HCA.out (HKK.out.trans (Keeps.of_grown HG3.out (by intro k hk; cases hk))) rfl hown hgrow hat)
  clear HCA HG3 HKK hown hgrow HCC HNB HBB HZ HY HXX
  go_wp2
  go_ret
  refine ⟨rfl, ?_⟩
  rw [HM.out]
  have hF := HF.out
  rw [← HGR.out, ← HST.out] at hF
  exact hF
end Go.Proofs.YtkhaeabbbhfloaaDoor
