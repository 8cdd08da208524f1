/-
  touch's last line: what was done to a cell is an act. touch: what is done to a cell that there is; which is an act. A memory that can't be, and cells that there aren't.
-/
import Derived.Test.YtkhaeabbbhfloaaDoorQC
import Derived.Deep.AppendLies
import Derived.Test.YtkhaeabbbhfloaaDoorQC2
import Derived.Deep.RegionHeld3
import Derived.Test.YtkhaeabbbhfloaaDoorQA
namespace Go.Proofs.YtkhaeabbbhfloaaDoor
set_option maxRecDepth 100000
open Go.RowKit Go.Shelf Go.Sort
set_option linter.unusedSimpArgs false
set_option linter.unusedVariables false

/-- Behind touch: the machine, with an act more. -/
def Touched (w : World) (B : Nat) (S : Nat → Prop) (X : KB) (m1 : Mach) (a : Act6) (e : Ending) (w' : World) : Prop :=
  e = .returned (.tuple #[]) ∧ ∃ S' X', X'.c = X.c ∧ X'.tv = X.tv ∧ Core w' B S' X' { m1 with acts := m1.acts ++ [a] } ∧ Since S S' w ∧ Keeps S w w'

theorem act_one {l : List Act6} {x : Act6} : cellsA l ++ [.int .i64 x.1, .int .i64 x.2.1, .int .i64 x.2.2.1, .int .i64 x.2.2.2.1, .int .u64 x.2.2.2.2.1, .int .u64 x.2.2.2.2.2] = cellsA (l ++ [x]) := by
  rw [cellsA_append, cellsA_one]
  rfl

/-- What is left of touch: the row that is longer is stored. -/
theorem touched_of {w W w1 : World} {B : Nat} {S : Nat → Prop} {X : KB} {m1 : Mach} {x : Act6} {g cap n : Nat} (hC : Core W B S X m1) (hk : Keeps S w W) (hn : n = m1.acts.length)
    (ho : w1.ownsRow B 36 6 (.slice (some ⟨g, 0, none⟩) (n + 1) cap) (n + 1) (cellsA m1.acts ++ [.int .i64 x.1, .int .i64 x.2.1, .int .i64 x.2.2.1, .int .i64 x.2.2.2.1, .int .u64 x.2.2.2.2.1, .int .u64 x.2.2.2.2.2])) (hg : W.grownBy w1 X.av.ownBlock) (hat : X.av.ownBlock = some g ∨ g = W.heap.size) :
    Touched w B S X m1 x (.returned (.tuple #[])) (w1.setCell ⟨X.c, 3, none⟩ (.slice (some ⟨g, 0, none⟩) (n + 1) cap)) := by
  subst hn
  rw [act_one] at ho
  have hl : (m1.acts ++ [x]).length = m1.acts.length + 1 := by simp
  obtain ⟨h1, h2, h3⟩ := hC.addAct (l := m1.acts ++ [x]) (av := .slice (some ⟨g, 0, none⟩) (m1.acts.length + 1) cap) (by rw [hl]; exact ho) hg (by
    rcases hat with e | e
    · exact .inl e.symm
    · exact .inr (by rw [e]; rfl))
  exact ⟨rfl, _, _, by rfl, by rfl, h1, fun k hs => (h3 k hs).imp id (fun h => Nat.le_trans hk.size h), hk.on (Since.refl _ _) h2⟩

theorem actOne {a b c d e f : Int} : ∀ u ∈ [Value.int .i64 a, Value.int .i64 b, Value.int .i64 c, Value.int .i64 d, Value.int .u64 e, Value.int .u64 f], u.oneCell' = true := by
  intro u hu
  simp at hu
  rcases hu with rfl | rfl | rfl | rfl | rfl | rfl <;> rfl

/-- What touch reads of the machine ahead of its last line. -/
theorem act_cells {w : World} {B : Nat} {S : Nat → Prop} {X : KB} {m : Mach} (h : Core w B S X m) :
    w.cell? ⟨X.c, 3, none⟩ = some X.av ∧ w.cell? ⟨X.c, 5, none⟩ = some (.int .i64 (m.steps : Int)) ∧ w.frozen? ⟨X.c, 3, none⟩ = false := by
  obtain ⟨_, _, _, d3, _, d5⟩ := h.cells
  exact ⟨d3, d5, h.loose 3⟩
theorem act_kept {w w1 : World} {B : Nat} {S : Nat → Prop} {X : KB} {m : Mach} (h : Core w B S X m) (hg : w.grownBy w1 X.av.ownBlock) :
    w1.cell? ⟨X.c, 3, none⟩ = some X.av ∧ w1.cell? ⟨X.c, 5, none⟩ = some (.int .i64 (m.steps : Int)) ∧ w1.frozen? ⟨X.c, 3, none⟩ = false := by
  have hb : w1.heap[X.c]? = w.heap[X.c]? := hg.block X.c (lt_of_block h.at_) (fun e => by
    obtain ⟨c, fz, hc⟩ := Lib.ownsRow_kind h.acts X.c e.symm
    rw [h.at_] at hc
    injection hc with hc
    injection hc with _ ht _
    exact absurd ht (by decide))
  obtain ⟨d1, d2, d3⟩ := act_cells h
  exact ⟨(World.cell?_of_block (a := ⟨X.c, 3, none⟩) hb).trans d1, (World.cell?_of_block (a := ⟨X.c, 5, none⟩) hb).trans d2, (World.frozen?_of_block (a := ⟨X.c, 3, none⟩) hb).trans d3⟩

/-- What stands behind the n-th ';'. -/
def seqTail : Nat → Code → Code
  | 0, c => c
  | n + 1, .seq _ y => seqTail n y
  | _ + 1, c => c

set_option maxHeartbeats 4000000 in
theorem touch_last {w W : World} {B : Nat} {S : Nat → Prop} {X : KB} {m1 : Mach} (hC : Core W B S X m1) (hK : Keeps S w W) (hB : B ≤ w.heap.size) (hsm : m1.acts.length ≤ 20000) (k q xb : Nat) (op old now : Int) (hxa : X.av.ownBlock ≠ some xb) (hx : W.cell? ⟨xb, 0, none⟩ = some (.int .i64 op))
    {u2 u4 u5 u7 u8 u10 u11 u12 u14 u15 u16 u17 u18 u19 u20 u21 u22 u23 u24 u25 u26 u27 u28 u29 u30 u31 u32 u33 u34 u35 u36 u37 u38 u39 u40 u41 u42 u43 u44 u45 u46 u47 u48 u49 u50 u51 u52 u53 u54 u55 u56 u57 u58 u59 u60 u61 u62 u63 u64 u65 u66 u67 u68 u69 u70 u71 u72 u73 u74 u75 u76 u77 u78 u79 u80 u81 u82 u83 u84 u85 u86 u87 u88 u89 u90 u91 u92 u93 u94 u95 u96 u97 u98 u99 u100 u101 u102 u103 u104 u105 u106 u107 u108 u109 u110 u111 u112 u113 u114 u115 u116 u117 u118 u119 u120 u121 u122 u123 u124 u125 u126 u127 u128 u129 u130 u131 u132 u133 u134 u135 u136 : Value} (F : Func) (hF : F = Tryd.f51) :
    Code.wp Tryd.prog (seqTail 5 (Tryd.f51.body.getD .skip)) (bodyPost Tryd.prog F (Touched w B S X m1 ((m1.steps : Int), (k : Int), op, (q : Int), old, now))) { tmps := #[.pointer (some ⟨X.c, 0, none⟩), .int .i64 k, u2, .int .i64 q, u4, u5, .pointer (some ⟨xb, 0, none⟩), u7, u8, .int .u64 old, u10, u11, u12, .int .u64 now, u14, u15, u16, u17, u18, u19, u20, u21, u22, u23, u24, u25, u26, u27, u28, u29, u30, u31, u32, u33, u34, u35, u36, u37, u38, u39, u40, u41, u42, u43, u44, u45, u46, u47, u48, u49, u50, u51, u52, u53, u54, u55, u56, u57, u58, u59, u60, u61, u62, u63, u64, u65, u66, u67, u68, u69, u70, u71, u72, u73, u74, u75, u76, u77, u78, u79, u80, u81, u82, u83, u84, u85, u86, u87, u88, u89, u90, u91, u92, u93, u94, u95, u96, u97, u98, u99, u100, u101, u102, u103, u104, u105, u106, u107, u108, u109, u110, u111, u112, u113, u114, u115, u116, u117, u118, u119, u120, u121, u122, u123, u124, u125, u126, u127, u128, u129, u130, u131, u132, u133, u134, u135, u136], defers := [] } W := by
  obtain ⟨i0, hi, hz0, hz1, hz2⟩ := info_parts info_A
  obtain ⟨P, hP⟩ : ∃ P, P = Touched w B S X m1 ((m1.steps : Int), (k : Int), op, (q : Int), old, now) := ⟨_, rfl⟩
  rw [← hP]
  obtain ⟨y1, y2, y3⟩ := act_cells hC
  have hcW : X.c < W.heap.size := lt_of_block hC.at_
  have hcWn : X.c ≠ W.heap.size := by omega
  have hxW : xb < W.heap.size := World.block_lt_of_cell? W _ hx
  have hxWn : xb ≠ W.heap.size := by omega
  have HG3 := Lib.hid (grown_a (grown_d (World.grownBy.refl W none)) (.cells #[.int .i64 (m1.steps : Int), .int .i64 k, .int .i64 op, .int .i64 q, .int .u64 old, .int .u64 now] 36))
  have HCA := Lib.hid (hC.grow HG3.out)
  have HNB := Lib.hid (show (W.drew.alloc (.cells #[.int .i64 (m1.steps : Int), .int .i64 k, .int .i64 op, .int .i64 q, .int .u64 old, .int .u64 now] 36)).heap[W.heap.size]? = some (.cells #[.int .i64 (m1.steps : Int), .int .i64 k, .int .i64 op, .int .i64 q, .int .u64 old, .int .u64 now] 36 (0, 0)) from heap_alloc_new W.drew (.cells #[.int .i64 (m1.steps : Int), .int .i64 k, .int .i64 op, .int .i64 q, .int .u64 old, .int .u64 now] 36))
  have HBB := Lib.hid (show B ≤ (W.drew.alloc (.cells #[.int .i64 (m1.steps : Int), .int .i64 k, .int .i64 op, .int .i64 q, .int .u64 old, .int .u64 now] 36)).heap.size by have h1 := hK.size; simp; omega)
  have HKK := Lib.hid hK
  have HP := Lib.hid hP
  have HSM := Lib.hid hsm
  have HY := Lib.hid (show (W.drew.alloc (.cells #[.int .i64 (m1.steps : Int), .int .i64 k, .int .i64 op, .int .i64 q, .int .u64 old, .int .u64 now] 36)).cell? ⟨X.c, 3, none⟩ = some X.av ∧ (W.drew.alloc (.cells #[.int .i64 (m1.steps : Int), .int .i64 k, .int .i64 op, .int .i64 q, .int .u64 old, .int .u64 now] 36)).cell? ⟨X.c, 5, none⟩ = some (.int .i64 (m1.steps : Int)) ∧ (W.drew.alloc (.cells #[.int .i64 (m1.steps : Int), .int .i64 k, .int .i64 op, .int .i64 q, .int .u64 old, .int .u64 now] 36)).cell? ⟨xb, 0, none⟩ = some (.int .i64 op) from ⟨(World.cell?_alloc_lt _ _ ⟨X.c, 3, none⟩ hcW).trans y1, (World.cell?_alloc_lt _ _ ⟨X.c, 5, none⟩ hcW).trans y2, (World.cell?_alloc_lt _ _ ⟨xb, 0, none⟩ hxW).trans hx⟩)
  have HXL := Lib.hid (show xb < (W.drew.alloc (.cells #[.int .i64 (m1.steps : Int), .int .i64 k, .int .i64 op, .int .i64 q, .int .u64 old, .int .u64 now] 36)).heap.size by simp; omega)
  have HXN := Lib.hid (fun e : some xb = X.av.ownBlock => hxa e.symm)
  clear hC hK hB hP hsm
  have HQ := Lib.hid hF
  clear hF
  generalize hst : (m1.steps : Int) = st at *
  have HST := Lib.hid hst
  clear hst
  dsimp only [seqTail, Tryd.f51, Option.getD]
  refine region_heldL (L := 20) (S := fun u => u.cell? ⟨X.c, 3, none⟩ = some X.av ∧ u.cell? ⟨X.c, 5, none⟩ = some (.int .i64 st) ∧ u.cell? ⟨xb, 0, none⟩ = some (.int .i64 op)) 21 rfl (by kernel_rfl) ⟨y1, y2, hx⟩ (fun hHeld => ?_)
  refine heldL_take (n := 20) (i := 0) (oi := _) (v := ?v0) (dst := some 117) rfl rfl rfl (by kernel_rfl) (by kernel_rfl) (by kernel_rfl) (by kernel_rfl) (by kernel_rfl) (fun _ _ _ h => h) (Or.inl ⟨by rfl, ?hy0⟩) (by assumption) ?rest0
  case hy0 => intro u hSu; (try dsimp only at hSu); go_simp; try (with_reducible rfl)
  simp only [Act.put, List.setIfInBounds_toArray, List.set_cons_zero, List.set_cons_succ]
  refine heldL_take (n := 19) (i := 1) (oi := _) (v := ?v1) (dst := some 118) rfl rfl rfl (by kernel_rfl) (by kernel_rfl) (by kernel_rfl) (by kernel_rfl) (by kernel_rfl) (fun _ _ _ h => h) (Or.inl ⟨by rfl, ?hy1⟩) (by assumption) ?rest1
  case hy1 => intro u hSu; (try dsimp only at hSu); go_simp; try (with_reducible rfl)
  simp only [Act.put, List.setIfInBounds_toArray, List.set_cons_zero, List.set_cons_succ]
  refine heldL_take (n := 18) (i := 2) (oi := _) (v := ?v2) (dst := some 119) rfl rfl rfl (by kernel_rfl) (by kernel_rfl) (by kernel_rfl) (by kernel_rfl) (by kernel_rfl) (fun _ _ _ h => h) (Or.inl ⟨by rfl, ?hy2⟩) (by assumption) ?rest2
  case hy2 => intro u hSu; (try dsimp only at hSu); go_simp; try (with_reducible rfl)
  simp only [Act.put, List.setIfInBounds_toArray, List.set_cons_zero, List.set_cons_succ]
  refine heldL_take (n := 17) (i := 3) (oi := _) (v := ?v3) (dst := some 120) rfl rfl rfl (by kernel_rfl) (by kernel_rfl) (by kernel_rfl) (by kernel_rfl) (by kernel_rfl) (fun _ _ _ h => h) (Or.inl ⟨by rfl, ?hy3⟩) (by assumption) ?rest3
  case hy3 => intro u hSu; (try dsimp only at hSu); go_simp; try (with_reducible rfl)
  simp only [Act.put, List.setIfInBounds_toArray, List.set_cons_zero, List.set_cons_succ]
  refine heldL_take (n := 16) (i := 4) (oi := _) (v := ?v4) (dst := some 121) rfl rfl rfl (by kernel_rfl) (by kernel_rfl) (by kernel_rfl) (by kernel_rfl) (by kernel_rfl) (fun _ _ _ h => h) (Or.inl ⟨by rfl, ?hy4⟩) (by assumption) ?rest4
  case hy4 => intro u hSu; (try dsimp only at hSu); go_simp; try (with_reducible rfl)
  simp only [Act.put, List.setIfInBounds_toArray, List.set_cons_zero, List.set_cons_succ]
  refine heldL_take (n := 15) (i := 5) (oi := _) (v := ?v5) (dst := some 122) rfl rfl rfl (by kernel_rfl) (by kernel_rfl) (by kernel_rfl) (by kernel_rfl) (by kernel_rfl) (fun _ _ _ h => h) (Or.inl ⟨by rfl, ?hy5⟩) (by assumption) ?rest5
  case hy5 => intro u hSu; (try dsimp only at hSu); go_simp; try (with_reducible rfl)
  simp only [Act.put, List.setIfInBounds_toArray, List.set_cons_zero, List.set_cons_succ]
  refine heldL_take (n := 14) (i := 6) (oi := _) (v := ?v6) (dst := some 123) rfl rfl rfl (by kernel_rfl) (by kernel_rfl) (by kernel_rfl) (by kernel_rfl) (by kernel_rfl) (fun _ _ _ h => h) (Or.inl ⟨by rfl, ?hy6⟩) (by assumption) ?rest6
  case hy6 => intro u hSu; (try dsimp only at hSu); go_simp; try (with_reducible rfl)
  simp only [Act.put, List.setIfInBounds_toArray, List.set_cons_zero, List.set_cons_succ]
  refine heldL_take (n := 13) (i := 7) (oi := _) (v := ?v7) (dst := some 124) rfl rfl rfl (by kernel_rfl) (by kernel_rfl) (by kernel_rfl) (by kernel_rfl) (by kernel_rfl) (fun _ _ _ h => h) (Or.inl ⟨by rfl, ?hy7⟩) (by assumption) ?rest7
  case hy7 => intro u hSu; (try dsimp only at hSu); go_simp; try (with_reducible rfl)
  simp only [Act.put, List.setIfInBounds_toArray, List.set_cons_zero, List.set_cons_succ]
  refine heldL_take (n := 12) (i := 8) (oi := _) (v := ?v8) (dst := some 125) rfl rfl rfl (by kernel_rfl) (by kernel_rfl) (by kernel_rfl) (by kernel_rfl) (by kernel_rfl) (fun _ _ _ h => h) (Or.inl ⟨by rfl, ?hy8⟩) (by assumption) ?rest8
  case hy8 => intro u hSu; (try dsimp only at hSu); go_simp; try (with_reducible rfl)
  simp only [Act.put, List.setIfInBounds_toArray, List.set_cons_zero, List.set_cons_succ]
  refine heldL_take (n := 11) (i := 9) (oi := _) (v := ?v9) (dst := some 126) rfl rfl rfl (by kernel_rfl) (by kernel_rfl) (by kernel_rfl) (by kernel_rfl) (by kernel_rfl) (fun _ _ _ h => h) (Or.inl ⟨by rfl, ?hy9⟩) (by assumption) ?rest9
  case hy9 => intro u hSu; (try dsimp only at hSu); go_simp; try (with_reducible rfl)
  simp only [Act.put, List.setIfInBounds_toArray, List.set_cons_zero, List.set_cons_succ]
  refine heldL_take (n := 10) (i := 10) (oi := _) (v := ?v10) (dst := some 127) rfl rfl rfl (by kernel_rfl) (by kernel_rfl) (by kernel_rfl) (by kernel_rfl) (by kernel_rfl) (fun _ _ _ h => h) (Or.inl ⟨by rfl, ?hy10⟩) (by assumption) ?rest10
  case hy10 => intro u hSu; (try dsimp only at hSu); go_simp; try (with_reducible rfl)
  simp only [Act.put, List.setIfInBounds_toArray, List.set_cons_zero, List.set_cons_succ]
  refine heldL_take (n := 9) (i := 11) (oi := _) (v := ?v11) (dst := some 128) rfl rfl rfl (by kernel_rfl) (by kernel_rfl) (by kernel_rfl) (by kernel_rfl) (by kernel_rfl) (fun _ _ _ h => h) (Or.inl ⟨by rfl, ?hy11⟩) (by assumption) ?rest11
  case hy11 => intro u hSu; (try dsimp only at hSu); go_simp; try (with_reducible rfl)
  simp only [Act.put, List.setIfInBounds_toArray, List.set_cons_zero, List.set_cons_succ]
  refine heldL_take (n := 8) (i := 12) (oi := _) (v := ?v12) (dst := some 129) rfl rfl rfl (by kernel_rfl) (by kernel_rfl) (by kernel_rfl) (by kernel_rfl) (by kernel_rfl) (fun _ _ _ h => h) (Or.inl ⟨by rfl, ?hy12⟩) (by assumption) ?rest12
  case hy12 => intro u hSu; (try dsimp only at hSu); go_simp; try (with_reducible rfl)
  simp only [Act.put, List.setIfInBounds_toArray, List.set_cons_zero, List.set_cons_succ]
  refine heldL_take (n := 7) (i := 13) (oi := _) (v := ?v13) (dst := some 130) rfl rfl rfl (by kernel_rfl) (by kernel_rfl) (by kernel_rfl) (by kernel_rfl) (by kernel_rfl) (fun _ _ _ h => h) (Or.inl ⟨by rfl, ?hy13⟩) (by assumption) ?rest13
  case hy13 => intro u hSu; (try dsimp only at hSu); go_simp; try (with_reducible rfl)
  simp only [Act.put, List.setIfInBounds_toArray, List.set_cons_zero, List.set_cons_succ]
  refine heldL_take (n := 6) (i := 14) (oi := _) (v := ?v14) (dst := some 131) rfl rfl rfl (by kernel_rfl) (by kernel_rfl) (by kernel_rfl) (by kernel_rfl) (by kernel_rfl) (fun _ _ _ h => h) (Or.inl ⟨by rfl, ?hy14⟩) (by assumption) ?rest14
  case hy14 => intro u hSu; (try dsimp only at hSu); go_simp; try (with_reducible rfl)
  simp only [Act.put, List.setIfInBounds_toArray, List.set_cons_zero, List.set_cons_succ]
  refine heldL_take (n := 5) (i := 15) (oi := _) (v := ?v15) (dst := some 132) rfl rfl rfl (by kernel_rfl) (by kernel_rfl) (by kernel_rfl) (by kernel_rfl) (by kernel_rfl) (fun _ _ _ h => h) (Or.inl ⟨by rfl, ?hy15⟩) (by assumption) ?rest15
  case hy15 => intro u hSu; (try dsimp only at hSu); go_simp; try (with_reducible rfl)
  simp only [Act.put, List.setIfInBounds_toArray, List.set_cons_zero, List.set_cons_succ]
  refine heldL_step (n := 4) (i := 16) (o := _) rfl (by kernel_rfl) rfl (fun K hK => ?_)
  have HKK2 := Lib.hid hK
  clear hK
  go_simp
  refine HKK2.out _ _ HY.out (fun hHeld => ?_)
  clear HKK2 K
  refine heldL_step (n := 3) (i := 17) (o := _) rfl (by kernel_rfl) rfl (fun K hK => ?_)
  have HKK2 := Lib.hid hK
  clear hK
  refine step_append_lies _ rfl (.tmp 121) (.tmp 133) 33 rfl B 36 i0 (.agg #[.int .i64 0, .int .i64 0, .int .i64 0, .int .i64 0, .int .u64 0, .int .u64 0]) 6 48 Tryd.underlying33 hi hz0 hz1 hz2 rfl (by decide) X.av m1.acts.length (cellsA m1.acts) (by simp [Act.eval]) HCA.out.acts ⟨W.heap.size, 0, none⟩ 1 1 [.int .i64 st, .int .i64 k, .int .i64 op, .int .i64 q, .int .u64 old, .int .u64 now] (by simp [Act.eval]) rfl (World.news_of_block (cs := #[.int .i64 st, .int .i64 k, .int .i64 op, .int .i64 q, .int .u64 old, .int .u64 now]) HNB.out) actOne (by decide) (by have := HSM.out; unfold maxLen; omega) (by have := HSM.out; omega) HBB.out _ rfl ?_
  intro g cg w1 hown hgrow hat hlt
  obtain ⟨v1, v2, v3⟩ := act_kept HCA.out hgrow
  rw [HST.out] at v2
  have v4 : w1.cell? ⟨xb, 0, none⟩ = some (.int .i64 op) := (hgrow.cell_far ⟨xb, 0, none⟩ HXL.out HXN.out).trans HY.out.2.2
  refine HKK2.out _ _ ⟨v1, v2, v4⟩ (fun hHeld => ?_)
  clear HKK2 K
  simp only [Act.put, List.setIfInBounds_toArray, List.set_cons_zero, List.set_cons_succ]
  refine heldL_step (n := 2) (i := 18) (o := _) rfl (by kernel_rfl) rfl (fun K hK => ?_)
  have HKK2 := Lib.hid hK
  clear hK
  go_simp
  refine HKK2.out _ _ ⟨v1, v2, v4⟩ (fun hHeld => ?_)
  clear HKK2 K
  refine heldL_step (n := 1) (i := 19) (o := _) rfl (by kernel_rfl) rfl (fun K hK => ?_)
  have HKK2 := Lib.hid hK
  clear hK
  go_simp
  refine HKK2.out _ _ ⟨v1, v2, v4⟩ (fun hHeld => ?_)
  clear HKK2 K
  refine heldL_last (n := 0) (o := _) rfl (by kernel_rfl) (by kernel_rfl) (by decide) rfl (fun K hK => ?_)
  have HKK2 := Lib.hid hK
  clear hK
  go_simp
  refine HKK2.out _ _ ?_
  have HF := Lib.hid (touched_of (x := (st, (k : Int), op, (q : Int), old, now)) HCA.out (HKK.out.trans (Keeps.of_grown HG3.out (by intro k hk; cases hk))) rfl hown hgrow hat)
  clear HCA HG3 HKK hown hgrow
  rw [HQ.out]
  go_end0
  rw [HP.out]
  exact HF.out
end Go.Proofs.YtkhaeabbbhfloaaDoor

namespace Go.Proofs.YtkhaeabbbhfloaaDoor
set_option maxRecDepth 100000
open Go.RowKit Go.Shelf Go.Sort
set_option linter.unusedVariables false

/-- Behind a call of the memory: the machine, with other cells; what touch reads of it. -/
structure MemDone (w w' w'' : World) (B : Nat) (S : Nat → Prop) (X : KB) (m : Mach) (cs : List Int) (tb k : Nat) : Prop where
  grown : w'.grownBy w'' X.mv.ownBlock
  core : Core w'' B S X { m with cells := cs }
  keeps : Keeps S w w''
  c0 : w''.cell? ⟨X.c, 0, none⟩ = some (.pointer (some ⟨X.mb, 0, none⟩))
  regs : ∀ j, j < 8 → w''.cell? ⟨tb, k * 11 + 3 + j, none⟩ = some (.int .u64 ((m.regs.getD k []).getD j 0))
  loose : ∀ i, w''.frozen? ⟨tb, i, none⟩ = false

theorem memDone {w w' w'' : World} {B : Nat} {S : Nat → Prop} {X : KB} {m : Mach} {cs : List Int} {tb cap k : Nat} (h : Core w B S X m) (hg : w.grownBy w' none) (hk : k < m.progs.length) (htv : X.tv = .slice (some ⟨tb, 0, none⟩) m.progs.length cap) (hM : Mem w'' B X.mb X.mv cs) (hg2 : w'.grownBy w'' X.mv.ownBlock) : MemDone w w' w'' B S X m cs tb k := by
  obtain ⟨h1, h2⟩ := (h.grow hg).setMem hM hg2
  obtain ⟨_, _, _, hR, hF⟩ := h1.thread hk htv
  exact ⟨hg2, h1, (Keeps.of_grown hg (by intro k hk; cases hk)).trans h2, h1.cells.1, hR, hF⟩

/-- A block beside the memory's row. -/
theorem MemDone.block {w w' w'' : World} {B : Nat} {S : Nat → Prop} {X : KB} {m : Mach} {cs : List Int} {tb k xb : Nat} (h : MemDone w w' w'' B S X m cs tb k) {cur : Array Value} {t : TypeId} {f : Nat × Nat} (hx : w'.heap[xb]? = some (.cells cur t f)) (hne : ∀ g, X.mv.ownBlock = some g → g < xb) : w''.heap[xb]? = some (.cells cur t f) :=
  (h.grown.block xb (lt_of_block hx) (fun e => by have := hne xb e.symm; omega)).trans hx
theorem ins_cell {u : World} {xb : Nat} {x : Ins5} (h : u.heap[xb]? = some (.cells #[.int .i64 x.1, .int .i64 x.2.1, .int .i64 x.2.2.1, .int .i64 x.2.2.2.1, .int .i64 x.2.2.2.2] 89 (0, 0))) :
    u.cell? ⟨xb, 0, none⟩ = some (.int .i64 x.1) ∧ u.cell? ⟨xb, 1, none⟩ = some (.int .i64 x.2.1) ∧ u.cell? ⟨xb, 2, none⟩ = some (.int .i64 x.2.2.1) ∧ u.cell? ⟨xb, 3, none⟩ = some (.int .i64 x.2.2.2.1) ∧ u.cell? ⟨xb, 4, none⟩ = some (.int .i64 x.2.2.2.2) := by
  have e : ∀ j, u.cell? ⟨xb, j, none⟩ = _ := fun j => cell_of_row u xb j _ _ _ h
  simp only [e]
  exact ⟨rfl, rfl, rfl, rfl, rfl⟩

theorem fetch_wrap (v c : Int) : IntKind.u64.wrap (v + IntKind.u64.wrap c) = (v + c) % m64 := by
  rw [wrapU, wrapU]
  unfold m64
  omega

set_option maxHeartbeats 4000000 in
theorem touch_load {w : World} {B : Nat} {S : Nat → Prop} {X : KB} {m : Mach} (h : Core w B S X m) (hB : B ≤ w.heap.size) {k : Nat} (hk : k < m.progs.length) (hlr : m.regs.length = m.progs.length) (hr8 : (m.regs.getD k []).length = 8) {q : Nat} (hq : q < m.cells.length) (hsm : m.acts.length ≤ 20000) (a : Nat) (ha : a < 8) (b c d : Int) :
    Calls Tryd.prog 51 #[.pointer (some ⟨X.c, 0, none⟩), .int .i64 k, insV (6, (a : Int), b, c, d), .int .i64 q] w (Touched w B S X { m with regs := m.regs.set k ((m.regs.getD k []).set a (m.cells.getD q 0)) } ((m.steps : Int), (k : Int), 6, (q : Int), m.cells.getD q 0, m.cells.getD q 0)) := by
  obtain ⟨tb, cap, htv, -, htb⟩ := h.tform (by omega)
  obtain ⟨c0, c1, c2, c3, c4, c5⟩ := h.cells
  obtain ⟨-, -, -, hR, hF⟩ := h.thread hk htv
  rw [htv] at c2
  have hkn : (k : Int) < (m.progs.length : Int) := by omega
  have HL := Lib.hid (fun w' (hg : w.grownBy w' none) => load_in (h.grow hg).mem hq)
  have hcl : X.c < w.heap.size := lt_of_block h.at_
  have hcne : X.c ≠ w.heap.size := by omega
  have htne : tb ≠ w.heap.size := by omega
  obtain ⟨P, hP⟩ : ∃ P, P = Touched w B S X { m with regs := m.regs.set k ((m.regs.getD k []).set a (m.cells.getD q 0)) } ((m.steps : Int), (k : Int), 6, (q : Int), m.cells.getD q 0, m.cells.getD q 0) := ⟨_, rfl⟩
  rw [← hP]
  have ca := hR a ha
  have fa := hF (k * 11 + 3 + a)
  have ha0 : (0 : Int) ≤ (a : Int) := by omega
  have ha8 : (a : Int) < 8 := by omega
  have hs := h.setReg hlr hk hr8 htv a ha (m.cells.getD q 0)
  have HS := Lib.hid hs
  have HL2 := Lib.hid (fun w' (hg : (w.setCell ⟨tb, k * 11 + 3 + a, none⟩ (.int .u64 (m.cells.getD q 0))).grownBy w' none) => load_in (hs.1.grow hg).mem hq)
  dsimp only at HL2
  clear hs
  have HBZ := Lib.hid hB
  have HXA := Lib.hid (show X.av.ownBlock ≠ some w.heap.size from fun e => Nat.lt_irrefl _ (h.acts.lt _ e).2)
  have HSM := Lib.hid hsm
  generalize hold : m.cells.getD q 0 = old at *
  have EOLD := Lib.hid hold
  generalize ea : (m.regs.getD k []).getD a 0 = ra at *
  have Ea := Lib.hid ea
  clear ea
  have HP := Lib.hid hP
  obtain ⟨n, hn⟩ : ∃ n, m.progs.length = n := ⟨_, rfl⟩
  rw [hn] at c2 hkn
  clear h hR hF c3 c4 c5 c1 hP hold hB hsm hq hk hlr hr8 hn htv
  unfold insV
  go_enter Tryd.func51, Tryd.ntmps51
  go_wp2_with fail
  refine (HL.out _ (World.grownBy_alloc _ _ none)).mono ?_
  rintro e w1 ⟨rfl, rfl⟩
  go_wp2
  go_region
  go_wp2_with fail
  obtain ⟨W, hW⟩ : ∃ W, W = ((w.setCell ⟨tb, k * 11 + 3 + a, none⟩ (.int .u64 old)).alloc (.cells #[.int .i64 6, .int .i64 a, .int .i64 b, .int .i64 c, .int .i64 d] 89)).drew := ⟨_, rfl⟩
  have HX := Lib.hid (show W.cell? ⟨w.heap.size, 0, none⟩ = some (.int .i64 6) from by
    have hb : W.heap[w.heap.size]? = some (.cells #[.int .i64 6, .int .i64 a, .int .i64 b, .int .i64 c, .int .i64 d] 89 (0, 0)) := by
      rw [hW, show w.heap.size = (w.setCell ⟨tb, k * 11 + 3 + a, none⟩ (.int .u64 old)).heap.size by simp]
      exact heap_alloc_new (w.setCell ⟨tb, k * 11 + 3 + a, none⟩ (.int .u64 old)) (.cells #[.int .i64 6, .int .i64 a, .int .i64 b, .int .i64 c, .int .i64 d] 89)
    exact (cell_of_row _ _ 0 _ _ _ hb).trans rfl)
  have hG : (w.setCell ⟨tb, k * 11 + 3 + a, none⟩ (.int .u64 old)).grownBy W none := by
    rw [hW]
    exact grown_d (grown_a (World.grownBy.refl _ none) _)
  have HC := Lib.hid (HS.out.1.grow hG)
  have HK := Lib.hid (HS.out.2.trans (Keeps.of_grown hG (by intro k hk; cases hk)))
  have HL3 := Lib.hid (HL2.out _ hG)
  obtain ⟨c0', -⟩ := HC.out.cells
  rw [← hW]
  clear hW hG HS HL2
  refine HL3.out.mono ?_
  rintro e w1 ⟨rfl, rfl⟩
  clear c0 c2
  go_wp2
  rw [HP.out]
  exact touch_last HC.out HK.out HBZ.out HSM.out k q _ _ _ _ HXA.out HX.out _ rfl

set_option maxHeartbeats 4000000 in
theorem touch_store {w : World} {B : Nat} {S : Nat → Prop} {X : KB} {m : Mach} (h : Core w B S X m) (hB : B ≤ w.heap.size) {k : Nat} (hk : k < m.progs.length) (hlr : m.regs.length = m.progs.length) (hr8 : (m.regs.getD k []).length = 8) {q : Nat} (hq : q < m.cells.length) (hsm : m.acts.length ≤ 20000) (z : Int) (b : Nat) (hb : b < 8) (c d : Int) :
    Calls Tryd.prog 51 #[.pointer (some ⟨X.c, 0, none⟩), .int .i64 k, insV (7, z, (b : Int), c, d), .int .i64 q] w (Touched w B S X { m with cells := m.cells.set q ((m.regs.getD k []).getD b 0) } ((m.steps : Int), (k : Int), 7, (q : Int), m.cells.getD q 0, (m.regs.getD k []).getD b 0)) := by
  obtain ⟨tb, cap, htv, -, htb⟩ := h.tform (by omega)
  obtain ⟨c0, c1, c2, c3, c4, c5⟩ := h.cells
  obtain ⟨-, -, -, hR, hF⟩ := h.thread hk htv
  rw [htv] at c2
  have hkn : (k : Int) < (m.progs.length : Int) := by omega
  have HL := Lib.hid (fun w' (hg : w.grownBy w' none) => load_in (h.grow hg).mem hq)
  have hcl : X.c < w.heap.size := lt_of_block h.at_
  have hcne : X.c ≠ w.heap.size := by omega
  have htne : tb ≠ w.heap.size := by omega
  obtain ⟨P, hP⟩ : ∃ P, P = Touched w B S X { m with cells := m.cells.set q ((m.regs.getD k []).getD b 0) } ((m.steps : Int), (k : Int), 7, (q : Int), m.cells.getD q 0, (m.regs.getD k []).getD b 0) := ⟨_, rfl⟩
  rw [← hP]
  have cb := hR b hb
  have fb := hF (k * 11 + 3 + b)
  have hb0 : (0 : Int) ≤ (b : Int) := by omega
  have hb8 : (b : Int) < 8 := by omega
  have HST := Lib.hid (fun w' (hg : w.grownBy w' none) => (store_in (h.grow hg).mem hq ((m.regs.getD k []).getD b 0)).mono (R' := fun e w'' => e = .returned .nilIface ∧ MemDone w w' w'' B S X m (m.cells.set q ((m.regs.getD k []).getD b 0)) tb k) fun e w'' ⟨he, hM, hg2⟩ => ⟨he, memDone h hg hk htv hM hg2⟩)
  have HQS := Lib.hid (show q < (m.cells.set q ((m.regs.getD k []).getD b 0)).length ∧ (m.cells.set q ((m.regs.getD k []).getD b 0)).getD q 0 = ((m.regs.getD k []).getD b 0) from ⟨by rw [List.length_set]; exact hq, getD_set_eq _ _ _ _ hq⟩)
  have HMV := Lib.hid (fun g (e : X.mv.ownBlock = some g) => (h.mem.own.lt g e).2)
  have HB8 := Lib.hid hb
  have HBZ := Lib.hid hB
  have HXA := Lib.hid (show X.av.ownBlock ≠ some w.heap.size from fun e => Nat.lt_irrefl _ (h.acts.lt _ e).2)
  have HSM := Lib.hid hsm
  generalize hold : m.cells.getD q 0 = old at *
  have EOLD := Lib.hid hold
  generalize eb : (m.regs.getD k []).getD b 0 = rb at *
  have Eb := Lib.hid eb
  clear eb
  have HP := Lib.hid hP
  obtain ⟨n, hn⟩ : ∃ n, m.progs.length = n := ⟨_, rfl⟩
  rw [hn] at c2 hkn
  clear h hR hF c3 c4 c5 c1 hP hold hB hsm hq hk hlr hr8 hn htv
  unfold insV
  go_enter Tryd.func51, Tryd.ntmps51
  go_wp2_with fail
  refine (HL.out _ (World.grownBy_alloc _ _ none)).mono ?_
  rintro e w1 ⟨rfl, rfl⟩
  have HXB := Lib.hid (show (w.alloc (.cells #[.int .i64 7, .int .i64 z, .int .i64 b, .int .i64 c, .int .i64 d] 89)).drew.heap[w.heap.size]? = some (.cells #[.int .i64 7, .int .i64 z, .int .i64 b, .int .i64 c, .int .i64 d] 89 (0, 0)) from heap_alloc_new w _)
  have HR0 := Lib.hid (show (w.alloc (.cells #[.int .i64 7, .int .i64 z, .int .i64 b, .int .i64 c, .int .i64 d] 89)).drew.cell? ⟨tb, k * 11 + 3 + b, none⟩ = some (.int .u64 rb) from (World.cell?_alloc_lt w _ ⟨tb, k * 11 + 3 + b, none⟩ htb).trans cb)
  have HC0 := Lib.hid (show (w.alloc (.cells #[.int .i64 7, .int .i64 z, .int .i64 b, .int .i64 c, .int .i64 d] 89)).drew.cell? ⟨X.c, 0, none⟩ = some (.pointer (some ⟨X.mb, 0, none⟩)) from (World.cell?_alloc_lt w _ ⟨X.c, 0, none⟩ hcl).trans c0)
  go_wp2
  have y0 := HC0.out
  obtain ⟨-, -, y2, -⟩ := ins_cell (x := (7, z, (b : Int), c, d)) HXB.out
  have y3 := HR0.out
  go_region_held3 (fun u => u.cell? ⟨X.c, 0, none⟩ = some (.pointer (some ⟨X.mb, 0, none⟩)) ∧ u.cell? ⟨w.heap.size, 2, none⟩ = some (.int .i64 b) ∧ u.cell? ⟨tb, k * 11 + 3 + b, none⟩ = some (.int .u64 rb)) (first | exact ⟨y0, y2, y3⟩ | exact ⟨z0, z2, z3⟩) (first
    | (go_at_call 69; refine (HST.out _ (grown_d (World.grownBy_alloc _ _ none))).mono ?_; rintro e w3 ⟨rfl, hd3⟩; have HD3 := Lib.hid hd3; have HX3 := Lib.hid (ins_cell (x := (7, z, (b : Int), c, d)) (hd3.block HXB.out HMV.out)); have z0 := hd3.c0; have z2 := HX3.out.2.2.1; have z3 := (hd3.regs b HB8.out).trans (by rw [Eb.out]); clear hd3))
  go_wp2_with fail
  refine (load_in HD3.out.core.mem HQS.out.1).mono ?_
  rintro e w4 ⟨rfl, rfl⟩
  rw [HQS.out.2]
  have HC := Lib.hid HD3.out.core
  have HK := Lib.hid HD3.out.keeps
  have HX := Lib.hid HX3.out.1
  clear c0 c2
  go_wp2
  rw [HP.out]
  exact touch_last HC.out HK.out HBZ.out HSM.out k q _ _ _ _ HXA.out HX.out _ rfl

set_option maxHeartbeats 4000000 in
theorem touch_fetch {w : World} {B : Nat} {S : Nat → Prop} {X : KB} {m : Mach} (h : Core w B S X m) (hB : B ≤ w.heap.size) {k : Nat} (hk : k < m.progs.length) (hlr : m.regs.length = m.progs.length) (hr8 : (m.regs.getD k []).length = 8) {q : Nat} (hq : q < m.cells.length) (hsm : m.acts.length ≤ 20000) (a : Nat) (ha : a < 8) (b c d : Int) :
    Calls Tryd.prog 51 #[.pointer (some ⟨X.c, 0, none⟩), .int .i64 k, insV (8, (a : Int), b, c, d), .int .i64 q] w (Touched w B S X { m with cells := m.cells.set q ((m.cells.getD q 0 + c) % m64), regs := m.regs.set k ((m.regs.getD k []).set a (m.cells.getD q 0)) } ((m.steps : Int), (k : Int), 8, (q : Int), m.cells.getD q 0, ((m.cells.getD q 0 + c) % m64))) := by
  obtain ⟨tb, cap, htv, -, htb⟩ := h.tform (by omega)
  obtain ⟨c0, c1, c2, c3, c4, c5⟩ := h.cells
  obtain ⟨-, -, -, hR, hF⟩ := h.thread hk htv
  rw [htv] at c2
  have hkn : (k : Int) < (m.progs.length : Int) := by omega
  have HL := Lib.hid (fun w' (hg : w.grownBy w' none) => load_in (h.grow hg).mem hq)
  have hcl : X.c < w.heap.size := lt_of_block h.at_
  have hcne : X.c ≠ w.heap.size := by omega
  have htne : tb ≠ w.heap.size := by omega
  obtain ⟨P, hP⟩ : ∃ P, P = Touched w B S X { m with cells := m.cells.set q ((m.cells.getD q 0 + c) % m64), regs := m.regs.set k ((m.regs.getD k []).set a (m.cells.getD q 0)) } ((m.steps : Int), (k : Int), 8, (q : Int), m.cells.getD q 0, ((m.cells.getD q 0 + c) % m64)) := ⟨_, rfl⟩
  rw [← hP]
  have ca := hR a ha
  have fa := hF (k * 11 + 3 + a)
  have ha0 : (0 : Int) ≤ (a : Int) := by omega
  have ha8 : (a : Int) < 8 := by omega
  have HST := Lib.hid (fun w' (hg : w.grownBy w' none) => (fetch_in (h.grow hg).mem hq (IntKind.u64.wrap c)).mono (R' := fun e w'' => e = .returned (.tuple #[.int .u64 (m.cells.getD q 0), .nilIface]) ∧ MemDone w w' w'' B S X m (m.cells.set q ((m.cells.getD q 0 + c) % m64)) tb k) fun e w'' ⟨he, hM, hg2⟩ => ⟨he, memDone h hg hk htv (by rw [fetch_wrap] at hM; exact hM) hg2⟩)
  have HQS := Lib.hid (show q < (m.cells.set q ((m.cells.getD q 0 + c) % m64)).length ∧ (m.cells.set q ((m.cells.getD q 0 + c) % m64)).getD q 0 = ((m.cells.getD q 0 + c) % m64) from ⟨by rw [List.length_set]; exact hq, getD_set_eq _ _ _ _ hq⟩)
  have HMV := Lib.hid (fun g (e : X.mv.ownBlock = some g) => (h.mem.own.lt g e).2)
  have HA8 := Lib.hid ha
  have HSR := Lib.hid (fun w'' (h1 : Core w'' B S X { m with cells := m.cells.set q ((m.cells.getD q 0 + c) % m64) }) => h1.setReg hlr hk hr8 htv a ha (m.cells.getD q 0))
  have htc : tb ≠ X.c := fun e => by
    obtain ⟨xs, ho, -⟩ := h.thr
    rw [htv] at ho
    obtain ⟨c, fz, hc⟩ := Lib.ownsRow_kind ho tb rfl
    rw [e, h.at_] at hc
    injection hc with hc
    injection hc with _ ht _
    exact absurd ht (by decide)
  have HBZ := Lib.hid hB
  have HXA := Lib.hid (show X.av.ownBlock ≠ some w.heap.size from fun e => Nat.lt_irrefl _ (h.acts.lt _ e).2)
  have HSM := Lib.hid hsm
  generalize hold : m.cells.getD q 0 = old at *
  have EOLD := Lib.hid hold
  generalize ea : (m.regs.getD k []).getD a 0 = ra at *
  have Ea := Lib.hid ea
  clear ea
  have HP := Lib.hid hP
  obtain ⟨n, hn⟩ : ∃ n, m.progs.length = n := ⟨_, rfl⟩
  rw [hn] at c2 hkn
  clear h hR hF c3 c4 c5 c1 hP hold hB hsm hq hk hlr hr8 hn htv
  unfold insV
  go_enter Tryd.func51, Tryd.ntmps51
  go_wp2_with fail
  refine (HL.out _ (World.grownBy_alloc _ _ none)).mono ?_
  rintro e w1 ⟨rfl, rfl⟩
  have HXB := Lib.hid (show (w.alloc (.cells #[.int .i64 8, .int .i64 a, .int .i64 b, .int .i64 c, .int .i64 d] 89)).drew.heap[w.heap.size]? = some (.cells #[.int .i64 8, .int .i64 a, .int .i64 b, .int .i64 c, .int .i64 d] 89 (0, 0)) from heap_alloc_new w _)
  have HC0 := Lib.hid (show (w.alloc (.cells #[.int .i64 8, .int .i64 a, .int .i64 b, .int .i64 c, .int .i64 d] 89)).drew.cell? ⟨X.c, 0, none⟩ = some (.pointer (some ⟨X.mb, 0, none⟩)) from (World.cell?_alloc_lt w _ ⟨X.c, 0, none⟩ hcl).trans c0)
  have HTC := Lib.hid htc
  have HTN := Lib.hid htne
  go_wp2
  have y0 := HC0.out
  obtain ⟨-, y1, -, y3, -⟩ := ins_cell (x := (8, (a : Int), b, c, d)) HXB.out
  go_region_held3 (fun u => u.cell? ⟨X.c, 0, none⟩ = some (.pointer (some ⟨X.mb, 0, none⟩)) ∧ u.cell? ⟨w.heap.size, 1, none⟩ = some (.int .i64 a) ∧ u.cell? ⟨w.heap.size, 3, none⟩ = some (.int .i64 c)) (first | exact ⟨y0, y1, y3⟩ | exact ⟨z0, z1, z3⟩ | exact ⟨(World.cell?_setCell_far _ _ _ _ HTC.out).trans z0, (World.cell?_setCell_far _ _ _ _ HTN.out).trans z1, (World.cell?_setCell_far _ _ _ _ HTN.out).trans z3⟩) (first
    | (go_at_call 70; refine (HST.out _ (grown_d (World.grownBy_alloc _ _ none))).mono ?_; rintro e w3 ⟨rfl, hd3⟩; have HD3 := Lib.hid hd3; have HX3 := Lib.hid (ins_cell (x := (8, (a : Int), b, c, d)) (hd3.block HXB.out HMV.out)); have z0 := hd3.c0; have z1 := HX3.out.2.1; have z3 := HX3.out.2.2.2.1; have z4 := hd3.regs a HA8.out; have z5 := hd3.loose (k * 11 + 3 + a); clear hd3))
  have HC := Lib.hid (HSR.out _ HD3.out.core).1
  have HK := Lib.hid (HD3.out.keeps.trans (HSR.out _ HD3.out.core).2)
  have HX := Lib.hid ((World.cell?_setCell_far w3 ⟨tb, k * 11 + 3 + a, none⟩ ⟨w.heap.size, 0, none⟩ (.int .u64 old) HTN.out).trans HX3.out.1)
  obtain ⟨v0, -⟩ := HC.out.cells
  go_wp2_with fail
  refine (load_in HC.out.mem HQS.out.1).mono ?_
  rintro e w4 ⟨rfl, rfl⟩
  rw [HQS.out.2]
  clear c0 c2
  go_wp2
  rw [HP.out]
  exact touch_last HC.out HK.out HBZ.out HSM.out k q _ _ _ _ HXA.out HX.out _ rfl

set_option maxHeartbeats 4000000 in
theorem touch_swap_yes {w : World} {B : Nat} {S : Nat → Prop} {X : KB} {m : Mach} (h : Core w B S X m) (hB : B ≤ w.heap.size) {k : Nat} (hk : k < m.progs.length) (hlr : m.regs.length = m.progs.length) (hr8 : (m.regs.getD k []).length = 8) {q : Nat} (hq : q < m.cells.length) (hsm : m.acts.length ≤ 20000) (a c d : Nat) (ha : a < 8) (hc : c < 8) (hd : d < 8) (b : Int) (he0 : m.cells.getD q 0 = (m.regs.getD k []).getD c 0) :
    Calls Tryd.prog 51 #[.pointer (some ⟨X.c, 0, none⟩), .int .i64 k, insV (9, (a : Int), b, (c : Int), (d : Int)), .int .i64 q] w (Touched w B S X { m with cells := (m.cells.set q ((m.regs.getD k []).getD d 0)), regs := m.regs.set k ((m.regs.getD k []).set a 1) } ((m.steps : Int), (k : Int), 9, (q : Int), m.cells.getD q 0, ((m.regs.getD k []).getD d 0))) := by
  obtain ⟨tb, cap, htv, -, htb⟩ := h.tform (by omega)
  obtain ⟨c0, c1, c2, c3, c4, c5⟩ := h.cells
  obtain ⟨-, -, -, hR, hF⟩ := h.thread hk htv
  rw [htv] at c2
  have hkn : (k : Int) < (m.progs.length : Int) := by omega
  have HL := Lib.hid (fun w' (hg : w.grownBy w' none) => load_in (h.grow hg).mem hq)
  have hcl : X.c < w.heap.size := lt_of_block h.at_
  have hcne : X.c ≠ w.heap.size := by omega
  have htne : tb ≠ w.heap.size := by omega
  obtain ⟨P, hP⟩ : ∃ P, P = Touched w B S X { m with cells := (m.cells.set q ((m.regs.getD k []).getD d 0)), regs := m.regs.set k ((m.regs.getD k []).set a 1) } ((m.steps : Int), (k : Int), 9, (q : Int), m.cells.getD q 0, ((m.regs.getD k []).getD d 0)) := ⟨_, rfl⟩
  rw [← hP]
  have ca := hR a ha
  have fa := hF (k * 11 + 3 + a)
  have ha0 : (0 : Int) ≤ (a : Int) := by omega
  have ha8 : (a : Int) < 8 := by omega
  have cc := hR c hc
  have fc := hF (k * 11 + 3 + c)
  have hc0 : (0 : Int) ≤ (c : Int) := by omega
  have hc8 : (c : Int) < 8 := by omega
  have cd := hR d hd
  have fd := hF (k * 11 + 3 + d)
  have hd0 : (0 : Int) ≤ (d : Int) := by omega
  have hd8 : (d : Int) < 8 := by omega
  have HST := Lib.hid (fun w' (hg : w.grownBy w' none) => (swap_yes (h.grow hg).mem hq ((m.regs.getD k []).getD c 0) ((m.regs.getD k []).getD d 0) he0).mono (R' := fun e w'' => e = .returned (.tuple #[.bool true, .nilIface]) ∧ MemDone w w' w'' B S X m (m.cells.set q ((m.regs.getD k []).getD d 0)) tb k) fun e w'' ⟨he, hM, hg2⟩ => ⟨he, memDone h hg hk htv hM hg2⟩)
  have HQS := Lib.hid (show q < (m.cells.set q ((m.regs.getD k []).getD d 0)).length ∧ (m.cells.set q ((m.regs.getD k []).getD d 0)).getD q 0 = ((m.regs.getD k []).getD d 0) from ⟨by rw [List.length_set]; exact hq, getD_set_eq _ _ _ _ hq⟩)
  have HMV := Lib.hid (fun g (e : X.mv.ownBlock = some g) => (h.mem.own.lt g e).2)
  have HA8 := Lib.hid (And.intro ha (And.intro hc hd))
  have HSR := Lib.hid (fun w'' (h1 : Core w'' B S X { m with cells := (m.cells.set q ((m.regs.getD k []).getD d 0)) }) => h1.setReg hlr hk hr8 htv a ha 1)
  have HS0 := Lib.hid (fun w'' (h1 : Core w'' B S X { m with cells := (m.cells.set q ((m.regs.getD k []).getD d 0)) }) => by
    have h2 := h1.setReg hlr hk hr8 htv a ha 0
    have h3 := h2.1.setReg (by simpa using hlr) hk (by dsimp only; rw [getD_set_eq _ _ _ _ (by omega), List.length_set]; exact hr8) htv a ha 1
    dsimp only at h3
    rw [getD_set_eq _ _ _ _ (by omega), List.set_set, List.set_set] at h3
    exact And.intro h3.1 (h2.2.trans h3.2))
  have htc : tb ≠ X.c := fun e => by
    obtain ⟨xs, ho, -⟩ := h.thr
    rw [htv] at ho
    obtain ⟨c, fz, hc⟩ := Lib.ownsRow_kind ho tb rfl
    rw [e, h.at_] at hc
    injection hc with hc
    injection hc with _ ht _
    exact absurd ht (by decide)
  clear he0
  have HBZ := Lib.hid hB
  have HXA := Lib.hid (show X.av.ownBlock ≠ some w.heap.size from fun e => Nat.lt_irrefl _ (h.acts.lt _ e).2)
  have HSM := Lib.hid hsm
  generalize hold : m.cells.getD q 0 = old at *
  have EOLD := Lib.hid hold
  generalize ea : (m.regs.getD k []).getD a 0 = ra at *
  have Ea := Lib.hid ea
  clear ea
  generalize ec : (m.regs.getD k []).getD c 0 = rc at *
  have Ec := Lib.hid ec
  clear ec
  generalize ed : (m.regs.getD k []).getD d 0 = rd at *
  have Ed := Lib.hid ed
  clear ed
  have HP := Lib.hid hP
  obtain ⟨n, hn⟩ : ∃ n, m.progs.length = n := ⟨_, rfl⟩
  rw [hn] at c2 hkn
  clear h hR hF c3 c4 c5 c1 hP hold hB hsm hq hk hlr hr8 hn htv
  unfold insV
  go_enter Tryd.func51, Tryd.ntmps51
  go_wp2_with fail
  refine (HL.out _ (World.grownBy_alloc _ _ none)).mono ?_
  rintro e w1 ⟨rfl, rfl⟩
  have HXB := Lib.hid (show (w.alloc (.cells #[.int .i64 9, .int .i64 a, .int .i64 b, .int .i64 c, .int .i64 d] 89)).drew.heap[w.heap.size]? = some (.cells #[.int .i64 9, .int .i64 a, .int .i64 b, .int .i64 c, .int .i64 d] 89 (0, 0)) from heap_alloc_new w _)
  have HC0 := Lib.hid (show (w.alloc (.cells #[.int .i64 9, .int .i64 a, .int .i64 b, .int .i64 c, .int .i64 d] 89)).drew.cell? ⟨X.c, 0, none⟩ = some (.pointer (some ⟨X.mb, 0, none⟩)) from (World.cell?_alloc_lt w _ ⟨X.c, 0, none⟩ hcl).trans c0)
  have HRC := Lib.hid (show (w.alloc (.cells #[.int .i64 9, .int .i64 a, .int .i64 b, .int .i64 c, .int .i64 d] 89)).drew.cell? ⟨tb, k * 11 + 3 + c, none⟩ = some (.int .u64 rc) from (World.cell?_alloc_lt w _ ⟨tb, k * 11 + 3 + c, none⟩ htb).trans cc)
  have HRD := Lib.hid (show (w.alloc (.cells #[.int .i64 9, .int .i64 a, .int .i64 b, .int .i64 c, .int .i64 d] 89)).drew.cell? ⟨tb, k * 11 + 3 + d, none⟩ = some (.int .u64 rd) from (World.cell?_alloc_lt w _ ⟨tb, k * 11 + 3 + d, none⟩ htb).trans cd)
  have HTC := Lib.hid htc
  have HTN := Lib.hid htne
  have HTB := Lib.hid htb
  go_wp2
  have y0 := HC0.out
  obtain ⟨-, -, -, y3, y4⟩ := ins_cell (x := (9, (a : Int), b, (c : Int), (d : Int))) HXB.out
  have y5 := HRC.out
  have y6 := HRD.out
  go_region_held3 (fun u => u.cell? ⟨X.c, 0, none⟩ = some (.pointer (some ⟨X.mb, 0, none⟩)) ∧ u.cell? ⟨w.heap.size, 3, none⟩ = some (.int .i64 c) ∧ u.cell? ⟨w.heap.size, 4, none⟩ = some (.int .i64 d) ∧ u.cell? ⟨tb, k * 11 + 3 + c, none⟩ = some (.int .u64 rc) ∧ u.cell? ⟨tb, k * 11 + 3 + d, none⟩ = some (.int .u64 rd)) (first | exact ⟨y0, y3, y4, y5, y6⟩ | exact ⟨z0, z3, z4, z5, z6⟩) (first
    | (go_at_call 71; refine (HST.out _ (grown_d (World.grownBy_alloc _ _ none))).mono ?_; rintro e w3 ⟨rfl, hd3⟩; have HD3 := Lib.hid hd3; have HB3 := Lib.hid (hd3.block HXB.out HMV.out); have z0 := hd3.c0; have z3 := (ins_cell (x := (9, (a : Int), b, (c : Int), (d : Int))) HB3.out).2.2.2.1; have z4 := (ins_cell (x := (9, (a : Int), b, (c : Int), (d : Int))) HB3.out).2.2.2.2; have z5 := (hd3.regs c HA8.out.2.1).trans (by rw [Ec.out]); have z6 := (hd3.regs d HA8.out.2.2).trans (by rw [Ed.out]); clear hd3))
  have z1 := (ins_cell (x := (9, (a : Int), b, (c : Int), (d : Int))) HB3.out).2.1
  have z7 := HD3.out.regs a HA8.out.1
  have z8 := HD3.out.loose (k * 11 + 3 + a)
  have hxn : tb ≠ w.heap.size := HTN.out
  clear y0 y3 y4 y5 y6 z3 z4 z5 z6
  go_wp2
  go_region
  go_wp2_with fail
  go_region
  go_wp2_with fail
  obtain ⟨W, hW⟩ : ∃ W, W = ((w3.setCell ⟨tb, k * 11 + 3 + a, none⟩ (.int .u64 0)).setCell ⟨tb, k * 11 + 3 + a, none⟩ (.int .u64 1)).drew.drew := ⟨_, rfl⟩
  have HX := Lib.hid (show W.cell? ⟨w.heap.size, 0, none⟩ = some (.int .i64 9) from by
    rw [hW]
    exact (World.cell?_setCell_far _ ⟨tb, k * 11 + 3 + a, none⟩ ⟨w.heap.size, 0, none⟩ _ HTN.out).trans ((World.cell?_setCell_far _ ⟨tb, k * 11 + 3 + a, none⟩ ⟨w.heap.size, 0, none⟩ _ HTN.out).trans ((ins_cell (x := (9, (a : Int), b, (c : Int), (d : Int))) HB3.out).1)))
  have hG : ((w3.setCell ⟨tb, k * 11 + 3 + a, none⟩ (.int .u64 0)).setCell ⟨tb, k * 11 + 3 + a, none⟩ (.int .u64 1)).grownBy W none := by
    rw [hW]
    exact grown_d (grown_drew _)
  have HC := Lib.hid ((HS0.out _ HD3.out.core).1.grow hG)
  have HK := Lib.hid ((HD3.out.keeps.trans (HS0.out _ HD3.out.core).2).trans (Keeps.of_grown hG (by intro k hk; cases hk)))
  rw [← hW]
  clear hW hG
  obtain ⟨c0', -⟩ := HC.out.cells
  refine (load_in HC.out.mem HQS.out.1).mono ?_
  rintro e w4 ⟨rfl, rfl⟩
  rw [HQS.out.2]
  clear c0 c2
  go_wp2
  rw [HP.out]
  exact touch_last HC.out HK.out HBZ.out HSM.out k q _ _ _ _ HXA.out HX.out _ rfl

set_option maxHeartbeats 4000000 in
theorem touch_swap_no {w : World} {B : Nat} {S : Nat → Prop} {X : KB} {m : Mach} (h : Core w B S X m) (hB : B ≤ w.heap.size) {k : Nat} (hk : k < m.progs.length) (hlr : m.regs.length = m.progs.length) (hr8 : (m.regs.getD k []).length = 8) {q : Nat} (hq : q < m.cells.length) (hsm : m.acts.length ≤ 20000) (a c d : Nat) (ha : a < 8) (hc : c < 8) (hd : d < 8) (b : Int) (he0 : m.cells.getD q 0 ≠ (m.regs.getD k []).getD c 0) :
    Calls Tryd.prog 51 #[.pointer (some ⟨X.c, 0, none⟩), .int .i64 k, insV (9, (a : Int), b, (c : Int), (d : Int)), .int .i64 q] w (Touched w B S X { m with cells := m.cells, regs := m.regs.set k ((m.regs.getD k []).set a 0) } ((m.steps : Int), (k : Int), 9, (q : Int), m.cells.getD q 0, (m.cells.getD q 0))) := by
  obtain ⟨tb, cap, htv, -, htb⟩ := h.tform (by omega)
  obtain ⟨c0, c1, c2, c3, c4, c5⟩ := h.cells
  obtain ⟨-, -, -, hR, hF⟩ := h.thread hk htv
  rw [htv] at c2
  have hkn : (k : Int) < (m.progs.length : Int) := by omega
  have HL := Lib.hid (fun w' (hg : w.grownBy w' none) => load_in (h.grow hg).mem hq)
  have hcl : X.c < w.heap.size := lt_of_block h.at_
  have hcne : X.c ≠ w.heap.size := by omega
  have htne : tb ≠ w.heap.size := by omega
  obtain ⟨P, hP⟩ : ∃ P, P = Touched w B S X { m with cells := m.cells, regs := m.regs.set k ((m.regs.getD k []).set a 0) } ((m.steps : Int), (k : Int), 9, (q : Int), m.cells.getD q 0, (m.cells.getD q 0)) := ⟨_, rfl⟩
  rw [← hP]
  have ca := hR a ha
  have fa := hF (k * 11 + 3 + a)
  have ha0 : (0 : Int) ≤ (a : Int) := by omega
  have ha8 : (a : Int) < 8 := by omega
  have cc := hR c hc
  have fc := hF (k * 11 + 3 + c)
  have hc0 : (0 : Int) ≤ (c : Int) := by omega
  have hc8 : (c : Int) < 8 := by omega
  have cd := hR d hd
  have fd := hF (k * 11 + 3 + d)
  have hd0 : (0 : Int) ≤ (d : Int) := by omega
  have hd8 : (d : Int) < 8 := by omega
  have HST := Lib.hid (fun w' (hg : w.grownBy w' none) => (swap_no (h.grow hg).mem hq ((m.regs.getD k []).getD c 0) ((m.regs.getD k []).getD d 0) he0).mono (R' := fun e w'' => e = .returned (.tuple #[.bool false, .nilIface]) ∧ MemDone w w' w'' B S X m m.cells tb k) fun e w'' ⟨he, hw⟩ => ⟨he, by subst hw; exact memDone h hg hk htv (h.grow hg).mem (World.grownBy.refl _ _)⟩)
  have HQS := Lib.hid (show q < m.cells.length ∧ m.cells.getD q 0 = m.cells.getD q 0 from ⟨hq, rfl⟩)
  have HMV := Lib.hid (fun g (e : X.mv.ownBlock = some g) => (h.mem.own.lt g e).2)
  have HA8 := Lib.hid (And.intro ha (And.intro hc hd))
  have HSR := Lib.hid (fun w'' (h1 : Core w'' B S X { m with cells := m.cells }) => h1.setReg hlr hk hr8 htv a ha 0)
  have HS0 := Lib.hid (fun w'' (h1 : Core w'' B S X { m with cells := m.cells }) => by
    have h2 := h1.setReg hlr hk hr8 htv a ha 0
    have h3 := h2.1.setReg (by simpa using hlr) hk (by dsimp only; rw [getD_set_eq _ _ _ _ (by omega), List.length_set]; exact hr8) htv a ha 0
    dsimp only at h3
    rw [getD_set_eq _ _ _ _ (by omega), List.set_set, List.set_set] at h3
    exact And.intro h3.1 (h2.2.trans h3.2))
  have htc : tb ≠ X.c := fun e => by
    obtain ⟨xs, ho, -⟩ := h.thr
    rw [htv] at ho
    obtain ⟨c, fz, hc⟩ := Lib.ownsRow_kind ho tb rfl
    rw [e, h.at_] at hc
    injection hc with hc
    injection hc with _ ht _
    exact absurd ht (by decide)
  clear he0
  have HBZ := Lib.hid hB
  have HXA := Lib.hid (show X.av.ownBlock ≠ some w.heap.size from fun e => Nat.lt_irrefl _ (h.acts.lt _ e).2)
  have HSM := Lib.hid hsm
  generalize hold : m.cells.getD q 0 = old at *
  have EOLD := Lib.hid hold
  generalize ea : (m.regs.getD k []).getD a 0 = ra at *
  have Ea := Lib.hid ea
  clear ea
  generalize ec : (m.regs.getD k []).getD c 0 = rc at *
  have Ec := Lib.hid ec
  clear ec
  generalize ed : (m.regs.getD k []).getD d 0 = rd at *
  have Ed := Lib.hid ed
  clear ed
  have HP := Lib.hid hP
  obtain ⟨n, hn⟩ : ∃ n, m.progs.length = n := ⟨_, rfl⟩
  rw [hn] at c2 hkn
  clear h hR hF c3 c4 c5 c1 hP hold hB hsm hq hk hlr hr8 hn htv
  unfold insV
  go_enter Tryd.func51, Tryd.ntmps51
  go_wp2_with fail
  refine (HL.out _ (World.grownBy_alloc _ _ none)).mono ?_
  rintro e w1 ⟨rfl, rfl⟩
  have HXB := Lib.hid (show (w.alloc (.cells #[.int .i64 9, .int .i64 a, .int .i64 b, .int .i64 c, .int .i64 d] 89)).drew.heap[w.heap.size]? = some (.cells #[.int .i64 9, .int .i64 a, .int .i64 b, .int .i64 c, .int .i64 d] 89 (0, 0)) from heap_alloc_new w _)
  have HC0 := Lib.hid (show (w.alloc (.cells #[.int .i64 9, .int .i64 a, .int .i64 b, .int .i64 c, .int .i64 d] 89)).drew.cell? ⟨X.c, 0, none⟩ = some (.pointer (some ⟨X.mb, 0, none⟩)) from (World.cell?_alloc_lt w _ ⟨X.c, 0, none⟩ hcl).trans c0)
  have HRC := Lib.hid (show (w.alloc (.cells #[.int .i64 9, .int .i64 a, .int .i64 b, .int .i64 c, .int .i64 d] 89)).drew.cell? ⟨tb, k * 11 + 3 + c, none⟩ = some (.int .u64 rc) from (World.cell?_alloc_lt w _ ⟨tb, k * 11 + 3 + c, none⟩ htb).trans cc)
  have HRD := Lib.hid (show (w.alloc (.cells #[.int .i64 9, .int .i64 a, .int .i64 b, .int .i64 c, .int .i64 d] 89)).drew.cell? ⟨tb, k * 11 + 3 + d, none⟩ = some (.int .u64 rd) from (World.cell?_alloc_lt w _ ⟨tb, k * 11 + 3 + d, none⟩ htb).trans cd)
  have HTC := Lib.hid htc
  have HTN := Lib.hid htne
  have HTB := Lib.hid htb
  go_wp2
  have y0 := HC0.out
  obtain ⟨-, -, -, y3, y4⟩ := ins_cell (x := (9, (a : Int), b, (c : Int), (d : Int))) HXB.out
  have y5 := HRC.out
  have y6 := HRD.out
  go_region_held3 (fun u => u.cell? ⟨X.c, 0, none⟩ = some (.pointer (some ⟨X.mb, 0, none⟩)) ∧ u.cell? ⟨w.heap.size, 3, none⟩ = some (.int .i64 c) ∧ u.cell? ⟨w.heap.size, 4, none⟩ = some (.int .i64 d) ∧ u.cell? ⟨tb, k * 11 + 3 + c, none⟩ = some (.int .u64 rc) ∧ u.cell? ⟨tb, k * 11 + 3 + d, none⟩ = some (.int .u64 rd)) (first | exact ⟨y0, y3, y4, y5, y6⟩ | exact ⟨z0, z3, z4, z5, z6⟩) (first
    | (go_at_call 71; refine (HST.out _ (grown_d (World.grownBy_alloc _ _ none))).mono ?_; rintro e w3 ⟨rfl, hd3⟩; have HD3 := Lib.hid hd3; have HB3 := Lib.hid (hd3.block HXB.out HMV.out); have z0 := hd3.c0; have z3 := (ins_cell (x := (9, (a : Int), b, (c : Int), (d : Int))) HB3.out).2.2.2.1; have z4 := (ins_cell (x := (9, (a : Int), b, (c : Int), (d : Int))) HB3.out).2.2.2.2; have z5 := (hd3.regs c HA8.out.2.1).trans (by rw [Ec.out]); have z6 := (hd3.regs d HA8.out.2.2).trans (by rw [Ed.out]); clear hd3))
  have z1 := (ins_cell (x := (9, (a : Int), b, (c : Int), (d : Int))) HB3.out).2.1
  have z7 := HD3.out.regs a HA8.out.1
  have z8 := HD3.out.loose (k * 11 + 3 + a)
  have hxn : tb ≠ w.heap.size := HTN.out
  clear y0 y3 y4 y5 y6 z3 z4 z5 z6
  go_wp2
  go_region
  go_wp2_with fail
  obtain ⟨W, hW⟩ : ∃ W, W = (w3.setCell ⟨tb, k * 11 + 3 + a, none⟩ (.int .u64 0)).drew := ⟨_, rfl⟩
  have HX := Lib.hid (show W.cell? ⟨w.heap.size, 0, none⟩ = some (.int .i64 9) from by
    rw [hW]
    exact (World.cell?_setCell_far _ ⟨tb, k * 11 + 3 + a, none⟩ ⟨w.heap.size, 0, none⟩ _ HTN.out).trans ((ins_cell (x := (9, (a : Int), b, (c : Int), (d : Int))) HB3.out).1))
  have hG : (w3.setCell ⟨tb, k * 11 + 3 + a, none⟩ (.int .u64 0)).grownBy W none := by
    rw [hW]
    exact grown_drew _
  have HC := Lib.hid ((HSR.out _ HD3.out.core).1.grow hG)
  have HK := Lib.hid ((HD3.out.keeps.trans (HSR.out _ HD3.out.core).2).trans (Keeps.of_grown hG (by intro k hk; cases hk)))
  rw [← hW]
  clear hW hG
  obtain ⟨c0', -⟩ := HC.out.cells
  refine (load_in HC.out.mem HQS.out.1).mono ?_
  rintro e w4 ⟨rfl, rfl⟩
  rw [EOLD.out]
  clear c0 c2
  go_wp2
  rw [HP.out]
  exact touch_last HC.out HK.out HBZ.out HSM.out k q _ _ _ _ HXA.out HX.out _ rfl

end Go.Proofs.YtkhaeabbbhfloaaDoor

namespace Go.Proofs.YtkhaeabbbhfloaaDoor
set_option maxRecDepth 100000
open Go.RowKit

/-- There is no such cell. -/
theorem mem_has_no {w : World} {B m : Nat} {v : Value} {xs : List Int} (h : Mem w B m v xs) (a : Int) (ha : a < 0 ∨ (xs.length : Int) ≤ a) :
    Calls Tryd.prog 85 #[.pointer (some ⟨m, 0, none⟩), .int .i64 a] w fun e w' => e = .returned (.bool false) ∧ w = w' := by
  obtain ⟨A, c, rfl⟩ := slice_of_own h.own
  have hm := h.cell
  clear h
  generalize xs.length = n at *
  rcases Int.lt_or_le a 0 with h0 | h0
  · have h1 : ¬ 0 ≤ a := by omega
    go_enter Tryd.func85, Tryd.ntmps85
    go_wp2
    go_ret
    exact ⟨rfl, rfl⟩
  · have h2 : ¬ a < (n : Int) := by omega
    clear ha
    go_enter Tryd.func85, Tryd.ntmps85
    go_wp2
    go_ret
    exact ⟨rfl, rfl⟩

theorem load_out {w : World} {B m : Nat} {v : Value} {xs : List Int} (h : Mem w B m v xs) (a : Int) (ha : a < 0 ∨ (xs.length : Int) ≤ a) :
    Calls Tryd.prog 68 #[.pointer (some ⟨m, 0, none⟩), .int .i64 a] w fun e w' => e = .returned (.tuple #[.int .u64 0, .iface 80 (.int .i64 2)]) ∧ w = w' := by
  have HH := Lib.hid (mem_has_no h a ha)
  clear h ha
  go_enter Tryd.func68, Tryd.ntmps68
  go_wp2_with fail
  refine HH.out.mono ?_
  rintro e w' ⟨rfl, rfl⟩
  go_wp2
  go_ret2
  exact ⟨rfl, rfl⟩

end Go.Proofs.YtkhaeabbbhfloaaDoor
