/-
  touch's last line: what was done to a cell is an act.
-/
import Derived.Test.YtkmidefgmefohaaDoorMTurn
import Derived.Deep.AppendLies
import Derived.Test.YtkmidefgmefohaaDoorHeldL
namespace Go.Proofs.YtkmidefgmefohaaDoor
set_option maxRecDepth 100000
open Go.RowKit Go.Shelf Go.Sort
set_option linter.unusedSimpArgs false
set_option linter.unusedVariables false

/-- Behind touch: the machine, with an act more. -/
def Touched (w : World) (B : Nat) (S : Nat → Prop) (X : KB) (m1 : Mach) (a : Act6) (e : Ending) (w' : World) : Prop :=
  e = .returned (.tuple #[]) ∧ ∃ S' X', X'.c = X.c ∧ X'.tv = X.tv ∧ Core w' B S' X' { m1 with acts := m1.acts ++ [a] } ∧ Since S S' w ∧ Keeps S w w'

theorem act_one {l : List Act6} {x : Act6} : cellsA l ++ [.int .i64 x.1, .int .i64 x.2.1, .int .i64 x.2.2.1, .int .i64 x.2.2.2.1, .int .u64 x.2.2.2.2.1, .int .u64 x.2.2.2.2.2] = cellsA (l ++ [x]) := by
  rw [cellsA_append, cellsA_one]
  rfl

/-- What is left of touch: the row that is longer is stored. -/
theorem touched_of {w W w1 : World} {B : Nat} {S : Nat → Prop} {X : KB} {m1 : Mach} {x : Act6} {g cap n : Nat} (hC : Core W B S X m1) (hk : Keeps S w W) (hn : n = m1.acts.length)
    (ho : w1.ownsRow B 137 6 (.slice (some ⟨g, 0, none⟩) (n + 1) cap) (n + 1) (cellsA m1.acts ++ [.int .i64 x.1, .int .i64 x.2.1, .int .i64 x.2.2.1, .int .i64 x.2.2.2.1, .int .u64 x.2.2.2.2.1, .int .u64 x.2.2.2.2.2])) (hg : W.grownBy w1 X.av.ownBlock) (hat : X.av.ownBlock = some g ∨ g = W.heap.size) :
    Touched w B S X m1 x (.returned (.tuple #[])) (w1.setCell ⟨X.c, 3, none⟩ (.slice (some ⟨g, 0, none⟩) (n + 1) cap)) := by
  subst hn
  rw [act_one] at ho
  have hl : (m1.acts ++ [x]).length = m1.acts.length + 1 := by simp
  obtain ⟨h1, h2, h3⟩ := hC.addAct (l := m1.acts ++ [x]) (av := .slice (some ⟨g, 0, none⟩) (m1.acts.length + 1) cap) (by rw [hl]; exact ho) hg (by
    rcases hat with e | e
    · exact .inl e.symm
    · exact .inr (by rw [e]; rfl))
  exact ⟨rfl, _, _, by rfl, by rfl, h1, fun k hs => (h3 k hs).imp id (fun h => Nat.le_trans hk.size h), hk.on (Since.refl _ _) h2⟩

theorem actOne {a b c d e f : Int} : ∀ u ∈ [Value.int .i64 a, Value.int .i64 b, Value.int .i64 c, Value.int .i64 d, Value.int .u64 e, Value.int .u64 f], u.oneCell' = true := by
  intro u hu
  simp at hu
  rcases hu with rfl | rfl | rfl | rfl | rfl | rfl <;> rfl

/-- What touch reads of the machine ahead of its last line. -/
theorem act_cells {w : World} {B : Nat} {S : Nat → Prop} {X : KB} {m : Mach} (h : Core w B S X m) :
    w.cell? ⟨X.c, 3, none⟩ = some X.av ∧ w.cell? ⟨X.c, 5, none⟩ = some (.int .i64 (m.steps : Int)) ∧ w.frozen? ⟨X.c, 3, none⟩ = false := by
  obtain ⟨_, _, _, d3, _, d5⟩ := h.cells
  exact ⟨d3, d5, h.loose 3⟩
theorem act_kept {w w1 : World} {B : Nat} {S : Nat → Prop} {X : KB} {m : Mach} (h : Core w B S X m) (hg : w.grownBy w1 X.av.ownBlock) :
    w1.cell? ⟨X.c, 3, none⟩ = some X.av ∧ w1.cell? ⟨X.c, 5, none⟩ = some (.int .i64 (m.steps : Int)) ∧ w1.frozen? ⟨X.c, 3, none⟩ = false := by
  have hb : w1.heap[X.c]? = w.heap[X.c]? := hg.block X.c (lt_of_block h.at_) (fun e => by
    obtain ⟨c, fz, hc⟩ := Lib.ownsRow_kind h.acts X.c e.symm
    rw [h.at_] at hc
    injection hc with hc
    injection hc with _ ht _
    exact absurd ht (by decide))
  obtain ⟨d1, d2, d3⟩ := act_cells h
  exact ⟨(World.cell?_of_block (a := ⟨X.c, 3, none⟩) hb).trans d1, (World.cell?_of_block (a := ⟨X.c, 5, none⟩) hb).trans d2, (World.frozen?_of_block (a := ⟨X.c, 3, none⟩) hb).trans d3⟩

/-- What stands behind the n-th ';'. -/
def seqTail : Nat → Code → Code
  | 0, c => c
  | n + 1, .seq _ y => seqTail n y
  | _ + 1, c => c

set_option maxHeartbeats 4000000 in
theorem touch_last {w W : World} {B : Nat} {S : Nat → Prop} {X : KB} {m1 : Mach} (hC : Core W B S X m1) (hK : Keeps S w W) (hB : B ≤ w.heap.size) (hsm : m1.acts.length ≤ 20000) (k q xb : Nat) (op old now : Int) (hxa : X.av.ownBlock ≠ some xb) (hx : W.cell? ⟨xb, 0, none⟩ = some (.int .i64 op))
    {u2 u4 u5 u7 u8 u10 u11 u12 u14 u15 u16 u17 u18 u19 u20 u21 u22 u23 u24 u25 u26 u27 u28 u29 u30 u31 u32 u33 u34 u35 u36 u37 u38 u39 u40 u41 u42 u43 u44 u45 u46 u47 u48 u49 u50 u51 u52 u53 u54 u55 u56 u57 u58 u59 u60 u61 u62 u63 u64 u65 u66 u67 u68 u69 u70 u71 u72 u73 u74 u75 u76 u77 u78 u79 u80 u81 u82 u83 u84 u85 u86 u87 u88 u89 u90 u91 u92 u93 u94 u95 u96 u97 u98 u99 u100 u101 u102 u103 u104 u105 u106 u107 u108 u109 u110 u111 u112 u113 u114 u115 u116 u117 u118 u119 u120 u121 u122 u123 u124 u125 u126 u127 u128 u129 u130 u131 u132 u133 u134 u135 u136 : Value} (F : Func) (hF : F = Tryd.f52) :
    Code.wp Tryd.prog (seqTail 5 (Tryd.f52.body.getD .skip)) (bodyPost Tryd.prog F (Touched w B S X m1 ((m1.steps : Int), (k : Int), op, (q : Int), old, now))) { tmps := #[.pointer (some ⟨X.c, 0, none⟩), .int .i64 k, u2, .int .i64 q, u4, u5, .pointer (some ⟨xb, 0, none⟩), u7, u8, .int .u64 old, u10, u11, u12, .int .u64 now, u14, u15, u16, u17, u18, u19, u20, u21, u22, u23, u24, u25, u26, u27, u28, u29, u30, u31, u32, u33, u34, u35, u36, u37, u38, u39, u40, u41, u42, u43, u44, u45, u46, u47, u48, u49, u50, u51, u52, u53, u54, u55, u56, u57, u58, u59, u60, u61, u62, u63, u64, u65, u66, u67, u68, u69, u70, u71, u72, u73, u74, u75, u76, u77, u78, u79, u80, u81, u82, u83, u84, u85, u86, u87, u88, u89, u90, u91, u92, u93, u94, u95, u96, u97, u98, u99, u100, u101, u102, u103, u104, u105, u106, u107, u108, u109, u110, u111, u112, u113, u114, u115, u116, u117, u118, u119, u120, u121, u122, u123, u124, u125, u126, u127, u128, u129, u130, u131, u132, u133, u134, u135, u136], defers := [] } W := by
  obtain ⟨i0, hi, hz0, hz1, hz2⟩ := info_parts info_A
  obtain ⟨P, hP⟩ : ∃ P, P = Touched w B S X m1 ((m1.steps : Int), (k : Int), op, (q : Int), old, now) := ⟨_, rfl⟩
  rw [← hP]
  obtain ⟨y1, y2, y3⟩ := act_cells hC
  have hcW : X.c < W.heap.size := lt_of_block hC.at_
  have hcWn : X.c ≠ W.heap.size := by omega
  have hxW : xb < W.heap.size := World.block_lt_of_cell? W _ hx
  have hxWn : xb ≠ W.heap.size := by omega
  have HG3 := Lib.hid (grown_a (grown_d (World.grownBy.refl W none)) (.cells #[.int .i64 (m1.steps : Int), .int .i64 k, .int .i64 op, .int .i64 q, .int .u64 old, .int .u64 now] 137))
  have HCA := Lib.hid (hC.grow HG3.out)
  have HNB := Lib.hid (show (W.drew.alloc (.cells #[.int .i64 (m1.steps : Int), .int .i64 k, .int .i64 op, .int .i64 q, .int .u64 old, .int .u64 now] 137)).heap[W.heap.size]? = some (.cells #[.int .i64 (m1.steps : Int), .int .i64 k, .int .i64 op, .int .i64 q, .int .u64 old, .int .u64 now] 137 (0, 0)) from heap_alloc_new W.drew (.cells #[.int .i64 (m1.steps : Int), .int .i64 k, .int .i64 op, .int .i64 q, .int .u64 old, .int .u64 now] 137))
  have HBB := Lib.hid (show B ≤ (W.drew.alloc (.cells #[.int .i64 (m1.steps : Int), .int .i64 k, .int .i64 op, .int .i64 q, .int .u64 old, .int .u64 now] 137)).heap.size by have h1 := hK.size; simp; omega)
  have HKK := Lib.hid hK
  have HP := Lib.hid hP
  have HSM := Lib.hid hsm
  have HY := Lib.hid (show (W.drew.alloc (.cells #[.int .i64 (m1.steps : Int), .int .i64 k, .int .i64 op, .int .i64 q, .int .u64 old, .int .u64 now] 137)).cell? ⟨X.c, 3, none⟩ = some X.av ∧ (W.drew.alloc (.cells #[.int .i64 (m1.steps : Int), .int .i64 k, .int .i64 op, .int .i64 q, .int .u64 old, .int .u64 now] 137)).cell? ⟨X.c, 5, none⟩ = some (.int .i64 (m1.steps : Int)) ∧ (W.drew.alloc (.cells #[.int .i64 (m1.steps : Int), .int .i64 k, .int .i64 op, .int .i64 q, .int .u64 old, .int .u64 now] 137)).cell? ⟨xb, 0, none⟩ = some (.int .i64 op) from ⟨(World.cell?_alloc_lt _ _ ⟨X.c, 3, none⟩ hcW).trans y1, (World.cell?_alloc_lt _ _ ⟨X.c, 5, none⟩ hcW).trans y2, (World.cell?_alloc_lt _ _ ⟨xb, 0, none⟩ hxW).trans hx⟩)
  have HXL := Lib.hid (show xb < (W.drew.alloc (.cells #[.int .i64 (m1.steps : Int), .int .i64 k, .int .i64 op, .int .i64 q, .int .u64 old, .int .u64 now] 137)).heap.size by simp; omega)
  have HXN := Lib.hid (fun e : some xb = X.av.ownBlock => hxa e.symm)
  clear hC hK hB hP hsm
  have HQ := Lib.hid hF
  clear hF
  generalize hst : (m1.steps : Int) = st at *
  have HST := Lib.hid hst
  clear hst
  dsimp only [seqTail, Tryd.f52, Option.getD]
  refine region_heldL (L := 20) (S := fun u => u.cell? ⟨X.c, 3, none⟩ = some X.av ∧ u.cell? ⟨X.c, 5, none⟩ = some (.int .i64 st) ∧ u.cell? ⟨xb, 0, none⟩ = some (.int .i64 op)) 21 rfl (by kernel_rfl) ⟨y1, y2, hx⟩ (fun hHeld => ?_)
  refine heldL_take (n := 20) (i := 0) (oi := _) (v := ?v0) (dst := some 117) rfl rfl rfl (by kernel_rfl) (by kernel_rfl) (by kernel_rfl) (by kernel_rfl) (by kernel_rfl) (fun _ _ _ h => h) (Or.inl ⟨by rfl, ?hy0⟩) (by assumption) ?rest0
  case hy0 => intro u hSu; (try dsimp only at hSu); go_simp; try (with_reducible rfl)
  simp only [Act.put, List.setIfInBounds_toArray, List.set_cons_zero, List.set_cons_succ]
  refine heldL_take (n := 19) (i := 1) (oi := _) (v := ?v1) (dst := some 118) rfl rfl rfl (by kernel_rfl) (by kernel_rfl) (by kernel_rfl) (by kernel_rfl) (by kernel_rfl) (fun _ _ _ h => h) (Or.inl ⟨by rfl, ?hy1⟩) (by assumption) ?rest1
  case hy1 => intro u hSu; (try dsimp only at hSu); go_simp; try (with_reducible rfl)
  simp only [Act.put, List.setIfInBounds_toArray, List.set_cons_zero, List.set_cons_succ]
  refine heldL_take (n := 18) (i := 2) (oi := _) (v := ?v2) (dst := some 119) rfl rfl rfl (by kernel_rfl) (by kernel_rfl) (by kernel_rfl) (by kernel_rfl) (by kernel_rfl) (fun _ _ _ h => h) (Or.inl ⟨by rfl, ?hy2⟩) (by assumption) ?rest2
  case hy2 => intro u hSu; (try dsimp only at hSu); go_simp; try (with_reducible rfl)
  simp only [Act.put, List.setIfInBounds_toArray, List.set_cons_zero, List.set_cons_succ]
  refine heldL_take (n := 17) (i := 3) (oi := _) (v := ?v3) (dst := some 120) rfl rfl rfl (by kernel_rfl) (by kernel_rfl) (by kernel_rfl) (by kernel_rfl) (by kernel_rfl) (fun _ _ _ h => h) (Or.inl ⟨by rfl, ?hy3⟩) (by assumption) ?rest3
  case hy3 => intro u hSu; (try dsimp only at hSu); go_simp; try (with_reducible rfl)
  simp only [Act.put, List.setIfInBounds_toArray, List.set_cons_zero, List.set_cons_succ]
  refine heldL_take (n := 16) (i := 4) (oi := _) (v := ?v4) (dst := some 121) rfl rfl rfl (by kernel_rfl) (by kernel_rfl) (by kernel_rfl) (by kernel_rfl) (by kernel_rfl) (fun _ _ _ h => h) (Or.inl ⟨by rfl, ?hy4⟩) (by assumption) ?rest4
  case hy4 => intro u hSu; (try dsimp only at hSu); go_simp; try (with_reducible rfl)
  simp only [Act.put, List.setIfInBounds_toArray, List.set_cons_zero, List.set_cons_succ]
  refine heldL_take (n := 15) (i := 5) (oi := _) (v := ?v5) (dst := some 122) rfl rfl rfl (by kernel_rfl) (by kernel_rfl) (by kernel_rfl) (by kernel_rfl) (by kernel_rfl) (fun _ _ _ h => h) (Or.inl ⟨by rfl, ?hy5⟩) (by assumption) ?rest5
  case hy5 => intro u hSu; (try dsimp only at hSu); go_simp; try (with_reducible rfl)
  simp only [Act.put, List.setIfInBounds_toArray, List.set_cons_zero, List.set_cons_succ]
  refine heldL_take (n := 14) (i := 6) (oi := _) (v := ?v6) (dst := some 123) rfl rfl rfl (by kernel_rfl) (by kernel_rfl) (by kernel_rfl) (by kernel_rfl) (by kernel_rfl) (fun _ _ _ h => h) (Or.inl ⟨by rfl, ?hy6⟩) (by assumption) ?rest6
  case hy6 => intro u hSu; (try dsimp only at hSu); go_simp; try (with_reducible rfl)
  simp only [Act.put, List.setIfInBounds_toArray, List.set_cons_zero, List.set_cons_succ]
  refine heldL_take (n := 13) (i := 7) (oi := _) (v := ?v7) (dst := some 124) rfl rfl rfl (by kernel_rfl) (by kernel_rfl) (by kernel_rfl) (by kernel_rfl) (by kernel_rfl) (fun _ _ _ h => h) (Or.inl ⟨by rfl, ?hy7⟩) (by assumption) ?rest7
  case hy7 => intro u hSu; (try dsimp only at hSu); go_simp; try (with_reducible rfl)
  simp only [Act.put, List.setIfInBounds_toArray, List.set_cons_zero, List.set_cons_succ]
  refine heldL_take (n := 12) (i := 8) (oi := _) (v := ?v8) (dst := some 125) rfl rfl rfl (by kernel_rfl) (by kernel_rfl) (by kernel_rfl) (by kernel_rfl) (by kernel_rfl) (fun _ _ _ h => h) (Or.inl ⟨by rfl, ?hy8⟩) (by assumption) ?rest8
  case hy8 => intro u hSu; (try dsimp only at hSu); go_simp; try (with_reducible rfl)
  simp only [Act.put, List.setIfInBounds_toArray, List.set_cons_zero, List.set_cons_succ]
  refine heldL_take (n := 11) (i := 9) (oi := _) (v := ?v9) (dst := some 126) rfl rfl rfl (by kernel_rfl) (by kernel_rfl) (by kernel_rfl) (by kernel_rfl) (by kernel_rfl) (fun _ _ _ h => h) (Or.inl ⟨by rfl, ?hy9⟩) (by assumption) ?rest9
  case hy9 => intro u hSu; (try dsimp only at hSu); go_simp; try (with_reducible rfl)
  simp only [Act.put, List.setIfInBounds_toArray, List.set_cons_zero, List.set_cons_succ]
  refine heldL_take (n := 10) (i := 10) (oi := _) (v := ?v10) (dst := some 127) rfl rfl rfl (by kernel_rfl) (by kernel_rfl) (by kernel_rfl) (by kernel_rfl) (by kernel_rfl) (fun _ _ _ h => h) (Or.inl ⟨by rfl, ?hy10⟩) (by assumption) ?rest10
  case hy10 => intro u hSu; (try dsimp only at hSu); go_simp; try (with_reducible rfl)
  simp only [Act.put, List.setIfInBounds_toArray, List.set_cons_zero, List.set_cons_succ]
  refine heldL_take (n := 9) (i := 11) (oi := _) (v := ?v11) (dst := some 128) rfl rfl rfl (by kernel_rfl) (by kernel_rfl) (by kernel_rfl) (by kernel_rfl) (by kernel_rfl) (fun _ _ _ h => h) (Or.inl ⟨by rfl, ?hy11⟩) (by assumption) ?rest11
  case hy11 => intro u hSu; (try dsimp only at hSu); go_simp; try (with_reducible rfl)
  simp only [Act.put, List.setIfInBounds_toArray, List.set_cons_zero, List.set_cons_succ]
  refine heldL_take (n := 8) (i := 12) (oi := _) (v := ?v12) (dst := some 129) rfl rfl rfl (by kernel_rfl) (by kernel_rfl) (by kernel_rfl) (by kernel_rfl) (by kernel_rfl) (fun _ _ _ h => h) (Or.inl ⟨by rfl, ?hy12⟩) (by assumption) ?rest12
  case hy12 => intro u hSu; (try dsimp only at hSu); go_simp; try (with_reducible rfl)
  simp only [Act.put, List.setIfInBounds_toArray, List.set_cons_zero, List.set_cons_succ]
  refine heldL_take (n := 7) (i := 13) (oi := _) (v := ?v13) (dst := some 130) rfl rfl rfl (by kernel_rfl) (by kernel_rfl) (by kernel_rfl) (by kernel_rfl) (by kernel_rfl) (fun _ _ _ h => h) (Or.inl ⟨by rfl, ?hy13⟩) (by assumption) ?rest13
  case hy13 => intro u hSu; (try dsimp only at hSu); go_simp; try (with_reducible rfl)
  simp only [Act.put, List.setIfInBounds_toArray, List.set_cons_zero, List.set_cons_succ]
  refine heldL_take (n := 6) (i := 14) (oi := _) (v := ?v14) (dst := some 131) rfl rfl rfl (by kernel_rfl) (by kernel_rfl) (by kernel_rfl) (by kernel_rfl) (by kernel_rfl) (fun _ _ _ h => h) (Or.inl ⟨by rfl, ?hy14⟩) (by assumption) ?rest14
  case hy14 => intro u hSu; (try dsimp only at hSu); go_simp; try (with_reducible rfl)
  simp only [Act.put, List.setIfInBounds_toArray, List.set_cons_zero, List.set_cons_succ]
  refine heldL_take (n := 5) (i := 15) (oi := _) (v := ?v15) (dst := some 132) rfl rfl rfl (by kernel_rfl) (by kernel_rfl) (by kernel_rfl) (by kernel_rfl) (by kernel_rfl) (fun _ _ _ h => h) (Or.inl ⟨by rfl, ?hy15⟩) (by assumption) ?rest15
  case hy15 => intro u hSu; (try dsimp only at hSu); go_simp; try (with_reducible rfl)
  simp only [Act.put, List.setIfInBounds_toArray, List.set_cons_zero, List.set_cons_succ]
  refine heldL_step (n := 4) (i := 16) (o := _) rfl (by kernel_rfl) rfl (fun K hK => ?_)
  have HKK2 := Lib.hid hK
  clear hK
  go_simp
  refine HKK2.out _ _ HY.out (fun hHeld => ?_)
  clear HKK2 K
  refine heldL_step (n := 3) (i := 17) (o := _) rfl (by kernel_rfl) rfl (fun K hK => ?_)
  have HKK2 := Lib.hid hK
  clear hK
  refine step_append_lies _ rfl (.tmp 121) (.tmp 133) 78 rfl B 137 i0 (.agg #[.int .i64 0, .int .i64 0, .int .i64 0, .int .i64 0, .int .u64 0, .int .u64 0]) 6 48 Tryd.underlying78 hi hz0 hz1 hz2 rfl (by decide) X.av m1.acts.length (cellsA m1.acts) (by simp [Act.eval]) HCA.out.acts ⟨W.heap.size, 0, none⟩ 1 1 [.int .i64 st, .int .i64 k, .int .i64 op, .int .i64 q, .int .u64 old, .int .u64 now] (by simp [Act.eval]) rfl (World.news_of_block (cs := #[.int .i64 st, .int .i64 k, .int .i64 op, .int .i64 q, .int .u64 old, .int .u64 now]) HNB.out) actOne (by decide) (by have := HSM.out; unfold maxLen; omega) (by have := HSM.out; omega) HBB.out _ rfl ?_
  intro g cg w1 hown hgrow hat hlt
  obtain ⟨v1, v2, v3⟩ := act_kept HCA.out hgrow
  rw [HST.out] at v2
  have v4 : w1.cell? ⟨xb, 0, none⟩ = some (.int .i64 op) := (hgrow.cell_far ⟨xb, 0, none⟩ HXL.out HXN.out).trans HY.out.2.2
  refine HKK2.out _ _ ⟨v1, v2, v4⟩ (fun hHeld => ?_)
  clear HKK2 K
  simp only [Act.put, List.setIfInBounds_toArray, List.set_cons_zero, List.set_cons_succ]
  refine heldL_step (n := 2) (i := 18) (o := _) rfl (by kernel_rfl) rfl (fun K hK => ?_)
  have HKK2 := Lib.hid hK
  clear hK
  go_simp
  refine HKK2.out _ _ ⟨v1, v2, v4⟩ (fun hHeld => ?_)
  clear HKK2 K
  refine heldL_step (n := 1) (i := 19) (o := _) rfl (by kernel_rfl) rfl (fun K hK => ?_)
  have HKK2 := Lib.hid hK
  clear hK
  go_simp
  refine HKK2.out _ _ ⟨v1, v2, v4⟩ (fun hHeld => ?_)
  clear HKK2 K
  refine heldL_last (n := 0) (o := _) rfl (by kernel_rfl) (by kernel_rfl) (by decide) rfl (fun K hK => ?_)
  have HKK2 := Lib.hid hK
  clear hK
  go_simp
  refine HKK2.out _ _ ?_
  have HF := Lib.hid (touched_of (x := (st, (k : Int), op, (q : Int), old, now)) HCA.out (HKK.out.trans (Keeps.of_grown HG3.out (by intro k hk; cases hk))) rfl hown hgrow hat)
  clear HCA HG3 HKK hown hgrow
  rw [HQ.out]
  go_end0
  rw [HP.out]
  exact HF.out
end Go.Proofs.YtkmidefgmefohaaDoor
