/-
  slices.Equal at acts and at events that are the same. gone: the fact that the laws ask first. What is asked of a machine at a place.
-/
import Derived.Test.YtkmidefgmefohaaDoorMBehind
import Derived.Test.YtkmidefgmefohaaDoorKNums
import Derived.Test.YtkmidefgmefohaaDoorEqU
namespace Go.Proofs.YtkmidefgmefohaaDoor
set_option maxRecDepth 100000
open Go.RowKit Go.Shelf Go.Sort
set_option linter.unusedVariables false
set_option linter.unusedSimpArgs false

def ActRow (w : World) (A : Option Addr) (n : Nat) (l : List Act6) : Prop := ∀ i, i < n → ∃ b off, A = some ⟨b, off, none⟩ ∧
  w.cell? ⟨b, off + i * 6, none⟩ = some (.int .i64 (l.getD i default).1) ∧ w.cell? ⟨b, off + i * 6 + 1, none⟩ = some (.int .i64 (l.getD i default).2.1) ∧ w.cell? ⟨b, off + i * 6 + 2, none⟩ = some (.int .i64 (l.getD i default).2.2.1) ∧ w.cell? ⟨b, off + i * 6 + 3, none⟩ = some (.int .i64 (l.getD i default).2.2.2.1) ∧ w.cell? ⟨b, off + i * 6 + 4, none⟩ = some (.int .u64 (l.getD i default).2.2.2.2.1) ∧ w.cell? ⟨b, off + i * 6 + 5, none⟩ = some (.int .u64 (l.getD i default).2.2.2.2.2)
def EvRow (w : World) (A : Option Addr) (n : Nat) (l : List Ev4) : Prop := ∀ i, i < n → ∃ b off, A = some ⟨b, off, none⟩ ∧
  w.cell? ⟨b, off + i * 4, none⟩ = some (.int .i64 (l.getD i default).1) ∧ w.cell? ⟨b, off + i * 4 + 1, none⟩ = some (.int .i64 (l.getD i default).2.1) ∧ w.cell? ⟨b, off + i * 4 + 2, none⟩ = some (.int .i64 (l.getD i default).2.2.1) ∧ w.cell? ⟨b, off + i * 4 + 3, none⟩ = some (.int .i64 (l.getD i default).2.2.2)

set_option maxHeartbeats 1000000 in
theorem equalE_same (A C : Option Addr) (n c d : Nat) (l : List Ev4) (w : World) (hn : n ≤ 9223372036854775807) (ha : EvRow w A n l) (hc : EvRow w C n l) :
    Calls Tryd.prog 30 #[.slice A n c, .slice C n d] w fun e w' => e = .returned (.bool true) ∧ ∃ q, w' = w.drewN q := by
  have hne : ((n : Int) != (n : Int)) = false := by simp
  have HA := Lib.hid ha
  have HC := Lib.hid hc
  clear ha hc
  go_enter Tryd.func30, Tryd.ntmps30
  go_wp2
  go_loopw [5, 13] (fun i j wr => ∃ k : Nat, k ≤ n ∧ j = .int .i64 k ∧ ∃ q, wr = w.drewN q) (fun _ j _ => n - (intOf j).toNat)
  case atStart => exact ⟨0, Nat.zero_le _, rfl, 0, rfl⟩
  case round =>
    obtain ⟨k, hk, rfl, q, rfl⟩ := hrel
    by_cases hlt : k < n
    · obtain ⟨b, off, rfl, x1, x2, x3, x4⟩ := HA.out k hlt
      obtain ⟨b', off', rfl, y1, y2, y3, y4⟩ := HC.out k hlt
      have hkn : (k : Int) < (n : Int) := by omega
      clear HA HC
      generalize (l.getD k default).1 = z1 at *
      generalize (l.getD k default).2.1 = z2 at *
      generalize (l.getD k default).2.2.1 = z3 at *
      generalize (l.getD k default).2.2.2 = z4 at *
      have h1 : (z1 == z1) = true := by simp
      have h2 : (z2 == z2) = true := by simp
      have h3 : (z3 == z3) = true := by simp
      have h4 : (z4 == z4) = true := by simp
      go_wp2
      go_quiet (fail)
      go_wp2
      go_roundw
      case rel => exact ⟨k + 1, by omega, by go_num, q + nq, by simp⟩
      case measure => simp [intOf]; omega
    · have hkn : ¬ (k : Int) < (n : Int) := by omega
      go_wp2
      go_ret
      exact ⟨rfl, q, rfl⟩

theorem cellsE_len (l : List Ev4) : (cellsE l).length = l.length * 4 := by
  induction l with
  | nil => rfl
  | cons x l ih => rw [show x :: l = [x] ++ l from rfl, cellsE_append, List.length_append, ih, cellsE_one]; simp [evC]; omega
theorem cellsA_len (l : List Act6) : (cellsA l).length = l.length * 6 := by
  induction l with
  | nil => rfl
  | cons x l ih => rw [show x :: l = [x] ++ l from rfl, cellsA_append, List.length_append, ih, cellsA_one]; simp [actC]; omega
theorem cellsE_at (l : List Ev4) (i j : Nat) (hi : i < l.length) (hj : j < 4) : (cellsE l)[i * 4 + j]? = (evC (l.getD i default))[j]? := by
  induction l generalizing i with
  | nil => cases hi
  | cons x l ih =>
    rw [show x :: l = [x] ++ l from rfl, cellsE_append, cellsE_one]
    have hl : (evC x).length = 4 := rfl
    cases i with
    | zero => rw [List.getElem?_append_left (by omega)]; simp
    | succ i =>
      rw [List.getElem?_append_right (by omega), hl, show (i + 1) * 4 + j - 4 = i * 4 + j by omega, ih i (by simpa using hi)]
      simp
theorem cellsA_at (l : List Act6) (i j : Nat) (hi : i < l.length) (hj : j < 6) : (cellsA l)[i * 6 + j]? = (actC (l.getD i default))[j]? := by
  induction l generalizing i with
  | nil => cases hi
  | cons x l ih =>
    rw [show x :: l = [x] ++ l from rfl, cellsA_append, cellsA_one]
    have hl : (actC x).length = 6 := rfl
    cases i with
    | zero => rw [List.getElem?_append_left (by omega)]; simp
    | succ i =>
      rw [List.getElem?_append_right (by omega), hl, show (i + 1) * 6 + j - 6 = i * 6 + j by omega, ih i (by simpa using hi)]
      simp

theorem evRow_own {w : World} {B : Nat} {A : Option Addr} {n c : Nat} {l : List Ev4} (h : w.ownsRow B 44 4 (.slice A n c) n (cellsE l)) (hl : l.length = n) : EvRow w A n l := by
  intro i hi
  obtain ⟨g, cap, hv, hb, hlt⟩ := h.form (by omega)
  obtain ⟨rfl, rfl⟩ : A = some ⟨g, 0, none⟩ ∧ c = cap := by injection hv with h1 _ h3; exact ⟨h1, h3⟩
  have hat := fun j (hj : j < 4) => (h.cellAt (i * 4 + j) (by omega)).trans (cellsE_at l i j (by omega) hj)
  refine ⟨g, 0, rfl, ?_, ?_, ?_, ?_⟩
  all_goals simp only [Nat.zero_add]
  · exact hat 0 (by decide)
  · exact hat 1 (by decide)
  · exact hat 2 (by decide)
  · exact hat 3 (by decide)
theorem actRow_own {w : World} {B : Nat} {A : Option Addr} {n c : Nat} {l : List Act6} (h : w.ownsRow B 137 6 (.slice A n c) n (cellsA l)) (hl : l.length = n) : ActRow w A n l := by
  intro i hi
  obtain ⟨g, cap, hv, hb, hlt⟩ := h.form (by omega)
  obtain ⟨rfl, rfl⟩ : A = some ⟨g, 0, none⟩ ∧ c = cap := by injection hv with h1 _ h3; exact ⟨h1, h3⟩
  have hat := fun j (hj : j < 6) => (h.cellAt (i * 6 + j) (by omega)).trans (cellsA_at l i j (by omega) hj)
  refine ⟨g, 0, rfl, ?_, ?_, ?_, ?_, ?_, ?_⟩
  all_goals simp only [Nat.zero_add]
  · exact hat 0 (by decide)
  · exact hat 1 (by decide)
  · exact hat 2 (by decide)
  · exact hat 3 (by decide)
  · exact hat 4 (by decide)
  · exact hat 5 (by decide)
end Go.Proofs.YtkmidefgmefohaaDoor

namespace Go.Proofs.YtkmidefgmefohaaDoor
set_option maxRecDepth 100000
open Go.RowKit Go.Shelf Go.Sort
set_option linter.unusedVariables false
set_option linter.unusedSimpArgs false

theorem gone_fit : Fit goneP 1 := by
  refine ⟨by decide, by decide, fun i hi => ?_⟩
  have h2 : i < 2 := hi
  match i, h2 with
  | 0, _ => exact ⟨by decide, by decide, by decide, by decide, fun j hj => (by
      have h3 : j < 3 := hj
      match j, h3 with
      | 0, _ | 1, _ | 2, _ => exact ⟨by decide, by decide, by decide⟩), .inl rfl⟩
  | 1, _ => exact ⟨by decide, by decide, by decide, by decide, fun j hj => (by
      have h3 : j < 2 := hj
      match j, h3 with
      | 0, _ | 1, _ => exact ⟨by decide, by decide, by decide⟩), .inl rfl⟩
/-- Four blocks, one behind the other. -/
theorem four_made (w : World) (o1 o2 o3 o4 : Obj) :
    ((((w.alloc o1).alloc o2).alloc o3).alloc o4).heap.size = w.heap.size + 1 + 1 + 1 + 1 ∧
    ((((w.alloc o1).alloc o2).alloc o3).alloc o4).heap[w.heap.size]? = some o1 ∧ ((((w.alloc o1).alloc o2).alloc o3).alloc o4).heap[w.heap.size + 1]? = some o2 ∧
    ((((w.alloc o1).alloc o2).alloc o3).alloc o4).heap[w.heap.size + 1 + 1]? = some o3 ∧ ((((w.alloc o1).alloc o2).alloc o3).alloc o4).heap[w.heap.size + 1 + 1 + 1]? = some o4 ∧
    Below w.heap.size w ((((w.alloc o1).alloc o2).alloc o3).alloc o4) := by
  have hs : ∀ (w : World) (o : Obj), (w.alloc o).heap.size = w.heap.size + 1 := fun w o => by simp
  have hn : ∀ (w : World) (o : Obj), (w.alloc o).heap[w.heap.size]? = some o := fun w o => by
    show (w.heap.push o)[w.heap.size]? = _
    simp
  refine ⟨by rw [hs, hs, hs, hs], ?_, ?_, ?_, ?_, ((((Below.refl _ _).alloc (Nat.le_refl _) _).alloc (by rw [hs]; omega) _).alloc (by rw [hs, hs]; omega) _).alloc (by rw [hs, hs, hs]; omega) _⟩
  · rw [Below.heap_alloc _ _ _ (by rw [hs, hs, hs]; omega), Below.heap_alloc _ _ _ (by rw [hs, hs]; omega), Below.heap_alloc _ _ _ (by rw [hs]; omega)]
    exact hn w o1
  · rw [Below.heap_alloc _ _ _ (by rw [hs, hs, hs]; omega), Below.heap_alloc _ _ _ (by rw [hs, hs]; omega)]
    have := hn (w.alloc o1) o2
    rwa [hs] at this
  · rw [Below.heap_alloc _ _ _ (by rw [hs, hs, hs]; omega)]
    have := hn ((w.alloc o1).alloc o2) o3
    rwa [hs, hs] at this
  · have := hn (((w.alloc o1).alloc o2).alloc o3) o4
    rwa [hs, hs, hs] at this

theorem cell_in {w : World} {b : Nat} {cur : Array Value} {t : TypeId} (h : w.heap[b]? = some (.cells cur t)) (j : Nat) : w.cell? ⟨b, j, none⟩ = cur[j]? := by
  simp [World.cell?, h]

theorem Core.lower {w : World} {B B' : Nat} {S : Nat → Prop} {X : KB} {m : Mach} (h : Core w B S X m) (hb : B' ≤ B) : Core w B' S X m := by
  obtain ⟨xs, h1, h2⟩ := h.thr
  exact ⟨h.at_, ⟨h.mem.at_, own_low h.mem.own hb, Nat.le_trans hb h.mem.lo⟩, ⟨h.lot.at_, own_low h.lot.own hb, Nat.le_trans hb h.lot.lo⟩, ⟨xs, own_low h1 hb, h2⟩, fun k hk => own_low (h.prog k hk) hb, own_low h.acts hb, own_low h.events hb, h.sc, h.sm, h.sl, h.sv, h.sp, fun k hs => ⟨Nat.le_trans hb (h.slo k hs).1, (h.slo k hs).2⟩⟩

theorem gone_new {w W : World} (hw : CW w) {b1 b2 b3 b4 : Nat} (hl : b1 < W.heap.size ∧ b2 < W.heap.size ∧ b3 < W.heap.size ∧ b4 < W.heap.size)
    (h1 : W.heap[b1]? = some (.cells #[.int .i64 8, .int .i64 1, .int .i64 0, .int .i64 3, .int .i64 0, .int .i64 16, .int .i64 3, .int .i64 1, .int .i64 0, .int .i64 0, .int .i64 0, .int .i64 0, .int .i64 0, .int .i64 0, .int .i64 0] 48))
    (h2 : W.heap[b2]? = some (.cells #[.int .i64 14, .int .i64 0, .int .i64 0, .int .i64 0, .int .i64 0, .int .i64 0, .int .i64 0, .int .i64 0, .int .i64 0, .int .i64 0] 48))
    (h3 : W.heap[b3]? = some (.cells #[.slice (some ⟨b1, 0, none⟩) 3 3, .slice (some ⟨b2, 0, none⟩) 2 2] 35)) (h4 : W.heap[b4]? = some (.cells #[.int .u64 0] 50)) (hb : Below w.heap.size w W) :
    Calls Tryd.prog 14 #[.slice (some ⟨b3, 0, none⟩) 2 2, .slice (some ⟨b4, 0, none⟩) 1 1] W fun e w' => ∃ c, e = .returned (.tuple #[.pointer (some ⟨c, 0, none⟩), .nilIface]) ∧ At w c gone0 w' := by
  have hP : Progs W W.heap.size (some ⟨b3, 0, none⟩) 2 goneP := by
    refine ⟨rfl, fun _ => ⟨_, _, rfl, hl.2.2.1, fun i hi => ?_⟩⟩
    match i, hi with
    | 0, _ =>
      refine ⟨some ⟨b1, 0, none⟩, 3, (cell_in h3 0).trans rfl, ⟨rfl, fun _ => ⟨_, _, rfl, hl.1, fun j hj => ?_⟩⟩⟩
      have h3 : j < 3 := hj
      match j, h3 with
      | 0, _ => exact ⟨(cell_in h1 0).trans rfl, (cell_in h1 1).trans rfl, (cell_in h1 2).trans rfl, (cell_in h1 3).trans rfl, (cell_in h1 4).trans rfl⟩
      | 1, _ => exact ⟨(cell_in h1 5).trans rfl, (cell_in h1 6).trans rfl, (cell_in h1 7).trans rfl, (cell_in h1 8).trans rfl, (cell_in h1 9).trans rfl⟩
      | 2, _ => exact ⟨(cell_in h1 10).trans rfl, (cell_in h1 11).trans rfl, (cell_in h1 12).trans rfl, (cell_in h1 13).trans rfl, (cell_in h1 14).trans rfl⟩
    | 1, _ =>
      refine ⟨some ⟨b2, 0, none⟩, 2, (cell_in h3 1).trans rfl, ⟨rfl, fun _ => ⟨_, _, rfl, hl.2.1, fun j hj => ?_⟩⟩⟩
      have h3 : j < 2 := hj
      match j, h3 with
      | 0, _ => exact ⟨(cell_in h2 0).trans rfl, (cell_in h2 1).trans rfl, (cell_in h2 2).trans rfl, (cell_in h2 3).trans rfl, (cell_in h2 4).trans rfl⟩
      | 1, _ => exact ⟨(cell_in h2 5).trans rfl, (cell_in h2 6).trans rfl, (cell_in h2 7).trans rfl, (cell_in h2 8).trans rfl, (cell_in h2 9).trans rfl⟩
  have hI : Ints .u64 W W.heap.size (some ⟨b4, 0, none⟩) 1 [0] := by
    refine ⟨rfl, fun _ => ⟨_, _, rfl, hl.2.2.2, fun i hi => ?_⟩⟩
    match i, hi with
    | 0, _ => exact (cell_in h4 0).trans rfl
  refine (knew_ok (hw.old hb) _ _ 2 2 1 1 goneP [0] hP hI (by decide) (by decide) gone_fit.2.2).mono ?_
  rintro e w' ⟨S, X, he, hC, hB⟩
  have hsz := hb.size
  refine ⟨X.c, he, S, X, rfl, ?_, hb.trans (hB.mono hb.size)⟩
  exact hC.lower hsz
end Go.Proofs.YtkmidefgmefohaaDoor

namespace Go.Proofs.YtkmidefgmefohaaDoor
set_option maxRecDepth 100000
open Go.RowKit Go.Shelf Go.Sort
set_option linter.unusedVariables false
set_option linter.unusedSimpArgs false

section
variable {w wr : World} {c : Nat} {cells0 : List Int} {m : Mach}

theorem At.size (h : At w c m wr) : w.heap.size ≤ wr.heap.size := by
  obtain ⟨S, X, _, _, hB⟩ := h
  exact hB.size
theorem At.bel (h : At w c m wr) : Below w.heap.size w wr := by
  obtain ⟨S, X, _, _, hB⟩ := h
  exact hB

theorem at_step (h : At w c m wr) (hb : MBig cells0 m) (t : Int) :
    Calls Tryd.prog 16 #[.pointer (some ⟨c, 0, none⟩), .int .i64 t] wr fun e w' => e = .returned (errV (stepM 20000 m t).1) ∧ At w c (stepM 20000 m t).2 w' := by
  obtain ⟨S, X, rfl, hC, hB⟩ := h
  exact (kstep_any hC hB.size hb t).mono fun e w' ⟨he, hm⟩ => ⟨he, At.moved rfl hC hB hm⟩
/-- Picks in a row that lay there before the machine. -/
theorem at_run (h : At w c m wr) (hb : MBig cells0 m) (A : Option Addr) (n cap : Nat) (l : List Int) (hI : Ints .i64 w w.heap.size A n l) (hl : n ≤ 100000) :
    Calls Tryd.prog 27 #[.pointer (some ⟨c, 0, none⟩), .slice A n cap] wr fun e w' => e = .returned (.int .i64 ((runM 20000 l m).1 : Int)) ∧ At w c (runM 20000 l m).2 w' := by
  obtain ⟨S, X, rfl, hC, hB⟩ := h
  have e := hI.len
  subst e
  refine (krun_any hC hB.size hb A cap l (fun i hi => ?_) hl).mono fun e w' ⟨he, hm⟩ => ⟨he, At.moved rfl hC hB hm⟩
  obtain ⟨b, off, e, hlt, hx⟩ := hI.row (by omega)
  exact ⟨b, off, e, Nat.lt_of_lt_of_le hlt hB.size, fun hs => by have := (hC.slo b hs).1; omega, (World.cell?_of_block (a := ⟨b, off + i, none⟩) (hB.block b hlt)).trans (hx i hi)⟩
/-- Picks in a row that was laid behind the machine. -/
theorem at_run_new (h : At w c m wr) (hb : MBig cells0 m) (cap : Nat) (l : List Int) (cur : Array Value) (hcur : ∀ i, i < l.length → cur[i]? = some (.int .i64 (l.getD i 0))) (hl : l.length ≤ 100000) :
    Calls Tryd.prog 27 #[.pointer (some ⟨c, 0, none⟩), .slice (some ⟨wr.heap.size, 0, none⟩) l.length cap] (wr.alloc (.cells cur 3)) fun e w' => e = .returned (.int .i64 ((runM 20000 l m).1 : Int)) ∧ At w c (runM 20000 l m).2 w' := by
  obtain ⟨S, X, rfl, hC, hB⟩ := h
  have hg := grown_a (World.grownBy.refl wr none) (.cells cur 3)
  have hat := heap_alloc_new wr (.cells cur 3)
  have hC2 := hC.grow hg
  have hB2 := hB.alloc hB.size (.cells cur 3)
  have hs1 : (wr.alloc (.cells cur 3)).heap.size = wr.heap.size + 1 := by simp
  refine (krun_any hC2 hB2.size hb _ cap l (fun i hi => ?_) hl).mono fun e w' ⟨he, hm⟩ => ⟨he, At.moved rfl hC2 hB2 hm⟩
  exact ⟨_, _, rfl, by omega, fun hs => by have := (hC.slo _ hs).2; omega, by rw [Nat.zero_add]; exact (cell_in hat i).trans (hcur i hi)⟩

theorem at_at (h : At w c m wr) (t : Int) :
    Calls Tryd.prog 28 #[.pointer (some ⟨c, 0, none⟩), .int .i64 t] wr fun e w' => e = .returned (.tuple #[.int .i64 (atM m t).1, .int .i64 (atM m t).2.1, errV (atM m t).2.2]) ∧ wr.grownBy w' none := by
  obtain ⟨S, X, rfl, hC, hB⟩ := h
  exact kat_any hC t
theorem at_can (h : At w c m wr) (t : Int) :
    Calls Tryd.prog 39 #[.pointer (some ⟨c, 0, none⟩), .int .i64 t] wr fun e w' => e = .returned (.bool (readyE m t == 0)) ∧ wr.grownBy w' none := by
  obtain ⟨S, X, rfl, hC, hB⟩ := h
  exact can_any hC t
theorem at_steps (h : At w c m wr) :
    Calls Tryd.prog 31 #[.pointer (some ⟨c, 0, none⟩)] wr fun e w' => e = .returned (.int .i64 (m.steps : Int)) ∧ wr = w' := by
  obtain ⟨S, X, rfl, hC, hB⟩ := h
  exact steps_any hC
theorem at_ends (h : At w c m wr) (hn : m.progs.length ≤ 16) :
    Calls Tryd.prog 17 #[.pointer (some ⟨c, 0, none⟩)] wr fun e w' => e = .returned (.tuple #[.bool (endsM m).1, .bool (endsM m).2]) ∧ wr.grownBy w' none := by
  obtain ⟨S, X, rfl, hC, hB⟩ := h
  exact ends_any hC hn
theorem at_events (h : At w c m wr) (hn : m.events.length ≤ 20000) :
    Calls Tryd.prog 18 #[.pointer (some ⟨c, 0, none⟩)] wr fun e w' => ∃ A cap, e = .returned (.slice A m.events.length cap) ∧ w'.ownsRow wr.heap.size 44 4 (.slice A m.events.length cap) m.events.length (cellsE m.events) ∧ wr.grownBy w' none := by
  obtain ⟨S, X, rfl, hC, hB⟩ := h
  refine (events_any hC hn).mono ?_
  rintro e w' ⟨v, he, ho, hg⟩
  obtain ⟨A, cap, rfl⟩ := slice_of_own ho
  exact ⟨A, cap, he, ho, hg⟩
theorem at_cells (h : At w c m wr) (hn : m.cells.length ≤ 300) :
    Calls Tryd.prog 21 #[.pointer (some ⟨c, 0, none⟩)] wr fun e w' => ∃ A cap, e = .returned (.slice A m.cells.length cap) ∧ w'.ownsRow wr.heap.size 50 1 (.slice A m.cells.length cap) m.cells.length (m.cells.map (Value.int .u64)) ∧ wr.grownBy w' none := by
  obtain ⟨S, X, rfl, hC, hB⟩ := h
  refine (kcells_any hC hn).mono ?_
  rintro e w' ⟨v, he, ho, hg⟩
  obtain ⟨A, cap, rfl⟩ := slice_of_own ho
  exact ⟨A, cap, he, ho, hg⟩
end

theorem Moves.old {w w' : World} {n : Nat} {A : Option Addr} {l : List (Int × Bool)} (h : Moves w w.heap.size A n l) (hb : Below w.heap.size w w') : Moves w' w'.heap.size A n l :=
  ⟨h.len, fun h0 => by
    obtain ⟨b, off, e, hlt, hx⟩ := (h.below hb).row h0
    exact ⟨b, off, e, Nat.lt_of_lt_of_le hlt hb.size, hx⟩⟩
theorem Progs.old {w w' : World} {n : Nat} {A : Option Addr} {ps : List (List In5)} (h : Progs w w.heap.size A n ps) (hb : Below w.heap.size w w') : Progs w' w'.heap.size A n ps :=
  h.keep hb.size (fun p hp => World.cell?_of_block (a := p) (hb.block _ hp))
theorem Ints.old {k : IntKind} {w w' : World} {n : Nat} {A : Option Addr} {l : List Int} (h : Ints k w w.heap.size A n l) (hb : Below w.heap.size w w') : Ints k w' w'.heap.size A n l :=
  h.keep hb.size (fun p hp => World.cell?_of_block (a := p) (hb.block _ hp))
theorem At.old {w w1 wr : World} {c : Nat} {m : Mach} (h : At w1 c m wr) (hb : Below w.heap.size w w1) : At w c m wr := by
  obtain ⟨S, X, e, hC, hB⟩ := h
  exact ⟨S, X, e, hC.lower hb.size, hb.trans (hB.mono hb.size)⟩
end Go.Proofs.YtkmidefgmefohaaDoor
