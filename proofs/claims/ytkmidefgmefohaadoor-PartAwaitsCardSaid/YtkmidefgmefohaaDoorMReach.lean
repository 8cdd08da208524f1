/-
  wait: a thread falls asleep, if the cell has what the register has; waking by the machine. reach: what is done at a cell that may hang on a register.
-/
import Derived.Test.YtkmidefgmefohaaDoorMLot
namespace Go.Proofs.YtkmidefgmefohaaDoor
set_option maxRecDepth 100000
open Go.RowKit Go.Shelf Go.Sort
set_option linter.unusedVariables false

theorem take_min_len {α : Type} (n : Nat) (l : List α) : l.take (min n l.length) = l.take n := by
  rcases Nat.le_total n l.length with h | h
  · rw [Nat.min_eq_left h]
  · rw [Nat.min_eq_right h, List.take_of_length_le (Nat.le_refl _), List.take_of_length_le h]

theorem mwake {w : World} {B : Nat} {S : Nat → Prop} {X : KB} {m : Mach} (h : Core w B S X m) (hs : m.lot.length ≤ 16) (hp : m.lot.Pairwise fun a b => a.1 ≠ b.1) (c n : Int) :
    Calls Tryd.prog 68 #[.pointer (some ⟨X.lb, 0, none⟩), .int .i64 c, .int .i64 n] w fun e w' => (∃ A l c, e = .returned (.slice A l c)) ∧ Moved w B S X { m with lot := wakeL m.lot c n.toNat } w' := by
  refine (wake_any h.lot (by omega) c n).mono ?_
  rintro e w' ⟨v', A, cc, rfl, -, hL, hk2, hv, -⟩
  have he : rest m.lot ((threadsAt m.lot c).take (wakeN n (threadsAt m.lot c))) = wakeL m.lot c n.toNat := by
    unfold wakeN
    rw [take_min_len, ← wakeL_filter c m.lot n.toNat hp]
    rfl
  rw [he] at hL
  obtain ⟨h1, h2, h3⟩ := h.setLot hL hk2 (fun g hg => .inl (h.sv X.lv (by simp) g (by rw [← hv]; exact hg)))
  exact ⟨⟨_, _, _, rfl⟩, _, { X with lv := v' }, rfl, rfl, h1, h3, h2⟩

set_option maxHeartbeats 2000000 in
theorem wait_yes {w : World} {B : Nat} {S : Nat → Prop} {X : KB} {m : Mach} (h : Core w B S X m) (hB : B ≤ w.heap.size) (hs : m.lot.length ≤ 16) {k : Nat} (hk : k < m.progs.length) (a : Nat) (ha : a < m.cells.length) (ha3 : a < 300) (b : Nat) (hb : b < 8) (c d : Int) (hsl : asleepM m k = false) (he0 : m.cells.getD a 0 = (m.regs.getD k []).getD b 0) :
    Calls Tryd.prog 53 #[.pointer (some ⟨X.c, 0, none⟩), .int .i64 k, insV (14, (a : Int), (b : Int), c, d)] w fun e w' => e = .returned (.tuple #[]) ∧ Moved w B S X { m with lot := m.lot ++ [((k : Int), (a : Int))] } w' := by
  obtain ⟨tb, cap, htv, -, htb⟩ := h.tform (by omega)
  obtain ⟨c0, c1, c2, -⟩ := h.cells
  obtain ⟨-, -, -, hR, -⟩ := h.thread hk htv
  have cb := hR b hb
  rw [htv] at c2
  have hkn : (k : Int) < (m.progs.length : Int) := by omega
  have hb0 : (0 : Int) ≤ (b : Int) := by omega
  have hb8 : (b : Int) < 8 := by omega
  have hcl : X.c < w.heap.size := lt_of_block h.at_
  have hcne : X.c ≠ w.heap.size := by omega
  have htne : tb ≠ w.heap.size := by omega
  have HL := Lib.hid (fun w' (hg : w.grownBy w' none) => load_in (h.grow hg).mem ha)
  have HS := Lib.hid (fun w' (hg : w.grownBy w' none) => (msleep (h.grow hg) (Nat.le_trans hB hg.size) hs k hk a (by omega) (by omega) hsl).mono (R' := fun e w'' => e = .returned .nilIface ∧ Moved w B S X { m with lot := m.lot ++ [((k : Int), (a : Int))] } w'') fun e w'' ⟨he, hM⟩ => ⟨he, hM.from (Keeps.of_grown hg (by intro k hk; cases hk))⟩)
  rw [he0] at HL
  obtain ⟨P, hP⟩ : ∃ P, P = fun w' => Moved w B S X { m with lot := m.lot ++ [((k : Int), (a : Int))] } w' := ⟨_, rfl⟩
  have HP := Lib.hid (fun w' (hm : Moved w B S X { m with lot := m.lot ++ [((k : Int), (a : Int))] } w') w'' (hg : w'.grownBy w'' none) => hm.grow hg)
  generalize (m.regs.getD k []).getD b 0 = v at *
  have hvv : (v == v) = true := by simp
  generalize m.progs.length = n at *
  obtain ⟨M, hM⟩ : ∃ M : World → Prop, M = Moved w B S X { m with lot := m.lot ++ [((k : Int), (a : Int))] } := ⟨_, rfl⟩
  rw [← hM] at HS HP ⊢
  clear hM hP P h hR ha ha3 he0 hsl hs hB htv hk
  unfold insV
  go_enter Tryd.func53, Tryd.ntmps53
  go_wp2_with fail
  have HXB := Lib.hid (show (w.alloc (.cells #[.int .i64 14, .int .i64 a, .int .i64 b, .int .i64 c, .int .i64 d] 48)).drew.heap[w.heap.size]? = some (.cells #[.int .i64 14, .int .i64 a, .int .i64 b, .int .i64 c, .int .i64 d] 48 (0, 0)) from heap_alloc_new w _)
  have y0 : (w.alloc (.cells #[.int .i64 14, .int .i64 a, .int .i64 b, .int .i64 c, .int .i64 d] 48)).drew.cell? ⟨X.c, 0, none⟩ = some (.pointer (some ⟨X.mb, 0, none⟩)) := (World.cell?_alloc_lt w _ ⟨X.c, 0, none⟩ hcl).trans c0
  obtain ⟨-, y1, -⟩ := ins_cell (x := (14, (a : Int), (b : Int), c, d)) HXB.out
  go_region_held3 (fun u => u.cell? ⟨X.c, 0, none⟩ = some (.pointer (some ⟨X.mb, 0, none⟩)) ∧ u.cell? ⟨w.heap.size, 1, none⟩ = some (.int .i64 a)) (first | exact ⟨y0, y1⟩) (first
    | (go_at_call 62; refine (HL.out _ (grown_d (World.grownBy_alloc _ _ none))).mono ?_; rintro e w3 ⟨rfl, rfl⟩))
  clear y0 y1 HXB
  go_wp2
  go_region
  go_wp2_with fail
  have y2 : (w.alloc (.cells #[.int .i64 14, .int .i64 a, .int .i64 b, .int .i64 c, .int .i64 d] 48)).cell? ⟨X.c, 1, none⟩ = some (.pointer (some ⟨X.lb, 0, none⟩)) := (World.cell?_alloc_lt w _ ⟨X.c, 1, none⟩ hcl).trans c1
  go_region_with (first
    | (go_at_call 66; refine (HS.out _ (grown_d (grown_d (grown_d (World.grownBy_alloc _ _ none))))).mono ?_; rintro e w3 ⟨rfl, hM⟩))
  all_goals
    have HM := Lib.hid hM
    clear hM HS HL HP
    go_wp2
    go_end0
    exact ⟨rfl, HM.out⟩

set_option maxHeartbeats 2000000 in
theorem wait_no {w : World} {B : Nat} {S : Nat → Prop} {X : KB} {m : Mach} (h : Core w B S X m) {k : Nat} (hk : k < m.progs.length) (a : Nat) (ha : a < m.cells.length) (b : Nat) (hb : b < 8) (c d : Int) (he0 : m.cells.getD a 0 ≠ (m.regs.getD k []).getD b 0) :
    Calls Tryd.prog 53 #[.pointer (some ⟨X.c, 0, none⟩), .int .i64 k, insV (14, (a : Int), (b : Int), c, d)] w fun e w' => e = .returned (.tuple #[]) ∧ w.grownBy w' none := by
  obtain ⟨tb, cap, htv, -, htb⟩ := h.tform (by omega)
  obtain ⟨c0, c1, c2, -⟩ := h.cells
  obtain ⟨-, -, -, hR, -⟩ := h.thread hk htv
  have cb := hR b hb
  rw [htv] at c2
  have hkn : (k : Int) < (m.progs.length : Int) := by omega
  have hb0 : (0 : Int) ≤ (b : Int) := by omega
  have hb8 : (b : Int) < 8 := by omega
  have hcl : X.c < w.heap.size := lt_of_block h.at_
  have hcne : X.c ≠ w.heap.size := by omega
  have htne : tb ≠ w.heap.size := by omega
  have HL := Lib.hid (fun w' (hg : w.grownBy w' none) => load_in (h.grow hg).mem ha)
  generalize m.cells.getD a 0 = old at *
  generalize (m.regs.getD k []).getD b 0 = v at *
  have hvv : (old == v) = false := beq_eq_false_iff_ne.2 he0
  generalize m.progs.length = n at *
  clear h hR ha he0 htv hk
  unfold insV
  go_enter Tryd.func53, Tryd.ntmps53
  go_wp2_with fail
  have HXB := Lib.hid (show (w.alloc (.cells #[.int .i64 14, .int .i64 a, .int .i64 b, .int .i64 c, .int .i64 d] 48)).drew.heap[w.heap.size]? = some (.cells #[.int .i64 14, .int .i64 a, .int .i64 b, .int .i64 c, .int .i64 d] 48 (0, 0)) from heap_alloc_new w _)
  have y0 : (w.alloc (.cells #[.int .i64 14, .int .i64 a, .int .i64 b, .int .i64 c, .int .i64 d] 48)).drew.cell? ⟨X.c, 0, none⟩ = some (.pointer (some ⟨X.mb, 0, none⟩)) := (World.cell?_alloc_lt w _ ⟨X.c, 0, none⟩ hcl).trans c0
  obtain ⟨-, y1, -⟩ := ins_cell (x := (14, (a : Int), (b : Int), c, d)) HXB.out
  go_region_held3 (fun u => u.cell? ⟨X.c, 0, none⟩ = some (.pointer (some ⟨X.mb, 0, none⟩)) ∧ u.cell? ⟨w.heap.size, 1, none⟩ = some (.int .i64 a)) (first | exact ⟨y0, y1⟩) (first
    | (go_at_call 62; refine (HL.out _ (grown_d (World.grownBy_alloc _ _ none))).mono ?_; rintro e w3 ⟨rfl, rfl⟩))
  clear y0 y1 HXB
  go_wp2
  go_region
  go_wp2
  go_end0
  refine ⟨rfl, ?_⟩
  repeat (first | exact World.grownBy.refl _ none | refine grown_d ?_ | refine grown_a ?_ _)
end Go.Proofs.YtkmidefgmefohaaDoor

namespace Go.Proofs.YtkmidefgmefohaaDoor
set_option maxRecDepth 100000
open Go.RowKit Go.Shelf Go.Sort
set_option linter.unusedVariables false

theorem Touched.moved {w : World} {B : Nat} {S : Nat → Prop} {X : KB} {m1 : Mach} {a : Act6} {e : Ending} {w' : World} (h : Touched w B S X m1 a e w') : e = .returned (.tuple #[]) ∧ Moved w B S X { m1 with acts := m1.acts ++ [a] } w' := h

set_option maxHeartbeats 2000000 in
theorem reach_lost {w : World} {B : Nat} {S : Nat → Prop} {X : KB} {m : Mach} (h : Core w B S X m) {k : Nat} (hk : k < m.progs.length) (hle : m.ended.length = m.progs.length) (hn3 : m.cells.length ≤ 300) (hr : ∀ v ∈ m.regs.getD k [], okU v) (op a b c d : Int) (ha0 : 0 ≤ a) (ha1 : a < m.cells.length) (hc0 : -1 ≤ c) (hc1 : c ≤ 7) (hp : ¬ placeOf a c (m.regs.getD k []) < m.cells.length) :
    Calls Tryd.prog 54 #[.pointer (some ⟨X.c, 0, none⟩), .int .i64 k, insV (op, a, b, c, d)] w fun e w' => e = .returned (.iface 26 (.int .i64 13)) ∧ Moved w B S X { m with ended := m.ended.set k true } w' := by
  obtain ⟨tb, cap, htv, -, htb⟩ := h.tform (by omega)
  obtain ⟨c0, c1, c2, -⟩ := h.cells
  rw [htv] at c2
  have hkn : (k : Int) < (m.progs.length : Int) := by omega
  have hcl : X.c < w.heap.size := lt_of_block h.at_
  have hcne : X.c ≠ w.heap.size := by omega
  have HCELL := Lib.hid (fun w' (hg : w.grownBy w' none) => kcell_any (h.grow hg) hk hn3 hr htv op a b c d ha0 ha1 hc0 hc1)
  have HE := Lib.hid (fun w' (hg : w.grownBy w' none) => And.intro ((h.grow hg).thread hk htv).2.2 (And.intro ((h.grow hg).setEnd hle hk htv) (Keeps.of_grown (S := S) hg (by intro k hk; cases hk))))
  have HNP := Lib.hid hp
  generalize m.progs.length = n at *
  generalize placeOf a c (m.regs.getD k []) = p at *
  generalize m.cells.length = nc at *
  obtain ⟨en, hen⟩ : ∃ b, m.ended.getD k false = b := ⟨_, rfl⟩
  rw [hen] at HE
  obtain ⟨M, hM⟩ : ∃ M : World → Prop, M = Moved w B S X { m with ended := m.ended.set k true } := ⟨_, rfl⟩
  have HM := Lib.hid hM
  rw [← hM]
  clear h hM hen hr hle hk hn3 ha0 ha1 hc0 hc1 hp htv
  unfold insV at HCELL ⊢
  go_enter Tryd.func54, Tryd.ntmps54
  go_wp2_with fail
  refine (HCELL.out _ (World.grownBy_alloc _ _ none)).mono ?_
  rintro e w3 ⟨hg3, ⟨hlt, rfl⟩ | ⟨hge, z, rfl⟩⟩
  · exact absurd hlt (by have := HNP.out; omega)
  · have HG := Lib.hid ((World.grownBy_alloc w _ none).andThen hg3 (fun j hj => by cases hj))
    obtain ⟨⟨e1, -, e3⟩, -⟩ := HE.out w3 HG.out
    have e4 := e3 (k * 11 + 2)
    clear hg3 HCELL hge e3
    go_wp2
    go_ret
    refine ⟨rfl, ?_⟩
    rw [HM.out]
    obtain ⟨-, ⟨h1, h2⟩, h3⟩ := HE.out w3 HG.out
    exact Moved.of h1 (h3.trans h2)

set_option maxHeartbeats 2000000 in
theorem reach_wake {w : World} {B : Nat} {S : Nat → Prop} {X : KB} {m : Mach} (h : Core w B S X m) {k : Nat} (hk : k < m.progs.length) (hs : m.lot.length ≤ 16) (hpw : m.lot.Pairwise fun a b => a.1 ≠ b.1) (hn3 : m.cells.length ≤ 300) (hr : ∀ v ∈ m.regs.getD k [], okU v) (a b c d : Int) (ha0 : 0 ≤ a) (ha1 : a < m.cells.length) (hc0 : -1 ≤ c) (hc1 : c ≤ 7) (hp : placeOf a c (m.regs.getD k []) < m.cells.length) :
    Calls Tryd.prog 54 #[.pointer (some ⟨X.c, 0, none⟩), .int .i64 k, insV (15, a, b, c, d)] w fun e w' => e = .returned .nilIface ∧ Moved w B S X { m with lot := wakeL m.lot (placeOf a c (m.regs.getD k [])) b.toNat } w' := by
  obtain ⟨tb, cap, htv, -, htb⟩ := h.tform (by omega)
  obtain ⟨c0, c1, c2, -⟩ := h.cells
  rw [htv] at c2
  have hkn : (k : Int) < (m.progs.length : Int) := by omega
  have hcl : X.c < w.heap.size := lt_of_block h.at_
  have hcne : X.c ≠ w.heap.size := by omega
  have HCELL := Lib.hid (fun w' (hg : w.grownBy w' none) => kcell_any (h.grow hg) hk hn3 hr htv 15 a b c d ha0 ha1 hc0 hc1)
  have HW := Lib.hid (fun w' (hg : w.grownBy w' none) => (mwake (h.grow hg) hs hpw (placeOf a c (m.regs.getD k [])) b).mono (R' := fun e w'' => (∃ A l c, e = .returned (.slice A l c)) ∧ Moved w B S X { m with lot := wakeL m.lot (placeOf a c (m.regs.getD k [])) b.toNat } w'') fun e w'' ⟨h1, h2⟩ => ⟨h1, h2.from (Keeps.of_grown hg (by intro k hk; cases hk))⟩)
  have HC1 := Lib.hid (fun w' (hg : w.grownBy w' none) => (h.grow hg).cells.2.1)
  have HP := Lib.hid hp
  generalize m.progs.length = n at *
  generalize placeOf a c (m.regs.getD k []) = p at *
  generalize m.cells.length = nc at *
  obtain ⟨M, hM⟩ : ∃ M : World → Prop, M = Moved w B S X { m with lot := wakeL m.lot p b.toNat } := ⟨_, rfl⟩
  rw [← hM] at HW ⊢
  clear h hM hr hk hn3 ha0 ha1 hc0 hc1 hp htv hs hpw c1
  unfold insV at HCELL ⊢
  go_enter Tryd.func54, Tryd.ntmps54
  go_wp2_with fail
  refine (HCELL.out _ (World.grownBy_alloc _ _ none)).mono ?_
  rintro e w3 ⟨hg3, ⟨hlt, rfl⟩ | ⟨hge, z, rfl⟩⟩
  · have HG := Lib.hid ((World.grownBy_alloc w _ none).andThen hg3 (fun j hj => by cases hj))
    have e1 := HC1.out w3 HG.out
    have HXB := Lib.hid ((hg3.block w.heap.size (by simp) (by simp)).trans (heap_alloc_new w (.cells #[.int .i64 15, .int .i64 a, .int .i64 b, .int .i64 c, .int .i64 d] 48)))
    obtain ⟨y0, -, y2, -⟩ := ins_cell (x := (15, a, b, c, d)) HXB.out
    clear hg3 HCELL hlt
    go_wp2
    go_region_with (first
      | (go_at_call 68; refine (HW.out _ (grown_d HG.out)).mono ?_; rintro e w4 ⟨⟨A4, l4, c4, rfl⟩, hM⟩))
    all_goals
      have HMM := Lib.hid hM
      clear hM HW HG HC1 HXB
      go_wp2
      go_ret
      exact ⟨rfl, HMM.out⟩
  · exact absurd HP.out (by omega)

set_option maxHeartbeats 2000000 in
theorem reach_store {w : World} {B : Nat} {S : Nat → Prop} {X : KB} {m : Mach} (h : Core w B S X m) (hB : B ≤ w.heap.size) {k : Nat} (hk : k < m.progs.length) (hlr : m.regs.length = m.progs.length) (hr8 : (m.regs.getD k []).length = 8) (hsm : m.acts.length ≤ 20000) (hn3 : m.cells.length ≤ 300) (hr : ∀ v ∈ m.regs.getD k [], okU v) (a c d : Int) (b : Nat) (hb : b < 8) (ha0 : 0 ≤ a) (ha1 : a < m.cells.length) (hc0 : -1 ≤ c) (hc1 : c ≤ 7) (q : Nat) (hq : placeOf a c (m.regs.getD k []) = q) (hp : q < m.cells.length) :
    Calls Tryd.prog 54 #[.pointer (some ⟨X.c, 0, none⟩), .int .i64 k, insV (7, a, (b : Int), c, d)] w fun e w' => e = .returned .nilIface ∧ Moved w B S X { m with cells := m.cells.set q ((m.regs.getD k []).getD b 0), acts := m.acts ++ [((m.steps : Int), (k : Int), 7, (q : Int), m.cells.getD q 0, (m.regs.getD k []).getD b 0)] } w' := by
  obtain ⟨tb, cap, htv, -, htb⟩ := h.tform (by omega)
  obtain ⟨c0, c1, c2, -⟩ := h.cells
  rw [htv] at c2
  have hkn : (k : Int) < (m.progs.length : Int) := by omega
  have hcl : X.c < w.heap.size := lt_of_block h.at_
  have hcne : X.c ≠ w.heap.size := by omega
  have HCELL := Lib.hid (fun w' (hg : w.grownBy w' none) => kcell_any (h.grow hg) hk hn3 hr htv 7 a b c d ha0 ha1 hc0 hc1)
  have HT := Lib.hid (fun w' (hg : w.grownBy w' none) => (touch_store (h.grow hg) (Nat.le_trans hB hg.size) hk hlr hr8 hp hsm a b hb c d).mono (R' := fun e w'' => e = .returned (.tuple #[]) ∧ Moved w B S X { m with cells := m.cells.set q ((m.regs.getD k []).getD b 0), acts := m.acts ++ [((m.steps : Int), (k : Int), 7, (q : Int), m.cells.getD q 0, (m.regs.getD k []).getD b 0)] } w'') fun e w'' ht => ⟨ht.moved.1, ht.moved.2.from (Keeps.of_grown hg (by intro k hk; cases hk))⟩)
  have HC2 := Lib.hid (fun w' (hg : w.grownBy w' none) => (h.grow hg).cells.1)
  have HP := Lib.hid hp
  rw [hq] at HCELL
  generalize m.progs.length = n at *
  generalize hnc : m.cells.length = nc at *
  obtain ⟨M, hM⟩ : ∃ M : World → Prop, M = Moved w B S X { m with cells := m.cells.set q ((m.regs.getD k []).getD b 0), acts := m.acts ++ [((m.steps : Int), (k : Int), 7, (q : Int), m.cells.getD q 0, (m.regs.getD k []).getD b 0)] } := ⟨_, rfl⟩
  rw [← hM] at HT ⊢
  clear h hM hr hk hn3 ha0 ha1 hc0 hc1 hp htv hq hnc hlr hr8 hsm hB c1
  unfold insV at HCELL HT ⊢
  go_enter Tryd.func54, Tryd.ntmps54
  go_wp2_with fail
  refine (HCELL.out _ (World.grownBy_alloc _ _ none)).mono ?_
  rintro e w3 ⟨hg3, ⟨hlt, rfl⟩ | ⟨hge, z, rfl⟩⟩
  · have HG := Lib.hid ((World.grownBy_alloc w _ none).andThen hg3 (fun j hj => by cases hj))
    have e1 := HC2.out w3 HG.out
    have HXB := Lib.hid ((hg3.block w.heap.size (by simp) (by simp)).trans (heap_alloc_new w (.cells #[.int .i64 7, .int .i64 a, .int .i64 b, .int .i64 c, .int .i64 d] 48)))
    obtain ⟨y0, y1, y2, y3, y4⟩ := ins_cell (x := (7, a, (b : Int), c, d)) HXB.out
    clear hg3 HCELL hlt
    go_wp2_with fail
    refine (HT.out _ HG.out).mono ?_
    rintro e w4 ⟨rfl, hM⟩
    have HMM := Lib.hid hM
    clear hM HT HG HC2 HXB e1 y0 y1 y2 y3 y4
    go_wp2
    go_ret
    exact ⟨rfl, HMM.out⟩
  · exact absurd HP.out (by omega)
end Go.Proofs.YtkmidefgmefohaaDoor
