/-
  touch: what is done to a cell that there is; which is an act.
-/
import Derived.Test.YtkmidefgmefohaaDoorMActs
import Derived.Deep.RegionHeld3
namespace Go.Proofs.YtkmidefgmefohaaDoor
set_option maxRecDepth 100000
open Go.RowKit Go.Shelf Go.Sort
set_option linter.unusedVariables false

/-- Behind a call of the memory: the machine, with other cells; what touch reads of it. -/
structure MemDone (w w' w'' : World) (B : Nat) (S : Nat → Prop) (X : KB) (m : Mach) (cs : List Int) (tb k : Nat) : Prop where
  grown : w'.grownBy w'' X.mv.ownBlock
  core : Core w'' B S X { m with cells := cs }
  keeps : Keeps S w w''
  c0 : w''.cell? ⟨X.c, 0, none⟩ = some (.pointer (some ⟨X.mb, 0, none⟩))
  regs : ∀ j, j < 8 → w''.cell? ⟨tb, k * 11 + 3 + j, none⟩ = some (.int .u64 ((m.regs.getD k []).getD j 0))
  loose : ∀ i, w''.frozen? ⟨tb, i, none⟩ = false

theorem memDone {w w' w'' : World} {B : Nat} {S : Nat → Prop} {X : KB} {m : Mach} {cs : List Int} {tb cap k : Nat} (h : Core w B S X m) (hg : w.grownBy w' none) (hk : k < m.progs.length) (htv : X.tv = .slice (some ⟨tb, 0, none⟩) m.progs.length cap) (hM : Mem w'' B X.mb X.mv cs) (hg2 : w'.grownBy w'' X.mv.ownBlock) : MemDone w w' w'' B S X m cs tb k := by
  obtain ⟨h1, h2⟩ := (h.grow hg).setMem hM hg2
  obtain ⟨_, _, _, hR, hF⟩ := h1.thread hk htv
  exact ⟨hg2, h1, (Keeps.of_grown hg (by intro k hk; cases hk)).trans h2, h1.cells.1, hR, hF⟩

/-- A block beside the memory's row. -/
theorem MemDone.block {w w' w'' : World} {B : Nat} {S : Nat → Prop} {X : KB} {m : Mach} {cs : List Int} {tb k xb : Nat} (h : MemDone w w' w'' B S X m cs tb k) {cur : Array Value} {t : TypeId} {f : Nat × Nat} (hx : w'.heap[xb]? = some (.cells cur t f)) (hne : ∀ g, X.mv.ownBlock = some g → g < xb) : w''.heap[xb]? = some (.cells cur t f) :=
  (h.grown.block xb (lt_of_block hx) (fun e => by have := hne xb e.symm; omega)).trans hx
theorem ins_cell {u : World} {xb : Nat} {x : Ins5} (h : u.heap[xb]? = some (.cells #[.int .i64 x.1, .int .i64 x.2.1, .int .i64 x.2.2.1, .int .i64 x.2.2.2.1, .int .i64 x.2.2.2.2] 48 (0, 0))) :
    u.cell? ⟨xb, 0, none⟩ = some (.int .i64 x.1) ∧ u.cell? ⟨xb, 1, none⟩ = some (.int .i64 x.2.1) ∧ u.cell? ⟨xb, 2, none⟩ = some (.int .i64 x.2.2.1) ∧ u.cell? ⟨xb, 3, none⟩ = some (.int .i64 x.2.2.2.1) ∧ u.cell? ⟨xb, 4, none⟩ = some (.int .i64 x.2.2.2.2) := by
  have e : ∀ j, u.cell? ⟨xb, j, none⟩ = _ := fun j => cell_of_row u xb j _ _ _ h
  simp only [e]
  exact ⟨rfl, rfl, rfl, rfl, rfl⟩

theorem fetch_wrap (v c : Int) : IntKind.u64.wrap (v + IntKind.u64.wrap c) = (v + c) % m64 := by
  rw [wrapU, wrapU]
  unfold m64
  omega

theorem grown_set {w W : World} {a : Addr} {v : Value} (h : (w.setCell a v).grownBy W none) : w.heap.size ≤ W.heap.size := by have := h.size; simpa using this

set_option maxHeartbeats 4000000 in
theorem touch_load {w : World} {B : Nat} {S : Nat → Prop} {X : KB} {m : Mach} (h : Core w B S X m) (hB : B ≤ w.heap.size) {k : Nat} (hk : k < m.progs.length) (hlr : m.regs.length = m.progs.length) (hr8 : (m.regs.getD k []).length = 8) {q : Nat} (hq : q < m.cells.length) (hsm : m.acts.length ≤ 20000) (a : Nat) (ha : a < 8) (b c d : Int) :
    Calls Tryd.prog 52 #[.pointer (some ⟨X.c, 0, none⟩), .int .i64 k, insV (6, (a : Int), b, c, d), .int .i64 q] w (Touched w B S X { m with regs := m.regs.set k ((m.regs.getD k []).set a (m.cells.getD q 0)) } ((m.steps : Int), (k : Int), 6, (q : Int), m.cells.getD q 0, m.cells.getD q 0)) := by
  obtain ⟨tb, cap, htv, -, htb⟩ := h.tform (by omega)
  obtain ⟨c0, c1, c2, c3, c4, c5⟩ := h.cells
  obtain ⟨-, -, -, hR, hF⟩ := h.thread hk htv
  rw [htv] at c2
  have hkn : (k : Int) < (m.progs.length : Int) := by omega
  have HL := Lib.hid (fun w' (hg : w.grownBy w' none) => load_in (h.grow hg).mem hq)
  have hcl : X.c < w.heap.size := lt_of_block h.at_
  have hcne : X.c ≠ w.heap.size := by omega
  have htne : tb ≠ w.heap.size := by omega
  obtain ⟨P, hP⟩ : ∃ P, P = Touched w B S X { m with regs := m.regs.set k ((m.regs.getD k []).set a (m.cells.getD q 0)) } ((m.steps : Int), (k : Int), 6, (q : Int), m.cells.getD q 0, m.cells.getD q 0) := ⟨_, rfl⟩
  rw [← hP]
  have ca := hR a ha
  have fa := hF (k * 11 + 3 + a)
  have ha0 : (0 : Int) ≤ (a : Int) := by omega
  have ha8 : (a : Int) < 8 := by omega
  have hs := h.setReg hlr hk hr8 htv a ha (m.cells.getD q 0)
  have HS := Lib.hid hs
  have HL2 := Lib.hid (fun w' (hg : (w.setCell ⟨tb, k * 11 + 3 + a, none⟩ (.int .u64 (m.cells.getD q 0))).grownBy w' none) => load_in (hs.1.grow hg).mem hq)
  dsimp only at HL2
  clear hs
  have HBZ := Lib.hid hB
  have HXA := Lib.hid (show X.av.ownBlock ≠ some w.heap.size from fun e => Nat.lt_irrefl _ (h.acts.lt _ e).2)
  have HSM := Lib.hid hsm
  generalize hold : m.cells.getD q 0 = old at *
  have EOLD := Lib.hid hold
  generalize ea : (m.regs.getD k []).getD a 0 = ra at *
  have Ea := Lib.hid ea
  clear ea
  have HP := Lib.hid hP
  obtain ⟨n, hn⟩ : ∃ n, m.progs.length = n := ⟨_, rfl⟩
  rw [hn] at c2 hkn
  clear h hR hF c3 c4 c5 c1 hP hold hB hsm hq hk hlr hr8 hn htv
  unfold insV
  go_enter Tryd.func52, Tryd.ntmps52
  go_wp2_with fail
  refine (HL.out _ (World.grownBy_alloc _ _ none)).mono ?_
  rintro e w1 ⟨rfl, rfl⟩
  go_wp2
  go_region
  go_wp2_with fail
  obtain ⟨W, hW⟩ : ∃ W, W = ((w.setCell ⟨tb, k * 11 + 3 + a, none⟩ (.int .u64 old)).alloc (.cells #[.int .i64 6, .int .i64 a, .int .i64 b, .int .i64 c, .int .i64 d] 48)).drew := ⟨_, rfl⟩
  have HX := Lib.hid (show W.cell? ⟨w.heap.size, 0, none⟩ = some (.int .i64 6) from by
    have hb : W.heap[w.heap.size]? = some (.cells #[.int .i64 6, .int .i64 a, .int .i64 b, .int .i64 c, .int .i64 d] 48 (0, 0)) := by
      rw [hW, show w.heap.size = (w.setCell ⟨tb, k * 11 + 3 + a, none⟩ (.int .u64 old)).heap.size by simp]
      exact heap_alloc_new (w.setCell ⟨tb, k * 11 + 3 + a, none⟩ (.int .u64 old)) (.cells #[.int .i64 6, .int .i64 a, .int .i64 b, .int .i64 c, .int .i64 d] 48)
    exact (cell_of_row _ _ 0 _ _ _ hb).trans rfl)
  have hG : (w.setCell ⟨tb, k * 11 + 3 + a, none⟩ (.int .u64 old)).grownBy W none := by
    rw [hW]
    exact grown_d (grown_a (World.grownBy.refl _ none) _)
  have HC := Lib.hid (HS.out.1.grow hG)
  have HK := Lib.hid (HS.out.2.trans (Keeps.of_grown hG (by intro k hk; cases hk)))
  have HL3 := Lib.hid (HL2.out _ hG)
  obtain ⟨c0', -⟩ := HC.out.cells
  rw [← hW]
  clear hW hG HS HL2
  refine HL3.out.mono ?_
  rintro e w1 ⟨rfl, rfl⟩
  clear c0 c2
  go_wp2
  rw [HP.out]
  exact touch_last HC.out HK.out HBZ.out HSM.out k q _ _ _ _ HXA.out HX.out _ rfl

set_option maxHeartbeats 4000000 in
theorem touch_store {w : World} {B : Nat} {S : Nat → Prop} {X : KB} {m : Mach} (h : Core w B S X m) (hB : B ≤ w.heap.size) {k : Nat} (hk : k < m.progs.length) (hlr : m.regs.length = m.progs.length) (hr8 : (m.regs.getD k []).length = 8) {q : Nat} (hq : q < m.cells.length) (hsm : m.acts.length ≤ 20000) (z : Int) (b : Nat) (hb : b < 8) (c d : Int) :
    Calls Tryd.prog 52 #[.pointer (some ⟨X.c, 0, none⟩), .int .i64 k, insV (7, z, (b : Int), c, d), .int .i64 q] w (Touched w B S X { m with cells := m.cells.set q ((m.regs.getD k []).getD b 0) } ((m.steps : Int), (k : Int), 7, (q : Int), m.cells.getD q 0, (m.regs.getD k []).getD b 0)) := by
  obtain ⟨tb, cap, htv, -, htb⟩ := h.tform (by omega)
  obtain ⟨c0, c1, c2, c3, c4, c5⟩ := h.cells
  obtain ⟨-, -, -, hR, hF⟩ := h.thread hk htv
  rw [htv] at c2
  have hkn : (k : Int) < (m.progs.length : Int) := by omega
  have HL := Lib.hid (fun w' (hg : w.grownBy w' none) => load_in (h.grow hg).mem hq)
  have hcl : X.c < w.heap.size := lt_of_block h.at_
  have hcne : X.c ≠ w.heap.size := by omega
  have htne : tb ≠ w.heap.size := by omega
  obtain ⟨P, hP⟩ : ∃ P, P = Touched w B S X { m with cells := m.cells.set q ((m.regs.getD k []).getD b 0) } ((m.steps : Int), (k : Int), 7, (q : Int), m.cells.getD q 0, (m.regs.getD k []).getD b 0) := ⟨_, rfl⟩
  rw [← hP]
  have cb := hR b hb
  have fb := hF (k * 11 + 3 + b)
  have hb0 : (0 : Int) ≤ (b : Int) := by omega
  have hb8 : (b : Int) < 8 := by omega
  have HST := Lib.hid (fun w' (hg : w.grownBy w' none) => (store_in (h.grow hg).mem hq ((m.regs.getD k []).getD b 0)).mono (R' := fun e w'' => e = .returned .nilIface ∧ MemDone w w' w'' B S X m (m.cells.set q ((m.regs.getD k []).getD b 0)) tb k) fun e w'' ⟨he, hM, hg2⟩ => ⟨he, memDone h hg hk htv hM hg2⟩)
  have HQS := Lib.hid (show q < (m.cells.set q ((m.regs.getD k []).getD b 0)).length ∧ (m.cells.set q ((m.regs.getD k []).getD b 0)).getD q 0 = ((m.regs.getD k []).getD b 0) from ⟨by rw [List.length_set]; exact hq, getD_set_eq _ _ _ _ hq⟩)
  have HMV := Lib.hid (fun g (e : X.mv.ownBlock = some g) => (h.mem.own.lt g e).2)
  have HB8 := Lib.hid hb
  have HBZ := Lib.hid hB
  have HXA := Lib.hid (show X.av.ownBlock ≠ some w.heap.size from fun e => Nat.lt_irrefl _ (h.acts.lt _ e).2)
  have HSM := Lib.hid hsm
  generalize hold : m.cells.getD q 0 = old at *
  have EOLD := Lib.hid hold
  generalize eb : (m.regs.getD k []).getD b 0 = rb at *
  have Eb := Lib.hid eb
  clear eb
  have HP := Lib.hid hP
  obtain ⟨n, hn⟩ : ∃ n, m.progs.length = n := ⟨_, rfl⟩
  rw [hn] at c2 hkn
  clear h hR hF c3 c4 c5 c1 hP hold hB hsm hq hk hlr hr8 hn htv
  unfold insV
  go_enter Tryd.func52, Tryd.ntmps52
  go_wp2_with fail
  refine (HL.out _ (World.grownBy_alloc _ _ none)).mono ?_
  rintro e w1 ⟨rfl, rfl⟩
  have HXB := Lib.hid (show (w.alloc (.cells #[.int .i64 7, .int .i64 z, .int .i64 b, .int .i64 c, .int .i64 d] 48)).drew.heap[w.heap.size]? = some (.cells #[.int .i64 7, .int .i64 z, .int .i64 b, .int .i64 c, .int .i64 d] 48 (0, 0)) from heap_alloc_new w _)
  have HR0 := Lib.hid (show (w.alloc (.cells #[.int .i64 7, .int .i64 z, .int .i64 b, .int .i64 c, .int .i64 d] 48)).drew.cell? ⟨tb, k * 11 + 3 + b, none⟩ = some (.int .u64 rb) from (World.cell?_alloc_lt w _ ⟨tb, k * 11 + 3 + b, none⟩ htb).trans cb)
  have HC0 := Lib.hid (show (w.alloc (.cells #[.int .i64 7, .int .i64 z, .int .i64 b, .int .i64 c, .int .i64 d] 48)).drew.cell? ⟨X.c, 0, none⟩ = some (.pointer (some ⟨X.mb, 0, none⟩)) from (World.cell?_alloc_lt w _ ⟨X.c, 0, none⟩ hcl).trans c0)
  go_wp2
  have y0 := HC0.out
  obtain ⟨-, -, y2, -⟩ := ins_cell (x := (7, z, (b : Int), c, d)) HXB.out
  have y3 := HR0.out
  go_region_held3 (fun u => u.cell? ⟨X.c, 0, none⟩ = some (.pointer (some ⟨X.mb, 0, none⟩)) ∧ u.cell? ⟨w.heap.size, 2, none⟩ = some (.int .i64 b) ∧ u.cell? ⟨tb, k * 11 + 3 + b, none⟩ = some (.int .u64 rb)) (first | exact ⟨y0, y2, y3⟩ | exact ⟨z0, z2, z3⟩) (first
    | (go_at_call 63; refine (HST.out _ (grown_d (World.grownBy_alloc _ _ none))).mono ?_; rintro e w3 ⟨rfl, hd3⟩; have HD3 := Lib.hid hd3; have HX3 := Lib.hid (ins_cell (x := (7, z, (b : Int), c, d)) (hd3.block HXB.out HMV.out)); have z0 := hd3.c0; have z2 := HX3.out.2.2.1; have z3 := (hd3.regs b HB8.out).trans (by rw [Eb.out]); clear hd3))
  go_wp2_with fail
  refine (load_in HD3.out.core.mem HQS.out.1).mono ?_
  rintro e w4 ⟨rfl, rfl⟩
  rw [HQS.out.2]
  have HC := Lib.hid HD3.out.core
  have HK := Lib.hid HD3.out.keeps
  have HX := Lib.hid HX3.out.1
  clear c0 c2
  go_wp2
  rw [HP.out]
  exact touch_last HC.out HK.out HBZ.out HSM.out k q _ _ _ _ HXA.out HX.out _ rfl

set_option maxHeartbeats 4000000 in
theorem touch_fetch {w : World} {B : Nat} {S : Nat → Prop} {X : KB} {m : Mach} (h : Core w B S X m) (hB : B ≤ w.heap.size) {k : Nat} (hk : k < m.progs.length) (hlr : m.regs.length = m.progs.length) (hr8 : (m.regs.getD k []).length = 8) {q : Nat} (hq : q < m.cells.length) (hsm : m.acts.length ≤ 20000) (a : Nat) (ha : a < 8) (b c d : Int) :
    Calls Tryd.prog 52 #[.pointer (some ⟨X.c, 0, none⟩), .int .i64 k, insV (8, (a : Int), b, c, d), .int .i64 q] w (Touched w B S X { m with cells := m.cells.set q ((m.cells.getD q 0 + c) % m64), regs := m.regs.set k ((m.regs.getD k []).set a (m.cells.getD q 0)) } ((m.steps : Int), (k : Int), 8, (q : Int), m.cells.getD q 0, ((m.cells.getD q 0 + c) % m64))) := by
  obtain ⟨tb, cap, htv, -, htb⟩ := h.tform (by omega)
  obtain ⟨c0, c1, c2, c3, c4, c5⟩ := h.cells
  obtain ⟨-, -, -, hR, hF⟩ := h.thread hk htv
  rw [htv] at c2
  have hkn : (k : Int) < (m.progs.length : Int) := by omega
  have HL := Lib.hid (fun w' (hg : w.grownBy w' none) => load_in (h.grow hg).mem hq)
  have hcl : X.c < w.heap.size := lt_of_block h.at_
  have hcne : X.c ≠ w.heap.size := by omega
  have htne : tb ≠ w.heap.size := by omega
  obtain ⟨P, hP⟩ : ∃ P, P = Touched w B S X { m with cells := m.cells.set q ((m.cells.getD q 0 + c) % m64), regs := m.regs.set k ((m.regs.getD k []).set a (m.cells.getD q 0)) } ((m.steps : Int), (k : Int), 8, (q : Int), m.cells.getD q 0, ((m.cells.getD q 0 + c) % m64)) := ⟨_, rfl⟩
  rw [← hP]
  have ca := hR a ha
  have fa := hF (k * 11 + 3 + a)
  have ha0 : (0 : Int) ≤ (a : Int) := by omega
  have ha8 : (a : Int) < 8 := by omega
  have HST := Lib.hid (fun w' (hg : w.grownBy w' none) => (fetch_in (h.grow hg).mem hq (IntKind.u64.wrap c)).mono (R' := fun e w'' => e = .returned (.tuple #[.int .u64 (m.cells.getD q 0), .nilIface]) ∧ MemDone w w' w'' B S X m (m.cells.set q ((m.cells.getD q 0 + c) % m64)) tb k) fun e w'' ⟨he, hM, hg2⟩ => ⟨he, memDone h hg hk htv (by rw [fetch_wrap] at hM; exact hM) hg2⟩)
  have HQS := Lib.hid (show q < (m.cells.set q ((m.cells.getD q 0 + c) % m64)).length ∧ (m.cells.set q ((m.cells.getD q 0 + c) % m64)).getD q 0 = ((m.cells.getD q 0 + c) % m64) from ⟨by rw [List.length_set]; exact hq, getD_set_eq _ _ _ _ hq⟩)
  have HMV := Lib.hid (fun g (e : X.mv.ownBlock = some g) => (h.mem.own.lt g e).2)
  have HA8 := Lib.hid ha
  have HSR := Lib.hid (fun w'' (h1 : Core w'' B S X { m with cells := m.cells.set q ((m.cells.getD q 0 + c) % m64) }) => h1.setReg hlr hk hr8 htv a ha (m.cells.getD q 0))
  have htc : tb ≠ X.c := fun e => by
    obtain ⟨xs, ho, -⟩ := h.thr
    rw [htv] at ho
    obtain ⟨c, fz, hc⟩ := Lib.ownsRow_kind ho tb rfl
    rw [e, h.at_] at hc
    injection hc with hc
    injection hc with _ ht _
    exact absurd ht (by decide)
  have HBZ := Lib.hid hB
  have HXA := Lib.hid (show X.av.ownBlock ≠ some w.heap.size from fun e => Nat.lt_irrefl _ (h.acts.lt _ e).2)
  have HSM := Lib.hid hsm
  generalize hold : m.cells.getD q 0 = old at *
  have EOLD := Lib.hid hold
  generalize ea : (m.regs.getD k []).getD a 0 = ra at *
  have Ea := Lib.hid ea
  clear ea
  have HP := Lib.hid hP
  obtain ⟨n, hn⟩ : ∃ n, m.progs.length = n := ⟨_, rfl⟩
  rw [hn] at c2 hkn
  clear h hR hF c3 c4 c5 c1 hP hold hB hsm hq hk hlr hr8 hn htv
  unfold insV
  go_enter Tryd.func52, Tryd.ntmps52
  go_wp2_with fail
  refine (HL.out _ (World.grownBy_alloc _ _ none)).mono ?_
  rintro e w1 ⟨rfl, rfl⟩
  have HXB := Lib.hid (show (w.alloc (.cells #[.int .i64 8, .int .i64 a, .int .i64 b, .int .i64 c, .int .i64 d] 48)).drew.heap[w.heap.size]? = some (.cells #[.int .i64 8, .int .i64 a, .int .i64 b, .int .i64 c, .int .i64 d] 48 (0, 0)) from heap_alloc_new w _)
  have HC0 := Lib.hid (show (w.alloc (.cells #[.int .i64 8, .int .i64 a, .int .i64 b, .int .i64 c, .int .i64 d] 48)).drew.cell? ⟨X.c, 0, none⟩ = some (.pointer (some ⟨X.mb, 0, none⟩)) from (World.cell?_alloc_lt w _ ⟨X.c, 0, none⟩ hcl).trans c0)
  have HTC := Lib.hid htc
  have HTN := Lib.hid htne
  go_wp2
  have y0 := HC0.out
  obtain ⟨-, y1, -, y3, -⟩ := ins_cell (x := (8, (a : Int), b, c, d)) HXB.out
  go_region_held3 (fun u => u.cell? ⟨X.c, 0, none⟩ = some (.pointer (some ⟨X.mb, 0, none⟩)) ∧ u.cell? ⟨w.heap.size, 1, none⟩ = some (.int .i64 a) ∧ u.cell? ⟨w.heap.size, 3, none⟩ = some (.int .i64 c)) (first | exact ⟨y0, y1, y3⟩ | exact ⟨z0, z1, z3⟩ | exact ⟨(World.cell?_setCell_far _ _ _ _ HTC.out).trans z0, (World.cell?_setCell_far _ _ _ _ HTN.out).trans z1, (World.cell?_setCell_far _ _ _ _ HTN.out).trans z3⟩) (first
    | (go_at_call 64; refine (HST.out _ (grown_d (World.grownBy_alloc _ _ none))).mono ?_; rintro e w3 ⟨rfl, hd3⟩; have HD3 := Lib.hid hd3; have HX3 := Lib.hid (ins_cell (x := (8, (a : Int), b, c, d)) (hd3.block HXB.out HMV.out)); have z0 := hd3.c0; have z1 := HX3.out.2.1; have z3 := HX3.out.2.2.2.1; have z4 := hd3.regs a HA8.out; have z5 := hd3.loose (k * 11 + 3 + a); clear hd3))
  have HC := Lib.hid (HSR.out _ HD3.out.core).1
  have HK := Lib.hid (HD3.out.keeps.trans (HSR.out _ HD3.out.core).2)
  have HX := Lib.hid ((World.cell?_setCell_far w3 ⟨tb, k * 11 + 3 + a, none⟩ ⟨w.heap.size, 0, none⟩ (.int .u64 old) HTN.out).trans HX3.out.1)
  obtain ⟨v0, -⟩ := HC.out.cells
  go_wp2_with fail
  refine (load_in HC.out.mem HQS.out.1).mono ?_
  rintro e w4 ⟨rfl, rfl⟩
  rw [HQS.out.2]
  clear c0 c2
  go_wp2
  rw [HP.out]
  exact touch_last HC.out HK.out HBZ.out HSM.out k q _ _ _ _ HXA.out HX.out _ rfl

set_option maxHeartbeats 4000000 in
theorem touch_swap_yes {w : World} {B : Nat} {S : Nat → Prop} {X : KB} {m : Mach} (h : Core w B S X m) (hB : B ≤ w.heap.size) {k : Nat} (hk : k < m.progs.length) (hlr : m.regs.length = m.progs.length) (hr8 : (m.regs.getD k []).length = 8) {q : Nat} (hq : q < m.cells.length) (hsm : m.acts.length ≤ 20000) (a c d : Nat) (ha : a < 8) (hc : c < 8) (hd : d < 8) (b : Int) (he0 : m.cells.getD q 0 = (m.regs.getD k []).getD c 0) :
    Calls Tryd.prog 52 #[.pointer (some ⟨X.c, 0, none⟩), .int .i64 k, insV (9, (a : Int), b, (c : Int), (d : Int)), .int .i64 q] w (Touched w B S X { m with cells := (m.cells.set q ((m.regs.getD k []).getD d 0)), regs := m.regs.set k ((m.regs.getD k []).set a 1) } ((m.steps : Int), (k : Int), 9, (q : Int), m.cells.getD q 0, ((m.regs.getD k []).getD d 0))) := by
  obtain ⟨tb, cap, htv, -, htb⟩ := h.tform (by omega)
  obtain ⟨c0, c1, c2, c3, c4, c5⟩ := h.cells
  obtain ⟨-, -, -, hR, hF⟩ := h.thread hk htv
  rw [htv] at c2
  have hkn : (k : Int) < (m.progs.length : Int) := by omega
  have HL := Lib.hid (fun w' (hg : w.grownBy w' none) => load_in (h.grow hg).mem hq)
  have hcl : X.c < w.heap.size := lt_of_block h.at_
  have hcne : X.c ≠ w.heap.size := by omega
  have htne : tb ≠ w.heap.size := by omega
  obtain ⟨P, hP⟩ : ∃ P, P = Touched w B S X { m with cells := (m.cells.set q ((m.regs.getD k []).getD d 0)), regs := m.regs.set k ((m.regs.getD k []).set a 1) } ((m.steps : Int), (k : Int), 9, (q : Int), m.cells.getD q 0, ((m.regs.getD k []).getD d 0)) := ⟨_, rfl⟩
  rw [← hP]
  have ca := hR a ha
  have fa := hF (k * 11 + 3 + a)
  have ha0 : (0 : Int) ≤ (a : Int) := by omega
  have ha8 : (a : Int) < 8 := by omega
  have cc := hR c hc
  have fc := hF (k * 11 + 3 + c)
  have hc0 : (0 : Int) ≤ (c : Int) := by omega
  have hc8 : (c : Int) < 8 := by omega
  have cd := hR d hd
  have fd := hF (k * 11 + 3 + d)
  have hd0 : (0 : Int) ≤ (d : Int) := by omega
  have hd8 : (d : Int) < 8 := by omega
  have HST := Lib.hid (fun w' (hg : w.grownBy w' none) => (swap_yes (h.grow hg).mem hq ((m.regs.getD k []).getD c 0) ((m.regs.getD k []).getD d 0) he0).mono (R' := fun e w'' => e = .returned (.tuple #[.bool true, .nilIface]) ∧ MemDone w w' w'' B S X m (m.cells.set q ((m.regs.getD k []).getD d 0)) tb k) fun e w'' ⟨he, hM, hg2⟩ => ⟨he, memDone h hg hk htv hM hg2⟩)
  have HQS := Lib.hid (show q < (m.cells.set q ((m.regs.getD k []).getD d 0)).length ∧ (m.cells.set q ((m.regs.getD k []).getD d 0)).getD q 0 = ((m.regs.getD k []).getD d 0) from ⟨by rw [List.length_set]; exact hq, getD_set_eq _ _ _ _ hq⟩)
  have HMV := Lib.hid (fun g (e : X.mv.ownBlock = some g) => (h.mem.own.lt g e).2)
  have HA8 := Lib.hid (And.intro ha (And.intro hc hd))
  have HSR := Lib.hid (fun w'' (h1 : Core w'' B S X { m with cells := (m.cells.set q ((m.regs.getD k []).getD d 0)) }) => h1.setReg hlr hk hr8 htv a ha 1)
  have HS0 := Lib.hid (fun w'' (h1 : Core w'' B S X { m with cells := (m.cells.set q ((m.regs.getD k []).getD d 0)) }) => by
    have h2 := h1.setReg hlr hk hr8 htv a ha 0
    have h3 := h2.1.setReg (by simpa using hlr) hk (by dsimp only; rw [getD_set_eq _ _ _ _ (by omega), List.length_set]; exact hr8) htv a ha 1
    dsimp only at h3
    rw [getD_set_eq _ _ _ _ (by omega), List.set_set, List.set_set] at h3
    exact And.intro h3.1 (h2.2.trans h3.2))
  have htc : tb ≠ X.c := fun e => by
    obtain ⟨xs, ho, -⟩ := h.thr
    rw [htv] at ho
    obtain ⟨c, fz, hc⟩ := Lib.ownsRow_kind ho tb rfl
    rw [e, h.at_] at hc
    injection hc with hc
    injection hc with _ ht _
    exact absurd ht (by decide)
  clear he0
  have HBZ := Lib.hid hB
  have HXA := Lib.hid (show X.av.ownBlock ≠ some w.heap.size from fun e => Nat.lt_irrefl _ (h.acts.lt _ e).2)
  have HSM := Lib.hid hsm
  generalize hold : m.cells.getD q 0 = old at *
  have EOLD := Lib.hid hold
  generalize ea : (m.regs.getD k []).getD a 0 = ra at *
  have Ea := Lib.hid ea
  clear ea
  generalize ec : (m.regs.getD k []).getD c 0 = rc at *
  have Ec := Lib.hid ec
  clear ec
  generalize ed : (m.regs.getD k []).getD d 0 = rd at *
  have Ed := Lib.hid ed
  clear ed
  have HP := Lib.hid hP
  obtain ⟨n, hn⟩ : ∃ n, m.progs.length = n := ⟨_, rfl⟩
  rw [hn] at c2 hkn
  clear h hR hF c3 c4 c5 c1 hP hold hB hsm hq hk hlr hr8 hn htv
  unfold insV
  go_enter Tryd.func52, Tryd.ntmps52
  go_wp2_with fail
  refine (HL.out _ (World.grownBy_alloc _ _ none)).mono ?_
  rintro e w1 ⟨rfl, rfl⟩
  have HXB := Lib.hid (show (w.alloc (.cells #[.int .i64 9, .int .i64 a, .int .i64 b, .int .i64 c, .int .i64 d] 48)).drew.heap[w.heap.size]? = some (.cells #[.int .i64 9, .int .i64 a, .int .i64 b, .int .i64 c, .int .i64 d] 48 (0, 0)) from heap_alloc_new w _)
  have HC0 := Lib.hid (show (w.alloc (.cells #[.int .i64 9, .int .i64 a, .int .i64 b, .int .i64 c, .int .i64 d] 48)).drew.cell? ⟨X.c, 0, none⟩ = some (.pointer (some ⟨X.mb, 0, none⟩)) from (World.cell?_alloc_lt w _ ⟨X.c, 0, none⟩ hcl).trans c0)
  have HRC := Lib.hid (show (w.alloc (.cells #[.int .i64 9, .int .i64 a, .int .i64 b, .int .i64 c, .int .i64 d] 48)).drew.cell? ⟨tb, k * 11 + 3 + c, none⟩ = some (.int .u64 rc) from (World.cell?_alloc_lt w _ ⟨tb, k * 11 + 3 + c, none⟩ htb).trans cc)
  have HRD := Lib.hid (show (w.alloc (.cells #[.int .i64 9, .int .i64 a, .int .i64 b, .int .i64 c, .int .i64 d] 48)).drew.cell? ⟨tb, k * 11 + 3 + d, none⟩ = some (.int .u64 rd) from (World.cell?_alloc_lt w _ ⟨tb, k * 11 + 3 + d, none⟩ htb).trans cd)
  have HTC := Lib.hid htc
  have HTN := Lib.hid htne
  have HTB := Lib.hid htb
  go_wp2
  have y0 := HC0.out
  obtain ⟨-, -, -, y3, y4⟩ := ins_cell (x := (9, (a : Int), b, (c : Int), (d : Int))) HXB.out
  have y5 := HRC.out
  have y6 := HRD.out
  go_region_held3 (fun u => u.cell? ⟨X.c, 0, none⟩ = some (.pointer (some ⟨X.mb, 0, none⟩)) ∧ u.cell? ⟨w.heap.size, 3, none⟩ = some (.int .i64 c) ∧ u.cell? ⟨w.heap.size, 4, none⟩ = some (.int .i64 d) ∧ u.cell? ⟨tb, k * 11 + 3 + c, none⟩ = some (.int .u64 rc) ∧ u.cell? ⟨tb, k * 11 + 3 + d, none⟩ = some (.int .u64 rd)) (first | exact ⟨y0, y3, y4, y5, y6⟩ | exact ⟨z0, z3, z4, z5, z6⟩) (first
    | (go_at_call 65; refine (HST.out _ (grown_d (World.grownBy_alloc _ _ none))).mono ?_; rintro e w3 ⟨rfl, hd3⟩; have HD3 := Lib.hid hd3; have HB3 := Lib.hid (hd3.block HXB.out HMV.out); have z0 := hd3.c0; have z3 := (ins_cell (x := (9, (a : Int), b, (c : Int), (d : Int))) HB3.out).2.2.2.1; have z4 := (ins_cell (x := (9, (a : Int), b, (c : Int), (d : Int))) HB3.out).2.2.2.2; have z5 := (hd3.regs c HA8.out.2.1).trans (by rw [Ec.out]); have z6 := (hd3.regs d HA8.out.2.2).trans (by rw [Ed.out]); clear hd3))
  have z1 := (ins_cell (x := (9, (a : Int), b, (c : Int), (d : Int))) HB3.out).2.1
  have z7 := HD3.out.regs a HA8.out.1
  have z8 := HD3.out.loose (k * 11 + 3 + a)
  have hxn : tb ≠ w.heap.size := HTN.out
  clear y0 y3 y4 y5 y6 z3 z4 z5 z6
  go_wp2
  go_region
  go_wp2_with fail
  go_region
  go_wp2_with fail
  obtain ⟨W, hW⟩ : ∃ W, W = ((w3.setCell ⟨tb, k * 11 + 3 + a, none⟩ (.int .u64 0)).setCell ⟨tb, k * 11 + 3 + a, none⟩ (.int .u64 1)).drew.drew := ⟨_, rfl⟩
  have HX := Lib.hid (show W.cell? ⟨w.heap.size, 0, none⟩ = some (.int .i64 9) from by
    rw [hW]
    exact (World.cell?_setCell_far _ ⟨tb, k * 11 + 3 + a, none⟩ ⟨w.heap.size, 0, none⟩ _ HTN.out).trans ((World.cell?_setCell_far _ ⟨tb, k * 11 + 3 + a, none⟩ ⟨w.heap.size, 0, none⟩ _ HTN.out).trans ((ins_cell (x := (9, (a : Int), b, (c : Int), (d : Int))) HB3.out).1)))
  have hG : ((w3.setCell ⟨tb, k * 11 + 3 + a, none⟩ (.int .u64 0)).setCell ⟨tb, k * 11 + 3 + a, none⟩ (.int .u64 1)).grownBy W none := by
    rw [hW]
    exact grown_d (grown_drew _)
  have HC := Lib.hid ((HS0.out _ HD3.out.core).1.grow hG)
  have HK := Lib.hid ((HD3.out.keeps.trans (HS0.out _ HD3.out.core).2).trans (Keeps.of_grown hG (by intro k hk; cases hk)))
  rw [← hW]
  clear hW hG
  obtain ⟨c0', -⟩ := HC.out.cells
  refine (load_in HC.out.mem HQS.out.1).mono ?_
  rintro e w4 ⟨rfl, rfl⟩
  rw [HQS.out.2]
  clear c0 c2
  go_wp2
  rw [HP.out]
  exact touch_last HC.out HK.out HBZ.out HSM.out k q _ _ _ _ HXA.out HX.out _ rfl

set_option maxHeartbeats 4000000 in
theorem touch_swap_no {w : World} {B : Nat} {S : Nat → Prop} {X : KB} {m : Mach} (h : Core w B S X m) (hB : B ≤ w.heap.size) {k : Nat} (hk : k < m.progs.length) (hlr : m.regs.length = m.progs.length) (hr8 : (m.regs.getD k []).length = 8) {q : Nat} (hq : q < m.cells.length) (hsm : m.acts.length ≤ 20000) (a c d : Nat) (ha : a < 8) (hc : c < 8) (hd : d < 8) (b : Int) (he0 : m.cells.getD q 0 ≠ (m.regs.getD k []).getD c 0) :
    Calls Tryd.prog 52 #[.pointer (some ⟨X.c, 0, none⟩), .int .i64 k, insV (9, (a : Int), b, (c : Int), (d : Int)), .int .i64 q] w (Touched w B S X { m with cells := m.cells, regs := m.regs.set k ((m.regs.getD k []).set a 0) } ((m.steps : Int), (k : Int), 9, (q : Int), m.cells.getD q 0, (m.cells.getD q 0))) := by
  obtain ⟨tb, cap, htv, -, htb⟩ := h.tform (by omega)
  obtain ⟨c0, c1, c2, c3, c4, c5⟩ := h.cells
  obtain ⟨-, -, -, hR, hF⟩ := h.thread hk htv
  rw [htv] at c2
  have hkn : (k : Int) < (m.progs.length : Int) := by omega
  have HL := Lib.hid (fun w' (hg : w.grownBy w' none) => load_in (h.grow hg).mem hq)
  have hcl : X.c < w.heap.size := lt_of_block h.at_
  have hcne : X.c ≠ w.heap.size := by omega
  have htne : tb ≠ w.heap.size := by omega
  obtain ⟨P, hP⟩ : ∃ P, P = Touched w B S X { m with cells := m.cells, regs := m.regs.set k ((m.regs.getD k []).set a 0) } ((m.steps : Int), (k : Int), 9, (q : Int), m.cells.getD q 0, (m.cells.getD q 0)) := ⟨_, rfl⟩
  rw [← hP]
  have ca := hR a ha
  have fa := hF (k * 11 + 3 + a)
  have ha0 : (0 : Int) ≤ (a : Int) := by omega
  have ha8 : (a : Int) < 8 := by omega
  have cc := hR c hc
  have fc := hF (k * 11 + 3 + c)
  have hc0 : (0 : Int) ≤ (c : Int) := by omega
  have hc8 : (c : Int) < 8 := by omega
  have cd := hR d hd
  have fd := hF (k * 11 + 3 + d)
  have hd0 : (0 : Int) ≤ (d : Int) := by omega
  have hd8 : (d : Int) < 8 := by omega
  have HST := Lib.hid (fun w' (hg : w.grownBy w' none) => (swap_no (h.grow hg).mem hq ((m.regs.getD k []).getD c 0) ((m.regs.getD k []).getD d 0) he0).mono (R' := fun e w'' => e = .returned (.tuple #[.bool false, .nilIface]) ∧ MemDone w w' w'' B S X m m.cells tb k) fun e w'' ⟨he, hw⟩ => ⟨he, by subst hw; exact memDone h hg hk htv (h.grow hg).mem (World.grownBy.refl _ _)⟩)
  have HQS := Lib.hid (show q < m.cells.length ∧ m.cells.getD q 0 = m.cells.getD q 0 from ⟨hq, rfl⟩)
  have HMV := Lib.hid (fun g (e : X.mv.ownBlock = some g) => (h.mem.own.lt g e).2)
  have HA8 := Lib.hid (And.intro ha (And.intro hc hd))
  have HSR := Lib.hid (fun w'' (h1 : Core w'' B S X { m with cells := m.cells }) => h1.setReg hlr hk hr8 htv a ha 0)
  have HS0 := Lib.hid (fun w'' (h1 : Core w'' B S X { m with cells := m.cells }) => by
    have h2 := h1.setReg hlr hk hr8 htv a ha 0
    have h3 := h2.1.setReg (by simpa using hlr) hk (by dsimp only; rw [getD_set_eq _ _ _ _ (by omega), List.length_set]; exact hr8) htv a ha 0
    dsimp only at h3
    rw [getD_set_eq _ _ _ _ (by omega), List.set_set, List.set_set] at h3
    exact And.intro h3.1 (h2.2.trans h3.2))
  have htc : tb ≠ X.c := fun e => by
    obtain ⟨xs, ho, -⟩ := h.thr
    rw [htv] at ho
    obtain ⟨c, fz, hc⟩ := Lib.ownsRow_kind ho tb rfl
    rw [e, h.at_] at hc
    injection hc with hc
    injection hc with _ ht _
    exact absurd ht (by decide)
  clear he0
  have HBZ := Lib.hid hB
  have HXA := Lib.hid (show X.av.ownBlock ≠ some w.heap.size from fun e => Nat.lt_irrefl _ (h.acts.lt _ e).2)
  have HSM := Lib.hid hsm
  generalize hold : m.cells.getD q 0 = old at *
  have EOLD := Lib.hid hold
  generalize ea : (m.regs.getD k []).getD a 0 = ra at *
  have Ea := Lib.hid ea
  clear ea
  generalize ec : (m.regs.getD k []).getD c 0 = rc at *
  have Ec := Lib.hid ec
  clear ec
  generalize ed : (m.regs.getD k []).getD d 0 = rd at *
  have Ed := Lib.hid ed
  clear ed
  have HP := Lib.hid hP
  obtain ⟨n, hn⟩ : ∃ n, m.progs.length = n := ⟨_, rfl⟩
  rw [hn] at c2 hkn
  clear h hR hF c3 c4 c5 c1 hP hold hB hsm hq hk hlr hr8 hn htv
  unfold insV
  go_enter Tryd.func52, Tryd.ntmps52
  go_wp2_with fail
  refine (HL.out _ (World.grownBy_alloc _ _ none)).mono ?_
  rintro e w1 ⟨rfl, rfl⟩
  have HXB := Lib.hid (show (w.alloc (.cells #[.int .i64 9, .int .i64 a, .int .i64 b, .int .i64 c, .int .i64 d] 48)).drew.heap[w.heap.size]? = some (.cells #[.int .i64 9, .int .i64 a, .int .i64 b, .int .i64 c, .int .i64 d] 48 (0, 0)) from heap_alloc_new w _)
  have HC0 := Lib.hid (show (w.alloc (.cells #[.int .i64 9, .int .i64 a, .int .i64 b, .int .i64 c, .int .i64 d] 48)).drew.cell? ⟨X.c, 0, none⟩ = some (.pointer (some ⟨X.mb, 0, none⟩)) from (World.cell?_alloc_lt w _ ⟨X.c, 0, none⟩ hcl).trans c0)
  have HRC := Lib.hid (show (w.alloc (.cells #[.int .i64 9, .int .i64 a, .int .i64 b, .int .i64 c, .int .i64 d] 48)).drew.cell? ⟨tb, k * 11 + 3 + c, none⟩ = some (.int .u64 rc) from (World.cell?_alloc_lt w _ ⟨tb, k * 11 + 3 + c, none⟩ htb).trans cc)
  have HRD := Lib.hid (show (w.alloc (.cells #[.int .i64 9, .int .i64 a, .int .i64 b, .int .i64 c, .int .i64 d] 48)).drew.cell? ⟨tb, k * 11 + 3 + d, none⟩ = some (.int .u64 rd) from (World.cell?_alloc_lt w _ ⟨tb, k * 11 + 3 + d, none⟩ htb).trans cd)
  have HTC := Lib.hid htc
  have HTN := Lib.hid htne
  have HTB := Lib.hid htb
  go_wp2
  have y0 := HC0.out
  obtain ⟨-, -, -, y3, y4⟩ := ins_cell (x := (9, (a : Int), b, (c : Int), (d : Int))) HXB.out
  have y5 := HRC.out
  have y6 := HRD.out
  go_region_held3 (fun u => u.cell? ⟨X.c, 0, none⟩ = some (.pointer (some ⟨X.mb, 0, none⟩)) ∧ u.cell? ⟨w.heap.size, 3, none⟩ = some (.int .i64 c) ∧ u.cell? ⟨w.heap.size, 4, none⟩ = some (.int .i64 d) ∧ u.cell? ⟨tb, k * 11 + 3 + c, none⟩ = some (.int .u64 rc) ∧ u.cell? ⟨tb, k * 11 + 3 + d, none⟩ = some (.int .u64 rd)) (first | exact ⟨y0, y3, y4, y5, y6⟩ | exact ⟨z0, z3, z4, z5, z6⟩) (first
    | (go_at_call 65; refine (HST.out _ (grown_d (World.grownBy_alloc _ _ none))).mono ?_; rintro e w3 ⟨rfl, hd3⟩; have HD3 := Lib.hid hd3; have HB3 := Lib.hid (hd3.block HXB.out HMV.out); have z0 := hd3.c0; have z3 := (ins_cell (x := (9, (a : Int), b, (c : Int), (d : Int))) HB3.out).2.2.2.1; have z4 := (ins_cell (x := (9, (a : Int), b, (c : Int), (d : Int))) HB3.out).2.2.2.2; have z5 := (hd3.regs c HA8.out.2.1).trans (by rw [Ec.out]); have z6 := (hd3.regs d HA8.out.2.2).trans (by rw [Ed.out]); clear hd3))
  have z1 := (ins_cell (x := (9, (a : Int), b, (c : Int), (d : Int))) HB3.out).2.1
  have z7 := HD3.out.regs a HA8.out.1
  have z8 := HD3.out.loose (k * 11 + 3 + a)
  have hxn : tb ≠ w.heap.size := HTN.out
  clear y0 y3 y4 y5 y6 z3 z4 z5 z6
  go_wp2
  go_region
  go_wp2_with fail
  obtain ⟨W, hW⟩ : ∃ W, W = (w3.setCell ⟨tb, k * 11 + 3 + a, none⟩ (.int .u64 0)).drew := ⟨_, rfl⟩
  have HX := Lib.hid (show W.cell? ⟨w.heap.size, 0, none⟩ = some (.int .i64 9) from by
    rw [hW]
    exact (World.cell?_setCell_far _ ⟨tb, k * 11 + 3 + a, none⟩ ⟨w.heap.size, 0, none⟩ _ HTN.out).trans ((ins_cell (x := (9, (a : Int), b, (c : Int), (d : Int))) HB3.out).1))
  have hG : (w3.setCell ⟨tb, k * 11 + 3 + a, none⟩ (.int .u64 0)).grownBy W none := by
    rw [hW]
    exact grown_drew _
  have HC := Lib.hid ((HSR.out _ HD3.out.core).1.grow hG)
  have HK := Lib.hid ((HD3.out.keeps.trans (HSR.out _ HD3.out.core).2).trans (Keeps.of_grown hG (by intro k hk; cases hk)))
  rw [← hW]
  clear hW hG
  obtain ⟨c0', -⟩ := HC.out.cells
  refine (load_in HC.out.mem HQS.out.1).mono ?_
  rintro e w4 ⟨rfl, rfl⟩
  rw [EOLD.out]
  clear c0 c2
  go_wp2
  rw [HP.out]
  exact touch_last HC.out HK.out HBZ.out HSM.out k q _ _ _ _ HXA.out HX.out _ rfl

end Go.Proofs.YtkmidefgmefohaaDoor
