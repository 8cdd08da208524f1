/-
  A machine of package core in memory: which blocks it has, what they hold; what leaves it as it is. A machine that is only asked: under, ready, Can, Steps, At. What a machine tells: its acts, its events, its cells: rows of the caller's own. Ends: whether all threads are at their ends; whether none can go on.
-/
import Derived.Test.YtkmidefgmefohaaDoorLotH
import Derived.Test.YtkmidefgmefohaaDoorMakeO
import Derived.Test.YtkmidefgmefohaaDoorCWritten
import Derived.Test.YtkmidefgmefohaaDoorKLaws
import Derived.OwnWalk
import Derived.Deep.RegionHeld3
namespace Go.Proofs.YtkmidefgmefohaaDoor
set_option maxRecDepth 100000
open Go.RowKit Go.Shelf Go.Sort

def actC (a : Act6) : List Value := [.int .i64 a.1, .int .i64 a.2.1, .int .i64 a.2.2.1, .int .i64 a.2.2.2.1, .int .u64 a.2.2.2.2.1, .int .u64 a.2.2.2.2.2]
def evC (a : Ev4) : List Value := [.int .i64 a.1, .int .i64 a.2.1, .int .i64 a.2.2.1, .int .i64 a.2.2.2]
def cellsA (l : List Act6) : List Value := l.flatMap actC
def cellsE (l : List Ev4) : List Value := l.flatMap evC

theorem cellsA_append (l r : List Act6) : cellsA (l ++ r) = cellsA l ++ cellsA r := by simp [cellsA]
theorem cellsE_append (l r : List Ev4) : cellsE (l ++ r) = cellsE l ++ cellsE r := by simp [cellsE]
theorem cellsA_one (a : Act6) : cellsA [a] = actC a := by simp [cellsA]
theorem cellsE_one (a : Ev4) : cellsE [a] = evC a := by simp [cellsE]

/-- What the cells of thread k are. -/
structure ThrAt (xs : List Value) (k : Nat) (v : Value) (at_ : Int) (e : Bool) (r : List Int) : Prop where
  prog : xs[k * 11]? = some v
  at_ : ∃ z, xs[k * 11 + 1]? = some (.int .i64 z) ∧ (e = false → z = at_)
  ended : xs[k * 11 + 2]? = some (.bool e)
  regs : ∀ j, j < 8 → xs[k * 11 + 3 + j]? = some (.int .u64 (r.getD j 0))

/-- The blocks of a machine. -/
structure KB where
  c : Nat
  mb : Nat
  lb : Nat
  mv : Value
  lv : Value
  tv : Value
  av : Value
  ev : Value
  pv : Nat → Value

def coreC (X : KB) (s : Nat) : Array Value := #[.pointer (some ⟨X.mb, 0, none⟩), .pointer (some ⟨X.lb, 0, none⟩), X.tv, X.av, X.ev, .int .i64 (s : Int)]

structure Core (w : World) (B : Nat) (S : Nat → Prop) (X : KB) (m : Mach) : Prop where
  at_ : w.heap[X.c]? = some (.cells (coreC X m.steps) 80 (0, 0))
  mem : Mem w B X.mb X.mv m.cells
  lot : Lot w B X.lb (m.progs.length : Int) X.lv m.lot
  thr : ∃ xs, w.ownsRow B 77 11 X.tv m.progs.length xs ∧ ∀ k, k < m.progs.length → ThrAt xs k (X.pv k) (m.at_.getD k 0) (m.ended.getD k false) (m.regs.getD k [])
  prog : ∀ k, k < m.progs.length → w.ownsRow B 48 5 (X.pv k) (m.progs.getD k []).length (cells5 (m.progs.getD k []))
  acts : w.ownsRow B 137 6 X.av m.acts.length (cellsA m.acts)
  events : w.ownsRow B 44 4 X.ev m.events.length (cellsE m.events)
  sc : S X.c
  sm : S X.mb
  sl : S X.lb
  sv : ∀ v, v = X.mv ∨ v = X.lv ∨ v = X.tv ∨ v = X.av ∨ v = X.ev → ∀ g, v.ownBlock = some g → S g
  sp : ∀ k, k < m.progs.length → ∀ g, (X.pv k).ownBlock = some g → S g
  slo : ∀ k, S k → B ≤ k ∧ k < w.heap.size

/-- Of what types the blocks are that may change. -/
def Tagged (w : World) (T : Nat → Prop) (ts : List TypeId) : Prop := ∀ k, T k → ∀ cur t f, w.heap[k]? = some (.cells cur t f) → t ∈ ts

theorem own_tags {T : Nat → Prop} {w w' : World} {B e sz n : Nat} {v : Value} {xs : List Value} {ts : List TypeId} (h : w.ownsRow B e sz v n xs) (hk : Keeps T w w') (ht : Tagged w T ts) (he : e ∉ ts) : w'.ownsRow B e sz v n xs := by
  refine ⟨h.1, ?_⟩
  rcases h.2 with hn | ⟨g, cap, cur, rfl, hb, hg, rest⟩
  · exact .inl hn
  · exact .inr ⟨g, cap, cur, rfl, hb, (hk.block g (lt_of_block hg) (fun hT => he (ht g hT _ _ _ hg))).trans hg, rest⟩
theorem own_keeps {S : Nat → Prop} {w w' : World} {B e sz n : Nat} {v : Value} {xs : List Value} (h : w.ownsRow B e sz v n xs) (hk : Keeps S w w') (hS : ∀ g, v.ownBlock = some g → ¬ S g) : w'.ownsRow B e sz v n xs := by
  refine ⟨h.1, ?_⟩
  rcases h.2 with hn | ⟨g, cap, cur, rfl, hb, hg, rest⟩
  · exact .inl hn
  · exact .inr ⟨g, cap, cur, rfl, hb, (hk.block g (lt_of_block hg) (hS g rfl)).trans hg, rest⟩
theorem block_tags {T : Nat → Prop} {w w' : World} {g : Nat} {cur : Array Value} {t : TypeId} {f : Nat × Nat} {ts : List TypeId} (h : w.heap[g]? = some (.cells cur t f)) (hk : Keeps T w w') (ht : Tagged w T ts) (he : t ∉ ts) : w'.heap[g]? = some (.cells cur t f) :=
  (hk.block g (lt_of_block h) (fun hT => he (ht g hT _ _ _ h))).trans h

theorem tagged_row {w : World} {B e sz n : Nat} {v : Value} {xs : List Value} (h : w.ownsRow B e sz v n xs) : Tagged w (fun k => some k = v.ownBlock) [e] := by
  intro k hk cur t f hc
  rcases h.2 with ⟨rfl, _⟩ | ⟨g, cap, cur', rfl, _, hg, _⟩
  · simp [Value.ownBlock] at hk
  · simp [Value.ownBlock] at hk
    subst hk
    rw [hg] at hc
    injection hc with hc
    injection hc with _ ht _
    simp [ht]
theorem tagged_block {w : World} {b : Nat} {cur : Array Value} {t : TypeId} {f : Nat × Nat} (h : w.heap[b]? = some (.cells cur t f)) : Tagged w (fun k => k = b) [t] := by
  intro k hk cur' t' f' hc
  subst hk
  rw [h] at hc
  injection hc with hc
  injection hc with _ ht _
  simp [ht]
theorem Tagged.or {w : World} {T U : Nat → Prop} {ts us : List TypeId} (h1 : Tagged w T ts) (h2 : Tagged w U us) : Tagged w (fun k => T k ∨ U k) (ts ++ us) := by
  intro k hk cur t f hc
  rcases hk with hk | hk
  · exact List.mem_append.2 (.inl (h1 k hk _ _ _ hc))
  · exact List.mem_append.2 (.inr (h2 k hk _ _ _ hc))
theorem Tagged.none {w : World} : Tagged w (fun _ => False) [] := fun _ h => h.elim

theorem Mem.tags {T : Nat → Prop} {w w' : World} {ts : List TypeId} {B m : Nat} {v : Value} {xs : List Int} (h : Mem w B m v xs) (hk : Keeps T w w') (ht : Tagged w T ts) (h1 : 94 ∉ ts) (h2 : 50 ∉ ts) : Mem w' B m v xs :=
  ⟨block_tags h.at_ hk ht h1, own_tags h.own hk ht h2, h.lo⟩
theorem Lot.tags {T : Nat → Prop} {w w' : World} {ts : List TypeId} {B p : Nat} {nt : Int} {v : Value} {l : List (Int × Int)} (h : Lot w B p nt v l) (hk : Keeps T w w') (ht : Tagged w T ts) (h1 : 97 ∉ ts) (h2 : 107 ∉ ts) : Lot w' B p nt v l :=
  ⟨block_tags h.at_ hk ht h1, own_tags h.own hk ht h2, h.lo⟩

/-- What changes none of its blocks leaves the machine. -/
theorem Core.keeps {T : Nat → Prop} {w w' : World} {B : Nat} {S : Nat → Prop} {X : KB} {m : Mach} (h : Core w B S X m) (hk : Keeps T w w') (hd : ∀ k, S k → ¬ T k) : Core w' B S X m := by
  obtain ⟨xs, ho, ht⟩ := h.thr
  refine ⟨(hk.block X.c (h.slo _ h.sc).2 (hd _ h.sc)).trans h.at_, ?_, h.lot.keeps hk (hd _ h.sl) (fun g hg => hd _ (h.sv _ (by simp) g hg)), ⟨xs, own_keeps ho hk (fun g hg => hd _ (h.sv _ (by simp) g hg)), ht⟩,
    fun k hlt => own_keeps (h.prog k hlt) hk (fun g hg => hd _ (h.sp k hlt g hg)), own_keeps h.acts hk (fun g hg => hd _ (h.sv _ (by simp) g hg)), own_keeps h.events hk (fun g hg => hd _ (h.sv _ (by simp) g hg)), h.sc, h.sm, h.sl, h.sv, h.sp, fun k hs => ⟨(h.slo k hs).1, Nat.lt_of_lt_of_le (h.slo k hs).2 hk.size⟩⟩
  exact ⟨(hk.block X.mb (h.slo _ h.sm).2 (hd _ h.sm)).trans h.mem.at_, own_keeps h.mem.own hk (fun g hg => hd _ (h.sv _ (by simp) g hg)), h.mem.lo⟩

theorem Core.grow {w w' : World} {B : Nat} {S : Nat → Prop} {X : KB} {m : Mach} (h : Core w B S X m) (hg : w.grownBy w' none) : Core w' B S X m :=
  h.keeps (T := fun _ => False) (Keeps.of_grown hg (by intro k hk; cases hk)) (fun _ _ h => h)
theorem Core.below {w w' : World} {B C : Nat} {S : Nat → Prop} {X : KB} {m : Mach} (h : Core w B S X m) (hb : Below C w w') (hC : w.heap.size ≤ C) : Core w' B S X m :=
  h.keeps (T := fun _ => False) ⟨hb.os, hb.tape, hb.output, hb.size, fun k hk _ => hb.block k (by omega)⟩ (fun _ _ h => h)
theorem Core.drewN {w : World} {B : Nat} {S : Nat → Prop} {X : KB} {m : Mach} (h : Core w B S X m) (q : Nat) : Core (w.drewN q) B S X m :=
  h.keeps (T := fun _ => False) ⟨rfl, rfl, rfl, Nat.le_refl _, fun _ _ _ => rfl⟩ (fun _ _ h => h)

/-- The same blocks, and whatever is new. -/
def wider (S : Nat → Prop) (w w' : World) (k : Nat) : Prop := S k ∨ (w.heap.size ≤ k ∧ k < w'.heap.size)

theorem Core.mono {w : World} {B : Nat} {S S' : Nat → Prop} {X : KB} {m : Mach} (h : Core w B S X m) (hs : ∀ k, S k → S' k) (hlo : ∀ k, S' k → B ≤ k ∧ k < w.heap.size) : Core w B S' X m :=
  ⟨h.at_, h.mem, h.lot, h.thr, h.prog, h.acts, h.events, hs _ h.sc, hs _ h.sm, hs _ h.sl, fun v hv g hg => hs _ (h.sv v hv g hg), fun k hk g hg => hs _ (h.sp k hk g hg), hlo⟩

/-- How a machine is read: its cells. -/
theorem Core.cells {w : World} {B : Nat} {S : Nat → Prop} {X : KB} {m : Mach} (h : Core w B S X m) :
    w.cell? ⟨X.c, 0, none⟩ = some (.pointer (some ⟨X.mb, 0, none⟩)) ∧ w.cell? ⟨X.c, 1, none⟩ = some (.pointer (some ⟨X.lb, 0, none⟩)) ∧ w.cell? ⟨X.c, 2, none⟩ = some X.tv ∧ w.cell? ⟨X.c, 3, none⟩ = some X.av ∧ w.cell? ⟨X.c, 4, none⟩ = some X.ev ∧ w.cell? ⟨X.c, 5, none⟩ = some (.int .i64 (m.steps : Int)) := by
  have e : ∀ j, w.cell? ⟨X.c, j, none⟩ = (coreC X m.steps)[j]? := fun j => cell_of_row w X.c j _ _ _ h.at_
  simp only [e]
  exact ⟨rfl, rfl, rfl, rfl, rfl, rfl⟩
theorem Core.loose {w : World} {B : Nat} {S : Nat → Prop} {X : KB} {m : Mach} (h : Core w B S X m) (j : Nat) : w.frozen? ⟨X.c, j, none⟩ = false := frozen_of_row w X.c j _ _ h.at_

/-- The threads' slice. -/
theorem Core.tform {w : World} {B : Nat} {S : Nat → Prop} {X : KB} {m : Mach} (h : Core w B S X m) (hn : 0 < m.progs.length) : ∃ tb cap, X.tv = .slice (some ⟨tb, 0, none⟩) m.progs.length cap ∧ B ≤ tb ∧ tb < w.heap.size := by
  obtain ⟨xs, ho, _⟩ := h.thr
  obtain ⟨g, cap, e, h1, h2⟩ := ho.form hn
  exact ⟨g, cap, e, h1, h2⟩
theorem Core.tslice {w : World} {B : Nat} {S : Nat → Prop} {X : KB} {m : Mach} (h : Core w B S X m) : ∃ A c, X.tv = .slice A m.progs.length c := by
  obtain ⟨xs, ho, _⟩ := h.thr
  exact own_form ho

/-- A thread's cells. -/
theorem Core.thread {w : World} {B : Nat} {S : Nat → Prop} {X : KB} {m : Mach} (h : Core w B S X m) {k : Nat} (hk : k < m.progs.length) {tb cap : Nat} (e : X.tv = .slice (some ⟨tb, 0, none⟩) m.progs.length cap) :
    w.cell? ⟨tb, k * 11, none⟩ = some (X.pv k) ∧ (∃ z, w.cell? ⟨tb, k * 11 + 1, none⟩ = some (.int .i64 z) ∧ (m.ended.getD k false = false → z = m.at_.getD k 0)) ∧ w.cell? ⟨tb, k * 11 + 2, none⟩ = some (.bool (m.ended.getD k false)) ∧
    (∀ j, j < 8 → w.cell? ⟨tb, k * 11 + 3 + j, none⟩ = some (.int .u64 ((m.regs.getD k []).getD j 0))) ∧ ∀ i, w.frozen? ⟨tb, i, none⟩ = false := by
  obtain ⟨xs, ho, ht⟩ := h.thr
  rw [e] at ho
  have t := ht k hk
  obtain ⟨z, hz, hz2⟩ := t.at_
  exact ⟨(ho.cellAt _ (by omega)).trans t.prog, ⟨z, (ho.cellAt _ (by omega)).trans hz, hz2⟩, (ho.cellAt _ (by omega)).trans t.ended, fun j hj => (ho.cellAt _ (by omega)).trans (t.regs j hj), fun i => ho.frozenAt i⟩

/-- The instruction at which a thread is. -/
theorem Core.ins {w : World} {B : Nat} {S : Nat → Prop} {X : KB} {m : Mach} (h : Core w B S X m) {k : Nat} (hk : k < m.progs.length) {i : Nat} (hi : i < (m.progs.getD k []).length) :
    ∃ g cap, X.pv k = .slice (some ⟨g, 0, none⟩) (m.progs.getD k []).length cap ∧ g < w.heap.size ∧ w.cell? ⟨g, i * 5, none⟩ = some (.int .i64 ((m.progs.getD k []).getD i default).1) ∧ w.cell? ⟨g, i * 5 + 1, none⟩ = some (.int .i64 ((m.progs.getD k []).getD i default).2.1) ∧ w.cell? ⟨g, i * 5 + 2, none⟩ = some (.int .i64 ((m.progs.getD k []).getD i default).2.2.1) ∧ w.cell? ⟨g, i * 5 + 3, none⟩ = some (.int .i64 ((m.progs.getD k []).getD i default).2.2.2.1) ∧ w.cell? ⟨g, i * 5 + 4, none⟩ = some (.int .i64 ((m.progs.getD k []).getD i default).2.2.2.2) := by
  have ho := h.prog k hk
  obtain ⟨g, cap, e, _, h2⟩ := ho.form (by omega)
  have hl5 := cells5_len (m.progs.getD k [])
  obtain ⟨h1, h2', h3, h4, h5⟩ := cells5_at (m.progs.getD k []) i hi
  rw [e] at ho
  exact ⟨g, cap, e, h2, (ho.cellAt _ (by omega)).trans h1, (ho.cellAt _ (by omega)).trans h2', (ho.cellAt _ (by omega)).trans h3, (ho.cellAt _ (by omega)).trans h4, (ho.cellAt _ (by omega)).trans h5⟩
end Go.Proofs.YtkmidefgmefohaaDoor

namespace Go.Proofs.YtkmidefgmefohaaDoor
set_option maxRecDepth 100000
open Go.RowKit Go.Shelf Go.Sort

/-- An error: none, or an Errno. -/
def errV (n : Nat) : Value := if n = 0 then .nilIface else .iface 26 (.int .i64 (n : Int))
def underE (m : Mach) (t : Int) : Nat := if t < 0 ∨ (m.progs.length : Int) ≤ t then 2 else if m.ended.getD t.toNat false = true then 6 else 0
def readyE (m : Mach) (t : Int) : Nat := if t < 0 ∨ (m.progs.length : Int) ≤ t then 2 else if m.ended.getD t.toNat false = true then 6 else if 0 ≤ cellM m t then 8 else 0

theorem under_any {w : World} {B : Nat} {S : Nat → Prop} {X : KB} {m : Mach} (h : Core w B S X m) (t : Int) :
    Calls Tryd.prog 44 #[.pointer (some ⟨X.c, 0, none⟩), .int .i64 t] w fun e w' => e = .returned (errV (underE m t)) ∧ w = w' := by
  obtain ⟨_, _, c2, _⟩ := h.cells
  by_cases h0 : t < 0
  · have e : underE m t = 2 := by unfold underE; rw [if_pos (.inl h0)]
    rw [e]
    clear h e
    go_enter Tryd.func44, Tryd.ntmps44
    go_wp2
    go_ret
    exact ⟨rfl, rfl⟩
  obtain ⟨A, c, htv⟩ := h.tslice
  by_cases h1 : (m.progs.length : Int) ≤ t
  · have e : underE m t = 2 := by unfold underE; rw [if_pos (.inr h1)]
    rw [e]
    rw [htv] at c2
    clear h e htv
    generalize m.progs.length = n at *
    go_enter Tryd.func44, Tryd.ntmps44
    go_wp2
    go_ret
    exact ⟨rfl, rfl⟩
  obtain ⟨k, rfl⟩ : ∃ k : Nat, t = k := ⟨t.toNat, by omega⟩
  have hk : k < m.progs.length := by omega
  obtain ⟨tb, cap, htv2, _, _⟩ := h.tform (by omega)
  obtain ⟨_, _, he, _, _⟩ := h.thread hk htv2
  rw [htv2] at c2
  have e : underE m k = if m.ended.getD k false = true then 6 else 0 := by unfold underE; rw [if_neg (by omega), Int.toNat_natCast]
  rw [e]
  clear e h htv htv2
  generalize m.progs.length = n at *
  generalize m.ended.getD k false = b at *
  cases b with
  | true =>
    rw [if_pos rfl]
    go_enter Tryd.func44, Tryd.ntmps44
    go_wp2
    go_ret
    exact ⟨rfl, rfl⟩
  | false =>
    rw [if_neg (by decide)]
    go_enter Tryd.func44, Tryd.ntmps44
    go_wp2
    go_ret
    exact ⟨rfl, rfl⟩

theorem errV_zero : errV 0 = .nilIface := rfl
theorem errV_pos {n : Nat} (h : n ≠ 0) : errV n = .iface 26 (.int .i64 (n : Int)) := by unfold errV; rw [if_neg h]

theorem ready_of_under {m : Mach} {t : Int} (h : underE m t ≠ 0) : readyE m t = underE m t := by
  unfold underE readyE at *
  split at h
  · rename_i hc; rw [if_pos hc, if_pos hc]
  · rename_i hc
    rw [if_neg hc, if_neg hc]
    split at h
    · rename_i hd; rw [if_pos hd, if_pos hd]
    · exact absurd rfl h
theorem ready_of_awake {m : Mach} {t : Int} (h : underE m t = 0) : readyE m t = if 0 ≤ cellM m t then 8 else 0 := by
  unfold underE readyE at *
  split at h
  · exact absurd h (by decide)
  · rename_i hc
    rw [if_neg hc]
    split at h
    · exact absurd h (by decide)
    · rename_i hd; rw [if_neg hd]

set_option maxHeartbeats 1000000 in
theorem ready_any {w : World} {B : Nat} {S : Nat → Prop} {X : KB} {m : Mach} (h : Core w B S X m) (t : Int) :
    Calls Tryd.prog 37 #[.pointer (some ⟨X.c, 0, none⟩), .int .i64 t] w fun e w' => e = .returned (errV (readyE m t)) ∧ w.grownBy w' none := by
  have HU := Lib.hid (under_any h t)
  have HC := Lib.hid (cell_any h.lot t)
  obtain ⟨_, c1, _⟩ := h.cells
  by_cases hu : underE m t = 0
  · rw [ready_of_awake hu]
    rw [hu, errV_zero] at HU
    have hcm : cellOf m.lot t = cellM m t := rfl
    rw [hcm] at HC
    generalize cellM m t = cm at *
    clear h hu hcm
    by_cases h0 : 0 ≤ cm
    · rw [if_pos h0]
      go_enter Tryd.func37, Tryd.ntmps37
      go_wp2_with fail
      refine HU.out.mono ?_
      rintro e w1 ⟨rfl, rfl⟩
      go_wp2_with fail
      refine HC.out.mono ?_
      rintro e w1 ⟨rfl, hg⟩
      have HG := Lib.hid hg
      clear HC HU hg c1
      go_wp2
      go_ret
      exact ⟨rfl, HG.out⟩
    · rw [if_neg h0]
      go_enter Tryd.func37, Tryd.ntmps37
      go_wp2_with fail
      refine HU.out.mono ?_
      rintro e w1 ⟨rfl, rfl⟩
      go_wp2_with fail
      refine HC.out.mono ?_
      rintro e w1 ⟨rfl, hg⟩
      have HG := Lib.hid hg
      clear HC HU hg c1
      go_wp2
      go_ret
      exact ⟨rfl, HG.out⟩
  · rw [ready_of_under hu]
    have he := errV_pos hu
    rw [he] at HU ⊢
    generalize (underE m t : Int) = z at *
    clear h hu he HC
    go_enter Tryd.func37, Tryd.ntmps37
    go_wp2_with fail
    refine HU.out.mono ?_
    rintro e w1 ⟨rfl, rfl⟩
    go_wp2
    go_ret
    exact ⟨rfl, World.grownBy.refl _ _⟩

theorem can_any {w : World} {B : Nat} {S : Nat → Prop} {X : KB} {m : Mach} (h : Core w B S X m) (t : Int) :
    Calls Tryd.prog 39 #[.pointer (some ⟨X.c, 0, none⟩), .int .i64 t] w fun e w' => e = .returned (.bool (readyE m t == 0)) ∧ w.grownBy w' none := by
  have HR := Lib.hid (ready_any h t)
  clear h
  by_cases hu : readyE m t = 0
  · rw [hu, errV_zero] at HR
    rw [show (readyE m t == 0) = true by rw [hu]; rfl]
    clear hu
    go_enter Tryd.func39, Tryd.ntmps39
    go_wp2_with fail
    refine HR.out.mono ?_
    rintro e w1 ⟨rfl, hg⟩
    have HG := Lib.hid hg
    clear HR hg
    go_wp2
    go_ret
    exact ⟨rfl, HG.out⟩
  · have he := errV_pos hu
    have hb : (readyE m t == 0) = false := by simpa using hu
    rw [he] at HR
    rw [hb]
    generalize (readyE m t : Int) = z at *
    clear hu he hb
    go_enter Tryd.func39, Tryd.ntmps39
    go_wp2_with fail
    refine HR.out.mono ?_
    rintro e w1 ⟨rfl, hg⟩
    have HG := Lib.hid hg
    clear HR hg
    go_wp2
    go_ret
    exact ⟨rfl, HG.out⟩

theorem steps_any {w : World} {B : Nat} {S : Nat → Prop} {X : KB} {m : Mach} (h : Core w B S X m) :
    Calls Tryd.prog 31 #[.pointer (some ⟨X.c, 0, none⟩)] w fun e w' => e = .returned (.int .i64 (m.steps : Int)) ∧ w = w' := by
  obtain ⟨_, _, _, _, _, c5⟩ := h.cells
  clear h
  go_enter Tryd.func31, Tryd.ntmps31
  go_wp2
  go_ret
  exact ⟨rfl, rfl⟩

/-- What At tells: where a thread is, at which cell it sleeps, and what is wrong. -/
def atM (m : Mach) (t : Int) : Int × Int × Nat := if underE m t = 0 then (m.at_.getD t.toNat 0, cellM m t, 0) else (0, 0, underE m t)

theorem kat_any {w : World} {B : Nat} {S : Nat → Prop} {X : KB} {m : Mach} (h : Core w B S X m) (t : Int) :
    Calls Tryd.prog 28 #[.pointer (some ⟨X.c, 0, none⟩), .int .i64 t] w fun e w' => e = .returned (.tuple #[.int .i64 (atM m t).1, .int .i64 (atM m t).2.1, errV (atM m t).2.2]) ∧ w.grownBy w' none := by
  have HU := Lib.hid (under_any h t)
  have HC := Lib.hid (fun w' (hg : w.grownBy w' none) => cell_any (h.grow hg).lot t)
  obtain ⟨_, c1, c2, _⟩ := h.cells
  by_cases hu : underE m t = 0
  · have ha : atM m t = (m.at_.getD t.toNat 0, cellM m t, 0) := by unfold atM; rw [if_pos hu]
    rw [ha]
    rw [hu, errV_zero] at HU
    have hin : 0 ≤ t ∧ t < m.progs.length ∧ m.ended.getD t.toNat false = false := by
      unfold underE at hu
      split at hu
      · exact absurd hu (by decide)
      · split at hu
        · exact absurd hu (by decide)
        · rename_i hh; exact ⟨by omega, by omega, by simpa only [Bool.not_eq_true] using hh⟩
    obtain ⟨k, rfl⟩ : ∃ k : Nat, t = k := ⟨t.toNat, by omega⟩
    rw [Int.toNat_natCast] at *
    have hk : k < m.progs.length := by omega
    obtain ⟨tb, cap, htv, _, htb⟩ := h.tform (by omega)
    obtain ⟨_, ⟨z, hz, hz2⟩, _⟩ := h.thread hk htv
    obtain rfl := hz2 hin.2.2
    rw [htv] at c2
    have hcm : cellOf m.lot k = cellM m k := rfl
    rw [hcm] at HC
    have HK := Lib.hid (fun w' (hg : w.grownBy w' none) => (World.cell?_of_block (a := ⟨tb, k * 11 + 1, none⟩) (hg.block tb htb (by simp))).trans hz)
    have HX := Lib.hid (fun w' (hg : w.grownBy w' none) => (World.cell?_of_block (a := ⟨X.c, 2, none⟩) (hg.block X.c (lt_of_block h.at_) (by simp))).trans c2)
    have HY := Lib.hid (fun w' (hg : w.grownBy w' none) => (World.cell?_of_block (a := ⟨X.c, 1, none⟩) (hg.block X.c (lt_of_block h.at_) (by simp))).trans c1)
    dsimp only [errV_zero]
    generalize cellM m k = cm at *
    generalize m.at_.getD k 0 = z at *
    clear h hu hcm ha htv hin
    generalize m.progs.length = n at *
    go_enter Tryd.func28, Tryd.ntmps28
    go_wp2_with fail
    refine HU.out.mono ?_
    rintro e w1 ⟨rfl, rfl⟩
    go_wp2_with fail
    have HG0 := Lib.hid (show w.grownBy w.drew none from ⟨rfl, rfl, rfl, Nat.le_refl _, fun _ _ _ => rfl⟩)
    have HCD := Lib.hid (HC.out w.drew HG0.out)
    have y1 := HX.out _ HG0.out
    have y2 := HY.out _ HG0.out
    have y3 := HK.out _ HG0.out
    clear c1 c2 hz hz2 HU HC
    go_region_held3 (fun u => u.cell? ⟨X.c, 2, none⟩ = some (.slice (some ⟨tb, 0, none⟩) n cap) ∧ u.cell? ⟨X.c, 1, none⟩ = some (.pointer (some ⟨X.lb, 0, none⟩)) ∧ u.cell? ⟨tb, k * 11 + 1, none⟩ = some (.int .i64 z)) (first | exact ⟨y1, y2, y3⟩ | exact ⟨z1, z2, z3⟩) (first | (go_at_call 45; refine HCD.out.mono ?_; rintro e w3 ⟨rfl, hg3⟩; have HG3 := Lib.hid (HG0.out.andThen hg3 (by intro j hj; cases hj)); have z1 := HX.out _ HG3.out; have z2 := HY.out _ HG3.out; have z3 := HK.out _ HG3.out))
    go_wp2
    go_ret3
    exact ⟨rfl, HG3.out⟩
  · have ha : atM m t = (0, 0, underE m t) := by unfold atM; rw [if_neg hu]
    rw [ha]
    have he := errV_pos hu
    dsimp only
    rw [he] at HU ⊢
    generalize (underE m t : Int) = z at *
    clear h hu he HC ha
    go_enter Tryd.func28, Tryd.ntmps28
    go_wp2_with fail
    refine HU.out.mono ?_
    rintro e w1 ⟨rfl, rfl⟩
    go_wp2
    go_ret3
    exact ⟨rfl, World.grownBy.refl _ _⟩
end Go.Proofs.YtkmidefgmefohaaDoor

namespace Go.Proofs.YtkmidefgmefohaaDoor
set_option maxRecDepth 100000
open Go.RowKit Go.Shelf Go.Sort

theorem info_A : (Tryd.prog.info? 137).map (fun i => (i.zero, i.size, i.bytes)) = some (some (Value.agg #[.int .i64 0, .int .i64 0, .int .i64 0, .int .i64 0, .int .u64 0, .int .u64 0]), 6, 48) := by kernel_rfl

theorem info_E : (Tryd.prog.info? 44).map (fun i => (i.zero, i.size, i.bytes)) = some (some (Value.agg #[.int .i64 0, .int .i64 0, .int .i64 0, .int .i64 0]), 4, 32) := by kernel_rfl

set_option maxHeartbeats 1000000 in
theorem cloneE_any {w : World} {B : Nat} {v : Value} {n : Nat} {xs : List Value} (h : w.ownsRow B 44 4 v n xs) (h1 : ∀ u ∈ xs, u.oneCell' = true) (hn : n ≤ 20000) :
    Calls Tryd.prog 40 #[v] w fun e w' => ∃ v', e = .returned v' ∧ w'.ownsRow w.heap.size 44 4 v' n xs ∧ w.grownBy w' none := by
  have h' := h
  rcases h.2 with ⟨rfl, h0⟩ | ⟨g, cap, cur, rfl, _, _, _⟩
  · subst h0
    have hx : xs = [] := List.eq_nil_of_length_eq_zero (by have := h.1; omega)
    subst hx
    have hq := fun (w : World) => Lib.run_eql_slice_nil (P := Tryd.prog) w 41 44 none 0 0 0 0 Tryd.underlying41
    clear h h'
    go_enter Tryd.func40, Tryd.ntmps40
    go_wp2
    go_ret
    exact ⟨_, rfl, World.ownsRow_nil _ _ _ _, World.grownBy.refl w _⟩
  · have hq := fun (w : World) => Lib.run_eql_slice_nil (P := Tryd.prog) w 41 44 (some ⟨g, 0, none⟩) n cap 0 0 Tryd.underlying41
    have hnews := h.cells (g := g) rfl
    have hl := h.1
    obtain ⟨i0, hi, hz0, hz1, hz2⟩ := info_parts info_E
    have H5 := Lib.hid h1
    clear h h' h1
    go_enter Tryd.func40, Tryd.ntmps40
    have hown0 := World.ownsRow_made (base := w.heap.size) (e := 44) (size := 4) w #[] 0 (Nat.le_refl _) (by decide) rfl
    have hnews' : ∀ j u, xs[j]? = some u → (w.alloc (.cells #[] 44)).cell? ((⟨g, 0, none⟩ : Addr).add j) = some u := fun j u hu => Lib.cell?_alloc_some _ (hnews j u hu)
    have H0 := Lib.hid hown0
    have H1 := Lib.hid hnews'
    have H2 := Lib.hid hl
    clear hown0 hnews' hl hnews
    go_wp2_with (at_builtin; refine wpList_append_own _ rfl (.tmp 5) (.tmp 6) 41 rfl w.heap.size 44 i0 (Value.agg #[.int .i64 0, .int .i64 0, .int .i64 0, .int .i64 0]) 4 32 Tryd.underlying41 hi hz0 hz1 hz2 rfl (by decide) _ 0 [] rfl H0.out ⟨g, 0, none⟩ n cap xs rfl ?c1 H1.out ?c2 ?c3 ?c4 ?c5 ?_)
    case c1 => exact H2.out
    case c2 => exact H5.out
    case c3 => unfold maxLen; omega
    case c4 => omega
    case c5 => simp
    intro v' w1 hown1 hg1 _
    have hg := (World.grownBy_alloc w (.cells #[] 44) none).andThen hg1 (by intro j hj; simp only [Value.ownBlock, Option.some.injEq] at hj; omega)
    have H3 := Lib.hid hown1
    have H4 := Lib.hid hg1
    clear hown1 hg1 H0 H1
    go_wp2
    go_ret
    exact ⟨v', rfl, by simpa using H3.out, hg⟩

theorem oneCellA {l : List Act6} : ∀ u ∈ cellsA l, u.oneCell' = true := by
  intro u hu
  unfold cellsA at hu
  obtain ⟨x, _, hx⟩ := List.mem_flatMap.1 hu
  simp [actC] at hx
  rcases hx with rfl | rfl | rfl | rfl | rfl | rfl <;> rfl
theorem oneCellE {l : List Ev4} : ∀ u ∈ cellsE l, u.oneCell' = true := by
  intro u hu
  unfold cellsE at hu
  obtain ⟨x, _, hx⟩ := List.mem_flatMap.1 hu
  simp [evC] at hx
  rcases hx with rfl | rfl | rfl | rfl <;> rfl


theorem events_any {w : World} {B : Nat} {S : Nat → Prop} {X : KB} {m : Mach} (h : Core w B S X m) (hn : m.events.length ≤ 20000) :
    Calls Tryd.prog 18 #[.pointer (some ⟨X.c, 0, none⟩)] w fun e w' => ∃ v', e = .returned v' ∧ w'.ownsRow w.heap.size 44 4 v' m.events.length (cellsE m.events) ∧ w.grownBy w' none := by
  obtain ⟨_, _, _, _, c4, _⟩ := h.cells
  have H := Lib.hid (cloneE_any h.events oneCellE hn)
  obtain ⟨A, c, hv⟩ := own_form h.events
  rw [hv] at H c4
  clear h hn hv
  generalize m.events.length = n at *
  go_enter Tryd.func18, Tryd.ntmps18
  go_wp2_with fail
  refine H.out.mono ?_
  rintro e w1 ⟨v', rfl, hown, hg⟩
  have H3 := Lib.hid hown
  have H4 := Lib.hid hg
  clear hown hg H c4
  go_wp2
  go_ret
  exact ⟨v', rfl, H3.out, H4.out⟩

theorem kcells_any {w : World} {B : Nat} {S : Nat → Prop} {X : KB} {m : Mach} (h : Core w B S X m) (hn : m.cells.length ≤ 300) :
    Calls Tryd.prog 21 #[.pointer (some ⟨X.c, 0, none⟩)] w fun e w' => ∃ v', e = .returned v' ∧ w'.ownsRow w.heap.size 50 1 v' m.cells.length (m.cells.map (Value.int .u64)) ∧ w.grownBy w' none := by
  obtain ⟨c0, _⟩ := h.cells
  have H := Lib.hid (words_any h.mem (by omega))
  clear h hn
  generalize m.cells.length = n at *
  go_enter Tryd.func21, Tryd.ntmps21
  go_wp2_with fail
  refine H.out.mono ?_
  rintro e w1 ⟨v', rfl, hown, hg⟩
  have H3 := Lib.hid hown
  have H4 := Lib.hid hg
  clear hown hg H c0
  obtain ⟨A, c, hv⟩ := own_form H3.out
  subst hv
  go_wp2
  go_ret
  exact ⟨_, rfl, H3.out, H4.out⟩
end Go.Proofs.YtkmidefgmefohaaDoor

namespace Go.Proofs.YtkmidefgmefohaaDoor
set_option maxRecDepth 100000
open Go.RowKit Go.Shelf Go.Sort

def allTo (m : Mach) (k : Nat) : Bool := (List.range k).all fun i => m.ended.getD i false
def stuckTo (m : Mach) (k : Nat) : Bool := (List.range k).all fun i => !(readyE m (i : Int) == 0)
theorem allTo_succ (m : Mach) (k : Nat) : allTo m (k + 1) = (allTo m k && m.ended.getD k false) := by
  unfold allTo; rw [List.range_succ, List.all_append]; simp
theorem stuckTo_succ (m : Mach) (k : Nat) : stuckTo m (k + 1) = (stuckTo m k && !(readyE m (k : Int) == 0)) := by
  unfold stuckTo; rw [List.range_succ, List.all_append]; simp
def endsM (m : Mach) : Bool × Bool := (allTo m m.progs.length, stuckTo m m.progs.length && !allTo m m.progs.length)

set_option maxHeartbeats 2000000 in
theorem ends_any {w : World} {B : Nat} {S : Nat → Prop} {X : KB} {m : Mach} (h : Core w B S X m) (hn : m.progs.length ≤ 16) :
    Calls Tryd.prog 17 #[.pointer (some ⟨X.c, 0, none⟩)] w fun e w' => e = .returned (.tuple #[.bool (endsM m).1, .bool (endsM m).2]) ∧ w.grownBy w' none := by
  obtain ⟨_, _, c2, _⟩ := h.cells
  obtain ⟨A, c, htv⟩ := h.tslice
  rw [htv] at c2
  have H := Lib.hid h
  have HT := Lib.hid htv
  obtain ⟨n, hnn⟩ : ∃ n, m.progs.length = n := ⟨_, rfl⟩
  have HN := Lib.hid hnn
  rw [hnn] at c2 hn
  obtain ⟨r, hr⟩ : ∃ r, endsM m = r := ⟨_, rfl⟩
  rw [hr]
  have HR := Lib.hid hr
  clear h htv hnn hr
  go_enter Tryd.func17, Tryd.ntmps17
  go_wp2
  clear c2
  go_loopw [2, 3, 10] (fun a b j wr => ∃ k : Nat, k ≤ n ∧ j = .int .i64 k ∧ a = .bool (allTo m k) ∧ b = .bool (stuckTo m k) ∧ w.grownBy wr none) (fun _ _ j _ => n - (intOf j).toNat)
  case atStart => exact ⟨0, Nat.zero_le _, rfl, rfl, rfl, World.grownBy.refl w _⟩
  case round =>
    obtain ⟨k, hk, rfl, rfl, rfl, hg⟩ := hrel
    by_cases hlt : k < n
    · have hkn : (k : Int) < (n : Int) := by omega
      have hC := H.out.grow hg
      have hkp : k < m.progs.length := by rw [HN.out]; exact hlt
      obtain ⟨tb, cap, htv, _, _⟩ := hC.tform (by omega)
      obtain ⟨_, _, d2, _⟩ := hC.cells
      rw [htv, HN.out] at d2
      obtain ⟨_, _, he, _⟩ := hC.thread hkp htv
      have HCAN := Lib.hid (can_any hC k)
      have HA := Lib.hid (allTo_succ m k)
      have HS := Lib.hid (stuckTo_succ m k)
      have HG := Lib.hid hg
      generalize m.ended.getD k false = e at *
      generalize (readyE m (k : Int) == 0) = r at *
      clear hC htv hg hkp
      generalize hqa : allTo m k = qa at *
      generalize hqs : stuckTo m k = qs at *
      clear hqa hqs
      cases qa <;> cases qs
      · have ha : allTo m (k + 1) = false := by rw [HA.out]; simp
        have hs : stuckTo m (k + 1) = false := by rw [HS.out]; simp
        clear HCAN
        go_wp2
        go_roundw
        case rel => exact ⟨k + 1, by omega, by go_num, by rw [ha], by rw [hs], HG.out⟩
        case measure => simp [intOf]; omega
      · have ha : allTo m (k + 1) = false := by rw [HA.out]; simp
        have hs : stuckTo m (k + 1) = !r := by rw [HS.out]; simp
        go_wp2_with fail
        refine HCAN.out.mono ?_
        rintro e w3 ⟨rfl, hg3⟩
        have HG3 := Lib.hid (HG.out.andThen hg3 (by intro j hj; cases hj))
        clear hg3 HCAN
        go_wp2
        go_roundw
        case rel => exact ⟨k + 1, by omega, by go_num, by rw [ha], by rw [hs], HG3.out⟩
        case measure => simp [intOf]; omega
      · have ha : allTo m (k + 1) = e := by rw [HA.out]; simp
        have hs : stuckTo m (k + 1) = false := by rw [HS.out]; simp
        clear HCAN
        go_wp2
        go_roundw
        case rel => exact ⟨k + 1, by omega, by go_num, by rw [ha], by rw [hs], HG.out⟩
        case measure => simp [intOf]; omega
      · have ha : allTo m (k + 1) = e := by rw [HA.out]; simp
        have hs : stuckTo m (k + 1) = !r := by rw [HS.out]; simp
        go_wp2_with fail
        refine HCAN.out.mono ?_
        rintro e w3 ⟨rfl, hg3⟩
        have HG3 := Lib.hid (HG.out.andThen hg3 (by intro j hj; cases hj))
        clear hg3 HCAN
        go_wp2
        go_roundw
        case rel => exact ⟨k + 1, by omega, by go_num, by rw [ha], by rw [hs], HG3.out⟩
        case measure => simp [intOf]; omega
    · obtain rfl : k = n := by omega
      have hkn : ¬ (k : Int) < (k : Int) := by omega
      have he1 : r = (allTo m k, stuckTo m k && !allTo m k) := by rw [← HR.out]; unfold endsM; rw [HN.out]
      have HG := Lib.hid hg
      clear hg HR
      generalize allTo m k = qa at *
      generalize stuckTo m k = qs at *
      subst he1
      cases qa <;> cases qs
      all_goals
        go_wp2
        go_ret2
        exact ⟨rfl, HG.out⟩
end Go.Proofs.YtkmidefgmefohaaDoor
