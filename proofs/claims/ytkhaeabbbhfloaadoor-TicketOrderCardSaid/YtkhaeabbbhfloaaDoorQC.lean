/-
  A machine of package core in memory: which blocks it has, what they hold; what leaves it as it is. A machine that is only asked: under, ready, Can, Steps, At. What a machine tells: its acts, its events, its cells: rows of the caller's own. Ends: whether all threads are at their ends; whether none can go on. A machine that is changed: a step more; a cell of a thread; its memory; its lot; an act or an event more. reckon: what is done to registers alone. turn: on elsewhere, or not.
-/
import Derived.Test.YtkhaeabbbhfloaaDoorQA
import Derived.Test.YtkhaeabbbhfloaaDoorQB
import Derived.Test.YtkhaeabbbhfloaaDoorQB2
import Derived.OwnWalk
import Derived.Deep.RegionHeld3
import Derived.Maps.AppendAt
import Derived.Lib.OwnKind
import Derived.BigRegion
import Derived.Laws.BitsLemmas
namespace Go.Proofs.YtkhaeabbbhfloaaDoor
set_option maxRecDepth 100000
open Go.RowKit Go.Shelf Go.Sort

def actC (a : Act6) : List Value := [.int .i64 a.1, .int .i64 a.2.1, .int .i64 a.2.2.1, .int .i64 a.2.2.2.1, .int .u64 a.2.2.2.2.1, .int .u64 a.2.2.2.2.2]
def evC (a : Ev4) : List Value := [.int .i64 a.1, .int .i64 a.2.1, .int .i64 a.2.2.1, .int .i64 a.2.2.2]
def cellsA (l : List Act6) : List Value := l.flatMap actC
def cellsE (l : List Ev4) : List Value := l.flatMap evC

theorem cellsA_append (l r : List Act6) : cellsA (l ++ r) = cellsA l ++ cellsA r := by simp [cellsA]
theorem cellsE_append (l r : List Ev4) : cellsE (l ++ r) = cellsE l ++ cellsE r := by simp [cellsE]
theorem cellsA_one (a : Act6) : cellsA [a] = actC a := by simp [cellsA]
theorem cellsE_one (a : Ev4) : cellsE [a] = evC a := by simp [cellsE]

/-- What the cells of thread k are. -/
structure ThrAt (xs : List Value) (k : Nat) (v : Value) (at_ : Int) (e : Bool) (r : List Int) : Prop where
  prog : xs[k * 11]? = some v
  at_ : ∃ z, xs[k * 11 + 1]? = some (.int .i64 z) ∧ (e = false → z = at_)
  ended : xs[k * 11 + 2]? = some (.bool e)
  regs : ∀ j, j < 8 → xs[k * 11 + 3 + j]? = some (.int .u64 (r.getD j 0))

/-- The blocks of a machine. -/
structure KB where
  c : Nat
  mb : Nat
  lb : Nat
  mv : Value
  lv : Value
  tv : Value
  av : Value
  ev : Value
  pv : Nat → Value

def coreC (X : KB) (s : Nat) : Array Value := #[.pointer (some ⟨X.mb, 0, none⟩), .pointer (some ⟨X.lb, 0, none⟩), X.tv, X.av, X.ev, .int .i64 (s : Int)]

structure Core (w : World) (B : Nat) (S : Nat → Prop) (X : KB) (m : Mach) : Prop where
  at_ : w.heap[X.c]? = some (.cells (coreC X m.steps) 73 (0, 0))
  mem : Mem w B X.mb X.mv m.cells
  lot : Lot w B X.lb (m.progs.length : Int) X.lv m.lot
  thr : ∃ xs, w.ownsRow B 76 11 X.tv m.progs.length xs ∧ ∀ k, k < m.progs.length → ThrAt xs k (X.pv k) (m.at_.getD k 0) (m.ended.getD k false) (m.regs.getD k [])
  prog : ∀ k, k < m.progs.length → w.ownsRow B 89 5 (X.pv k) (m.progs.getD k []).length (cells5 (m.progs.getD k []))
  acts : w.ownsRow B 36 6 X.av m.acts.length (cellsA m.acts)
  events : w.ownsRow B 79 4 X.ev m.events.length (cellsE m.events)
  sc : S X.c
  sm : S X.mb
  sl : S X.lb
  sv : ∀ v, v = X.mv ∨ v = X.lv ∨ v = X.tv ∨ v = X.av ∨ v = X.ev → ∀ g, v.ownBlock = some g → S g
  sp : ∀ k, k < m.progs.length → ∀ g, (X.pv k).ownBlock = some g → S g
  slo : ∀ k, S k → B ≤ k ∧ k < w.heap.size

/-- Of what types the blocks are that may change. -/
def Tagged (w : World) (T : Nat → Prop) (ts : List TypeId) : Prop := ∀ k, T k → ∀ cur t f, w.heap[k]? = some (.cells cur t f) → t ∈ ts

theorem own_tags {T : Nat → Prop} {w w' : World} {B e sz n : Nat} {v : Value} {xs : List Value} {ts : List TypeId} (h : w.ownsRow B e sz v n xs) (hk : Keeps T w w') (ht : Tagged w T ts) (he : e ∉ ts) : w'.ownsRow B e sz v n xs := by
  refine ⟨h.1, ?_⟩
  rcases h.2 with hn | ⟨g, cap, cur, rfl, hb, hg, rest⟩
  · exact .inl hn
  · exact .inr ⟨g, cap, cur, rfl, hb, (hk.block g (lt_of_block hg) (fun hT => he (ht g hT _ _ _ hg))).trans hg, rest⟩
theorem own_keeps {S : Nat → Prop} {w w' : World} {B e sz n : Nat} {v : Value} {xs : List Value} (h : w.ownsRow B e sz v n xs) (hk : Keeps S w w') (hS : ∀ g, v.ownBlock = some g → ¬ S g) : w'.ownsRow B e sz v n xs := by
  refine ⟨h.1, ?_⟩
  rcases h.2 with hn | ⟨g, cap, cur, rfl, hb, hg, rest⟩
  · exact .inl hn
  · exact .inr ⟨g, cap, cur, rfl, hb, (hk.block g (lt_of_block hg) (hS g rfl)).trans hg, rest⟩
theorem block_tags {T : Nat → Prop} {w w' : World} {g : Nat} {cur : Array Value} {t : TypeId} {f : Nat × Nat} {ts : List TypeId} (h : w.heap[g]? = some (.cells cur t f)) (hk : Keeps T w w') (ht : Tagged w T ts) (he : t ∉ ts) : w'.heap[g]? = some (.cells cur t f) :=
  (hk.block g (lt_of_block h) (fun hT => he (ht g hT _ _ _ h))).trans h

theorem tagged_row {w : World} {B e sz n : Nat} {v : Value} {xs : List Value} (h : w.ownsRow B e sz v n xs) : Tagged w (fun k => some k = v.ownBlock) [e] := by
  intro k hk cur t f hc
  rcases h.2 with ⟨rfl, _⟩ | ⟨g, cap, cur', rfl, _, hg, _⟩
  · simp [Value.ownBlock] at hk
  · simp [Value.ownBlock] at hk
    subst hk
    rw [hg] at hc
    injection hc with hc
    injection hc with _ ht _
    simp [ht]
theorem tagged_block {w : World} {b : Nat} {cur : Array Value} {t : TypeId} {f : Nat × Nat} (h : w.heap[b]? = some (.cells cur t f)) : Tagged w (fun k => k = b) [t] := by
  intro k hk cur' t' f' hc
  subst hk
  rw [h] at hc
  injection hc with hc
  injection hc with _ ht _
  simp [ht]
theorem Tagged.or {w : World} {T U : Nat → Prop} {ts us : List TypeId} (h1 : Tagged w T ts) (h2 : Tagged w U us) : Tagged w (fun k => T k ∨ U k) (ts ++ us) := by
  intro k hk cur t f hc
  rcases hk with hk | hk
  · exact List.mem_append.2 (.inl (h1 k hk _ _ _ hc))
  · exact List.mem_append.2 (.inr (h2 k hk _ _ _ hc))
theorem Tagged.none {w : World} : Tagged w (fun _ => False) [] := fun _ h => h.elim

theorem Mem.tags {T : Nat → Prop} {w w' : World} {ts : List TypeId} {B m : Nat} {v : Value} {xs : List Int} (h : Mem w B m v xs) (hk : Keeps T w w') (ht : Tagged w T ts) (h1 : 95 ∉ ts) (h2 : 30 ∉ ts) : Mem w' B m v xs :=
  ⟨block_tags h.at_ hk ht h1, own_tags h.own hk ht h2, h.lo⟩
theorem Lot.tags {T : Nat → Prop} {w w' : World} {ts : List TypeId} {B p : Nat} {nt : Int} {v : Value} {l : List (Int × Int)} (h : Lot w B p nt v l) (hk : Keeps T w w') (ht : Tagged w T ts) (h1 : 104 ∉ ts) (h2 : 113 ∉ ts) : Lot w' B p nt v l :=
  ⟨block_tags h.at_ hk ht h1, own_tags h.own hk ht h2, h.lo⟩

/-- What changes none of its blocks leaves the machine. -/
theorem Core.keeps {T : Nat → Prop} {w w' : World} {B : Nat} {S : Nat → Prop} {X : KB} {m : Mach} (h : Core w B S X m) (hk : Keeps T w w') (hd : ∀ k, S k → ¬ T k) : Core w' B S X m := by
  obtain ⟨xs, ho, ht⟩ := h.thr
  refine ⟨(hk.block X.c (h.slo _ h.sc).2 (hd _ h.sc)).trans h.at_, ?_, h.lot.keeps hk (hd _ h.sl) (fun g hg => hd _ (h.sv _ (by simp) g hg)), ⟨xs, own_keeps ho hk (fun g hg => hd _ (h.sv _ (by simp) g hg)), ht⟩,
    fun k hlt => own_keeps (h.prog k hlt) hk (fun g hg => hd _ (h.sp k hlt g hg)), own_keeps h.acts hk (fun g hg => hd _ (h.sv _ (by simp) g hg)), own_keeps h.events hk (fun g hg => hd _ (h.sv _ (by simp) g hg)), h.sc, h.sm, h.sl, h.sv, h.sp, fun k hs => ⟨(h.slo k hs).1, Nat.lt_of_lt_of_le (h.slo k hs).2 hk.size⟩⟩
  exact ⟨(hk.block X.mb (h.slo _ h.sm).2 (hd _ h.sm)).trans h.mem.at_, own_keeps h.mem.own hk (fun g hg => hd _ (h.sv _ (by simp) g hg)), h.mem.lo⟩

theorem Core.grow {w w' : World} {B : Nat} {S : Nat → Prop} {X : KB} {m : Mach} (h : Core w B S X m) (hg : w.grownBy w' none) : Core w' B S X m :=
  h.keeps (T := fun _ => False) (Keeps.of_grown hg (by intro k hk; cases hk)) (fun _ _ h => h)
theorem Core.below {w w' : World} {B C : Nat} {S : Nat → Prop} {X : KB} {m : Mach} (h : Core w B S X m) (hb : Below C w w') (hC : w.heap.size ≤ C) : Core w' B S X m :=
  h.keeps (T := fun _ => False) ⟨hb.os, hb.tape, hb.output, hb.size, fun k hk _ => hb.block k (by omega)⟩ (fun _ _ h => h)
theorem Core.drewN {w : World} {B : Nat} {S : Nat → Prop} {X : KB} {m : Mach} (h : Core w B S X m) (q : Nat) : Core (w.drewN q) B S X m :=
  h.keeps (T := fun _ => False) ⟨rfl, rfl, rfl, Nat.le_refl _, fun _ _ _ => rfl⟩ (fun _ _ h => h)

theorem Core.mono {w : World} {B : Nat} {S S' : Nat → Prop} {X : KB} {m : Mach} (h : Core w B S X m) (hs : ∀ k, S k → S' k) (hlo : ∀ k, S' k → B ≤ k ∧ k < w.heap.size) : Core w B S' X m :=
  ⟨h.at_, h.mem, h.lot, h.thr, h.prog, h.acts, h.events, hs _ h.sc, hs _ h.sm, hs _ h.sl, fun v hv g hg => hs _ (h.sv v hv g hg), fun k hk g hg => hs _ (h.sp k hk g hg), hlo⟩

/-- How a machine is read: its cells. -/
theorem Core.cells {w : World} {B : Nat} {S : Nat → Prop} {X : KB} {m : Mach} (h : Core w B S X m) :
    w.cell? ⟨X.c, 0, none⟩ = some (.pointer (some ⟨X.mb, 0, none⟩)) ∧ w.cell? ⟨X.c, 1, none⟩ = some (.pointer (some ⟨X.lb, 0, none⟩)) ∧ w.cell? ⟨X.c, 2, none⟩ = some X.tv ∧ w.cell? ⟨X.c, 3, none⟩ = some X.av ∧ w.cell? ⟨X.c, 4, none⟩ = some X.ev ∧ w.cell? ⟨X.c, 5, none⟩ = some (.int .i64 (m.steps : Int)) := by
  have e : ∀ j, w.cell? ⟨X.c, j, none⟩ = (coreC X m.steps)[j]? := fun j => cell_of_row w X.c j _ _ _ h.at_
  simp only [e]
  exact ⟨rfl, rfl, rfl, rfl, rfl, rfl⟩
theorem Core.loose {w : World} {B : Nat} {S : Nat → Prop} {X : KB} {m : Mach} (h : Core w B S X m) (j : Nat) : w.frozen? ⟨X.c, j, none⟩ = false := frozen_of_row w X.c j _ _ h.at_

/-- The threads' slice. -/
theorem Core.tform {w : World} {B : Nat} {S : Nat → Prop} {X : KB} {m : Mach} (h : Core w B S X m) (hn : 0 < m.progs.length) : ∃ tb cap, X.tv = .slice (some ⟨tb, 0, none⟩) m.progs.length cap ∧ B ≤ tb ∧ tb < w.heap.size := by
  obtain ⟨xs, ho, _⟩ := h.thr
  obtain ⟨g, cap, e, h1, h2⟩ := ho.form hn
  exact ⟨g, cap, e, h1, h2⟩
theorem Core.tslice {w : World} {B : Nat} {S : Nat → Prop} {X : KB} {m : Mach} (h : Core w B S X m) : ∃ A c, X.tv = .slice A m.progs.length c := by
  obtain ⟨xs, ho, _⟩ := h.thr
  exact own_form ho

/-- A thread's cells. -/
theorem Core.thread {w : World} {B : Nat} {S : Nat → Prop} {X : KB} {m : Mach} (h : Core w B S X m) {k : Nat} (hk : k < m.progs.length) {tb cap : Nat} (e : X.tv = .slice (some ⟨tb, 0, none⟩) m.progs.length cap) :
    w.cell? ⟨tb, k * 11, none⟩ = some (X.pv k) ∧ (∃ z, w.cell? ⟨tb, k * 11 + 1, none⟩ = some (.int .i64 z) ∧ (m.ended.getD k false = false → z = m.at_.getD k 0)) ∧ w.cell? ⟨tb, k * 11 + 2, none⟩ = some (.bool (m.ended.getD k false)) ∧
    (∀ j, j < 8 → w.cell? ⟨tb, k * 11 + 3 + j, none⟩ = some (.int .u64 ((m.regs.getD k []).getD j 0))) ∧ ∀ i, w.frozen? ⟨tb, i, none⟩ = false := by
  obtain ⟨xs, ho, ht⟩ := h.thr
  rw [e] at ho
  have t := ht k hk
  obtain ⟨z, hz, hz2⟩ := t.at_
  exact ⟨(ho.cellAt _ (by omega)).trans t.prog, ⟨z, (ho.cellAt _ (by omega)).trans hz, hz2⟩, (ho.cellAt _ (by omega)).trans t.ended, fun j hj => (ho.cellAt _ (by omega)).trans (t.regs j hj), fun i => ho.frozenAt i⟩

/-- The instruction at which a thread is. -/
theorem Core.ins {w : World} {B : Nat} {S : Nat → Prop} {X : KB} {m : Mach} (h : Core w B S X m) {k : Nat} (hk : k < m.progs.length) {i : Nat} (hi : i < (m.progs.getD k []).length) :
    ∃ g cap, X.pv k = .slice (some ⟨g, 0, none⟩) (m.progs.getD k []).length cap ∧ g < w.heap.size ∧ w.cell? ⟨g, i * 5, none⟩ = some (.int .i64 ((m.progs.getD k []).getD i default).1) ∧ w.cell? ⟨g, i * 5 + 1, none⟩ = some (.int .i64 ((m.progs.getD k []).getD i default).2.1) ∧ w.cell? ⟨g, i * 5 + 2, none⟩ = some (.int .i64 ((m.progs.getD k []).getD i default).2.2.1) ∧ w.cell? ⟨g, i * 5 + 3, none⟩ = some (.int .i64 ((m.progs.getD k []).getD i default).2.2.2.1) ∧ w.cell? ⟨g, i * 5 + 4, none⟩ = some (.int .i64 ((m.progs.getD k []).getD i default).2.2.2.2) := by
  have ho := h.prog k hk
  obtain ⟨g, cap, e, _, h2⟩ := ho.form (by omega)
  have hl5 := cells5_len (m.progs.getD k [])
  obtain ⟨h1, h2', h3, h4, h5⟩ := cells5_at (m.progs.getD k []) i hi
  rw [e] at ho
  exact ⟨g, cap, e, h2, (ho.cellAt _ (by omega)).trans h1, (ho.cellAt _ (by omega)).trans h2', (ho.cellAt _ (by omega)).trans h3, (ho.cellAt _ (by omega)).trans h4, (ho.cellAt _ (by omega)).trans h5⟩
end Go.Proofs.YtkhaeabbbhfloaaDoor

namespace Go.Proofs.YtkhaeabbbhfloaaDoor
set_option maxRecDepth 100000
open Go.RowKit Go.Shelf Go.Sort

/-- An error: none, or an Errno. -/
def errV (n : Nat) : Value := if n = 0 then .nilIface else .iface 80 (.int .i64 (n : Int))
def underE (m : Mach) (t : Int) : Nat := if t < 0 ∨ (m.progs.length : Int) ≤ t then 2 else if m.ended.getD t.toNat false = true then 6 else 0
def readyE (m : Mach) (t : Int) : Nat := if t < 0 ∨ (m.progs.length : Int) ≤ t then 2 else if m.ended.getD t.toNat false = true then 6 else if 0 ≤ cellM m t then 8 else 0

theorem under_any {w : World} {B : Nat} {S : Nat → Prop} {X : KB} {m : Mach} (h : Core w B S X m) (t : Int) :
    Calls Tryd.prog 47 #[.pointer (some ⟨X.c, 0, none⟩), .int .i64 t] w fun e w' => e = .returned (errV (underE m t)) ∧ w = w' := by
  obtain ⟨_, _, c2, _⟩ := h.cells
  by_cases h0 : t < 0
  · have e : underE m t = 2 := by unfold underE; rw [if_pos (.inl h0)]
    rw [e]
    clear h e
    go_enter Tryd.func47, Tryd.ntmps47
    go_wp2
    go_ret
    exact ⟨rfl, rfl⟩
  obtain ⟨A, c, htv⟩ := h.tslice
  by_cases h1 : (m.progs.length : Int) ≤ t
  · have e : underE m t = 2 := by unfold underE; rw [if_pos (.inr h1)]
    rw [e]
    rw [htv] at c2
    clear h e htv
    generalize m.progs.length = n at *
    go_enter Tryd.func47, Tryd.ntmps47
    go_wp2
    go_ret
    exact ⟨rfl, rfl⟩
  obtain ⟨k, rfl⟩ : ∃ k : Nat, t = k := ⟨t.toNat, by omega⟩
  have hk : k < m.progs.length := by omega
  obtain ⟨tb, cap, htv2, _, _⟩ := h.tform (by omega)
  obtain ⟨_, _, he, _, _⟩ := h.thread hk htv2
  rw [htv2] at c2
  have e : underE m k = if m.ended.getD k false = true then 6 else 0 := by unfold underE; rw [if_neg (by omega), Int.toNat_natCast]
  rw [e]
  clear e h htv htv2
  generalize m.progs.length = n at *
  generalize m.ended.getD k false = b at *
  cases b with
  | true =>
    rw [if_pos rfl]
    go_enter Tryd.func47, Tryd.ntmps47
    go_wp2
    go_ret
    exact ⟨rfl, rfl⟩
  | false =>
    rw [if_neg (by decide)]
    go_enter Tryd.func47, Tryd.ntmps47
    go_wp2
    go_ret
    exact ⟨rfl, rfl⟩

theorem errV_zero : errV 0 = .nilIface := rfl
theorem errV_pos {n : Nat} (h : n ≠ 0) : errV n = .iface 80 (.int .i64 (n : Int)) := by unfold errV; rw [if_neg h]

theorem ready_of_under {m : Mach} {t : Int} (h : underE m t ≠ 0) : readyE m t = underE m t := by
  unfold underE readyE at *
  split at h
  · rename_i hc; rw [if_pos hc, if_pos hc]
  · rename_i hc
    rw [if_neg hc, if_neg hc]
    split at h
    · rename_i hd; rw [if_pos hd, if_pos hd]
    · exact absurd rfl h
theorem ready_of_awake {m : Mach} {t : Int} (h : underE m t = 0) : readyE m t = if 0 ≤ cellM m t then 8 else 0 := by
  unfold underE readyE at *
  split at h
  · exact absurd h (by decide)
  · rename_i hc
    rw [if_neg hc]
    split at h
    · exact absurd h (by decide)
    · rename_i hd; rw [if_neg hd]

set_option maxHeartbeats 1000000 in
theorem ready_any {w : World} {B : Nat} {S : Nat → Prop} {X : KB} {m : Mach} (h : Core w B S X m) (t : Int) :
    Calls Tryd.prog 34 #[.pointer (some ⟨X.c, 0, none⟩), .int .i64 t] w fun e w' => e = .returned (errV (readyE m t)) ∧ w.grownBy w' none := by
  have HU := Lib.hid (under_any h t)
  have HC := Lib.hid (cell_any h.lot t)
  obtain ⟨_, c1, _⟩ := h.cells
  by_cases hu : underE m t = 0
  · rw [ready_of_awake hu]
    rw [hu, errV_zero] at HU
    have hcm : cellOf m.lot t = cellM m t := rfl
    rw [hcm] at HC
    generalize cellM m t = cm at *
    clear h hu hcm
    by_cases h0 : 0 ≤ cm
    · rw [if_pos h0]
      go_enter Tryd.func34, Tryd.ntmps34
      go_wp2_with fail
      refine HU.out.mono ?_
      rintro e w1 ⟨rfl, rfl⟩
      go_wp2_with fail
      refine HC.out.mono ?_
      rintro e w1 ⟨rfl, hg⟩
      have HG := Lib.hid hg
      clear HC HU hg c1
      go_wp2
      go_ret
      exact ⟨rfl, HG.out⟩
    · rw [if_neg h0]
      go_enter Tryd.func34, Tryd.ntmps34
      go_wp2_with fail
      refine HU.out.mono ?_
      rintro e w1 ⟨rfl, rfl⟩
      go_wp2_with fail
      refine HC.out.mono ?_
      rintro e w1 ⟨rfl, hg⟩
      have HG := Lib.hid hg
      clear HC HU hg c1
      go_wp2
      go_ret
      exact ⟨rfl, HG.out⟩
  · rw [ready_of_under hu]
    have he := errV_pos hu
    rw [he] at HU ⊢
    generalize (underE m t : Int) = z at *
    clear h hu he HC
    go_enter Tryd.func34, Tryd.ntmps34
    go_wp2_with fail
    refine HU.out.mono ?_
    rintro e w1 ⟨rfl, rfl⟩
    go_wp2
    go_ret
    exact ⟨rfl, World.grownBy.refl _ _⟩

theorem can_any {w : World} {B : Nat} {S : Nat → Prop} {X : KB} {m : Mach} (h : Core w B S X m) (t : Int) :
    Calls Tryd.prog 31 #[.pointer (some ⟨X.c, 0, none⟩), .int .i64 t] w fun e w' => e = .returned (.bool (readyE m t == 0)) ∧ w.grownBy w' none := by
  have HR := Lib.hid (ready_any h t)
  clear h
  by_cases hu : readyE m t = 0
  · rw [hu, errV_zero] at HR
    rw [show (readyE m t == 0) = true by rw [hu]; rfl]
    clear hu
    go_enter Tryd.func31, Tryd.ntmps31
    go_wp2_with fail
    refine HR.out.mono ?_
    rintro e w1 ⟨rfl, hg⟩
    have HG := Lib.hid hg
    clear HR hg
    go_wp2
    go_ret
    exact ⟨rfl, HG.out⟩
  · have he := errV_pos hu
    have hb : (readyE m t == 0) = false := by simpa using hu
    rw [he] at HR
    rw [hb]
    generalize (readyE m t : Int) = z at *
    clear hu he hb
    go_enter Tryd.func31, Tryd.ntmps31
    go_wp2_with fail
    refine HR.out.mono ?_
    rintro e w1 ⟨rfl, hg⟩
    have HG := Lib.hid hg
    clear HR hg
    go_wp2
    go_ret
    exact ⟨rfl, HG.out⟩

theorem steps_any {w : World} {B : Nat} {S : Nat → Prop} {X : KB} {m : Mach} (h : Core w B S X m) :
    Calls Tryd.prog 28 #[.pointer (some ⟨X.c, 0, none⟩)] w fun e w' => e = .returned (.int .i64 (m.steps : Int)) ∧ w = w' := by
  obtain ⟨_, _, _, _, _, c5⟩ := h.cells
  clear h
  go_enter Tryd.func28, Tryd.ntmps28
  go_wp2
  go_ret
  exact ⟨rfl, rfl⟩

end Go.Proofs.YtkhaeabbbhfloaaDoor

namespace Go.Proofs.YtkhaeabbbhfloaaDoor
set_option maxRecDepth 100000
open Go.RowKit Go.Shelf Go.Sort

theorem info_A : (Tryd.prog.info? 36).map (fun i => (i.zero, i.size, i.bytes)) = some (some (Value.agg #[.int .i64 0, .int .i64 0, .int .i64 0, .int .i64 0, .int .u64 0, .int .u64 0]), 6, 48) := by kernel_rfl

set_option maxHeartbeats 1000000 in
theorem cloneA_any {w : World} {B : Nat} {v : Value} {n : Nat} {xs : List Value} (h : w.ownsRow B 36 6 v n xs) (h1 : ∀ u ∈ xs, u.oneCell' = true) (hn : n ≤ 20000) :
    Calls Tryd.prog 30 #[v] w fun e w' => ∃ v', e = .returned v' ∧ w'.ownsRow w.heap.size 36 6 v' n xs ∧ w.grownBy w' none := by
  have h' := h
  rcases h.2 with ⟨rfl, h0⟩ | ⟨g, cap, cur, rfl, _, _, _⟩
  · subst h0
    have hx : xs = [] := List.eq_nil_of_length_eq_zero (by have := h.1; omega)
    subst hx
    have hq := fun (w : World) => Lib.run_eql_slice_nil (P := Tryd.prog) w 33 36 none 0 0 0 0 Tryd.underlying33
    clear h h'
    go_enter Tryd.func30, Tryd.ntmps30
    go_wp2
    go_ret
    exact ⟨_, rfl, World.ownsRow_nil _ _ _ _, World.grownBy.refl w _⟩
  · have hq := fun (w : World) => Lib.run_eql_slice_nil (P := Tryd.prog) w 33 36 (some ⟨g, 0, none⟩) n cap 0 0 Tryd.underlying33
    have hnews := h.cells (g := g) rfl
    have hl := h.1
    obtain ⟨i0, hi, hz0, hz1, hz2⟩ := info_parts info_A
    have H5 := Lib.hid h1
    clear h h' h1
    go_enter Tryd.func30, Tryd.ntmps30
    have hown0 := World.ownsRow_made (base := w.heap.size) (e := 36) (size := 6) w #[] 0 (Nat.le_refl _) (by decide) rfl
    have hnews' : ∀ j u, xs[j]? = some u → (w.alloc (.cells #[] 36)).cell? ((⟨g, 0, none⟩ : Addr).add j) = some u := fun j u hu => Lib.cell?_alloc_some _ (hnews j u hu)
    have H0 := Lib.hid hown0
    have H1 := Lib.hid hnews'
    have H2 := Lib.hid hl
    clear hown0 hnews' hl hnews
    go_wp2_with (at_builtin; refine wpList_append_own _ rfl (.tmp 5) (.tmp 6) 33 rfl w.heap.size 36 i0 (Value.agg #[.int .i64 0, .int .i64 0, .int .i64 0, .int .i64 0, .int .u64 0, .int .u64 0]) 6 48 Tryd.underlying33 hi hz0 hz1 hz2 rfl (by decide) _ 0 [] rfl H0.out ⟨g, 0, none⟩ n cap xs rfl ?c1 H1.out ?c2 ?c3 ?c4 ?c5 ?_)
    case c1 => exact H2.out
    case c2 => exact H5.out
    case c3 => unfold maxLen; omega
    case c4 => omega
    case c5 => simp
    intro v' w1 hown1 hg1 _
    have hg := (World.grownBy_alloc w (.cells #[] 36) none).andThen hg1 (by intro j hj; simp only [Value.ownBlock, Option.some.injEq] at hj; omega)
    have H3 := Lib.hid hown1
    have H4 := Lib.hid hg1
    clear hown1 hg1 H0 H1
    go_wp2
    go_ret
    exact ⟨v', rfl, by simpa using H3.out, hg⟩

theorem info_E : (Tryd.prog.info? 79).map (fun i => (i.zero, i.size, i.bytes)) = some (some (Value.agg #[.int .i64 0, .int .i64 0, .int .i64 0, .int .i64 0]), 4, 32) := by kernel_rfl

set_option maxHeartbeats 1000000 in
theorem cloneE_any {w : World} {B : Nat} {v : Value} {n : Nat} {xs : List Value} (h : w.ownsRow B 79 4 v n xs) (h1 : ∀ u ∈ xs, u.oneCell' = true) (hn : n ≤ 20000) :
    Calls Tryd.prog 33 #[v] w fun e w' => ∃ v', e = .returned v' ∧ w'.ownsRow w.heap.size 79 4 v' n xs ∧ w.grownBy w' none := by
  have h' := h
  rcases h.2 with ⟨rfl, h0⟩ | ⟨g, cap, cur, rfl, _, _, _⟩
  · subst h0
    have hx : xs = [] := List.eq_nil_of_length_eq_zero (by have := h.1; omega)
    subst hx
    have hq := fun (w : World) => Lib.run_eql_slice_nil (P := Tryd.prog) w 42 79 none 0 0 0 0 Tryd.underlying42
    clear h h'
    go_enter Tryd.func33, Tryd.ntmps33
    go_wp2
    go_ret
    exact ⟨_, rfl, World.ownsRow_nil _ _ _ _, World.grownBy.refl w _⟩
  · have hq := fun (w : World) => Lib.run_eql_slice_nil (P := Tryd.prog) w 42 79 (some ⟨g, 0, none⟩) n cap 0 0 Tryd.underlying42
    have hnews := h.cells (g := g) rfl
    have hl := h.1
    obtain ⟨i0, hi, hz0, hz1, hz2⟩ := info_parts info_E
    have H5 := Lib.hid h1
    clear h h' h1
    go_enter Tryd.func33, Tryd.ntmps33
    have hown0 := World.ownsRow_made (base := w.heap.size) (e := 79) (size := 4) w #[] 0 (Nat.le_refl _) (by decide) rfl
    have hnews' : ∀ j u, xs[j]? = some u → (w.alloc (.cells #[] 79)).cell? ((⟨g, 0, none⟩ : Addr).add j) = some u := fun j u hu => Lib.cell?_alloc_some _ (hnews j u hu)
    have H0 := Lib.hid hown0
    have H1 := Lib.hid hnews'
    have H2 := Lib.hid hl
    clear hown0 hnews' hl hnews
    go_wp2_with (at_builtin; refine wpList_append_own _ rfl (.tmp 5) (.tmp 6) 42 rfl w.heap.size 79 i0 (Value.agg #[.int .i64 0, .int .i64 0, .int .i64 0, .int .i64 0]) 4 32 Tryd.underlying42 hi hz0 hz1 hz2 rfl (by decide) _ 0 [] rfl H0.out ⟨g, 0, none⟩ n cap xs rfl ?c1 H1.out ?c2 ?c3 ?c4 ?c5 ?_)
    case c1 => exact H2.out
    case c2 => exact H5.out
    case c3 => unfold maxLen; omega
    case c4 => omega
    case c5 => simp
    intro v' w1 hown1 hg1 _
    have hg := (World.grownBy_alloc w (.cells #[] 79) none).andThen hg1 (by intro j hj; simp only [Value.ownBlock, Option.some.injEq] at hj; omega)
    have H3 := Lib.hid hown1
    have H4 := Lib.hid hg1
    clear hown1 hg1 H0 H1
    go_wp2
    go_ret
    exact ⟨v', rfl, by simpa using H3.out, hg⟩

theorem oneCellA {l : List Act6} : ∀ u ∈ cellsA l, u.oneCell' = true := by
  intro u hu
  unfold cellsA at hu
  obtain ⟨x, _, hx⟩ := List.mem_flatMap.1 hu
  simp [actC] at hx
  rcases hx with rfl | rfl | rfl | rfl | rfl | rfl <;> rfl
theorem oneCellE {l : List Ev4} : ∀ u ∈ cellsE l, u.oneCell' = true := by
  intro u hu
  unfold cellsE at hu
  obtain ⟨x, _, hx⟩ := List.mem_flatMap.1 hu
  simp [evC] at hx
  rcases hx with rfl | rfl | rfl | rfl <;> rfl

theorem acts_any {w : World} {B : Nat} {S : Nat → Prop} {X : KB} {m : Mach} (h : Core w B S X m) (hn : m.acts.length ≤ 20000) :
    Calls Tryd.prog 14 #[.pointer (some ⟨X.c, 0, none⟩)] w fun e w' => ∃ v', e = .returned v' ∧ w'.ownsRow w.heap.size 36 6 v' m.acts.length (cellsA m.acts) ∧ w.grownBy w' none := by
  obtain ⟨_, _, _, c3, _⟩ := h.cells
  have H := Lib.hid (cloneA_any h.acts oneCellA hn)
  obtain ⟨A, c, hv⟩ := own_form h.acts
  rw [hv] at H c3
  clear h hn hv
  generalize m.acts.length = n at *
  go_enter Tryd.func14, Tryd.ntmps14
  go_wp2_with fail
  refine H.out.mono ?_
  rintro e w1 ⟨v', rfl, hown, hg⟩
  have H3 := Lib.hid hown
  have H4 := Lib.hid hg
  clear hown hg H c3
  go_wp2
  go_ret
  exact ⟨v', rfl, H3.out, H4.out⟩

theorem events_any {w : World} {B : Nat} {S : Nat → Prop} {X : KB} {m : Mach} (h : Core w B S X m) (hn : m.events.length ≤ 20000) :
    Calls Tryd.prog 18 #[.pointer (some ⟨X.c, 0, none⟩)] w fun e w' => ∃ v', e = .returned v' ∧ w'.ownsRow w.heap.size 79 4 v' m.events.length (cellsE m.events) ∧ w.grownBy w' none := by
  obtain ⟨_, _, _, _, c4, _⟩ := h.cells
  have H := Lib.hid (cloneE_any h.events oneCellE hn)
  obtain ⟨A, c, hv⟩ := own_form h.events
  rw [hv] at H c4
  clear h hn hv
  generalize m.events.length = n at *
  go_enter Tryd.func18, Tryd.ntmps18
  go_wp2_with fail
  refine H.out.mono ?_
  rintro e w1 ⟨v', rfl, hown, hg⟩
  have H3 := Lib.hid hown
  have H4 := Lib.hid hg
  clear hown hg H c4
  go_wp2
  go_ret
  exact ⟨v', rfl, H3.out, H4.out⟩

theorem kcells_any {w : World} {B : Nat} {S : Nat → Prop} {X : KB} {m : Mach} (h : Core w B S X m) (hn : m.cells.length ≤ 300) :
    Calls Tryd.prog 17 #[.pointer (some ⟨X.c, 0, none⟩)] w fun e w' => ∃ v', e = .returned v' ∧ w'.ownsRow w.heap.size 30 1 v' m.cells.length (m.cells.map (Value.int .u64)) ∧ w.grownBy w' none := by
  obtain ⟨c0, _⟩ := h.cells
  have H := Lib.hid (words_any h.mem (by omega))
  clear h hn
  generalize m.cells.length = n at *
  go_enter Tryd.func17, Tryd.ntmps17
  go_wp2_with fail
  refine H.out.mono ?_
  rintro e w1 ⟨v', rfl, hown, hg⟩
  have H3 := Lib.hid hown
  have H4 := Lib.hid hg
  clear hown hg H c0
  obtain ⟨A, c, hv⟩ := own_form H3.out
  subst hv
  go_wp2
  go_ret
  exact ⟨_, rfl, H3.out, H4.out⟩
end Go.Proofs.YtkhaeabbbhfloaaDoor

namespace Go.Proofs.YtkhaeabbbhfloaaDoor
set_option maxRecDepth 100000
open Go.RowKit Go.Shelf Go.Sort

def allTo (m : Mach) (k : Nat) : Bool := (List.range k).all fun i => m.ended.getD i false
def stuckTo (m : Mach) (k : Nat) : Bool := (List.range k).all fun i => !(readyE m (i : Int) == 0)
theorem allTo_succ (m : Mach) (k : Nat) : allTo m (k + 1) = (allTo m k && m.ended.getD k false) := by
  unfold allTo; rw [List.range_succ, List.all_append]; simp
theorem stuckTo_succ (m : Mach) (k : Nat) : stuckTo m (k + 1) = (stuckTo m k && !(readyE m (k : Int) == 0)) := by
  unfold stuckTo; rw [List.range_succ, List.all_append]; simp
def endsM (m : Mach) : Bool × Bool := (allTo m m.progs.length, stuckTo m m.progs.length && !allTo m m.progs.length)

set_option maxHeartbeats 2000000 in
theorem ends_any {w : World} {B : Nat} {S : Nat → Prop} {X : KB} {m : Mach} (h : Core w B S X m) (hn : m.progs.length ≤ 16) :
    Calls Tryd.prog 15 #[.pointer (some ⟨X.c, 0, none⟩)] w fun e w' => e = .returned (.tuple #[.bool (endsM m).1, .bool (endsM m).2]) ∧ w.grownBy w' none := by
  obtain ⟨_, _, c2, _⟩ := h.cells
  obtain ⟨A, c, htv⟩ := h.tslice
  rw [htv] at c2
  have H := Lib.hid h
  have HT := Lib.hid htv
  obtain ⟨n, hnn⟩ : ∃ n, m.progs.length = n := ⟨_, rfl⟩
  have HN := Lib.hid hnn
  rw [hnn] at c2 hn
  obtain ⟨r, hr⟩ : ∃ r, endsM m = r := ⟨_, rfl⟩
  rw [hr]
  have HR := Lib.hid hr
  clear h htv hnn hr
  go_enter Tryd.func15, Tryd.ntmps15
  go_wp2
  clear c2
  go_loopw [2, 3, 10] (fun a b j wr => ∃ k : Nat, k ≤ n ∧ j = .int .i64 k ∧ a = .bool (allTo m k) ∧ b = .bool (stuckTo m k) ∧ w.grownBy wr none) (fun _ _ j _ => n - (intOf j).toNat)
  case atStart => exact ⟨0, Nat.zero_le _, rfl, rfl, rfl, World.grownBy.refl w _⟩
  case round =>
    obtain ⟨k, hk, rfl, rfl, rfl, hg⟩ := hrel
    by_cases hlt : k < n
    · have hkn : (k : Int) < (n : Int) := by omega
      have hC := H.out.grow hg
      have hkp : k < m.progs.length := by rw [HN.out]; exact hlt
      obtain ⟨tb, cap, htv, _, _⟩ := hC.tform (by omega)
      obtain ⟨_, _, d2, _⟩ := hC.cells
      rw [htv, HN.out] at d2
      obtain ⟨_, _, he, _⟩ := hC.thread hkp htv
      have HCAN := Lib.hid (can_any hC k)
      have HA := Lib.hid (allTo_succ m k)
      have HS := Lib.hid (stuckTo_succ m k)
      have HG := Lib.hid hg
      generalize m.ended.getD k false = e at *
      generalize (readyE m (k : Int) == 0) = r at *
      clear hC htv hg hkp
      generalize hqa : allTo m k = qa at *
      generalize hqs : stuckTo m k = qs at *
      clear hqa hqs
      cases qa <;> cases qs
      · have ha : allTo m (k + 1) = false := by rw [HA.out]; simp
        have hs : stuckTo m (k + 1) = false := by rw [HS.out]; simp
        clear HCAN
        go_wp2
        go_roundw
        case rel => exact ⟨k + 1, by omega, by go_num, by rw [ha], by rw [hs], HG.out⟩
        case measure => simp [intOf]; omega
      · have ha : allTo m (k + 1) = false := by rw [HA.out]; simp
        have hs : stuckTo m (k + 1) = !r := by rw [HS.out]; simp
        go_wp2_with fail
        refine HCAN.out.mono ?_
        rintro e w3 ⟨rfl, hg3⟩
        have HG3 := Lib.hid (HG.out.andThen hg3 (by intro j hj; cases hj))
        clear hg3 HCAN
        go_wp2
        go_roundw
        case rel => exact ⟨k + 1, by omega, by go_num, by rw [ha], by rw [hs], HG3.out⟩
        case measure => simp [intOf]; omega
      · have ha : allTo m (k + 1) = e := by rw [HA.out]; simp
        have hs : stuckTo m (k + 1) = false := by rw [HS.out]; simp
        clear HCAN
        go_wp2
        go_roundw
        case rel => exact ⟨k + 1, by omega, by go_num, by rw [ha], by rw [hs], HG.out⟩
        case measure => simp [intOf]; omega
      · have ha : allTo m (k + 1) = e := by rw [HA.out]; simp
        have hs : stuckTo m (k + 1) = !r := by rw [HS.out]; simp
        go_wp2_with fail
        refine HCAN.out.mono ?_
        rintro e w3 ⟨rfl, hg3⟩
        have HG3 := Lib.hid (HG.out.andThen hg3 (by intro j hj; cases hj))
        clear hg3 HCAN
        go_wp2
        go_roundw
        case rel => exact ⟨k + 1, by omega, by go_num, by rw [ha], by rw [hs], HG3.out⟩
        case measure => simp [intOf]; omega
    · obtain rfl : k = n := by omega
      have hkn : ¬ (k : Int) < (k : Int) := by omega
      have he1 : r = (allTo m k, stuckTo m k && !allTo m k) := by rw [← HR.out]; unfold endsM; rw [HN.out]
      have HG := Lib.hid hg
      clear hg HR
      generalize allTo m k = qa at *
      generalize stuckTo m k = qs at *
      subst he1
      cases qa <;> cases qs
      all_goals
        go_wp2
        go_ret2
        exact ⟨rfl, HG.out⟩
end Go.Proofs.YtkhaeabbbhfloaaDoor

namespace Go.Proofs.YtkhaeabbbhfloaaDoor
set_option maxRecDepth 100000
open Go.RowKit Go.Shelf Go.Sort

theorem Keeps.wide {S T : Nat → Prop} {w w' : World} (h : Keeps T w w') (hs : ∀ k, T k → S k) : Keeps S w w' :=
  ⟨h.os, h.tape, h.output, h.size, fun k hk hn => h.block k hk (fun ht => hn (hs k ht))⟩
theorem Keeps.refl (S : Nat → Prop) (w : World) : Keeps S w w := ⟨rfl, rfl, rfl, Nat.le_refl _, fun _ _ _ => rfl⟩
theorem keeps_setCell (w : World) (a : Addr) (u : Value) : Keeps (fun k => k = a.block) w (w.setCell a u) :=
  (Keeps.refl (fun k => k = a.block) w).setCell a rfl u
theorem size_setCell (w : World) (a : Addr) (u : Value) : (w.setCell a u).heap.size = w.heap.size := by simp

section
variable {w w' : World} {B : Nat} {S : Nat → Prop} {X : KB} {m : Mach}

/-- What changes a thread's row, the lot, the memory, or the machine's own block, one of them. -/
theorem Core.rest {T : Nat → Prop} {ts : List TypeId} (h : Core w B S X m) (hk : Keeps T w w') (ht : Tagged w T ts) :
    (95 ∉ ts → 30 ∉ ts → Mem w' B X.mb X.mv m.cells) ∧ (104 ∉ ts → 113 ∉ ts → Lot w' B X.lb (m.progs.length : Int) X.lv m.lot) ∧
    (76 ∉ ts → ∃ xs, w'.ownsRow B 76 11 X.tv m.progs.length xs ∧ ∀ k, k < m.progs.length → ThrAt xs k (X.pv k) (m.at_.getD k 0) (m.ended.getD k false) (m.regs.getD k [])) ∧
    (89 ∉ ts → ∀ k, k < m.progs.length → w'.ownsRow B 89 5 (X.pv k) (m.progs.getD k []).length (cells5 (m.progs.getD k []))) ∧
    (36 ∉ ts → w'.ownsRow B 36 6 X.av m.acts.length (cellsA m.acts)) ∧ (79 ∉ ts → w'.ownsRow B 79 4 X.ev m.events.length (cellsE m.events)) ∧
    (73 ∉ ts → w'.heap[X.c]? = some (.cells (coreC X m.steps) 73 (0, 0))) ∧ ∀ k, S k → B ≤ k ∧ k < w'.heap.size := by
  obtain ⟨xs, ho, hx⟩ := h.thr
  exact ⟨fun a b => h.mem.tags hk ht a b, fun a b => h.lot.tags hk ht a b, fun a => ⟨xs, own_tags ho hk ht a, hx⟩, fun a k hk2 => own_tags (h.prog k hk2) hk ht a, fun a => own_tags h.acts hk ht a, fun a => own_tags h.events hk ht a, fun a => block_tags h.at_ hk ht a, fun k hs => ⟨(h.slo k hs).1, Nat.lt_of_lt_of_le (h.slo k hs).2 hk.size⟩⟩

theorem Core.tick (h : Core w B S X m) (s : Nat) : Core (w.setCell ⟨X.c, 5, none⟩ (.int .i64 (s : Int))) B S X { m with steps := s } ∧ Keeps S w (w.setCell ⟨X.c, 5, none⟩ (.int .i64 (s : Int))) := by
  have hk := keeps_setCell w ⟨X.c, 5, none⟩ (.int .i64 (s : Int))
  obtain ⟨a1, a2, a3, a4, a5, a6, _, a8⟩ := h.rest hk (tagged_block h.at_)
  refine ⟨⟨?_, a1 (by decide) (by decide), a2 (by decide) (by decide), a3 (by decide), a4 (by decide), a5 (by decide), a6 (by decide), h.sc, h.sm, h.sl, h.sv, h.sp, a8⟩, hk.wide (fun k e => by rw [e]; exact h.sc)⟩
  exact heap_setCell_same w X.c 5 _ _ _ h.at_

/-- A cell of the threads' row. -/
theorem Core.tset (h : Core w B S X m) {m' : Mach} {tb cap : Nat} (e : X.tv = .slice (some ⟨tb, 0, none⟩) m.progs.length cap) (i : Nat) (u : Value)
    (e1 : m'.progs = m.progs) (e2 : m'.cells = m.cells) (e3 : m'.lot = m.lot) (e4 : m'.acts = m.acts) (e5 : m'.events = m.events) (e6 : m'.steps = m.steps)
    (hT : ∀ xs : List Value, xs.length = m.progs.length * 11 → (∀ k, k < m.progs.length → ThrAt xs k (X.pv k) (m.at_.getD k 0) (m.ended.getD k false) (m.regs.getD k [])) → ∀ k, k < m.progs.length → ThrAt (xs.set i u) k (X.pv k) (m'.at_.getD k 0) (m'.ended.getD k false) (m'.regs.getD k [])) :
    Core (w.setCell ⟨tb, i, none⟩ u) B S X m' ∧ Keeps S w (w.setCell ⟨tb, i, none⟩ u) := by
  have hk := keeps_setCell w ⟨tb, i, none⟩ u
  obtain ⟨xs, ho, hx⟩ := h.thr
  have ht : Tagged w (fun k => k = tb) [76] := by
    have := tagged_row ho
    rw [e] at this
    simpa [Value.ownBlock] using this
  obtain ⟨a1, a2, _, a4, a5, a6, a7, a8⟩ := h.rest hk ht
  refine ⟨⟨?_, ?_, ?_, ?_, ?_, ?_, ?_, h.sc, h.sm, h.sl, h.sv, ?_, a8⟩, hk.wide (fun k e' => by rw [e']; exact h.sv X.tv (by simp) tb (by rw [e]; rfl))⟩
  · rw [e6]; exact a7 (by decide)
  · rw [e2]; exact a1 (by decide) (by decide)
  · rw [e1, e3]; exact a2 (by decide) (by decide)
  · have hl := ho.1
    rw [e] at ho
    obtain ⟨h1, _⟩ := ho.stored i u
    rw [e1]
    refine ⟨xs.set i u, ?_, hT xs hl hx⟩
    rw [e]
    exact h1
  · rw [e1]; exact a4 (by decide)
  · rw [e4]; exact a5 (by decide)
  · rw [e5]; exact a6 (by decide)
  · rw [e1]; exact h.sp

theorem set_at_ne (xs : List Value) {i j : Nat} (u : Value) (h : i ≠ j) : (xs.set i u)[j]? = xs[j]? := by rw [List.getElem?_set_ne h]
theorem set_at_eq (xs : List Value) {i : Nat} (u : Value) (h : i < xs.length) : (xs.set i u)[i]? = some u := by rw [List.getElem?_set_self h]

/-- Another thread's cells. -/
theorem ThrAt.other {xs : List Value} {k i : Nat} {v : Value} {a : Int} {e : Bool} {r : List Int} (h : ThrAt xs k v a e r) (u : Value) (hi : i < k * 11 ∨ k * 11 + 11 ≤ i) : ThrAt (xs.set i u) k v a e r := by
  obtain ⟨z, h1, h2⟩ := h.at_
  exact ⟨by rw [set_at_ne xs u (by omega)]; exact h.prog, ⟨z, by rw [set_at_ne xs u (by omega)]; exact h1, h2⟩, by rw [set_at_ne xs u (by omega)]; exact h.ended, fun j hj => by rw [set_at_ne xs u (by omega)]; exact h.regs j hj⟩

theorem Core.setAt (h : Core w B S X m) (hla : m.at_.length = m.progs.length) {tb cap k : Nat} (hk : k < m.progs.length) (e : X.tv = .slice (some ⟨tb, 0, none⟩) m.progs.length cap) (z : Int) :
    Core (w.setCell ⟨tb, k * 11 + 1, none⟩ (.int .i64 z)) B S X { m with at_ := m.at_.set k z } ∧ Keeps S w (w.setCell ⟨tb, k * 11 + 1, none⟩ (.int .i64 z)) := by
  refine h.tset e _ _ rfl rfl rfl rfl rfl rfl fun xs hl hx j hj => ?_
  have hx := hx j hj
  by_cases ejk : k = j
  · subst ejk
    dsimp only
    rw [getD_set_eq _ _ _ _ (by omega)]
    exact ⟨by rw [set_at_ne xs _ (by omega)]; exact hx.prog, ⟨z, set_at_eq xs _ (by omega), fun _ => rfl⟩, by rw [set_at_ne xs _ (by omega)]; exact hx.ended, fun i hi => by rw [set_at_ne xs _ (by omega)]; exact hx.regs i hi⟩
  · dsimp only
    rw [getD_set_ne _ _ _ _ _ ejk]
    exact hx.other _ (by omega)

theorem Core.setEnd (h : Core w B S X m) (hle : m.ended.length = m.progs.length) {tb cap k : Nat} (hk : k < m.progs.length) (e : X.tv = .slice (some ⟨tb, 0, none⟩) m.progs.length cap) :
    Core (w.setCell ⟨tb, k * 11 + 2, none⟩ (.bool true)) B S X { m with ended := m.ended.set k true } ∧ Keeps S w (w.setCell ⟨tb, k * 11 + 2, none⟩ (.bool true)) := by
  refine h.tset e _ _ rfl rfl rfl rfl rfl rfl fun xs hl hx j hj => ?_
  have hx := hx j hj
  by_cases ejk : k = j
  · subst ejk
    dsimp only
    rw [getD_set_eq _ _ _ _ (by omega)]
    obtain ⟨z, h1, _⟩ := hx.at_
    exact ⟨by rw [set_at_ne xs _ (by omega)]; exact hx.prog, ⟨z, by rw [set_at_ne xs _ (by omega)]; exact h1, fun h => by cases h⟩, set_at_eq xs _ (by omega), fun i hi => by rw [set_at_ne xs _ (by omega)]; exact hx.regs i hi⟩
  · dsimp only
    rw [getD_set_ne _ _ _ _ _ ejk]
    exact hx.other _ (by omega)

theorem Core.setReg (h : Core w B S X m) (hlr : m.regs.length = m.progs.length) {tb cap k : Nat} (hk : k < m.progs.length) (hr8 : (m.regs.getD k []).length = 8) (e : X.tv = .slice (some ⟨tb, 0, none⟩) m.progs.length cap) (r : Nat) (hr : r < 8) (z : Int) :
    Core (w.setCell ⟨tb, k * 11 + 3 + r, none⟩ (.int .u64 z)) B S X { m with regs := m.regs.set k ((m.regs.getD k []).set r z) } ∧ Keeps S w (w.setCell ⟨tb, k * 11 + 3 + r, none⟩ (.int .u64 z)) := by
  refine h.tset e _ _ rfl rfl rfl rfl rfl rfl fun xs hl hx j hj => ?_
  have hx := hx j hj
  by_cases ejk : k = j
  · subst ejk
    dsimp only
    rw [getD_set_eq _ _ _ _ (by omega)]
    obtain ⟨z', h1, h2⟩ := hx.at_
    refine ⟨by rw [set_at_ne xs _ (by omega)]; exact hx.prog, ⟨z', by rw [set_at_ne xs _ (by omega)]; exact h1, h2⟩, by rw [set_at_ne xs _ (by omega)]; exact hx.ended, fun i hi => ?_⟩
    by_cases eir : r = i
    · subst eir
      rw [set_at_eq xs _ (by omega), getD_set_eq _ _ _ _ (by omega)]
    · rw [set_at_ne xs _ (by omega), getD_set_ne _ _ _ _ _ eir]
      exact hx.regs i hi
  · dsimp only
    rw [getD_set_ne _ _ _ _ _ ejk]
    exact hx.other _ (by omega)

/-- Where a thread is is no matter once it is at its end. -/
theorem Core.atAny (h : Core w B S X m) {k : Nat} (he : m.ended.getD k false = true) (hla : m.at_.length = m.progs.length) (z : Int) : Core w B S X { m with at_ := m.at_.set k z } := by
  obtain ⟨xs, ho, hx⟩ := h.thr
  refine ⟨h.at_, h.mem, h.lot, ⟨xs, ho, fun j hj => ?_⟩, h.prog, h.acts, h.events, h.sc, h.sm, h.sl, h.sv, h.sp, h.slo⟩
  have hj : j < m.progs.length := hj
  have hx := hx j hj
  by_cases ejk : k = j
  · subst ejk
    dsimp only
    rw [getD_set_eq _ _ _ _ (by omega)]
    obtain ⟨z', h1, _⟩ := hx.at_
    exact ⟨hx.prog, ⟨z', h1, fun h => by rw [he] at h; cases h⟩, hx.ended, hx.regs⟩
  · dsimp only
    rw [getD_set_ne _ _ _ _ _ ejk]
    exact hx

theorem Core.setMem (h : Core w B S X m) {cs : List Int} (hM : Mem w' B X.mb X.mv cs) (hg : w.grownBy w' X.mv.ownBlock) : Core w' B S X { m with cells := cs } ∧ Keeps S w w' := by
  have hk : Keeps (fun k => some k = X.mv.ownBlock) w w' := Keeps.of_grown hg (fun k e => e.symm)
  obtain ⟨_, a2, a3, a4, a5, a6, a7, a8⟩ := h.rest hk (tagged_row h.mem.own)
  exact ⟨⟨a7 (by decide), hM, a2 (by decide) (by decide), a3 (by decide), a4 (by decide), a5 (by decide), a6 (by decide), h.sc, h.sm, h.sl, h.sv, h.sp, a8⟩, hk.wide (fun k e => h.sv X.mv (by simp) k e.symm)⟩

/-- From S on to what S is then: no more than what is new. -/
def Since (S S' : Nat → Prop) (w : World) : Prop := ∀ k, S' k → S k ∨ w.heap.size ≤ k
theorem Since.refl (S : Nat → Prop) (w : World) : Since S S w := fun _ h => .inl h
theorem Since.trans {S S' S'' : Nat → Prop} {w w' : World} (h : Since S S' w) (h' : Since S' S'' w') (hs : w.heap.size ≤ w'.heap.size) : Since S S'' w := fun k hk => by
  rcases h' k hk with hk | hk
  · exact h k hk
  · exact .inr (by omega)
theorem Keeps.on {S S' : Nat → Prop} {a b c : World} (h : Keeps S a b) (hS : Since S S' a) (k : Keeps S' b c) : Keeps S a c :=
  ⟨k.os.trans h.os, k.tape.trans h.tape, k.output.trans h.output, Nat.le_trans h.size k.size, fun i hi hn => (k.block i (Nat.lt_of_lt_of_le hi h.size) (fun hs => by
    rcases hS i hs with h1 | h1
    · exact hn h1
    · omega)).trans (h.block i hi hn)⟩

/-- What S is with a new row. -/
def withRow (S : Nat → Prop) (v : Value) (k : Nat) : Prop := S k ∨ v.ownBlock = some k

theorem Core.setLot (h : Core w B S X m) {lv : Value} {l : List (Int × Int)} (hL : Lot w' B X.lb (m.progs.length : Int) lv l) (hk : Keeps (fun k => k = X.lb ∨ some k = X.lv.ownBlock) w w') (hv : ∀ g, lv.ownBlock = some g → S g ∨ w.heap.size ≤ g) :
    Core w' B (withRow S lv) { X with lv := lv } { m with lot := l } ∧ Keeps S w w' ∧ Since S (withRow S lv) w := by
  have ht := (tagged_block h.lot.at_).or (tagged_row h.lot.own)
  obtain ⟨a1, _, a3, a4, a5, a6, a7, a8⟩ := h.rest hk ht
  refine ⟨⟨a7 (by decide), a1 (by decide) (by decide), hL, a3 (by decide), a4 (by decide), a5 (by decide), a6 (by decide), .inl h.sc, .inl h.sm, .inl h.sl, ?_, fun k hk2 g hg => .inl (h.sp k hk2 g hg), ?_⟩, hk.wide ?_, ?_⟩
  · intro v hv2 g hg
    rcases hv2 with rfl | rfl | rfl | rfl | rfl
    · exact .inl (h.sv _ (by simp) g hg)
    · exact .inr hg
    · exact .inl (h.sv _ (by simp) g hg)
    · exact .inl (h.sv _ (by simp) g hg)
    · exact .inl (h.sv _ (by simp) g hg)
  · rintro k (hs | hs)
    · exact a8 k hs
    · exact hL.own.lt k hs
  · rintro k (rfl | e)
    · exact h.sl
    · exact h.sv _ (by simp) k e.symm
  · rintro k (hs | hs)
    · exact .inl hs
    · exact hv k hs

/-- An act more: behind the append, the row is stored. -/
theorem Core.addAct (h : Core w B S X m) {av : Value} {l : List Act6} (ho : w'.ownsRow B 36 6 av l.length (cellsA l)) (hg : w.grownBy w' X.av.ownBlock) (hv : av.ownBlock = X.av.ownBlock ∨ av.ownBlock = some w.heap.size) :
    Core (w'.setCell ⟨X.c, 3, none⟩ av) B (withRow S av) { X with av := av } { m with acts := l } ∧ Keeps S w (w'.setCell ⟨X.c, 3, none⟩ av) ∧ Since S (withRow S av) w := by
  have hk1 : Keeps (fun k => some k = X.av.ownBlock) w w' := Keeps.of_grown hg (fun k e => e.symm)
  have hat := block_tags h.at_ hk1 (tagged_row h.acts) (by decide)
  have hk : Keeps (fun k => k = X.c ∨ some k = X.av.ownBlock) w (w'.setCell ⟨X.c, 3, none⟩ av) := (hk1.wide (fun k e => .inr e)).setCell ⟨X.c, 3, none⟩ (.inl rfl) av
  have ht := (tagged_block h.at_).or (tagged_row h.acts)
  obtain ⟨a1, a2, a3, a4, _, a6, _, a8⟩ := h.rest hk ht
  have hne : av.ownBlock ≠ some X.c := by
    intro e
    obtain ⟨c, fz, hc⟩ := Lib.ownsRow_kind ho X.c e
    rw [hat] at hc
    injection hc with hc
    injection hc with _ ht _
    exact absurd ht (by decide)
  refine ⟨⟨heap_setCell_same w' X.c 3 _ _ av hat, a1 (by decide) (by decide), a2 (by decide) (by decide), a3 (by decide), a4 (by decide), ownsRow_setCell_other ho (a := ⟨X.c, 3, none⟩) hne av, a6 (by decide), .inl h.sc, .inl h.sm, .inl h.sl, ?_, fun k hk2 g hg2 => .inl (h.sp k hk2 g hg2), ?_⟩, hk.wide ?_, ?_⟩
  · intro v hv2 g hg2
    rcases hv2 with rfl | rfl | rfl | rfl | rfl
    · exact .inl (h.sv _ (by simp) g hg2)
    · exact .inl (h.sv _ (by simp) g hg2)
    · exact .inl (h.sv _ (by simp) g hg2)
    · exact .inr hg2
    · exact .inl (h.sv _ (by simp) g hg2)
  · rintro k (hs | hs)
    · exact a8 k hs
    · rw [size_setCell]; exact ho.lt k hs
  · rintro k (rfl | e)
    · exact h.sc
    · exact h.sv _ (by simp) k e.symm
  · rintro k (hs | hs)
    · exact .inl hs
    · rcases hv with e | e
      · exact .inl (h.sv X.av (by simp) k (by rw [← e]; exact hs))
      · rw [e] at hs
        injection hs with hs
        exact .inr (by omega)

theorem Core.addEvent (h : Core w B S X m) {ev : Value} {l : List Ev4} (ho : w'.ownsRow B 79 4 ev l.length (cellsE l)) (hg : w.grownBy w' X.ev.ownBlock) (hv : ev.ownBlock = X.ev.ownBlock ∨ ev.ownBlock = some w.heap.size) :
    Core (w'.setCell ⟨X.c, 4, none⟩ ev) B (withRow S ev) { X with ev := ev } { m with events := l } ∧ Keeps S w (w'.setCell ⟨X.c, 4, none⟩ ev) ∧ Since S (withRow S ev) w := by
  have hk1 : Keeps (fun k => some k = X.ev.ownBlock) w w' := Keeps.of_grown hg (fun k e => e.symm)
  have hat := block_tags h.at_ hk1 (tagged_row h.events) (by decide)
  have hk : Keeps (fun k => k = X.c ∨ some k = X.ev.ownBlock) w (w'.setCell ⟨X.c, 4, none⟩ ev) := (hk1.wide (fun k e => .inr e)).setCell ⟨X.c, 4, none⟩ (.inl rfl) ev
  have ht := (tagged_block h.at_).or (tagged_row h.events)
  obtain ⟨a1, a2, a3, a4, a5, _, _, a8⟩ := h.rest hk ht
  have hne : ev.ownBlock ≠ some X.c := by
    intro e
    obtain ⟨c, fz, hc⟩ := Lib.ownsRow_kind ho X.c e
    rw [hat] at hc
    injection hc with hc
    injection hc with _ ht _
    exact absurd ht (by decide)
  refine ⟨⟨heap_setCell_same w' X.c 4 _ _ ev hat, a1 (by decide) (by decide), a2 (by decide) (by decide), a3 (by decide), a4 (by decide), a5 (by decide), ownsRow_setCell_other ho (a := ⟨X.c, 4, none⟩) hne ev, .inl h.sc, .inl h.sm, .inl h.sl, ?_, fun k hk2 g hg2 => .inl (h.sp k hk2 g hg2), ?_⟩, hk.wide ?_, ?_⟩
  · intro v hv2 g hg2
    rcases hv2 with rfl | rfl | rfl | rfl | rfl
    · exact .inl (h.sv _ (by simp) g hg2)
    · exact .inl (h.sv _ (by simp) g hg2)
    · exact .inl (h.sv _ (by simp) g hg2)
    · exact .inl (h.sv _ (by simp) g hg2)
    · exact .inr hg2
  · rintro k (hs | hs)
    · exact a8 k hs
    · rw [size_setCell]; exact ho.lt k hs
  · rintro k (rfl | e)
    · exact h.sc
    · exact h.sv _ (by simp) k e.symm
  · rintro k (hs | hs)
    · exact .inl hs
    · rcases hv with e | e
      · exact .inl (h.sv X.ev (by simp) k (by rw [← e]; exact hs))
      · rw [e] at hs
        injection hs with hs
        exact .inr (by omega)
end
end Go.Proofs.YtkhaeabbbhfloaaDoor

namespace Go.Proofs.YtkhaeabbbhfloaaDoor
set_option maxRecDepth 100000
open Go.RowKit Go.Shelf Go.Sort

/-- A thread's registers as cells of its row. -/
structure Regs (w : World) (tb o : Nat) (r : List Int) : Prop where
  cell : ∀ j, j < 8 → w.cell? ⟨tb, o + 3 + j, none⟩ = some (.int .u64 (r.getD j 0))
  loose : ∀ i, w.frozen? ⟨tb, i, none⟩ = false

/-- A register is stored; else there is no more than what is new. -/
def RegSet (tb o a : Nat) (v : Int) (w : World) (e : Ending) (w' : World) : Prop :=
  e = .returned (.tuple #[]) ∧ (w.setCell ⟨tb, o + 3 + a, none⟩ (.int .u64 v)).grownBy w' none

theorem wrapU (n : Int) : IntKind.u64.wrap n = n % m64 := by
  simp [IntKind.wrap, IntKind.signed, IntKind.bits, m64]

theorem regSet_of {tb o a : Nat} {v v' : Int} {w : World} (ob : Obj) (h : v' = v) : RegSet tb o a v w (.returned (.tuple #[])) ((w.setCell ⟨tb, o + 3 + a, none⟩ (.int .u64 v')).alloc ob).drew := by
  subst h
  exact ⟨rfl, (World.grownBy_alloc _ ob none).andThen (show World.grownBy _ _ none from ⟨rfl, rfl, rfl, Nat.le_refl _, fun _ _ _ => rfl⟩) (fun j hj => by cases hj)⟩

theorem field_bits (v : Int) (c d : Nat) (hv : okU v) (hd : d < 64) : bits BinOp.and IntKind.u64 (v / 2 ^ c) (IntKind.u64.wrap (IntKind.u64.wrap (2 ^ d) - 1)) = v / 2 ^ c % 2 ^ d := by
  obtain ⟨v0, v1⟩ := hv
  have hp : (0 : Int) < 2 ^ d := Int.pow_pos (by decide)
  have hp2 : (2 : Int) ^ d ≤ 9223372036854775808 := by
    have : (2 : Nat) ^ d ≤ 2 ^ 63 := Nat.pow_le_pow_right (by decide) (by omega)
    have h2 : ((2 ^ d : Nat) : Int) ≤ ((2 ^ 63 : Nat) : Int) := by exact_mod_cast this
    simpa using h2
  have w1 : IntKind.u64.wrap (2 ^ d) = 2 ^ d := by rw [wrapU]; unfold m64; omega
  have w2 : IntKind.u64.wrap (2 ^ d - 1) = 2 ^ d - 1 := by rw [wrapU]; unfold m64; omega
  have hc0 : (0 : Int) < 2 ^ c := Int.pow_pos (by decide)
  have q0 : 0 ≤ v / 2 ^ c := Int.ediv_nonneg v0 (Int.le_of_lt hc0)
  have q1 : v / 2 ^ c ≤ v := Int.ediv_le_self _ v0
  rw [w1, w2]
  exact bits_mask .u64 64 (by decide) (fun n h0 h1 => by
    rw [wrapU]
    unfold m64
    have e : (2 : Int) ^ 64 = 18446744073709551616 := by decide
    rw [e] at h1
    omega) d (by omega) _ q0 (by
    have e : (2 : Int) ^ 64 = 18446744073709551616 := by decide
    rw [e]
    omega)

set_option maxHeartbeats 1000000 in
theorem reckon_let {w : World} {tb o : Nat} {r : List Int} (h : Regs w tb o r) (a : Nat) (ha : a < 8) (b c d : Int) :
    Calls Tryd.prog 49 #[.pointer (some ⟨tb, o, none⟩), insV (1, (a : Int), b, c, d)] w (RegSet tb o a (b % m64) w) := by
  have ca := h.cell a ha
  have fa := h.loose (o + 3 + a)
  have ha0 : (0 : Int) ≤ (a : Int) := by omega
  have ha8 : (a : Int) < 8 := by omega
  generalize r.getD a 0 = ra at *
  have htb : tb < w.heap.size := World.block_lt_of_cell? w _ ca
  have hne : tb ≠ w.heap.size := by omega
  clear h
  unfold insV
  go_enter Tryd.func49, Tryd.ntmps49
  go_wp2
  go_region
  go_wp2
  go_end0
  refine regSet_of _ ?_
  exact wrapU b

set_option maxHeartbeats 1000000 in
theorem reckon_copy {w : World} {tb o : Nat} {r : List Int} (h : Regs w tb o r) (a b : Nat) (ha : a < 8) (hb : b < 8) (c d : Int) :
    Calls Tryd.prog 49 #[.pointer (some ⟨tb, o, none⟩), insV (2, (a : Int), (b : Int), c, d)] w (RegSet tb o a (r.getD b 0) w) := by
  have ca := h.cell a ha
  have fa := h.loose (o + 3 + a)
  have ha0 : (0 : Int) ≤ (a : Int) := by omega
  have ha8 : (a : Int) < 8 := by omega
  have cb := h.cell b hb
  have fb := h.loose (o + 3 + b)
  have hb0 : (0 : Int) ≤ (b : Int) := by omega
  have hb8 : (b : Int) < 8 := by omega
  generalize r.getD a 0 = ra at *
  generalize r.getD b 0 = rb at *
  have htb : tb < w.heap.size := World.block_lt_of_cell? w _ ca
  have hne : tb ≠ w.heap.size := by omega
  clear h
  unfold insV
  go_enter Tryd.func49, Tryd.ntmps49
  go_wp2
  go_region
  go_wp2
  go_end0
  refine regSet_of _ ?_
  rfl

set_option maxHeartbeats 1000000 in
theorem reckon_plus {w : World} {tb o : Nat} {r : List Int} (h : Regs w tb o r) (a b : Nat) (ha : a < 8) (hb : b < 8) (c d : Int) :
    Calls Tryd.prog 49 #[.pointer (some ⟨tb, o, none⟩), insV (3, (a : Int), (b : Int), c, d)] w (RegSet tb o a ((r.getD b 0 + c) % m64) w) := by
  have ca := h.cell a ha
  have fa := h.loose (o + 3 + a)
  have ha0 : (0 : Int) ≤ (a : Int) := by omega
  have ha8 : (a : Int) < 8 := by omega
  have cb := h.cell b hb
  have fb := h.loose (o + 3 + b)
  have hb0 : (0 : Int) ≤ (b : Int) := by omega
  have hb8 : (b : Int) < 8 := by omega
  generalize r.getD a 0 = ra at *
  generalize r.getD b 0 = rb at *
  have htb : tb < w.heap.size := World.block_lt_of_cell? w _ ca
  have hne : tb ≠ w.heap.size := by omega
  clear h
  unfold insV
  go_enter Tryd.func49, Tryd.ntmps49
  go_wp2
  go_region
  go_wp2
  go_end0
  refine regSet_of _ ?_
  rw [wrapU, wrapU]; unfold m64; omega

set_option maxHeartbeats 1000000 in
theorem reckon_sum {w : World} {tb o : Nat} {r : List Int} (h : Regs w tb o r) (a b c : Nat) (ha : a < 8) (hb : b < 8) (hc : c < 8) (d : Int) :
    Calls Tryd.prog 49 #[.pointer (some ⟨tb, o, none⟩), insV (4, (a : Int), (b : Int), (c : Int), d)] w (RegSet tb o a ((r.getD b 0 + r.getD c 0) % m64) w) := by
  have ca := h.cell a ha
  have fa := h.loose (o + 3 + a)
  have ha0 : (0 : Int) ≤ (a : Int) := by omega
  have ha8 : (a : Int) < 8 := by omega
  have cb := h.cell b hb
  have fb := h.loose (o + 3 + b)
  have hb0 : (0 : Int) ≤ (b : Int) := by omega
  have hb8 : (b : Int) < 8 := by omega
  have cc := h.cell c hc
  have fc := h.loose (o + 3 + c)
  have hc0 : (0 : Int) ≤ (c : Int) := by omega
  have hc8 : (c : Int) < 8 := by omega
  generalize r.getD a 0 = ra at *
  generalize r.getD b 0 = rb at *
  generalize r.getD c 0 = rc at *
  have htb : tb < w.heap.size := World.block_lt_of_cell? w _ ca
  have hne : tb ≠ w.heap.size := by omega
  clear h
  unfold insV
  go_enter Tryd.func49, Tryd.ntmps49
  go_wp2
  go_region
  go_wp2
  go_end0
  refine regSet_of _ ?_
  exact wrapU _

set_option maxHeartbeats 1000000 in
theorem reckon_field {w : World} {tb o : Nat} {r : List Int} (h : Regs w tb o r) (a b c d : Nat) (ha : a < 8) (hb : b < 8) (hc : c < 64) (hd : d < 64) (hrb : okU (r.getD b 0)) :
    Calls Tryd.prog 49 #[.pointer (some ⟨tb, o, none⟩), insV (5, (a : Int), (b : Int), (c : Int), (d : Int))] w (RegSet tb o a (r.getD b 0 / 2 ^ c % 2 ^ d) w) := by
  have ca := h.cell a ha
  have fa := h.loose (o + 3 + a)
  have ha0 : (0 : Int) ≤ (a : Int) := by omega
  have ha8 : (a : Int) < 8 := by omega
  have cb := h.cell b hb
  have fb := h.loose (o + 3 + b)
  have hb0 : (0 : Int) ≤ (b : Int) := by omega
  have hb8 : (b : Int) < 8 := by omega
  have hc0 : (0 : Int) ≤ (c : Int) := by omega
  have hd0 : (0 : Int) ≤ (d : Int) := by omega
  have hcn : ¬ (c : Int) < 0 := by omega
  have hdn : ¬ (d : Int) < 0 := by omega
  generalize r.getD a 0 = ra at *
  generalize r.getD b 0 = rb at *
  have htb : tb < w.heap.size := World.block_lt_of_cell? w _ ca
  have hne : tb ≠ w.heap.size := by omega
  clear h
  unfold insV
  go_enter Tryd.func49, Tryd.ntmps49
  go_wp2
  go_region
  go_wp2
  go_end0
  refine regSet_of _ ?_
  exact field_bits rb c d hrb hd
end Go.Proofs.YtkhaeabbbhfloaaDoor

namespace Go.Proofs.YtkhaeabbbhfloaaDoor
set_option maxRecDepth 100000
open Go.RowKit Go.Shelf Go.Sort

/-- A thread goes on elsewhere; else there is no more than what is new. -/
def AtSet (tb o : Nat) (p : Int) (w : World) (e : Ending) (w' : World) : Prop :=
  e = .returned (.tuple #[]) ∧ (w.setCell ⟨tb, o + 1, none⟩ (.int .i64 p)).grownBy w' none
def Passed (w : World) (e : Ending) (w' : World) : Prop := e = .returned (.tuple #[]) ∧ w.grownBy w' none

theorem grown_drew (w : World) : w.grownBy w.drew none := ⟨rfl, rfl, rfl, Nat.le_refl _, fun _ _ _ => rfl⟩
theorem grown_d {w w' : World} (h : w.grownBy w' none) : w.grownBy w'.drew none := h.andThen (grown_drew w') (fun j hj => by cases hj)
theorem grown_a {w w' : World} (h : w.grownBy w' none) (o : Obj) : w.grownBy (w'.alloc o) none := h.andThen (World.grownBy_alloc w' o none) (fun j hj => by cases hj)

set_option maxHeartbeats 2000000 in
theorem turn_jump {w : World} {tb o : Nat} {r : List Int} (h : Regs w tb o r) {z : Int} (hz : w.cell? ⟨tb, o + 1, none⟩ = some (.int .i64 z)) (p b c d : Int) :
    Calls Tryd.prog 50 #[.pointer (some ⟨tb, o, none⟩), insV (10, p, b, c, d)] w (AtSet tb o p w) := by
  have f1 := h.loose (o + 1)
  have htb : tb < w.heap.size := World.block_lt_of_cell? w _ hz
  have hne : tb ≠ w.heap.size := by omega
  clear h
  unfold insV
  go_enter Tryd.func50, Tryd.ntmps50
  go_wp2
  repeat (go_region; go_wp2)
  go_end0
  refine ⟨rfl, ?_⟩
  repeat (first | exact World.grownBy.refl _ none | refine grown_d ?_ | refine grown_a ?_ _)

set_option maxHeartbeats 2000000 in
theorem turn_same_yes {w : World} {tb o : Nat} {r : List Int} (h : Regs w tb o r) {z : Int} (hz : w.cell? ⟨tb, o + 1, none⟩ = some (.int .i64 z)) (a : Nat) (ha : a < 8) (b c d : Int) (hc : r.getD a 0 = b % m64) :
    Calls Tryd.prog 50 #[.pointer (some ⟨tb, o, none⟩), insV (11, (a : Int), b, c, d)] w (AtSet tb o c w) := by
  have f1 := h.loose (o + 1)
  have ca := h.cell a ha
  have ha0 : (0 : Int) ≤ (a : Int) := by omega
  have ha8 : (a : Int) < 8 := by omega
  have hq : (r.getD a 0 == IntKind.u64.wrap b) = true := by rw [wrapU]; exact beq_iff_eq.2 hc
  clear hc
  generalize r.getD a 0 = ra at *
  have htb : tb < w.heap.size := World.block_lt_of_cell? w _ hz
  have hne : tb ≠ w.heap.size := by omega
  clear h
  unfold insV
  go_enter Tryd.func50, Tryd.ntmps50
  go_wp2
  repeat (go_region; go_wp2)
  go_end0
  refine ⟨rfl, ?_⟩
  repeat (first | exact World.grownBy.refl _ none | refine grown_d ?_ | refine grown_a ?_ _)

set_option maxHeartbeats 2000000 in
theorem turn_same_no {w : World} {tb o : Nat} {r : List Int} (h : Regs w tb o r) {z : Int} (hz : w.cell? ⟨tb, o + 1, none⟩ = some (.int .i64 z)) (a : Nat) (ha : a < 8) (b c d : Int) (hc : ¬ r.getD a 0 = b % m64) :
    Calls Tryd.prog 50 #[.pointer (some ⟨tb, o, none⟩), insV (11, (a : Int), b, c, d)] w (Passed w) := by
  have f1 := h.loose (o + 1)
  have ca := h.cell a ha
  have ha0 : (0 : Int) ≤ (a : Int) := by omega
  have ha8 : (a : Int) < 8 := by omega
  have hq : (r.getD a 0 == IntKind.u64.wrap b) = false := by rw [wrapU]; exact beq_eq_false_iff_ne.2 hc
  clear hc
  generalize r.getD a 0 = ra at *
  have htb : tb < w.heap.size := World.block_lt_of_cell? w _ hz
  have hne : tb ≠ w.heap.size := by omega
  clear h
  unfold insV
  go_enter Tryd.func50, Tryd.ntmps50
  go_wp2
  repeat (go_region; go_wp2)
  go_end0
  refine ⟨rfl, ?_⟩
  repeat (first | exact World.grownBy.refl _ none | refine grown_d ?_ | refine grown_a ?_ _)

set_option maxHeartbeats 2000000 in
theorem turn_less_yes {w : World} {tb o : Nat} {r : List Int} (h : Regs w tb o r) {z : Int} (hz : w.cell? ⟨tb, o + 1, none⟩ = some (.int .i64 z)) (a b : Nat) (ha : a < 8) (hb : b < 8) (c d : Int) (hq : r.getD a 0 < r.getD b 0) :
    Calls Tryd.prog 50 #[.pointer (some ⟨tb, o, none⟩), insV (12, (a : Int), (b : Int), c, d)] w (AtSet tb o c w) := by
  have f1 := h.loose (o + 1)
  have ca := h.cell a ha
  have ha0 : (0 : Int) ≤ (a : Int) := by omega
  have ha8 : (a : Int) < 8 := by omega
  have cb := h.cell b hb
  have hb0 : (0 : Int) ≤ (b : Int) := by omega
  have hb8 : (b : Int) < 8 := by omega
  generalize r.getD a 0 = ra at *
  generalize r.getD b 0 = rb at *
  have htb : tb < w.heap.size := World.block_lt_of_cell? w _ hz
  have hne : tb ≠ w.heap.size := by omega
  clear h
  unfold insV
  go_enter Tryd.func50, Tryd.ntmps50
  go_wp2
  repeat (go_region; go_wp2)
  go_end0
  refine ⟨rfl, ?_⟩
  repeat (first | exact World.grownBy.refl _ none | refine grown_d ?_ | refine grown_a ?_ _)

set_option maxHeartbeats 2000000 in
theorem turn_less_no {w : World} {tb o : Nat} {r : List Int} (h : Regs w tb o r) {z : Int} (hz : w.cell? ⟨tb, o + 1, none⟩ = some (.int .i64 z)) (a b : Nat) (ha : a < 8) (hb : b < 8) (c d : Int) (hq : ¬ r.getD a 0 < r.getD b 0) :
    Calls Tryd.prog 50 #[.pointer (some ⟨tb, o, none⟩), insV (12, (a : Int), (b : Int), c, d)] w (Passed w) := by
  have f1 := h.loose (o + 1)
  have ca := h.cell a ha
  have ha0 : (0 : Int) ≤ (a : Int) := by omega
  have ha8 : (a : Int) < 8 := by omega
  have cb := h.cell b hb
  have hb0 : (0 : Int) ≤ (b : Int) := by omega
  have hb8 : (b : Int) < 8 := by omega
  generalize r.getD a 0 = ra at *
  generalize r.getD b 0 = rb at *
  have htb : tb < w.heap.size := World.block_lt_of_cell? w _ hz
  have hne : tb ≠ w.heap.size := by omega
  clear h
  unfold insV
  go_enter Tryd.func50, Tryd.ntmps50
  go_wp2
  repeat (go_region; go_wp2)
  go_end0
  refine ⟨rfl, ?_⟩
  repeat (first | exact World.grownBy.refl _ none | refine grown_d ?_ | refine grown_a ?_ _)

set_option maxHeartbeats 2000000 in
theorem turn_equal_yes {w : World} {tb o : Nat} {r : List Int} (h : Regs w tb o r) {z : Int} (hz : w.cell? ⟨tb, o + 1, none⟩ = some (.int .i64 z)) (a b : Nat) (ha : a < 8) (hb : b < 8) (c d : Int) (hc : r.getD a 0 = r.getD b 0) :
    Calls Tryd.prog 50 #[.pointer (some ⟨tb, o, none⟩), insV (13, (a : Int), (b : Int), c, d)] w (AtSet tb o c w) := by
  have f1 := h.loose (o + 1)
  have ca := h.cell a ha
  have ha0 : (0 : Int) ≤ (a : Int) := by omega
  have ha8 : (a : Int) < 8 := by omega
  have cb := h.cell b hb
  have hb0 : (0 : Int) ≤ (b : Int) := by omega
  have hb8 : (b : Int) < 8 := by omega
  have hq : (r.getD a 0 == r.getD b 0) = true := beq_iff_eq.2 hc
  clear hc
  generalize r.getD a 0 = ra at *
  generalize r.getD b 0 = rb at *
  have htb : tb < w.heap.size := World.block_lt_of_cell? w _ hz
  have hne : tb ≠ w.heap.size := by omega
  clear h
  unfold insV
  go_enter Tryd.func50, Tryd.ntmps50
  go_wp2
  repeat (go_region; go_wp2)
  go_end0
  refine ⟨rfl, ?_⟩
  repeat (first | exact World.grownBy.refl _ none | refine grown_d ?_ | refine grown_a ?_ _)

set_option maxHeartbeats 2000000 in
theorem turn_equal_no {w : World} {tb o : Nat} {r : List Int} (h : Regs w tb o r) {z : Int} (hz : w.cell? ⟨tb, o + 1, none⟩ = some (.int .i64 z)) (a b : Nat) (ha : a < 8) (hb : b < 8) (c d : Int) (hc : ¬ r.getD a 0 = r.getD b 0) :
    Calls Tryd.prog 50 #[.pointer (some ⟨tb, o, none⟩), insV (13, (a : Int), (b : Int), c, d)] w (Passed w) := by
  have f1 := h.loose (o + 1)
  have ca := h.cell a ha
  have ha0 : (0 : Int) ≤ (a : Int) := by omega
  have ha8 : (a : Int) < 8 := by omega
  have cb := h.cell b hb
  have hb0 : (0 : Int) ≤ (b : Int) := by omega
  have hb8 : (b : Int) < 8 := by omega
  have hq : (r.getD a 0 == r.getD b 0) = false := beq_eq_false_iff_ne.2 hc
  clear hc
  generalize r.getD a 0 = ra at *
  generalize r.getD b 0 = rb at *
  have htb : tb < w.heap.size := World.block_lt_of_cell? w _ hz
  have hne : tb ≠ w.heap.size := by omega
  clear h
  unfold insV
  go_enter Tryd.func50, Tryd.ntmps50
  go_wp2
  repeat (go_region; go_wp2)
  go_end0
  refine ⟨rfl, ?_⟩
  repeat (first | exact World.grownBy.refl _ none | refine grown_d ?_ | refine grown_a ?_ _)
end Go.Proofs.YtkhaeabbbhfloaaDoor
