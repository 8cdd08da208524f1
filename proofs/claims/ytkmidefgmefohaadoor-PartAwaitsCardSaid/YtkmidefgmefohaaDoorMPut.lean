/-
  A machine that is changed: a step more; a cell of a thread; its memory; its lot; an act or an event more.
-/
import Derived.Test.YtkmidefgmefohaaDoorMEnds
import Derived.Maps.AppendAt
import Derived.Lib.OwnKind
namespace Go.Proofs.YtkmidefgmefohaaDoor
set_option maxRecDepth 100000
open Go.RowKit Go.Shelf Go.Sort

theorem Keeps.wide {S T : Nat → Prop} {w w' : World} (h : Keeps T w w') (hs : ∀ k, T k → S k) : Keeps S w w' :=
  ⟨h.os, h.tape, h.output, h.size, fun k hk hn => h.block k hk (fun ht => hn (hs k ht))⟩
theorem Keeps.refl (S : Nat → Prop) (w : World) : Keeps S w w := ⟨rfl, rfl, rfl, Nat.le_refl _, fun _ _ _ => rfl⟩
theorem keeps_setCell (w : World) (a : Addr) (u : Value) : Keeps (fun k => k = a.block) w (w.setCell a u) :=
  (Keeps.refl (fun k => k = a.block) w).setCell a rfl u
theorem size_setCell (w : World) (a : Addr) (u : Value) : (w.setCell a u).heap.size = w.heap.size := by simp

section
variable {w w' : World} {B : Nat} {S : Nat → Prop} {X : KB} {m : Mach}

/-- What changes a thread's row, the lot, the memory, or the machine's own block, one of them. -/
theorem Core.rest {T : Nat → Prop} {ts : List TypeId} (h : Core w B S X m) (hk : Keeps T w w') (ht : Tagged w T ts) :
    (94 ∉ ts → 50 ∉ ts → Mem w' B X.mb X.mv m.cells) ∧ (97 ∉ ts → 107 ∉ ts → Lot w' B X.lb (m.progs.length : Int) X.lv m.lot) ∧
    (77 ∉ ts → ∃ xs, w'.ownsRow B 77 11 X.tv m.progs.length xs ∧ ∀ k, k < m.progs.length → ThrAt xs k (X.pv k) (m.at_.getD k 0) (m.ended.getD k false) (m.regs.getD k [])) ∧
    (48 ∉ ts → ∀ k, k < m.progs.length → w'.ownsRow B 48 5 (X.pv k) (m.progs.getD k []).length (cells5 (m.progs.getD k []))) ∧
    (137 ∉ ts → w'.ownsRow B 137 6 X.av m.acts.length (cellsA m.acts)) ∧ (44 ∉ ts → w'.ownsRow B 44 4 X.ev m.events.length (cellsE m.events)) ∧
    (80 ∉ ts → w'.heap[X.c]? = some (.cells (coreC X m.steps) 80 (0, 0))) ∧ ∀ k, S k → B ≤ k ∧ k < w'.heap.size := by
  obtain ⟨xs, ho, hx⟩ := h.thr
  exact ⟨fun a b => h.mem.tags hk ht a b, fun a b => h.lot.tags hk ht a b, fun a => ⟨xs, own_tags ho hk ht a, hx⟩, fun a k hk2 => own_tags (h.prog k hk2) hk ht a, fun a => own_tags h.acts hk ht a, fun a => own_tags h.events hk ht a, fun a => block_tags h.at_ hk ht a, fun k hs => ⟨(h.slo k hs).1, Nat.lt_of_lt_of_le (h.slo k hs).2 hk.size⟩⟩

theorem Core.tick (h : Core w B S X m) (s : Nat) : Core (w.setCell ⟨X.c, 5, none⟩ (.int .i64 (s : Int))) B S X { m with steps := s } ∧ Keeps S w (w.setCell ⟨X.c, 5, none⟩ (.int .i64 (s : Int))) := by
  have hk := keeps_setCell w ⟨X.c, 5, none⟩ (.int .i64 (s : Int))
  obtain ⟨a1, a2, a3, a4, a5, a6, _, a8⟩ := h.rest hk (tagged_block h.at_)
  refine ⟨⟨?_, a1 (by decide) (by decide), a2 (by decide) (by decide), a3 (by decide), a4 (by decide), a5 (by decide), a6 (by decide), h.sc, h.sm, h.sl, h.sv, h.sp, a8⟩, hk.wide (fun k e => by rw [e]; exact h.sc)⟩
  exact heap_setCell_same w X.c 5 _ _ _ h.at_

/-- A cell of the threads' row. -/
theorem Core.tset (h : Core w B S X m) {m' : Mach} {tb cap : Nat} (e : X.tv = .slice (some ⟨tb, 0, none⟩) m.progs.length cap) (i : Nat) (u : Value)
    (e1 : m'.progs = m.progs) (e2 : m'.cells = m.cells) (e3 : m'.lot = m.lot) (e4 : m'.acts = m.acts) (e5 : m'.events = m.events) (e6 : m'.steps = m.steps)
    (hT : ∀ xs : List Value, xs.length = m.progs.length * 11 → (∀ k, k < m.progs.length → ThrAt xs k (X.pv k) (m.at_.getD k 0) (m.ended.getD k false) (m.regs.getD k [])) → ∀ k, k < m.progs.length → ThrAt (xs.set i u) k (X.pv k) (m'.at_.getD k 0) (m'.ended.getD k false) (m'.regs.getD k [])) :
    Core (w.setCell ⟨tb, i, none⟩ u) B S X m' ∧ Keeps S w (w.setCell ⟨tb, i, none⟩ u) := by
  have hk := keeps_setCell w ⟨tb, i, none⟩ u
  obtain ⟨xs, ho, hx⟩ := h.thr
  have ht : Tagged w (fun k => k = tb) [77] := by
    have := tagged_row ho
    rw [e] at this
    simpa [Value.ownBlock] using this
  obtain ⟨a1, a2, _, a4, a5, a6, a7, a8⟩ := h.rest hk ht
  refine ⟨⟨?_, ?_, ?_, ?_, ?_, ?_, ?_, h.sc, h.sm, h.sl, h.sv, ?_, a8⟩, hk.wide (fun k e' => by rw [e']; exact h.sv X.tv (by simp) tb (by rw [e]; rfl))⟩
  · rw [e6]; exact a7 (by decide)
  · rw [e2]; exact a1 (by decide) (by decide)
  · rw [e1, e3]; exact a2 (by decide) (by decide)
  · have hl := ho.1
    rw [e] at ho
    obtain ⟨h1, _⟩ := ho.stored i u
    rw [e1]
    refine ⟨xs.set i u, ?_, hT xs hl hx⟩
    rw [e]
    exact h1
  · rw [e1]; exact a4 (by decide)
  · rw [e4]; exact a5 (by decide)
  · rw [e5]; exact a6 (by decide)
  · rw [e1]; exact h.sp

theorem set_at_ne (xs : List Value) {i j : Nat} (u : Value) (h : i ≠ j) : (xs.set i u)[j]? = xs[j]? := by rw [List.getElem?_set_ne h]
theorem set_at_eq (xs : List Value) {i : Nat} (u : Value) (h : i < xs.length) : (xs.set i u)[i]? = some u := by rw [List.getElem?_set_self h]

/-- Another thread's cells. -/
theorem ThrAt.other {xs : List Value} {k i : Nat} {v : Value} {a : Int} {e : Bool} {r : List Int} (h : ThrAt xs k v a e r) (u : Value) (hi : i < k * 11 ∨ k * 11 + 11 ≤ i) : ThrAt (xs.set i u) k v a e r := by
  obtain ⟨z, h1, h2⟩ := h.at_
  exact ⟨by rw [set_at_ne xs u (by omega)]; exact h.prog, ⟨z, by rw [set_at_ne xs u (by omega)]; exact h1, h2⟩, by rw [set_at_ne xs u (by omega)]; exact h.ended, fun j hj => by rw [set_at_ne xs u (by omega)]; exact h.regs j hj⟩

theorem Core.setAt (h : Core w B S X m) (hla : m.at_.length = m.progs.length) {tb cap k : Nat} (hk : k < m.progs.length) (e : X.tv = .slice (some ⟨tb, 0, none⟩) m.progs.length cap) (z : Int) :
    Core (w.setCell ⟨tb, k * 11 + 1, none⟩ (.int .i64 z)) B S X { m with at_ := m.at_.set k z } ∧ Keeps S w (w.setCell ⟨tb, k * 11 + 1, none⟩ (.int .i64 z)) := by
  refine h.tset e _ _ rfl rfl rfl rfl rfl rfl fun xs hl hx j hj => ?_
  have hx := hx j hj
  by_cases ejk : k = j
  · subst ejk
    dsimp only
    rw [getD_set_eq _ _ _ _ (by omega)]
    exact ⟨by rw [set_at_ne xs _ (by omega)]; exact hx.prog, ⟨z, set_at_eq xs _ (by omega), fun _ => rfl⟩, by rw [set_at_ne xs _ (by omega)]; exact hx.ended, fun i hi => by rw [set_at_ne xs _ (by omega)]; exact hx.regs i hi⟩
  · dsimp only
    rw [getD_set_ne _ _ _ _ _ ejk]
    exact hx.other _ (by omega)

theorem Core.setEnd (h : Core w B S X m) (hle : m.ended.length = m.progs.length) {tb cap k : Nat} (hk : k < m.progs.length) (e : X.tv = .slice (some ⟨tb, 0, none⟩) m.progs.length cap) :
    Core (w.setCell ⟨tb, k * 11 + 2, none⟩ (.bool true)) B S X { m with ended := m.ended.set k true } ∧ Keeps S w (w.setCell ⟨tb, k * 11 + 2, none⟩ (.bool true)) := by
  refine h.tset e _ _ rfl rfl rfl rfl rfl rfl fun xs hl hx j hj => ?_
  have hx := hx j hj
  by_cases ejk : k = j
  · subst ejk
    dsimp only
    rw [getD_set_eq _ _ _ _ (by omega)]
    obtain ⟨z, h1, _⟩ := hx.at_
    exact ⟨by rw [set_at_ne xs _ (by omega)]; exact hx.prog, ⟨z, by rw [set_at_ne xs _ (by omega)]; exact h1, fun h => by cases h⟩, set_at_eq xs _ (by omega), fun i hi => by rw [set_at_ne xs _ (by omega)]; exact hx.regs i hi⟩
  · dsimp only
    rw [getD_set_ne _ _ _ _ _ ejk]
    exact hx.other _ (by omega)

theorem Core.setReg (h : Core w B S X m) (hlr : m.regs.length = m.progs.length) {tb cap k : Nat} (hk : k < m.progs.length) (hr8 : (m.regs.getD k []).length = 8) (e : X.tv = .slice (some ⟨tb, 0, none⟩) m.progs.length cap) (r : Nat) (hr : r < 8) (z : Int) :
    Core (w.setCell ⟨tb, k * 11 + 3 + r, none⟩ (.int .u64 z)) B S X { m with regs := m.regs.set k ((m.regs.getD k []).set r z) } ∧ Keeps S w (w.setCell ⟨tb, k * 11 + 3 + r, none⟩ (.int .u64 z)) := by
  refine h.tset e _ _ rfl rfl rfl rfl rfl rfl fun xs hl hx j hj => ?_
  have hx := hx j hj
  by_cases ejk : k = j
  · subst ejk
    dsimp only
    rw [getD_set_eq _ _ _ _ (by omega)]
    obtain ⟨z', h1, h2⟩ := hx.at_
    refine ⟨by rw [set_at_ne xs _ (by omega)]; exact hx.prog, ⟨z', by rw [set_at_ne xs _ (by omega)]; exact h1, h2⟩, by rw [set_at_ne xs _ (by omega)]; exact hx.ended, fun i hi => ?_⟩
    by_cases eir : r = i
    · subst eir
      rw [set_at_eq xs _ (by omega), getD_set_eq _ _ _ _ (by omega)]
    · rw [set_at_ne xs _ (by omega), getD_set_ne _ _ _ _ _ eir]
      exact hx.regs i hi
  · dsimp only
    rw [getD_set_ne _ _ _ _ _ ejk]
    exact hx.other _ (by omega)

/-- Where a thread is is no matter once it is at its end. -/
theorem Core.atAny (h : Core w B S X m) {k : Nat} (he : m.ended.getD k false = true) (hla : m.at_.length = m.progs.length) (z : Int) : Core w B S X { m with at_ := m.at_.set k z } := by
  obtain ⟨xs, ho, hx⟩ := h.thr
  refine ⟨h.at_, h.mem, h.lot, ⟨xs, ho, fun j hj => ?_⟩, h.prog, h.acts, h.events, h.sc, h.sm, h.sl, h.sv, h.sp, h.slo⟩
  have hj : j < m.progs.length := hj
  have hx := hx j hj
  by_cases ejk : k = j
  · subst ejk
    dsimp only
    rw [getD_set_eq _ _ _ _ (by omega)]
    obtain ⟨z', h1, _⟩ := hx.at_
    exact ⟨hx.prog, ⟨z', h1, fun h => by rw [he] at h; cases h⟩, hx.ended, hx.regs⟩
  · dsimp only
    rw [getD_set_ne _ _ _ _ _ ejk]
    exact hx

theorem Core.setMem (h : Core w B S X m) {cs : List Int} (hM : Mem w' B X.mb X.mv cs) (hg : w.grownBy w' X.mv.ownBlock) : Core w' B S X { m with cells := cs } ∧ Keeps S w w' := by
  have hk : Keeps (fun k => some k = X.mv.ownBlock) w w' := Keeps.of_grown hg (fun k e => e.symm)
  obtain ⟨_, a2, a3, a4, a5, a6, a7, a8⟩ := h.rest hk (tagged_row h.mem.own)
  exact ⟨⟨a7 (by decide), hM, a2 (by decide) (by decide), a3 (by decide), a4 (by decide), a5 (by decide), a6 (by decide), h.sc, h.sm, h.sl, h.sv, h.sp, a8⟩, hk.wide (fun k e => h.sv X.mv (by simp) k e.symm)⟩

/-- From S on to what S is then: no more than what is new. -/
def Since (S S' : Nat → Prop) (w : World) : Prop := ∀ k, S' k → S k ∨ w.heap.size ≤ k
theorem Since.refl (S : Nat → Prop) (w : World) : Since S S w := fun _ h => .inl h
theorem Since.trans {S S' S'' : Nat → Prop} {w w' : World} (h : Since S S' w) (h' : Since S' S'' w') (hs : w.heap.size ≤ w'.heap.size) : Since S S'' w := fun k hk => by
  rcases h' k hk with hk | hk
  · exact h k hk
  · exact .inr (by omega)
theorem Keeps.on {S S' : Nat → Prop} {a b c : World} (h : Keeps S a b) (hS : Since S S' a) (k : Keeps S' b c) : Keeps S a c :=
  ⟨k.os.trans h.os, k.tape.trans h.tape, k.output.trans h.output, Nat.le_trans h.size k.size, fun i hi hn => (k.block i (Nat.lt_of_lt_of_le hi h.size) (fun hs => by
    rcases hS i hs with h1 | h1
    · exact hn h1
    · omega)).trans (h.block i hi hn)⟩

/-- What S is with a new row. -/
def withRow (S : Nat → Prop) (v : Value) (k : Nat) : Prop := S k ∨ v.ownBlock = some k

theorem Core.setLot (h : Core w B S X m) {lv : Value} {l : List (Int × Int)} (hL : Lot w' B X.lb (m.progs.length : Int) lv l) (hk : Keeps (fun k => k = X.lb ∨ some k = X.lv.ownBlock) w w') (hv : ∀ g, lv.ownBlock = some g → S g ∨ w.heap.size ≤ g) :
    Core w' B (withRow S lv) { X with lv := lv } { m with lot := l } ∧ Keeps S w w' ∧ Since S (withRow S lv) w := by
  have ht := (tagged_block h.lot.at_).or (tagged_row h.lot.own)
  obtain ⟨a1, _, a3, a4, a5, a6, a7, a8⟩ := h.rest hk ht
  refine ⟨⟨a7 (by decide), a1 (by decide) (by decide), hL, a3 (by decide), a4 (by decide), a5 (by decide), a6 (by decide), .inl h.sc, .inl h.sm, .inl h.sl, ?_, fun k hk2 g hg => .inl (h.sp k hk2 g hg), ?_⟩, hk.wide ?_, ?_⟩
  · intro v hv2 g hg
    rcases hv2 with rfl | rfl | rfl | rfl | rfl
    · exact .inl (h.sv _ (by simp) g hg)
    · exact .inr hg
    · exact .inl (h.sv _ (by simp) g hg)
    · exact .inl (h.sv _ (by simp) g hg)
    · exact .inl (h.sv _ (by simp) g hg)
  · rintro k (hs | hs)
    · exact a8 k hs
    · exact hL.own.lt k hs
  · rintro k (rfl | e)
    · exact h.sl
    · exact h.sv _ (by simp) k e.symm
  · rintro k (hs | hs)
    · exact .inl hs
    · exact hv k hs

/-- An act more: behind the append, the row is stored. -/
theorem Core.addAct (h : Core w B S X m) {av : Value} {l : List Act6} (ho : w'.ownsRow B 137 6 av l.length (cellsA l)) (hg : w.grownBy w' X.av.ownBlock) (hv : av.ownBlock = X.av.ownBlock ∨ av.ownBlock = some w.heap.size) :
    Core (w'.setCell ⟨X.c, 3, none⟩ av) B (withRow S av) { X with av := av } { m with acts := l } ∧ Keeps S w (w'.setCell ⟨X.c, 3, none⟩ av) ∧ Since S (withRow S av) w := by
  have hk1 : Keeps (fun k => some k = X.av.ownBlock) w w' := Keeps.of_grown hg (fun k e => e.symm)
  have hat := block_tags h.at_ hk1 (tagged_row h.acts) (by decide)
  have hk : Keeps (fun k => k = X.c ∨ some k = X.av.ownBlock) w (w'.setCell ⟨X.c, 3, none⟩ av) := (hk1.wide (fun k e => .inr e)).setCell ⟨X.c, 3, none⟩ (.inl rfl) av
  have ht := (tagged_block h.at_).or (tagged_row h.acts)
  obtain ⟨a1, a2, a3, a4, _, a6, _, a8⟩ := h.rest hk ht
  have hne : av.ownBlock ≠ some X.c := by
    intro e
    obtain ⟨c, fz, hc⟩ := Lib.ownsRow_kind ho X.c e
    rw [hat] at hc
    injection hc with hc
    injection hc with _ ht _
    exact absurd ht (by decide)
  refine ⟨⟨heap_setCell_same w' X.c 3 _ _ av hat, a1 (by decide) (by decide), a2 (by decide) (by decide), a3 (by decide), a4 (by decide), ownsRow_setCell_other ho (a := ⟨X.c, 3, none⟩) hne av, a6 (by decide), .inl h.sc, .inl h.sm, .inl h.sl, ?_, fun k hk2 g hg2 => .inl (h.sp k hk2 g hg2), ?_⟩, hk.wide ?_, ?_⟩
  · intro v hv2 g hg2
    rcases hv2 with rfl | rfl | rfl | rfl | rfl
    · exact .inl (h.sv _ (by simp) g hg2)
    · exact .inl (h.sv _ (by simp) g hg2)
    · exact .inl (h.sv _ (by simp) g hg2)
    · exact .inr hg2
    · exact .inl (h.sv _ (by simp) g hg2)
  · rintro k (hs | hs)
    · exact a8 k hs
    · rw [size_setCell]; exact ho.lt k hs
  · rintro k (rfl | e)
    · exact h.sc
    · exact h.sv _ (by simp) k e.symm
  · rintro k (hs | hs)
    · exact .inl hs
    · rcases hv with e | e
      · exact .inl (h.sv X.av (by simp) k (by rw [← e]; exact hs))
      · rw [e] at hs
        injection hs with hs
        exact .inr (by omega)

theorem Core.addEvent (h : Core w B S X m) {ev : Value} {l : List Ev4} (ho : w'.ownsRow B 44 4 ev l.length (cellsE l)) (hg : w.grownBy w' X.ev.ownBlock) (hv : ev.ownBlock = X.ev.ownBlock ∨ ev.ownBlock = some w.heap.size) :
    Core (w'.setCell ⟨X.c, 4, none⟩ ev) B (withRow S ev) { X with ev := ev } { m with events := l } ∧ Keeps S w (w'.setCell ⟨X.c, 4, none⟩ ev) ∧ Since S (withRow S ev) w := by
  have hk1 : Keeps (fun k => some k = X.ev.ownBlock) w w' := Keeps.of_grown hg (fun k e => e.symm)
  have hat := block_tags h.at_ hk1 (tagged_row h.events) (by decide)
  have hk : Keeps (fun k => k = X.c ∨ some k = X.ev.ownBlock) w (w'.setCell ⟨X.c, 4, none⟩ ev) := (hk1.wide (fun k e => .inr e)).setCell ⟨X.c, 4, none⟩ (.inl rfl) ev
  have ht := (tagged_block h.at_).or (tagged_row h.events)
  obtain ⟨a1, a2, a3, a4, a5, _, _, a8⟩ := h.rest hk ht
  have hne : ev.ownBlock ≠ some X.c := by
    intro e
    obtain ⟨c, fz, hc⟩ := Lib.ownsRow_kind ho X.c e
    rw [hat] at hc
    injection hc with hc
    injection hc with _ ht _
    exact absurd ht (by decide)
  refine ⟨⟨heap_setCell_same w' X.c 4 _ _ ev hat, a1 (by decide) (by decide), a2 (by decide) (by decide), a3 (by decide), a4 (by decide), a5 (by decide), ownsRow_setCell_other ho (a := ⟨X.c, 4, none⟩) hne ev, .inl h.sc, .inl h.sm, .inl h.sl, ?_, fun k hk2 g hg2 => .inl (h.sp k hk2 g hg2), ?_⟩, hk.wide ?_, ?_⟩
  · intro v hv2 g hg2
    rcases hv2 with rfl | rfl | rfl | rfl | rfl
    · exact .inl (h.sv _ (by simp) g hg2)
    · exact .inl (h.sv _ (by simp) g hg2)
    · exact .inl (h.sv _ (by simp) g hg2)
    · exact .inl (h.sv _ (by simp) g hg2)
    · exact .inr hg2
  · rintro k (hs | hs)
    · exact a8 k hs
    · rw [size_setCell]; exact ho.lt k hs
  · rintro k (rfl | e)
    · exact h.sc
    · exact h.sv _ (by simp) k e.symm
  · rintro k (hs | hs)
    · exact .inl hs
    · rcases hv with e | e
      · exact .inl (h.sv X.ev (by simp) k (by rw [← e]; exact hs))
      · rw [e] at hs
        injection hs with hs
        exact .inr (by omega)
end
end Go.Proofs.YtkmidefgmefohaaDoor
