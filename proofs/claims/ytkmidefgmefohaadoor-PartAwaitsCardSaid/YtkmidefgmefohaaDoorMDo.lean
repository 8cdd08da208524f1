/-
  do: a thread's instruction.
-/
import Derived.Test.YtkmidefgmefohaaDoorMGroup
namespace Go.Proofs.YtkmidefgmefohaaDoor
set_option maxRecDepth 100000
open Go.RowKit Go.Shelf Go.Sort
set_option linter.unusedVariables false

/-- What do asks of a machine (its step counted already): thread k, under way and awake, at instruction i. -/
structure DoAt (m : Mach) (k i : Nat) (x : Ins5) : Prop where
  hk : k < m.progs.length
  la : m.at_.length = m.progs.length
  le : m.ended.length = m.progs.length
  lr : m.regs.length = m.progs.length
  r8 : (m.regs.getD k []).length = 8
  ru : ∀ v ∈ m.regs.getD k [], okU v
  up : m.ended.getD k false = false
  at_ : m.at_.getD k 0 = (i : Int)
  hi : i < (m.progs.getD k []).length
  ins : (m.progs.getD k []).getD i default = x
  small : i < 100000

/-- What do reads at first. -/
structure DoRead (w : World) (X : KB) (m : Mach) (k i : Nat) (x : Ins5) (tb g : Nat) (n cap pl pc : Nat) : Prop where
  c2 : w.cell? ⟨X.c, 2, none⟩ = some (.slice (some ⟨tb, 0, none⟩) n cap)
  p0 : w.cell? ⟨tb, k * 11, none⟩ = some (.slice (some ⟨g, 0, none⟩) pl pc)
  p1 : w.cell? ⟨tb, k * 11 + 1, none⟩ = some (.int .i64 i)
  i0 : w.cell? ⟨g, i * 5, none⟩ = some (.int .i64 x.1)
  i1 : w.cell? ⟨g, i * 5 + 1, none⟩ = some (.int .i64 x.2.1)
  i2 : w.cell? ⟨g, i * 5 + 2, none⟩ = some (.int .i64 x.2.2.1)
  i3 : w.cell? ⟨g, i * 5 + 3, none⟩ = some (.int .i64 x.2.2.2.1)
  i4 : w.cell? ⟨g, i * 5 + 4, none⟩ = some (.int .i64 x.2.2.2.2)
  f1 : w.frozen? ⟨tb, k * 11 + 1, none⟩ = false
  hi : i < pl
  hk : k < n
  htb : tb < w.heap.size

theorem doRead {w : World} {B : Nat} {S : Nat → Prop} {X : KB} {m : Mach} {k i : Nat} {x : Ins5} (h : Core w B S X m) (hd : DoAt m k i x) : ∃ tb cap g pl pc n, n = m.progs.length ∧ X.tv = .slice (some ⟨tb, 0, none⟩) m.progs.length cap ∧ DoRead w X m k i x tb g n cap pl pc := by
  obtain ⟨tb, cap, htv, -, htb⟩ := h.tform (by have := hd.hk; omega)
  obtain ⟨g, pc, hpv, -, i0, i1, i2, i3, i4⟩ := h.ins hd.hk hd.hi
  obtain ⟨p0, ⟨z, hz, hz2⟩, -, -, hf⟩ := h.thread hd.hk htv
  have e := hz2 hd.up
  rw [hd.at_] at e
  subst e
  rw [hd.ins] at i0 i1 i2 i3 i4
  rw [hpv] at p0
  exact ⟨tb, cap, g, _, pc, _, rfl, htv, by rw [← htv]; exact h.cells.2.2.1, p0, hz, i0, i1, i2, i3, i4, hf _, hd.hi, hd.hk, htb⟩

def at1 (m : Mach) (k i : Nat) : Mach := { m with at_ := m.at_.set k ((i : Int) + 1) }

/-- Behind the count of the instruction: the machine, in all worlds that grew from there. -/
theorem do_at {w : World} {B : Nat} {S : Nat → Prop} {X : KB} {m : Mach} {k i tb cap : Nat} {x : Ins5} (h : Core w B S X m) (hd : DoAt m k i x) (htv : X.tv = .slice (some ⟨tb, 0, none⟩) m.progs.length cap) (w' : World) (hg : (w.setCell ⟨tb, k * 11 + 1, none⟩ (.int .i64 ((i : Int) + 1))).grownBy w' none) :
    Core w' B S X (at1 m k i) ∧ Keeps S w w' := by
  obtain ⟨h1, h2⟩ := h.setAt hd.la hd.hk htv ((i : Int) + 1)
  exact ⟨h1.grow hg, h2.trans (Keeps.of_grown hg (by intro k hk; cases hk))⟩
end Go.Proofs.YtkmidefgmefohaaDoor
