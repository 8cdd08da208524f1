/-
  The reference's lot: who falls asleep.
-/
import Derived.Test.YtnooegfhkeddnaaDoorRLotB
import Derived.Test.YtnooegfhkeddnaaDoorREntry
import Derived.Deep.RegionWith
namespace Go.Proofs.YtnooegfhkeddnaaDoor
set_option maxRecDepth 100000
open Go.RowKit Go.Shelf

section
variable {w : World} {B r : Nat} {nt clock : Int} {bs bw m : Nat} {f g : Int → Option Int}

def RSlept (B r : Nat) (nt clock : Int) (bs bw m : Nat) (f g : Int → Option Int) (t c : Int) (w : World) (e : Ending) (w' : World) : Prop :=
  e = .returned (.int .i64 0) ∧ RLot w' B r nt (clock + 1) bs bw (m + 1) (putAt f t (clock + 1)) (putAt g t c) ∧ Keeps (fun k => k = r ∨ k = bs ∨ k = bw) w w'

/-- The clock ticks. -/
theorem RLot.tick (h : RLot w B r nt clock bs bw m f g) (x : Int) : RLot ((w.setCell ⟨r, 1, none⟩ (.int .i64 x)).drew) B r nt x bs bw m f g := by
  have e1 := heap_setCell_same w r 1 _ _ (.int .i64 x) h.at_
  refine ⟨?_, h.since.block ?_, h.where_.block ?_, h.ne, h.lr, h.ls, h.lw⟩
  · show (w.setCell ⟨r, 1, none⟩ (.int .i64 x)).heap[r]? = _
    simpa using e1
  · exact heap_setCell_other w ⟨r, 1, none⟩ bs _ (fun e => h.rs e.symm)
  · exact heap_setCell_other w ⟨r, 1, none⟩ bw _ (fun e => h.rw_ e.symm)

/-- What the two assignments to entries do, from the world W on. -/
theorem two_entries {W : World} (h : RLot W B r nt clock bs bw m f g) (t c : Int) (ht : (Lit.int .i64 t).wf = true) (hc : (Lit.int .i64 c).wf = true) (hk : (Lit.int .i64 clock).wf = true) (hm : m ≤ 1000) :
    ∃ (v1 v2 : Value) (s1 s2 : Nat) (w2 w3 w4 w5 : World),
      (Instr.mapEntry 83 (.map (some bs)) (.int .i64 t)).run Tryd.prog W = .ok (.tuple #[v1, .int .i64 s1]) w2 ∧
      (Instr.entryStore 83 (.map (some bs)) (.int .i64 s1) (.int .i64 clock)).run Tryd.prog w2 = .ok () w3 ∧
      (Instr.mapEntry 83 (.map (some bw)) (.int .i64 t)).run Tryd.prog w3 = .ok (.tuple #[v2, .int .i64 s2]) w4 ∧
      (Instr.entryStore 83 (.map (some bw)) (.int .i64 s2) (.int .i64 c)).run Tryd.prog w4 = .ok () w5 ∧
      W.grownBy w2 (some bs) ∧ W.grownBy w3 (some bs) ∧ w3.grownBy w5 (some bw) ∧
      RLot w5 B r nt clock bs bw (m + 1) (putAt f t clock) (putAt g t c) := by
  have hml : m < maxLen := by unfold maxLen; omega
  obtain ⟨v1, s1, w2, e1, g1, k1⟩ := h.since.entry Tryd.underlying83 Tryd.underlying3 (zeroInt W) hml t ht
  obtain ⟨w3, e2, i3, g2⟩ := k1 w2 clock hk rfl
  have g13 : W.grownBy w3 (some bs) := g1.trans g2
  have hw3 : IM .i64 3 w3 bw m g := h.where_.kept g13 (fun e => h.ne (by injection e with e; exact e.symm))
  obtain ⟨v2, s2, w4, e3, g3, k3⟩ := hw3.entry Tryd.underlying83 Tryd.underlying3 (zeroInt w3) hml t ht
  obtain ⟨w5, e4, i5, g4⟩ := k3 w4 c hc rfl
  have g35 : w3.grownBy w5 (some bw) := g3.trans g4
  have hr1 : some r ≠ some bs := fun e => h.rs (by injection e)
  have hr2 : some r ≠ some bw := fun e => h.rw_ (by injection e)
  refine ⟨v1, v2, s1, s2, w2, w3, w4, w5, e1, e2, e3, e4, g1, g13, g35, ?_, i3.kept g35 (fun e => h.ne (by injection e)), i5, h.ne, h.lr, h.ls, h.lw⟩
  rw [g35.block r (Nat.lt_of_lt_of_le h.lt g13.size) hr2, g13.block r h.lt hr1]
  exact h.at_

set_option maxHeartbeats 4000000 in
theorem rsleep_new (h : RLot w B r nt clock bs bw m f g) (h0 : 0 ≤ nt) (h1 : nt ≤ 16) (t c : Int) (ht0 : 0 ≤ t) (ht1 : t < nt) (hc0 : 0 ≤ c) (hc1 : c < 300) (hf : f t = none) (hk0 : 0 ≤ clock) (hk1 : clock ≤ 1000) (hm : m ≤ 1000) :
    Calls Tryd.prog 21 #[.pointer (some ⟨r, 0, none⟩), .int .i64 t, .int .i64 c] w (RSlept B r nt clock bs bw m f g t c w) := by
  obtain ⟨c0, c1, c2, c3, cf⟩ := h.cells
  have hwt := wf_small t (by omega) (by omega)
  have hl := h.since.look Tryd.underlying83 Tryd.underlying3 (zeroInt w) t hwt
  rw [hf] at hl
  have HW := Lib.hid (within_yes t 0 (nt - 1) w ht0 (by omega))
  have HX := Lib.hid (within_yes c 0 299 w hc0 (by omega))
  have H := Lib.hid h
  clear h hf
  go_enter Tryd.func21, Tryd.ntmps21
  go_wp2_with fail
  refine HW.out.mono ?_
  rintro e w1 ⟨rfl, rfl⟩
  go_wp2_with fail
  refine HX.out.mono ?_
  rintro e w1 ⟨rfl, rfl⟩
  go_wp2_with fail
  clear HW HX
  have hn := H.out.tick (clock + 1)
  obtain ⟨v1, v2, s1, s2, w2, w3, w4, w5, e1, e2, e3, e4, g2, g3, g5, hL⟩ := two_entries hn t c hwt (wf_small c (by omega) (by omega)) (wf_small (clock + 1) (by omega) (by omega)) hm
  have n2 := (RLot.cells hn)
  have hrs : some r ≠ some bs := fun e => hn.rs (by injection e)
  have at2 := (g2.block r hn.lt hrs).trans hn.at_
  have at3 := (g3.block r hn.lt hrs).trans hn.at_
  have p1 : w2.cell? ⟨r, 1, none⟩ = some (.int .i64 (clock + 1)) := by rw [cell_of_row w2 r 1 _ _ _ at2]; rfl
  have p2 : w2.cell? ⟨r, 2, none⟩ = some (.map (some bs)) := by rw [cell_of_row w2 r 2 _ _ _ at2]; rfl
  have p3 : w2.cell? ⟨r, 3, none⟩ = some (.map (some bw)) := by rw [cell_of_row w2 r 3 _ _ _ at2]; rfl
  have q3 : w3.cell? ⟨r, 3, none⟩ = some (.map (some bw)) := by rw [cell_of_row w3 r 3 _ _ _ at3]; rfl
  obtain ⟨n0, n1, n2, n3, _⟩ := n2
  have HL := Lib.hid hL
  have hk0' : Keeps (fun k => k = r ∨ k = bs ∨ k = bw) w (w.setCell ⟨r, 1, none⟩ (.int .i64 (clock + 1))).drew := (Keeps.setCell (S := fun k => k = r ∨ k = bs ∨ k = bw) (w := w) ⟨rfl, rfl, rfl, Nat.le_refl _, fun _ _ _ => rfl⟩ ⟨r, 1, none⟩ (Or.inl rfl) (.int .i64 (clock + 1))).trans ⟨rfl, rfl, rfl, Nat.le_refl _, fun _ _ _ => rfl⟩
  have HK : Hid (Keeps (fun k => k = r ∨ k = bs ∨ k = bw) w w5) := Lib.hid ((hk0'.trans (Keeps.of_grown g3 (fun k e => .inr (.inl (by injection e with e; exact e.symm))))).trans (Keeps.of_grown g5 (fun k e => .inr (.inr (by injection e with e; exact e.symm)))))
  clear hL g2 g3 g5 at2 at3 hn hrs H hk0'
  go_region
  all_goals
    go_wp2
    go_ret
    exact ⟨rfl, HL.out, HK.out⟩
end
end Go.Proofs.YtnooegfhkeddnaaDoor
