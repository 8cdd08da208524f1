/-
  A row of the call's own events that grows. A drawn region, operation by operation, by the library's laws of what is held: with the slot that is written named. slices.Clone, slices.IndexFunc and slices.DeleteFunc at []api.Move. Two machines that lie apart.
-/
import Derived.Test.YtgkfhihnfllmhaaGreatDoorQXE2
import Derived.Test.YtgkfhihnfllmhaaGreatDoorQXJ2
import Derived.Test.YtgkfhihnfllmhaaGreatDoorQXA
import Derived.OrdersHeld
import Derived.Deep.RegionHeld
import Derived.Test.YtgkfhihnfllmhaaGreatDoorQXE3
import Derived.Test.YtgkfhihnfllmhaaGreatDoorQXI2
namespace Go.Proofs.YtgkfhihnfllmhaaGreatDoor
set_option maxRecDepth 100000
open Go.RowKit
set_option linter.unusedVariables false
set_option linter.unusedSimpArgs false

theorem infoEv : (Tryz.prog.info? 48).map (fun i => (i.zero, i.size, i.bytes)) = some (some (.agg #[.int .i64 0, .int .i64 0, .int .i64 0, .int .i64 0]), 4, 32) := by kernel_rfl
/-- A row of the call's own events, so far. -/
structure RowE (w : World) (A : Option Addr) (n c : Nat) (l : List Ev4) (wr : World) : Prop where
  len : l.length = n
  own : wr.ownsRow w.heap.size 48 4 (.slice A n c) n (cellsE l)
  bel : Below w.heap.size w wr
theorem RowE.nil (w : World) : RowE w none 0 0 [] w := ⟨rfl, World.ownsRow_nil _ _ _ _, Below.refl _ _⟩
theorem RowE.alloc {w wr : World} {A : Option Addr} {n c : Nat} {l : List Ev4} (h : RowE w A n c l wr) (o : Obj) : RowE w A n c l (wr.alloc o) := ⟨h.len, h.own.alloc o, h.bel.alloc h.bel.size o⟩
theorem RowE.one {w wr : World} {A : Option Addr} {n c : Nat} {l : List Ev4} (h : RowE w A n c l wr) (x : Ev4) (hn : n ≤ 100000) :
    ∃ A' c' w', (Builtin.append_ #[34, 34] 34 #[.slice A n c, .slice (some ⟨wr.heap.size, 0, none⟩) 1 1]).run Tryz.prog (wr.alloc (.cells #[.int .i64 x.1, .int .i64 x.2.1, .int .i64 x.2.2.1, .int .i64 x.2.2.2] 48)) = .ok (.slice A' (n + 1) c') w' ∧ RowE w A' (n + 1) c' (l ++ [x]) w' := by
  obtain ⟨i0, hi, hz0, hz1, hz2⟩ := info_parts infoEv
  have hb := h.bel.alloc h.bel.size (.cells #[.int .i64 x.1, .int .i64 x.2.1, .int .i64 x.2.2.1, .int .i64 x.2.2.2] 48)
  have hat := heap_alloc_new wr (.cells #[.int .i64 x.1, .int .i64 x.2.1, .int .i64 x.2.2.1, .int .i64 x.2.2.2] 48)
  have hnews := World.news_of_block (cs := #[.int .i64 x.1, .int .i64 x.2.1, .int .i64 x.2.2.1, .int .i64 x.2.2.2]) hat
  obtain ⟨v', w', hr, ho, hg, _⟩ := run_append_own (P := Tryz.prog) (wr.alloc (.cells #[.int .i64 x.1, .int .i64 x.2.1, .int .i64 x.2.2.1, .int .i64 x.2.2.2] 48)) w.heap.size 34 34 48 i0 (.agg #[.int .i64 0, .int .i64 0, .int .i64 0, .int .i64 0]) 4 32 Tryz.underlying34 hi hz0 hz1 hz2 rfl (by decide) (.slice A n c) n _ (h.own.alloc _) ⟨wr.heap.size, 0, none⟩ 1 1 (evC x) rfl (by simpa [evC] using hnews) (by intro u hu; simp [evC] at hu; rcases hu with rfl | rfl | rfl | rfl <;> rfl) (by unfold maxLen; omega) (by omega) hb.size
  obtain ⟨A', c', rfl⟩ : ∃ A' c', v' = .slice A' (n + 1) c' := by
    rcases ho.2 with ⟨rfl, e⟩ | ⟨g, cap, cur, rfl, _⟩
    · exact ⟨none, 0, by rw [e]⟩
    · exact ⟨_, _, rfl⟩
  exact ⟨A', c', w', hr, by rw [List.length_append, h.len]; rfl, by rw [cellsE_append, cellsE_one]; exact ho, hb.grown hg hb.size (fun k hk => (h.own.lt k hk).1)⟩
end Go.Proofs.YtgkfhihnfllmhaaGreatDoor

namespace Go.Proofs.YtgkfhihnfllmhaaGreatDoor
set_option maxRecDepth 100000
open Go.RowKit

section
variable {P : Program} {ops : Array Oper} {Q : Exit → Act → World → Prop} {md : Region.Mode} {S : World → Prop}

theorem heldH_take {i : Nat} {oi : Oper} {v : Value} {n N : Nat} {listed : Array Bool} {a : Act} {w : World} {dst : Option Tmp} (hN : N = n + 1) (hi : ops[i]? = some oi) (hd : oi.dst = dst)
    (hs : Region.noSelect ops = true) (hf : Region.free md ops listed i = true) (hr : (Region.ready md ops listed).contains i = true)
    (hQ : ∀ c a w, Q (.panic c) (a.put dst v) w → Q (.panic c) a w) (hy : YieldsIf P ops S oi v a) (hS : S w)
    (h : wpAnyH P md ops Q S n (listed.setIfInBounds i true) (a.put dst v) w) : wpAnyH P md ops Q S N listed a w := by
  subst hN hd
  exact wpAnyH_take hi hs hf hr hQ hy hS h
theorem heldH_step {i : Nat} {o : Oper} {n N : Nat} {listed : Array Bool} {a : Act} {w : World} (hN : N = n + 1) (hr : Region.ready md ops listed = [i]) (ho : ops[i]? = some o)
    (h : ∀ K : Act → World → Prop, (∀ a w, S w → (S w → wpAnyH P md ops Q S n (listed.setIfInBounds i true) a w) → K a w) → if Region.wanted o (yielded ops a.tmps) = true then Oper.wp P o a w K Q else K (a.put o.dst undef) w) : wpAnyH P md ops Q S N listed a w := by
  subst hN
  refine wpAnyH_all hr (by simp) fun j hj => ?_
  obtain rfl := List.mem_singleton.1 hj
  exact wpOp_step ho (fun K hK => h K (fun a w hS hW => hK a w ⟨hS, hW hS⟩))
theorem region_heldH {id : Nat} {a : Act} {w : World} (N : Nat) (hN : ops.size = N) (hm : P.follows .mixedOrders = true) (hS : S w.drew)
    (h : S w.drew → wpAnyH P .any ops Q S N (Array.replicate N false) a w.drew) : (Code.region id ops true).wp P Q a w := by
  subst hN
  exact wp_region_held_drew hm hS h
end
end Go.Proofs.YtgkfhihnfllmhaaGreatDoor

namespace Go.Proofs.YtgkfhihnfllmhaaGreatDoor
set_option maxRecDepth 100000
open Go.RowKit Go.Shelf
set_option linter.unusedVariables false
set_option linter.unusedSimpArgs false

theorem infoMove : (Tryz.prog.info? 100).map (fun i => (i.zero, i.size, i.bytes)) = some (some (.agg #[.int .i64 0, .bool false]), 2, 16) := by kernel_rfl

/-- The cells of sleepers, one behind the other. -/
def cellsM : List (Int × Bool) → List Value
  | [] => []
  | s :: l => .int .i64 s.1 :: .bool s.2 :: cellsM l

theorem cellsM_length (l : List (Int × Bool)) : (cellsM l).length = l.length * 2 := by
  induction l with
  | nil => rfl
  | cons s l ih => simp only [cellsM, List.length_cons, ih]; omega

theorem cellsM_append (l r : List (Int × Bool)) : cellsM (l ++ r) = cellsM l ++ cellsM r := by
  induction l with
  | nil => rfl
  | cons s l ih => simp only [List.cons_append, cellsM, ih]

theorem cellsM_at (l : List (Int × Bool)) (k : Nat) (h : k < l.length) : (cellsM l)[k * 2]? = some (.int .i64 (l.getD k default).1) ∧ (cellsM l)[k * 2 + 1]? = some (.bool (l.getD k default).2) := by
  induction l generalizing k with
  | nil => exact absurd h (Nat.not_lt_zero _)
  | cons s l ih =>
    rcases k with _ | k
    · exact ⟨rfl, rfl⟩
    · have h1 := ih k (by simpa using h)
      rw [show (k + 1) * 2 = k * 2 + 1 + 1 from by omega]
      exact h1

theorem cellsM_one (l : List (Int × Bool)) : ∀ u ∈ cellsM l, u.oneCell' = true := by
  induction l with
  | nil => intro u hu; cases hu
  | cons s l ih =>
    intro u hu
    simp only [cellsM, List.mem_cons] at hu
    rcases hu with rfl | rfl | hu
    · rfl
    · rfl
    · exact ih u hu

theorem news_of_moves {w : World} {B : Nat} {ad : Addr} {n : Nat} {l : List (Int × Bool)} (h : Moves w B (some ad) n l) : ∀ j u, (cellsM l)[j]? = some u → w.cell? (ad.add j) = some u := by
  intro j u hu
  have hl := h.len
  have hj : j < (cellsM l).length := (List.getElem?_eq_some_iff.1 hu).1
  rw [cellsM_length] at hj
  obtain ⟨b, off, e, _, hc⟩ := h.row (by omega)
  obtain rfl : ad = ⟨b, off, none⟩ := by injection e
  obtain ⟨c1, c2⟩ := hc (j / 2) (by omega)
  obtain ⟨h1, h2⟩ := cellsM_at l (j / 2) (by omega)
  have ha : (⟨b, off, none⟩ : Addr).add j = ⟨b, off + j, none⟩ := by unfold Addr.add; split <;> simp_all
  rw [ha]
  have hr : j % 2 = 0 ∨ j % 2 = 1 := by omega
  rcases hr with hr | hr
  · rw [show off + j = off + j / 2 * 2 by omega, c1, ← h1, show j / 2 * 2 = j by omega, hu]
  · rw [show off + j = off + j / 2 * 2 + 1 by omega, c2, ← h2, show j / 2 * 2 + 1 = j by omega, hu]
theorem moves_own {w : World} {B n : Nat} {A : Option Addr} {c : Nat} {l : List (Int × Bool)} (h : w.ownsRow B 100 2 (.slice A n c) n (cellsM l)) (hl : l.length = n) : Moves w w.heap.size A n l := by
  refine ⟨hl, fun hn => ?_⟩
  obtain ⟨g, cap, hv, hb, hlt⟩ := h.form hn
  obtain ⟨rfl, rfl⟩ : A = some ⟨g, 0, none⟩ ∧ c = cap := by injection hv with h1 _ h3; exact ⟨h1, h3⟩
  refine ⟨g, 0, rfl, hlt, fun i hi => ?_⟩
  obtain ⟨h1, h2⟩ := cellsM_at l i (by omega)
  have hl2 := cellsM_length l
  rw [Nat.zero_add]
  exact ⟨(h.cellAt _ (by omega)).trans h1, (h.cellAt _ (by omega)).trans h2⟩

/-- Those that are kept. -/
def keepM (p : Int × Bool → Bool) (l : List (Int × Bool)) : List (Int × Bool) := l.filter fun s => !p s

theorem keepM_step (p : Int × Bool → Bool) (l : List (Int × Bool)) (j : Nat) (hj : j < l.length) : keepM p (l.take (j + 1)) = keepM p (l.take j) ++ (if p (l.getD j default) then [] else [l.getD j default]) := by
  unfold keepM
  rw [List.take_succ_eq_append_getElem hj, List.filter_append, List.getD_eq_getElem?_getD, List.getElem?_eq_getElem hj]
  congr 1
  simp only [List.filter_cons, List.filter_nil, Option.getD_some]
  cases p l[j] <;> rfl

/-- What holds at every head of the loop: j are looked at, i of them kept. -/
structure SieveM (w wr : World) (g cap : Nat) (cur : Array Value) (l : List (Int × Bool)) (p : Int × Bool → Bool) (i j : Nat) : Prop where
  hj : j ≤ l.length
  hij : i < j
  row : ∃ cu, wr.heap[g]? = some (.cells cu 100 (0, 0)) ∧ cu.size = cap * 2 ∧ (∀ x, x < i * 2 → cu[x]? = (cellsM (keepM p (l.take j)))[x]?) ∧ ∀ x, j * 2 ≤ x → cu[x]? = cur[x]?
  len : (keepM p (l.take j)).length = i
  grow : w.grownBy wr (some g)

theorem SieveM.drop {w wr w' : World} {g cap : Nat} {cur : Array Value} {l : List (Int × Bool)} {p : Int × Bool → Bool} {i j : Nat} (h : SieveM w wr g cap cur l p i j) (hlt : j < l.length) (hp : p (l.getD j default) = true) (hg : wr.grownBy w' none) : SieveM w w' g cap cur l p i (j + 1) := by
  obtain ⟨cu, h1, h2, h3, h4⟩ := h.row
  have e : keepM p (l.take (j + 1)) = keepM p (l.take j) := by rw [keepM_step p l j hlt, hp, if_pos rfl, List.append_nil]
  refine ⟨by omega, by have := h.hij; omega, ⟨cu, (hg.block g (lt_of_block h1) (by simp)).trans h1, h2, by rw [e]; exact h3, fun x hx => h4 x (by omega)⟩, by rw [e]; exact h.len, h.grow.andThen hg (by intro k hk; cases hk)⟩

theorem SieveM.keep {w wr w1 : World} {g cap : Nat} {cur : Array Value} {l : List (Int × Bool)} {p : Int × Bool → Bool} {i j : Nat} (h : SieveM w wr g cap cur l p i j) (hlt : j < l.length) (hcap : l.length ≤ cap) (hp : p (l.getD j default) = false) (hg : wr.grownBy w1 none) :
    SieveM w ((w1.setCell ⟨g, i * 2, none⟩ (.int .i64 (l.getD j default).1)).setCell ⟨g, i * 2 + 1, none⟩ (.bool (l.getD j default).2)) g cap cur l p (i + 1) (j + 1) := by
  obtain ⟨cu, h1, h2, h3, h4⟩ := h.row
  have hij := h.hij
  have e : keepM p (l.take (j + 1)) = keepM p (l.take j) ++ [l.getD j default] := by rw [keepM_step p l j hlt, hp, if_neg (by simp)]
  have hh1 : w1.heap[g]? = some (.cells cu 100 (0, 0)) := (hg.block g (lt_of_block h1) (by simp)).trans h1
  have hs := heap_setCells g 100 [.int .i64 (l.getD j default).1, .bool (l.getD j default).2] (i * 2) w1 cu hh1
  refine ⟨by omega, by omega, ⟨_, hs.1, by rw [laid_size]; exact h2, fun x hx => ?_, fun x hx => ?_⟩, ?_, ?_⟩
  · rw [laid_at _ _ _ _ (by rw [h2]; simp; omega), e, cellsM_append]
    by_cases hx2 : x < i * 2
    · rw [if_neg (by omega), h3 x hx2, List.getElem?_append_left (by rw [cellsM_length, h.len]; exact hx2)]
    · rw [if_pos (by simp; omega), List.getElem?_append_right (by rw [cellsM_length, h.len]; omega), cellsM_length, h.len]
      rfl
  · rw [laid_at _ _ _ _ (by rw [h2]; simp; omega), if_neg (by simp; omega), h4 x (by omega)]
  · rw [e, List.length_append, h.len]
    rfl
  · exact (h.grow.andThen hg (by intro k hk; cases hk)).andThen hs.2 (fun k hk => .inr hk)

end Go.Proofs.YtgkfhihnfllmhaaGreatDoor

namespace Go.Proofs.YtgkfhihnfllmhaaGreatDoor
set_option maxRecDepth 100000
open Go.RowKit Go.Shelf Go.Sort
set_option linter.unusedVariables false
set_option linter.unusedSimpArgs false

/-- Two machines, apart. -/
def TwoM (w : World) (c d : Nat) (mc md : Mach) (wr : World) : Prop := ∃ Sc Xc Sd Xd, Xc.c = c ∧ Xd.c = d ∧ Core wr w.heap.size Sc Xc mc ∧ Core wr w.heap.size Sd Xd md ∧ (∀ k, Sc k → ¬ Sd k) ∧ Below w.heap.size w wr
theorem TwoM.symm {w wr : World} {c d : Nat} {mc md : Mach} (h : TwoM w c d mc md wr) : TwoM w d c md mc wr := by
  obtain ⟨Sc, Xc, Sd, Xd, e1, e2, h1, h2, h3, h4⟩ := h
  exact ⟨Sd, Xd, Sc, Xc, e2, e1, h2, h1, fun k a b => h3 k b a, h4⟩
theorem TwoM.left {w wr : World} {c d : Nat} {mc md : Mach} (h : TwoM w c d mc md wr) : At w c mc wr := by
  obtain ⟨Sc, Xc, Sd, Xd, e1, e2, h1, h2, h3, h4⟩ := h
  exact ⟨Sc, Xc, e1, h1, h4⟩
theorem TwoM.keep {w wr w' : World} {c d : Nat} {mc md : Mach} (h : TwoM w c d mc md wr) (hb : Below wr.heap.size wr w') : TwoM w c d mc md w' := by
  obtain ⟨Sc, Xc, Sd, Xd, e1, e2, h1, h2, h3, h4⟩ := h
  exact ⟨Sc, Xc, Sd, Xd, e1, e2, h1.below hb (Nat.le_refl _), h2.below hb (Nat.le_refl _), h3, h4.trans (hb.mono h4.size)⟩
theorem TwoM.of {w w4 w5 : World} {c d : Nat} {mc md : Mach} (hc : At w c mc w4) (hd : At w4 d md w5) : TwoM w c d mc md w5 := by
  have hbel := hc.bel.trans (hd.bel.mono hc.size)
  obtain ⟨Sc, Xc, e1, h1, b1⟩ := hc
  obtain ⟨Sd, Xd, e2, h2, b2⟩ := hd
  exact ⟨Sc, Xc, Sd, Xd, e1, e2, h1.below b2 (Nat.le_refl _), h2.lower b1.size, fun k hk hk2 => by have := (h1.slo k hk).2; have := (h2.slo k hk2).1; omega, hbel⟩
theorem two_fin {w wr : World} {c d : Nat} {cells0 : List Int} {mc md : Mach} (H : DanceOK) (h : TwoM w c d mc md wr) (hb : MBig cells0 mc) :
    Calls Tryz.prog 15 #[.pointer (some ⟨c, 0, none⟩)] wr fun e w' => ∃ m', Fin mc m' ∧ e = .returned (.int .i64 ((m'.steps : Int) - (mc.steps : Int))) ∧ TwoM w c d m' md w' ∧ MBig cells0 m' := by
  obtain ⟨Sc, Xc, Sd, Xd, rfl, e2, hC, hD, hdis, hB⟩ := h
  refine (H.fin hC hB.size hb).mono fun e w' ⟨m', hf, he, hm, hbig⟩ => ⟨m', hf, he, ?_, hbig⟩
  obtain ⟨S', X', e1, _, hC', hSi, hK⟩ := hm
  refine ⟨S', X', Sd, Xd, e1, e2, hC', hD.keeps hK (fun k a b => hdis k b a), fun k hk hk2 => ?_, hB.trans (below_of_keeps hK (fun k hk => (hC.slo k hk).1) hB.size)⟩
  rcases hSi k hk with h1 | h1
  · exact hdis k h1 hk2
  · have := (hD.slo k hk2).2
    omega
end Go.Proofs.YtgkfhihnfllmhaaGreatDoor
