/-
  Rows of integers: one that fills a block, one of the call's own that grows. Bodies of barriers, piece by piece, where the program lays them: Meet, Open; what is added; the whole.
-/
import Derived.Test.YtgkfhihnfllmhaaGreatDoorQXA
import Derived.Test.YtgkfhihnfllmhaaGreatDoorQXJ
import Derived.Test.YtgkfhihnfllmhaaGreatDoorQXG5
import Derived.Test.YtgkfhihnfllmhaaGreatDoorQXI2
namespace Go.Proofs.YtgkfhihnfllmhaaGreatDoor
set_option maxRecDepth 100000
open Go.RowKit
set_option linter.unusedVariables false
set_option linter.unusedSimpArgs false

/-- A row of integers that fills a block of whatever type. -/
def RowT (ty : TypeId) (w : World) (g : Nat) (xs : List Int) : Prop := ∃ C, w.heap[g]? = some (.cells C ty (0, 0)) ∧ C.toList = xs.map (Value.int .i64)
abbrev RowI (w : World) (g : Nat) (xs : List Int) : Prop := RowT 3 w g xs
theorem RowT.cell {ty : TypeId} {w : World} {g : Nat} {xs : List Int} (h : RowT ty w g xs) {i : Nat} (hi : i < xs.length) : w.cell? ⟨g, i, none⟩ = some (.int .i64 (xs.getD i 0)) ∧ w.frozen? ⟨g, i, none⟩ = false := by
  obtain ⟨C, h1, h2⟩ := h
  refine ⟨?_, frozen_of_row w g i _ _ h1⟩
  rw [cell_of_row w g i _ _ _ h1, ← Array.getElem?_toList, h2, List.getElem?_map, List.getElem?_eq_getElem hi, List.getD_eq_getElem?_getD, List.getElem?_eq_getElem hi]
  rfl
theorem RowT.below {ty : TypeId} {w w' : World} {B g : Nat} {xs : List Int} (h : RowT ty w g xs) (hb : Below B w w') (hg : g < B) : RowT ty w' g xs := by
  obtain ⟨C, h1, h2⟩ := h
  exact ⟨C, (hb.block g hg).trans h1, h2⟩
theorem RowT.lt {ty : TypeId} {w : World} {g : Nat} {xs : List Int} (h : RowT ty w g xs) : g < w.heap.size := by
  obtain ⟨C, h1, _⟩ := h
  exact (Array.getElem?_eq_some_iff.1 h1).1
theorem RowT.set {ty : TypeId} {w : World} {g : Nat} {xs : List Int} (h : RowT ty w g xs) (i : Nat) (v : Int) : RowT ty (w.setCell ⟨g, i, none⟩ (.int .i64 v)) g (xs.set i v) := by
  obtain ⟨C, h1, h2⟩ := h
  refine ⟨C.setIfInBounds i (.int .i64 v), heap_setCell_same w g i _ _ _ h1, ?_⟩
  rw [Array.toList_setIfInBounds, h2, List.map_set]
theorem RowT.ints {ty : TypeId} {w : World} {g n : Nat} {xs : List Int} (h : RowT ty w g xs) (hl : xs.length = n) : Ints .i64 w w.heap.size (some ⟨g, 0, none⟩) n xs :=
  ⟨hl, fun _ => ⟨g, 0, rfl, h.lt, fun i hi => by rw [Nat.zero_add]; exact (h.cell (by omega)).1⟩⟩
theorem below_setI {w w' : World} {B g i : Nat} {v : Value} (hb : Below B w w') (hg : B ≤ g) : Below B w (w'.setCell ⟨g, i, none⟩ v) :=
  ⟨hb.os, hb.tape, hb.output, by simpa using hb.size, fun k hk => (Below.heap_setCell w' ⟨g, i, none⟩ v k (by show k ≠ g; omega)).trans (hb.block k hk)⟩

theorem infoIntJ : (Tryz.prog.info? 3).map (fun i => (i.zero, i.size, i.bytes)) = some (some (.int .i64 0), 1, 8) := by kernel_rfl
/-- make of so many integers. -/
theorem make_ints (n : Nat) (hn : n ≤ 1000) : ∃ C : Array Value, C.toList = (List.replicate n (0 : Int)).map (Value.int .i64) ∧ ∀ W : World, Sem.run Tryz.prog (Instr.makeSlice 82 (.int .i64 (n : Int)) (.int .i64 (n : Int))) W = .ok (.slice (some ⟨W.heap.size, 0, none⟩) n n) (W.alloc (.cells C 3)) := by
  obtain ⟨i0, hi, hz0, hz1, hz2⟩ := info_parts infoIntJ
  refine ⟨madeCells #[Value.int .i64 0] (n * 1), by rw [toList_madeCells_one]; simp, fun W => ?_⟩
  have hr := run_make (P := Tryz.prog) W 82 3 i0 (.int .i64 0) Tryz.underlying82 hi hz0 .i64 .i64 n n (by omega) (Int.le_refl _) (by rw [hz2]; omega) (by omega)
  simp only [Int.toNat_natCast, hz1] at hr
  exact hr

/-- A row of the call's own integers, so far. -/
structure RowB (w : World) (A : Option Addr) (n c : Nat) (l : List Int) (wr : World) : Prop where
  len : l.length = n
  own : wr.ownsRow w.heap.size 3 1 (.slice A n c) n (l.map (Value.int .i64))
  bel : Below w.heap.size w wr
theorem RowB.one {w wr : World} {A : Option Addr} {n c : Nat} {l : List Int} (h : RowB w A n c l wr) (x : Int) (hn : n ≤ 100000) :
    ∃ A' n' c' w', (Builtin.append_ #[82, 82] 82 #[.slice A n c, .slice (some ⟨wr.heap.size, 0, none⟩) 1 1]).run Tryz.prog (wr.alloc (.cells #[.int .i64 x] 3)) = .ok (.slice A' n' c') w' ∧ RowB w A' n' c' (l ++ [x]) w' := by
  obtain ⟨i0, hi, hz0, hz1, hz2⟩ := info_parts infoIntJ
  have hb := h.bel.alloc h.bel.size (.cells #[.int .i64 x] 3)
  have hat := heap_alloc_new wr (.cells #[.int .i64 x] 3)
  obtain ⟨v', w', hr, ho, hg, _⟩ := run_append_own (P := Tryz.prog) (wr.alloc (.cells #[.int .i64 x] 3)) w.heap.size 82 82 3 i0 (.int .i64 0) 1 8 Tryz.underlying82 hi hz0 hz1 hz2 rfl (by decide) (.slice A n c) n _ (h.own.alloc _) ⟨wr.heap.size, 0, none⟩ 1 1 [.int .i64 x] rfl (by
    intro j u hu
    match j, hu with
    | 0, hu =>
      have e : u = .int .i64 x := by simpa using hu.symm
      subst e
      exact (cell_of_row _ _ 0 _ _ _ hat).trans rfl) (by intro u hu; simp at hu; subst hu; rfl) (by unfold maxLen; omega) (by omega) hb.size
  obtain ⟨A', c', rfl⟩ : ∃ A' c', v' = .slice A' (n + 1) c' := by
    rcases ho.2 with ⟨rfl, e⟩ | ⟨g, cap, cur, rfl, _⟩
    · exact ⟨none, 0, by rw [e]⟩
    · exact ⟨_, _, rfl⟩
  exact ⟨A', _, c', w', hr, by rw [List.length_append, h.len]; rfl, by rw [List.map_append]; exact ho, hb.grown hg hb.size (fun k hk => (h.own.lt k hk).1)⟩
theorem grown_of_below {w w' : World} (h : Below w.heap.size w w') : w.grownBy w' none := ⟨h.os, h.tape, h.output, h.size, fun k hk _ => h.block k hk⟩

end Go.Proofs.YtgkfhihnfllmhaaGreatDoor

namespace Go.Proofs.YtgkfhihnfllmhaaGreatDoor
set_option maxRecDepth 100000
open Go.RowKit Go.Shelf Go.Sort
set_option linter.unusedVariables false
set_option linter.unusedSimpArgs false

/-- A body that is laid, so far. -/
structure Body (w : World) (A : Option Addr) (n c : Nat) (l : List In5) (wr : World) : Prop where
  len : l.length = n
  own : wr.ownsRow w.heap.size 95 5 (.slice A n c) n (cells5 l)
  bel : Below w.heap.size w wr
theorem Body.nil (w : World) : Body w none 0 0 [] w := ⟨rfl, World.ownsRow_nil _ _ _ _, Below.refl _ _⟩
/-- One more row of the call's own is added. -/
theorem Body.more {w wr : World} {A B : Option Addr} {n c m d : Nat} {l news : List In5} (h : Body w A n c l wr) (hI : Inss wr wr.heap.size B m news) (hn : n + m ≤ 100000) :
    ∃ A' c' w', (Builtin.append_ #[89, 89] 89 #[.slice A n c, .slice B m d]).run Tryz.prog wr = .ok (.slice A' (n + m) c') w' ∧ Body w A' (n + m) c' (l ++ news) w' := by
  obtain ⟨v', w', hr, ho, hg⟩ := run_appendP (c := d) h.own hI hn h.bel.size 89
  obtain ⟨A', c', rfl⟩ := slice_of_own ho
  exact ⟨A', c', w', hr, by rw [List.length_append, h.len, hI.len], ho, h.bel.grown hg h.bel.size (fun k hk => (h.own.lt k hk).1)⟩
theorem Body.lit {w wr : World} {A : Option Addr} {n c m : Nat} {l news : List In5} (h : Body w A n c l wr) (cs : Array Value) (hcs : cs.toList = cells5 news) (hm : news.length = m) (hm1 : m ≤ 1000) (hn : n + m ≤ 100000) :
    ∃ A' c' w', (Builtin.append_ #[89, 89] 89 #[.slice A n c, .slice (some ⟨wr.heap.size, 0, none⟩) m m]).run Tryz.prog (wr.alloc (.cells cs 95)) = .ok (.slice A' (n + m) c') w' ∧ Body w A' (n + m) c' (l ++ news) w' :=
  Body.more ⟨h.len, h.own.alloc _, h.bel.alloc h.bel.size _⟩ (inss_lit hcs hm hm1) hn
theorem Body.keep {w wr w' : World} {A : Option Addr} {n c : Nat} {l : List In5} (h : Body w A n c l wr) (hg : wr.grownBy w' none) : Body w A n c l w' := ⟨h.len, own_grown h.own hg, h.bel.grown hg h.bel.size (by intro k hk; cases hk)⟩
theorem Body.first {w wr : World} (hb : Below w.heap.size w wr) (cs : Array Value) (l : List In5) (m : Nat) (hcs : cs.toList = cells5 l) (hm : l.length = m) (hm1 : m ≤ 1000) : Body w (some ⟨wr.heap.size, 0, none⟩) m m l (wr.alloc (.cells cs 95)) :=
  ⟨hm, own_lit hcs hm hm1 _ hb.size, hb.alloc hb.size _⟩

/-- What a body comes to. -/
def BodyOf (w : World) (l : List In5) (e : Ending) (w' : World) : Prop := ∃ A c, e = .returned (.slice A l.length c) ∧ Body w A l.length c l w'
theorem Body.of {w w' : World} {A : Option Addr} {n c : Nat} {l l' : List In5} (h : Body w A n c l w') (e : l = l') : BodyOf w l' (.returned (.slice A n c)) w' := by
  subst e
  have := h.len
  subst this
  exact ⟨A, c, rfl, h⟩

/-- What Meet lays, and Open. -/
def meetP (place cell size els : Int) : List In5 := [(8, 1, cell, 1, 0), (11, 1, wrap64 (size - 1), wrap64 (place + 8), 0)] ++ awaitP (wrap64 (place + 2)) (wrap64 (cell + 1)) ++ [(10, els, 0, 0, 0)]
def openP (cell size : Int) : List In5 := [(1, 2, 0, 0, 0), (7, cell, 2, -1, 0)] ++ tellP (wrap64 (cell + 1)) size

set_option maxHeartbeats 1000000 in
theorem pmeet_any (place cell size els : Int) (w : World) : Calls Tryz.prog 218 #[.int .i64 place, .int .i64 cell, .int .i64 size, .int .i64 els] w (BodyOf w (meetP place cell size els)) := by
  have b0 := Body.first (Below.refl w.heap.size w) #[.int .i64 8, .int .i64 1, .int .i64 cell, .int .i64 1, .int .i64 0, .int .i64 11, .int .i64 1, .int .i64 (wrap64 (size - 1)), .int .i64 (wrap64 (place + 8)), .int .i64 0] [(8, 1, cell, 1, 0), (11, 1, wrap64 (size - 1), wrap64 (place + 8), 0)] 2 rfl rfl (by decide)
  have HW := Lib.hid (rfl : w.heap.size = w.heap.size)
  obtain ⟨W1, hW1⟩ : ∃ W1, w.alloc (.cells #[.int .i64 8, .int .i64 1, .int .i64 cell, .int .i64 1, .int .i64 0, .int .i64 11, .int .i64 1, .int .i64 (wrap64 (size - 1)), .int .i64 (wrap64 (place + 8)), .int .i64 0] 95) = W1 := ⟨_, rfl⟩
  rw [hW1] at b0
  have HW1 := Lib.hid hW1
  obtain ⟨A1, c1, w2, hr1, b1⟩ := b0.lit (awaitC (wrap64 (place + 2)) (wrap64 (cell + 1))) (m := 5) (news := awaitP (wrap64 (place + 2)) (wrap64 (cell + 1))) rfl rfl (by decide) (by omega)
  obtain ⟨A2, c2, w3, hr2, b2⟩ := b1.lit #[.int .i64 10, .int .i64 els, .int .i64 0, .int .i64 0, .int .i64 0] (m := 1) (news := [(10, els, 0, 0, 0)]) rfl rfl (by decide) (by omega)
  have HR1 := Lib.hid hr1
  have HR2 := Lib.hid hr2
  have HB := Lib.hid b2
  clear b0 hW1 hr1 b1 hr2 b2
  go_enter Tryz.func218, Tryz.ntmps218
  go_wp2_with fail
  rw [HW1.out]
  refine (pawait_any _ _ _).mono ?_
  rintro e w1 ⟨rfl, rfl⟩
  go_wp2_with (at_builtin; first | refine Lib.wpList_append_run _ rfl _ _ _ _ rfl _ _ rfl rfl _ _ HR1.out ?_ | refine Lib.wpList_append_run _ rfl _ _ _ _ rfl _ _ rfl rfl _ _ HR2.out ?_)
  go_ret
  exact HB.out.of rfl
set_option maxHeartbeats 1000000 in
theorem popen_any (cell size : Int) (w : World) : Calls Tryz.prog 220 #[.int .i64 cell, .int .i64 size] w (BodyOf w (openP cell size)) := by
  have b0 := Body.first (Below.refl w.heap.size w) #[.int .i64 1, .int .i64 2, .int .i64 0, .int .i64 0, .int .i64 0, .int .i64 7, .int .i64 cell, .int .i64 2, .int .i64 (-1), .int .i64 0] [(1, 2, 0, 0, 0), (7, cell, 2, -1, 0)] 2 rfl rfl (by decide)
  obtain ⟨W1, hW1⟩ : ∃ W1, w.alloc (.cells #[.int .i64 1, .int .i64 2, .int .i64 0, .int .i64 0, .int .i64 0, .int .i64 7, .int .i64 cell, .int .i64 2, .int .i64 (-1), .int .i64 0] 95) = W1 := ⟨_, rfl⟩
  rw [hW1] at b0
  have HW1 := Lib.hid hW1
  obtain ⟨A1, c1, w2, hr1, b1⟩ := b0.lit (tellC (wrap64 (cell + 1)) size) (m := 2) (news := tellP (wrap64 (cell + 1)) size) rfl rfl (by decide) (by omega)
  have HR1 := Lib.hid hr1
  have HB := Lib.hid b1
  clear b0 hW1 hr1 b1
  go_enter Tryz.func220, Tryz.ntmps220
  go_wp2_with fail
  rw [HW1.out]
  refine (ptell_any _ _ _).mono ?_
  rintro e w1 ⟨rfl, rfl⟩
  go_wp2_with (at_builtin; refine Lib.wpList_append_run _ rfl _ _ _ _ rfl _ _ rfl rfl _ _ HR1.out ?_)
  go_ret
  exact HB.out.of rfl

/-! The pieces, in the words of the plain programs. -/
theorem meetP_is {j d : Nat} {c s : Nat} (ops : List BOp) (i : Nat) (hi : offs ops i ≤ 1000) (hc : c ≤ 1000) (hs : 1 ≤ s) (hs2 : s ≤ 1000) : meetP (5 + (offs ops i : Int)) c s (5 + (offs ops d : Int)) = compOp ops (5 + (offs ops i : Int)) (.meet c s d) := by
  unfold meetP compOp awaitP awaitI
  have h1 : wrap64 ((s : Int) - 1) = (s : Int) - 1 := by unfold wrap64; omega
  have h2 : wrap64 (5 + (offs ops i : Int) + 8) = 5 + (offs ops i : Int) + 8 := by unfold wrap64; omega
  have h3 : wrap64 (5 + (offs ops i : Int) + 2) = 5 + (offs ops i : Int) + 2 := by unfold wrap64; omega
  have h4 : wrap64 ((c : Int) + 1) = (c : Int) + 1 := by unfold wrap64; omega
  have h5 : wrap64 (5 + (offs ops i : Int) + 2 + 3) = 5 + (offs ops i : Int) + 2 + 3 := by unfold wrap64; omega
  have h6 : wrap64 (5 + (offs ops i : Int) + 2 + 5) = 5 + (offs ops i : Int) + 2 + 5 := by unfold wrap64; omega
  rw [h1, h2, h3, h4, h5, h6]
theorem openP_is (ops : List BOp) (p : Int) {c s : Nat} (hc : c ≤ 1000) : openP c s = compOp ops p (.opn c s) := by
  unfold openP compOp tellP tellI
  have h4 : wrap64 ((c : Int) + 1) = (c : Int) + 1 := by unfold wrap64; omega
  rw [h4]
theorem body_tell {a : List BOp} (ha : a.all plainOp = true) (c k : Nat) : bodyI a ++ tellP c k = bodyI (a ++ [.tell c k]) := by rw [bodyI_snoc ha rfl]; rfl
theorem body_await {a : List BOp} (ha : a.all plainOp = true) (hl : a.length ≤ 100) (c : Nat) : bodyI a ++ awaitP (5 + ((bodyI a).length : Int)) c = bodyI (a ++ [.await c]) := by
  have h := bodyI_le a
  rw [bodyI_snoc ha rfl]
  unfold awaitP compOp awaitI
  have h5 : wrap64 (5 + ((bodyI a).length : Int) + 3) = 5 + ((bodyI a).length : Int) + 3 := by unfold wrap64; omega
  have h6 : wrap64 (5 + ((bodyI a).length : Int) + 5) = 5 + ((bodyI a).length : Int) + 5 := by unfold wrap64; omega
  rw [h5, h6]
/-- A body of pieces, so far. -/
theorem Body.tell {w wr : World} {A : Option Addr} {n c : Nat} {a : List BOp} (h : Body w A n c (bodyI a) wr) (ha : a.all plainOp = true) (hl : a.length ≤ 100) (x k : Nat) :
    ∃ A' n' c' w', (Builtin.append_ #[89, 89] 89 #[.slice A n c, .slice (some ⟨wr.heap.size, 0, none⟩) 2 2]).run Tryz.prog (wr.alloc (.cells (tellC x k) 95)) = .ok (.slice A' n' c') w' ∧ Body w A' n' c' (bodyI (a ++ [.tell x k])) w' := by
  have hn := h.len
  have hb := bodyI_le a
  obtain ⟨A', c', w', h1, h2⟩ := h.lit (tellC x k) (news := tellP x k) (m := 2) rfl rfl (by decide) (by omega)
  rw [body_tell ha] at h2
  exact ⟨A', _, c', w', h1, h2⟩
theorem Body.await {w wr : World} {A : Option Addr} {n c : Nat} {a : List BOp} (h : Body w A n c (bodyI a) wr) (ha : a.all plainOp = true) (hl : a.length ≤ 100) (x : Nat) :
    ∃ A' n' c' w', (Builtin.append_ #[89, 89] 89 #[.slice A n c, .slice (some ⟨wr.heap.size, 0, none⟩) 5 5]).run Tryz.prog (wr.alloc (.cells (awaitC (5 + (n : Int)) x) 95)) = .ok (.slice A' n' c') w' ∧ Body w A' n' c' (bodyI (a ++ [.await x])) w' := by
  have hn := h.len
  have hb := bodyI_le a
  obtain ⟨A', c', w', h1, h2⟩ := h.lit (awaitC (5 + (n : Int)) x) (news := awaitP (5 + (n : Int)) x) (m := 5) rfl rfl (by decide) (by omega)
  have e := body_await ha hl x
  rw [hn] at e
  rw [e] at h2
  exact ⟨A', _, c', w', h1, h2⟩
theorem Body.plus {w wr : World} {A : Option Addr} {n c : Nat} {a : List BOp} (h : Body w A n c (bodyI a) wr) (hl : a.length ≤ 100) : wrap64 (5 + (n : Int)) = 5 + (n : Int) := by
  have hn := h.len
  have hb := bodyI_le a
  unfold wrap64
  omega
/-- A cell that was there ahead. -/
theorem Body.cell {w wr : World} {A : Option Addr} {n c b j : Nat} {l : List In5} {v : Value} (h : Body w A n c l wr) (hc : w.cell? ⟨b, j, none⟩ = some v) : wr.cell? ⟨b, j, none⟩ = some v :=
  (World.cell?_of_block (a := ⟨b, j, none⟩) (h.bel.block b (World.block_lt_of_cell? w _ hc))).trans hc
theorem Body.low {w w1 wr : World} {A : Option Addr} {n c : Nat} {l : List In5} (h : Body w1 A n c l wr) (hb : Below w.heap.size w w1) : Body w A n c l wr :=
  ⟨h.len, own_low h.own hb.size, hb.trans (h.bel.mono hb.size)⟩
theorem Body.few {w wr : World} {A : Option Addr} {n c : Nat} {a : List BOp} (h : Body w A n c (bodyI a) wr) (hl : a.length ≤ 100) : n ≤ 800 := by
  have hn := h.len
  have hb := bodyI_le a
  omega

/-- What Code comes to. -/
def CodeOf (w : World) (rounds : Nat) (ops : List BOp) (e : Ending) (w' : World) : Prop := ∃ A cap, e = .returned (.tuple #[.slice A (barP rounds ops).length cap, .nilIface]) ∧ w'.ownsRow w.heap.size 95 5 (.slice A (barP rounds ops).length cap) (barP rounds ops).length (cells5 (barP rounds ops)) ∧ Below w.heap.size w w'
theorem whole_is {rounds : Nat} (hr : rounds ≤ 20) (ops : List BOp) : wholeL rounds (bodyI ops) = barP rounds ops := by
  unfold wholeL barP
  have h : wrap64 ((rounds : Int) + 1) = (rounds : Int) + 1 := by unfold wrap64; omega
  rw [h]
theorem whole_of {w wr : World} {A : Option Addr} {n c : Nat} {ops : List BOp} {rounds : Nat} (h : Body w A n c (bodyI ops) wr) (hr : rounds ≤ 20) (hn : n ≤ 1000) :
    Calls Tryz.prog 219 #[.int .i64 (rounds : Nat), .slice A n c] wr fun e w' => ∃ A' c', e = .returned (.slice A' (barP rounds ops).length c') ∧ w'.ownsRow w.heap.size 95 5 (.slice A' (barP rounds ops).length c') (barP rounds ops).length (cells5 (barP rounds ops)) ∧ Below w.heap.size w w' := by
  refine (pwhole_any (rounds : Nat) A n c (bodyI ops) (Inss.of_own h.own h.len) hn).mono ?_
  rintro e w' ⟨v, rfl, ho, hg⟩
  rw [whole_is hr] at ho
  obtain ⟨A', c', rfl⟩ := slice_of_own ho
  have hl : 5 + n + 3 = (barP rounds ops).length := by rw [← whole_is hr, ← h.len]; unfold wholeL; simp; omega
  rw [hl] at ho ⊢
  exact ⟨A', c', rfl, own_low ho h.bel.size, h.bel.grown hg h.bel.size (by intro k hk; cases hk)⟩
theorem party_of {k n rounds id : Nat} (d : Dims k n rounds) (h : id < n) : Party n id rounds := by
  have a := d.n1
  have b := d.n16
  have c := d.r6
  unfold Party
  omega
theorem party_0 {n : Nat} (h1 : 1 ≤ n) (h2 : n ≤ 16) : Party n 0 0 := by unfold Party; omega
end Go.Proofs.YtgkfhihnfllmhaaGreatDoor
