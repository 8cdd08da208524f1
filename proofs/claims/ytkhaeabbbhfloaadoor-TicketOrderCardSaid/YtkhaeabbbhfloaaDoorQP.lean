/-
  Two rows of integers that grow beside each other; tickets, as a fact
-/
import Derived.Test.YtkhaeabbbhfloaaDoorQN4
import Derived.Test.YtkhaeabbbhfloaaDoorQO
import Derived.Test.YtkhaeabbbhfloaaDoorQI
namespace Go.Proofs.YtkhaeabbbhfloaaDoor
set_option maxRecDepth 100000
open Go.RowKit Go.Shelf Go.Sort
set_option linter.unusedVariables false
set_option linter.unusedSimpArgs false

structure TwoR (w : World) (A : Option Addr) (c : Nat) (l : List Int) (D : Option Addr) (e : Nat) (r : List Int) (wr : World) : Prop where
  one : wr.ownsRow w.heap.size 3 1 (.slice A l.length c) l.length (l.map (Value.int .i64))
  two : wr.ownsRow w.heap.size 3 1 (.slice D r.length e) r.length (r.map (Value.int .i64))
  apart : ∀ b, (Value.slice A l.length c).ownBlock = some b → (Value.slice D r.length e).ownBlock ≠ some b
  bel : Below w.heap.size w wr
theorem TwoR.nil (w : World) : TwoR w none 0 [] none 0 [] w := ⟨World.ownsRow_nil _ _ _ _, World.ownsRow_nil _ _ _ _, fun b h => (by cases h), Below.refl _ _⟩
theorem TwoR.swap {w wr : World} {A D : Option Addr} {c e : Nat} {l r : List Int} (h : TwoR w A c l D e r wr) : TwoR w D e r A c l wr := ⟨h.two, h.one, fun b h1 h2 => h.apart b h2 h1, h.bel⟩
theorem TwoR.grow {w wr w' : World} {A D : Option Addr} {c e : Nat} {l r : List Int} (h : TwoR w A c l D e r wr) (hg : wr.grownBy w' none) : TwoR w A c l D e r w' :=
  ⟨h.one.kept hg (by cases hv : (Value.slice A l.length c).ownBlock <;> simp), h.two.kept hg (by cases hv : (Value.slice D r.length e).ownBlock <;> simp), h.apart, h.bel.grown hg h.bel.size (by intro k hk; cases hk)⟩
theorem TwoR.fst {w wr : World} {A D : Option Addr} {c e : Nat} {l r : List Int} (h : TwoR w A c l D e r wr) (x : Int) (hn : l.length ≤ 100000) :
    ∃ A' c' w', (Builtin.append_ #[49, 49] 49 #[.slice A l.length c, .slice (some ⟨wr.heap.size, 0, none⟩) 1 1]).run Tryd.prog (wr.alloc (.cells #[.int .i64 x] 3)) = .ok (.slice A' (l ++ [x]).length c') w' ∧ TwoR w A' c' (l ++ [x]) D e r w' ∧ (∀ k, k < wr.heap.size → some k ≠ (Value.slice A l.length c).ownBlock → w'.heap[k]? = wr.heap[k]?) := by
  obtain ⟨i0, hi0, hz0, hz1, hz2⟩ := info_parts infoIntA
  have h1 := h.grow (World.grownBy_alloc wr (.cells #[.int .i64 x] 3) none)
  have hsz : (wr.alloc (.cells #[.int .i64 x] 3)).heap.size = wr.heap.size + 1 := World.size_alloc _ _
  have hat := heap_alloc_new wr (.cells #[.int .i64 x] 3)
  have hnews := World.news_of_block (cs := #[.int .i64 x]) hat
  obtain ⟨v', w3, hr, ho3, hg3, _, hfr⟩ := run_append_own_at (P := Tryd.prog) (wr.alloc (.cells #[.int .i64 x] 3)) w.heap.size 49 49 3 i0 (.int .i64 0) 1 8 Tryd.underlying49 hi0 hz0 hz1 hz2 rfl (by decide) (.slice A l.length c) _ _ h1.one ⟨wr.heap.size, 0, none⟩ 1 1 [.int .i64 x] rfl hnews (fun u hu => by rw [List.mem_singleton.1 hu]; rfl) (by unfold maxLen; omega) (by omega) (by rw [hsz]; have := h.bel.size; omega)
  obtain ⟨A', c', rfl⟩ := slice_of_own ho3
  have e1 : (l ++ [x]).length = l.length + 1 := by simp
  have e2 : (l ++ [x]).map (Value.int .i64) = l.map (Value.int .i64) ++ [.int .i64 x] := by simp
  refine ⟨A', c', w3, by rw [e1]; exact hr, ⟨by rw [e1, e2]; exact ho3, h1.two.kept hg3 ?_, fun b hb hb2 => ?_, h1.bel.grown hg3 h1.bel.size (fun g hg => (h1.one.lt g hg).1)⟩, fun k hk hne => (hg3.block k (by rw [hsz]; omega) hne).trans ((World.grownBy_alloc wr (.cells #[.int .i64 x] 3) none).block k hk (by simp))⟩
  · cases hv : (Value.slice D r.length e).ownBlock with
    | none => exact .inl rfl
    | some b => exact .inr (fun e => h.apart b e.symm hv)
  · rw [e1] at hb
    rcases hfr with hfr | hfr
    · rw [hfr] at hb
      exact h.apart b hb hb2
    · rw [hfr, hsz] at hb
      have := (h.two.lt b hb2).2
      injection hb with hb
      omega
theorem TwoR.snd {w wr : World} {A D : Option Addr} {c e : Nat} {l r : List Int} (h : TwoR w A c l D e r wr) (x : Int) (hn : r.length ≤ 100000) :
    ∃ D' e' w', (Builtin.append_ #[49, 49] 49 #[.slice D r.length e, .slice (some ⟨wr.heap.size, 0, none⟩) 1 1]).run Tryd.prog (wr.alloc (.cells #[.int .i64 x] 3)) = .ok (.slice D' (r ++ [x]).length e') w' ∧ TwoR w A c l D' e' (r ++ [x]) w' ∧ (∀ k, k < wr.heap.size → some k ≠ (Value.slice D r.length e).ownBlock → w'.heap[k]? = wr.heap[k]?) := by
  obtain ⟨D', e', w', h1, h2, h3⟩ := h.swap.fst x hn
  exact ⟨D', e', w', h1, h2.swap, h3⟩
/-- slices.Equal with integers that are written down. -/
theorem equalI_lit {w : World} (A : Option Addr) (c n : Nat) (v : List Int) (cs : Array Value) (hcs : cs.toList = v.map (Value.int .i64)) (hn : v.length = n) (hn9 : n ≤ 1000) (h : Ints .i64 w w.heap.size A n v) : Calls Tryd.prog 22 #[.slice A n c, .slice (some ⟨w.heap.size, 0, none⟩) n n] (w.alloc (.cells cs 3)) fun e w' => e = .returned (.bool true) ∧ w.grownBy w' none := by
  have hb := (Below.refl w.heap.size w).alloc (Nat.le_refl _) (.cells cs 3)
  have hI : Ints .i64 (w.alloc (.cells cs 3)) (w.alloc (.cells cs 3)).heap.size (some ⟨w.heap.size, 0, none⟩) n v := ⟨hn, fun _ => ⟨_, 0, rfl, by simp, fun i hi => by
    have hz : cs[i]? = some (.int .i64 (v.getD i 0)) := by
      rw [← Array.getElem?_toList, hcs, List.getElem?_map, List.getD_eq_getElem?_getD, List.getElem?_eq_getElem (by omega)]
      rfl
    rw [Nat.zero_add]
    exact (cell_of_row _ _ i _ _ _ (heap_alloc_new w (.cells cs 3))).trans hz⟩⟩
  refine (equalI_same A _ n c n v _ (by omega) _ (h.old hb) hI).mono ?_
  rintro e w' ⟨rfl, q, rfl⟩
  exact ⟨rfl, (World.grownBy_alloc w (.cells cs 3) none).andThen (row' := none) ⟨rfl, rfl, rfl, Nat.le_refl _, fun _ _ _ => rfl⟩ (fun k hk => by cases hk)⟩
theorem equalU_lit {w : World} (A : Option Addr) (c n : Nat) (v : List Int) (cs : Array Value) (hcs : cs.toList = v.map (Value.int .u64)) (hn : v.length = n) (hn9 : n ≤ 1000) (h : Ints .u64 w w.heap.size A n v) : Calls Tryd.prog 16 #[.slice A n c, .slice (some ⟨w.heap.size, 0, none⟩) n n] (w.alloc (.cells cs 30)) fun e w' => e = .returned (.bool true) ∧ w.grownBy w' none := by
  have hb := (Below.refl w.heap.size w).alloc (Nat.le_refl _) (.cells cs 30)
  refine (equalU_same A _ n c n v _ (by omega) _ (h.old hb) (row_of_lit v cs hcs n hn)).mono ?_
  rintro e w' ⟨rfl, q, rfl⟩
  exact ⟨rfl, (World.grownBy_alloc w (.cells cs 30) none).andThen (row' := none) ⟨rfl, rfl, rfl, Nat.le_refl _, fun _ _ _ => rfl⟩ (fun k hk => by cases hk)⟩

theorem ticM2_is : ticM2 = behindM 20000 (tiM0 2 1) [(1, false)] := rfl
theorem ticM2_evs {m' : Mach} (hf : Fin ticM2 m') : ∀ x ∈ m'.events, ∃ s v : Int, ∃ u : Nat, u < 2 ∧ x = (s, 3, (u : Int), v) := by
  rw [ticM2_is] at hf
  exact (ti_ends (n := 2) (t := 1) (by decide) (by decide) (by decide) hf).2.2.2.2.2.2.1
set_option maxHeartbeats 2000000 in
theorem ticketed_any {w : World} (hw : CW w) : Calls Tryd.prog 20 #[] w fun e w' => e = .returned (.bool true) ∧ Below w.heap.size w w' := by
  obtain ⟨t1, t2, t3⟩ := rows_made w #[.int .i64 12, .int .i64 0, .int .i64 13, .int .i64 0] #[.int .i64 12, .int .i64 0, .int .i64 13, .int .i64 0] #[.int .u64 0, .int .u64 0] [(12, 0), (13, 0)] [(12, 0), (13, 0)] [0, 0] 2 rfl rfl rfl rfl
  have t4 := t3.alloc t3.size (.cells #[.int .i64 1, .bool false] 58)
  have t5 := (Below.refl (rowsW w #[.int .i64 12, .int .i64 0, .int .i64 13, .int .i64 0] #[.int .i64 12, .int .i64 0, .int .i64 13, .int .i64 0] #[.int .u64 0, .int .u64 0] 2 2).heap.size _).alloc (Nat.le_refl _) (.cells #[.int .i64 1, .bool false] 58)
  have hsz : (rowsW w #[.int .i64 12, .int .i64 0, .int .i64 13, .int .i64 0] #[.int .i64 12, .int .i64 0, .int .i64 13, .int .i64 0] #[.int .u64 0, .int .u64 0] 2 2).heap.size = w.heap.size + 1 + 1 + 1 + 1 := by unfold rowsW; simp
  have t6 := moves_lit (w := rowsW w #[.int .i64 12, .int .i64 0, .int .i64 13, .int .i64 0] #[.int .i64 12, .int .i64 0, .int .i64 13, .int .i64 0] #[.int .u64 0, .int .u64 0] 2 2) #[.int .i64 1, .bool false] [(1, false)] 1 rfl rfl
  rw [hsz] at t6
  have HM := Lib.hid (timade_any (hw.old t4) ticL2 (by decide) (by decide) (some ⟨w.heap.size + 1 + 1, 0, none⟩) (some ⟨w.heap.size + 1 + 1 + 1, 0, none⟩) (some ⟨w.heap.size + 1 + 1 + 1 + 1, 0, none⟩) 2 2 2 1 1 (t1.old t5) (t2.old t5) [(1, false)] t6 (by decide))
  have HB := Lib.hid t4
  clear t1 t2 t3 t4 t5 t6 hsz
  unfold rowsW at HM HB
  go_enter Tryd.func20, Tryd.ntmps20
  go_wp2_with fail
  refine HM.out.mono ?_
  rintro e w1 ⟨c, rfl, hA⟩
  have HBig := Lib.hid (show MBig [0, 0] ticM2 from hA.big)
  have HA1 := Lib.hid (show At w c ticM2 w1 from hA.at_.old HB.out)
  have HF := Lib.hid (at_finish HA1.out HBig.out)
  clear hA HM
  go_wp2_with fail
  refine HF.out.mono ?_
  rintro e w4 ⟨m', hf, rfl, hA4, hb4⟩
  obtain ⟨f1, f2, f3, f4, f5, f6⟩ := ticM2_end hf
  have f7 := ticM2_evs hf
  have HE := Lib.hid (at_ends hA4 (hb4.few))
  rw [ends_of 2 f2 f3] at HE
  have HA4 := Lib.hid hA4
  have HC3 := Lib.hid f1
  have HAn := Lib.hid (fun w3 (hg : w4.grownBy w3 none) => answers_any (n := 2) (hA4.grow hg) (by rw [f6]; decide) f7 (by decide))
  have HT := Lib.hid (And.intro f4 f5)
  generalize ((m'.steps : Int) - (ticM2.steps : Int)) = dd
  clear hf hA4 hb4 f1 f2 f3 f4 f5 f6 f7 HF HBig HA1
  go_wp2_with fail
  refine HE.out.mono ?_
  rintro e w5 ⟨rfl, hg5⟩
  have HA5 := Lib.hid (HA4.out.grow hg5)
  have HAn5 := Lib.hid (HAn.out w5 hg5)
  clear hg5 HE HA4 HAn
  go_wp2_with fail
  refine HAn5.out.mono ?_
  rintro e w6 ⟨g, rfl, hAn⟩
  have HA6 := Lib.hid (HA5.out.keepB hAn.bel)
  obtain ⟨bi, offi, hAi, _, hxi⟩ := hAn.rows.row (by decide)
  have hgi : bi = g ∧ offi = 0 := by injection hAi with h; injection h with h1 h2; exact ⟨h1.symm, h2.symm⟩
  obtain ⟨rfl, rfl⟩ := hgi
  obtain ⟨A0, c0, hcell0, _, hrow0⟩ := hxi 0 (by decide)
  obtain ⟨A1, c1, hcell1, _, hrow1⟩ := hxi 1 (by decide)
  have he0 : ((List.range 2).map (ansOf m'.events)).getD 0 [] = [1, 1] := HT.out.1
  have he1 : ((List.range 2).map (ansOf m'.events)).getD 1 [] = [0, 0] := HT.out.2
  rw [he0] at hcell0 hrow0
  rw [he1] at hcell1 hrow1
  have hcell0' : w6.cell? ⟨bi, 0, none⟩ = some (.slice A0 2 c0) := hcell0
  have hcell1' : w6.cell? ⟨bi, 1, none⟩ = some (.slice A1 2 c1) := hcell1
  have HC1 := Lib.hid hcell1'
  have HR1 := Lib.hid hrow1
  have HE0 := Lib.hid (equalI_lit A0 c0 2 [1, 1] #[.int .i64 1, .int .i64 1] rfl rfl (by decide) hrow0)
  have HBi := Lib.hid (World.block_lt_of_cell? w6 _ hcell1')
  clear hAn hxi hrow0 hrow1 he0 he1 hAi hcell0 hcell1 hcell1' HAn5 HA5 HT
  go_wp2_with fail
  refine HE0.out.mono ?_
  rintro e w7 ⟨rfl, hg7⟩
  have hb7 : Below w6.heap.size w6 w7 := ⟨hg7.os, hg7.tape, hg7.output, hg7.size, fun k hk => hg7.block k hk (by simp)⟩
  have hcell1 := (World.cell?_of_block (a := ⟨bi, 1, none⟩) (hb7.block bi HBi.out)).trans HC1.out
  have HE1 := Lib.hid (equalI_lit A1 c1 2 [0, 0] #[.int .i64 0, .int .i64 0] rfl rfl (by decide) (HR1.out.old hb7))
  have HA7 := Lib.hid (HA6.out.grow hg7)
  clear hg7 hb7 HE0 HC1 HR1 hcell0' HA6
  go_wp2_with fail
  refine HE1.out.mono ?_
  rintro e w8 ⟨rfl, hg8⟩
  have HA8 := Lib.hid (HA7.out.grow hg8)
  have HCe := Lib.hid (at_cells HA8.out (by rw [HC3.out]; decide))
  rw [HC3.out] at HCe
  clear hg8 HE1 hcell1 HA7
  go_wp2_with fail
  refine HCe.out.mono ?_
  rintro e w9 ⟨A9, c9, rfl, ho9, hg9⟩
  have HA9 := Lib.hid (HA8.out.grow hg9)
  have HI9 := Lib.hid (show Ints .u64 w9 w9.heap.size A9 2 [2, 2] from Ints.of_own ho9)
  clear hg9 ho9 HCe HA8
  go_wp2_with fail
  refine (equalU_lit A9 c9 2 [2, 2] #[.int .u64 2, .int .u64 2] rfl rfl (by decide) HI9.out).mono ?_
  rintro e w10 ⟨rfl, hg10⟩
  have HB10 := Lib.hid (HA9.out.grow hg10).bel
  clear hg10 HA9 HI9
  go_wp2
  go_ret
  exact ⟨rfl, HB10.out⟩
end Go.Proofs.YtkhaeabbbhfloaaDoor
