/-
  A latch where the laws have it: latched; what is so behind moves, and at its end. The laws' helpers on threads that ask for calls: count.
-/
import Derived.Test.YtdfljhechmanlaaDoorQL2
import Derived.Test.YtdfljhechmanlaaDoorQI2
namespace Go.Proofs.YtdfljhechmanlaaDoor
set_option maxRecDepth 100000
open Go.RowKit Go.Shelf Go.Sort
set_option linter.unusedVariables false
set_option linter.unusedSimpArgs false

def callsL (Ls : List (List Bool)) (t : Nat) : List Bool := Ls.getD t []
/-- Calls that a latch may be asked for. -/
structure LaOk (f : Nat) (Ls : List (List Bool)) : Prop where
  f12 : f ≤ 12
  n9 : Ls.length ≤ 9
  l12 : ∀ L ∈ Ls, L.length ≤ 12
theorem LaOk.calls {f : Nat} {Ls : List (List Bool)} (h : LaOk f Ls) (u : Nat) : (callsL Ls u).length ≤ 12 := by
  unfold callsL
  rw [List.getD_eq_getElem?_getD]
  cases hc : Ls[u]? with
  | none => exact Nat.zero_le _
  | some l => exact h.l12 l (List.mem_of_getElem? hc)
def laK {f : Nat} {Ls : List (List Bool)} (h : LaOk f Ls) : KindF latchF Ls.length (callsL Ls) (fun c => ([(f : Int)] : List Int).getD c 0) := latK f Ls.length (callsL Ls) (by have := h.f12; omega) (by have := h.n9; omega)
/-- A latch behind some steps and p pokes. -/
def LaM {f : Nat} {Ls : List (List Bool)} (h : LaOk f Ls) (p : Nat) (m : Mach) : Prop := ∃ S, RanF (laK h) p S m
section
variable {f : Nat} {Ls : List (List Bool)} {h : LaOk f Ls} {p : Nat} {m m' : Mach}
end

/-- Finish, where a machine lies. -/
theorem at_finish {w wr : World} {c : Nat} {cells0 : List Int} {m : Mach} (h : At w c m wr) (hb : MBig cells0 m) :
    Calls Tryd.prog 23 #[.pointer (some ⟨c, 0, none⟩)] wr fun e w' => ∃ m', Fin m m' ∧ e = .returned (.int .i64 ((m'.steps : Int) - (m.steps : Int))) ∧ At w c m' w' ∧ MBig cells0 m' := by
  obtain ⟨S, X, rfl, hC, hB⟩ := h
  exact (ffin_any hC hB.size hb).mono fun e w' ⟨m', hf, he, hm, hbig⟩ => ⟨m', hf, he, At.moved rfl hC hB hm, hbig⟩

/-- A latch at a place. -/
structure LaAt (w : World) (c : Nat) {f : Nat} {Ls : List (List Bool)} (h : LaOk f Ls) (p : Nat) (m : Mach) (wr : World) : Prop where
  at_ : At w c m wr
  big : MBig [(f : Int)] m
  la : LaM h p m
theorem LaAt.grow {w wr w' : World} {c : Nat} {f : Nat} {Ls : List (List Bool)} {h : LaOk f Ls} {p : Nat} {m : Mach} (hA : LaAt w c h p m wr) (hg : wr.grownBy w' none) : LaAt w c h p m w' := ⟨hA.at_.grow hg, hA.big, hA.la⟩

/-- Two calls that are written down. -/
def twoW (w : World) (x y v : Int) : World := (((w.alloc (.cells #[.int .i64 x, .int .i64 0] 43)).alloc (.cells #[.int .i64 y, .int .i64 0] 43)).alloc (.cells #[.slice (some ⟨w.heap.size, 0, none⟩) 1 1, .slice (some ⟨w.heap.size + 1, 0, none⟩) 1 1] 41)).alloc (.cells #[.int .u64 v] 31)
theorem two_calls (w : World) (x y v : Int) : CRows (twoW w x y v) (twoW w x y v).heap.size (some ⟨w.heap.size + 1 + 1, 0, none⟩) 2 [[(x, 0)], [(y, 0)]] ∧ Ints .u64 (twoW w x y v) (twoW w x y v).heap.size (some ⟨w.heap.size + 1 + 1 + 1, 0, none⟩) 1 [v] ∧ Below w.heap.size w (twoW w x y v) := by
  obtain ⟨hs, s0, s1, s2, s3, hb⟩ := four_made w (.cells #[.int .i64 x, .int .i64 0] 43) (.cells #[.int .i64 y, .int .i64 0] 43) (.cells #[.slice (some ⟨w.heap.size, 0, none⟩) 1 1, .slice (some ⟨w.heap.size + 1, 0, none⟩) 1 1] 41) (.cells #[.int .u64 v] 31)
  have hW : (((w.alloc (.cells #[.int .i64 x, .int .i64 0] 43)).alloc (.cells #[.int .i64 y, .int .i64 0] 43)).alloc (.cells #[.slice (some ⟨w.heap.size, 0, none⟩) 1 1, .slice (some ⟨w.heap.size + 1, 0, none⟩) 1 1] 41)).alloc (.cells #[.int .u64 v] 31) = twoW w x y v := rfl
  rw [hW] at hs s0 s1 s2 s3 hb
  generalize twoW w x y v = W at *
  have c0 := cell_in s0
  have c1 := cell_in s1
  have c2 := cell_in s2
  have c3 := cell_in s3
  refine ⟨⟨rfl, fun _ => ⟨_, 0, rfl, by omega, fun i hi => ?_⟩⟩, ⟨rfl, fun _ => ⟨_, 0, rfl, by omega, fun i hi => ?_⟩⟩, hb⟩
  · match i, hi with
    | 0, _ =>
      refine ⟨some ⟨w.heap.size, 0, none⟩, 1, c2 0, rfl, fun _ => ⟨_, 0, rfl, by omega, fun j hj => ?_⟩⟩
      match j, hj with
      | 0, _ => exact ⟨c0 0, c0 1⟩
    | 1, _ =>
      refine ⟨some ⟨w.heap.size + 1, 0, none⟩, 1, c2 1, rfl, fun _ => ⟨_, 0, rfl, by omega, fun j hj => ?_⟩⟩
      match j, hj with
      | 0, _ => exact ⟨c1 0, c1 1⟩
  · match i, hi with
    | 0, _ => exact c3 0

/-- slices.Equal with one number that is written down. -/
theorem equal_one {w : World} (A : Option Addr) (c : Nat) (v : Int) (h : Ints .u64 w w.heap.size A 1 [v]) : Calls Tryd.prog 31 #[.slice A 1 c, .slice (some ⟨w.heap.size, 0, none⟩) 1 1] (w.alloc (.cells #[.int .u64 v] 31)) fun e w' => e = .returned (.bool true) ∧ w.grownBy w' none := by
  have hI5 := h.below ((Below.refl w.heap.size w).alloc (Nat.le_refl _) (.cells #[.int .u64 v] 31))
  have hI6 : Ints .u64 (w.alloc (.cells #[.int .u64 v] 31)) (w.heap.size + 1) (some ⟨w.heap.size, 0, none⟩) 1 [v] := ⟨rfl, fun _ => ⟨_, 0, rfl, by omega, fun i hi => by
    match i, hi with
    | 0, _ => exact (cell_of_row _ _ 0 _ _ _ (heap_alloc_new w (.cells #[.int .u64 v] 31))).trans rfl⟩⟩
  refine (equalU_same A _ 1 _ 1 [v] _ (by decide) (w.heap.size + 1) (hI5.keep (by omega) (fun p hp => rfl)) hI6).mono ?_
  rintro e w5 ⟨rfl, q, rfl⟩
  exact ⟨rfl, (World.grownBy_alloc w (.cells #[.int .u64 v] 31) none).andThen (row' := none) ⟨rfl, rfl, rfl, Nat.le_refl _, fun _ _ _ => rfl⟩ (fun k hk => by cases hk)⟩

theorem IRows.old {w w' : World} {n : Nat} {A : Option Addr} {l : List (List Int)} (h : IRows w w.heap.size A n l) (hb : Below w.heap.size w w') : IRows w' w'.heap.size A n l := by
  have h1 := h.below hb
  refine ⟨h1.len, fun h0 => ?_⟩
  obtain ⟨b, off, e, hlt, hx⟩ := h1.row h0
  refine ⟨b, off, e, Nat.lt_of_lt_of_le hlt hb.size, fun i hi => ?_⟩
  obtain ⟨Ai, ci, h2, h3, h4⟩ := hx i hi
  exact ⟨Ai, ci, h2, h3, h4.keep hb.size (fun p _ => rfl)⟩
theorem CRows.old {w w' : World} {n : Nat} {A : Option Addr} {l : List (List (Int × Int))} (h : CRows w w.heap.size A n l) (hb : Below w.heap.size w w') : CRows w' w'.heap.size A n l := by
  have h1 := h.below hb
  refine ⟨h1.len, fun h0 => ?_⟩
  obtain ⟨b, off, e, hlt, hx⟩ := h1.row h0
  refine ⟨b, off, e, Nat.lt_of_lt_of_le hlt hb.size, fun i hi => ?_⟩
  obtain ⟨Ai, ci, h2, h3⟩ := hx i hi
  exact ⟨Ai, ci, h2, h3.wide hb.size⟩
theorem u64_small {f : Nat} (h : f ≤ 1000) : IntKind.u64.wrap (f : Int) = (f : Int) := by
  show (f : Int) % 18446744073709551616 = _
  omega
theorem ActRow.below {w w' : World} {A : Option Addr} {n : Nat} {l : List Act6} (h : ActRow w A n l) (hb : Below w.heap.size w w') : ActRow w' A n l := fun i hi => by
  obtain ⟨b, off, e, h0, h1, h2, h3, h4, h5⟩ := h i hi
  have hlt : b < w.heap.size := World.block_lt_of_cell? w _ h0
  have hx : ∀ (j : Nat), w'.cell? ⟨b, off + i * 6 + j, none⟩ = w.cell? ⟨b, off + i * 6 + j, none⟩ := fun j => World.cell?_of_block (a := ⟨b, off + i * 6 + j, none⟩) (hb.block b hlt)
  exact ⟨b, off, e, (hx 0).trans h0, (hx 1).trans h1, (hx 2).trans h2, (hx 3).trans h3, (hx 4).trans h4, (hx 5).trans h5⟩
theorem Nest.low {tO tI : TypeId} {sz : Nat} {w W wr : World} {A : Option Addr} {n c : Nat} {rs : List (Nat × List Value)} (h : Nest tO tI sz W A n c rs wr) (hb : Below w.heap.size w W) : Nest tO tI sz w A n c rs wr := by
  obtain ⟨xs, h1, h2⟩ := h.row
  refine ⟨hb.trans (h.bel.mono hb.size), h.len, xs, own_low h1 hb.size, fun j hj => ?_⟩
  obtain ⟨Aj, cj, h3, h4⟩ := h2 j hj
  exact ⟨Aj, cj, h3, own_low h4 hb.size⟩
end Go.Proofs.YtdfljhechmanlaaDoor

namespace Go.Proofs.YtdfljhechmanlaaDoor
set_option maxRecDepth 100000
open Go.RowKit Go.Shelf Go.Sort
set_option linter.unusedVariables false
set_option linter.unusedSimpArgs false

def cntC (q : Int) (l : List (Int × Int)) : Nat := l.countP fun x => x.1 == q
def cntAll (q : Int) (ls : List (List (Int × Int))) : Nat := (ls.map (cntC q)).sum
theorem cntC_take (q : Int) (l : List (Int × Int)) (i : Nat) (hi : i < l.length) : cntC q (l.take (i + 1)) = cntC q (l.take i) + if (l.getD i default).1 = q then 1 else 0 := by
  have e : l.take (i + 1) = l.take i ++ [l.getD i default] := by
    rw [List.take_add_one, List.getD_eq_getElem?_getD, List.getElem?_eq_getElem hi]
    rfl
  unfold cntC
  rw [e, List.countP_append]
  by_cases h : (l.getD i default).1 = q
  · simp [List.countP_cons, h]
  · have : ((l.getD i default).1 == q) = false := beq_eq_false_iff_ne.2 h
    simp [List.countP_cons, this, h]
theorem cntC_le (q : Int) (l : List (Int × Int)) : cntC q l ≤ l.length := List.countP_le_length
theorem cntAll_take (q : Int) (ls : List (List (Int × Int))) (k : Nat) (hk : k < ls.length) : cntAll q (ls.take (k + 1)) = cntAll q (ls.take k) + cntC q (ls.getD k []) := by
  have e : ls.take (k + 1) = ls.take k ++ [ls.getD k []] := by
    rw [List.take_add_one, List.getD_eq_getElem?_getD, List.getElem?_eq_getElem hk]
    rfl
  unfold cntAll
  rw [e, List.map_append, List.sum_append]
  simp
theorem cntAll_few (q : Int) : ∀ (ls : List (List (Int × Int))), (∀ l ∈ ls, l.length ≤ 12) → cntAll q ls ≤ 12 * ls.length
  | [], _ => by simp [cntAll]
  | l :: ls, h => by
    have h1 := cntAll_few q ls (fun x hx => h x (.tail _ hx))
    have h2 := cntC_le q l
    have h3 := h l (.head _)
    have e : cntAll q (l :: ls) = cntC q l + cntAll q ls := by simp [cntAll]
    rw [e, List.length_cons]
    omega
set_option maxHeartbeats 2000000 in
theorem count_any {w : World} (A : Option Addr) (n cap : Nat) (ls : List (List (Int × Int))) (hR : CRows w w.heap.size A n ls) (h12 : ∀ l ∈ ls, l.length ≤ 12) (hn : n ≤ 16) (q : Int) :
    Calls Tryd.prog 25 #[.slice A n cap, .int .i64 q] w fun e w' => e = .returned (.int .i64 (cntAll q ls : Nat)) ∧ Below w.heap.size w w' := by
  have HR := Lib.hid hR
  have HN := Lib.hid hR.len
  have HF := Lib.hid (fun k => cntAll_few q (ls.take k) fun l hl => h12 l (List.mem_of_mem_take hl))
  have H12 := Lib.hid h12
  clear hR h12
  go_enter Tryd.func25, Tryd.ntmps25
  go_wp2
  go_loopw [5, 12] (fun s j wr => ∃ k : Nat, k ≤ n ∧ j = .int .i64 k ∧ s = .int .i64 (cntAll q (ls.take k) : Nat) ∧ Below w.heap.size w wr) (fun _ j _ => n - (intOf j).toNat)
  case atStart => exact ⟨0, Nat.zero_le _, rfl, rfl, Below.refl _ _⟩
  case round =>
    obtain ⟨k, hk, rfl, rfl, hm⟩ := hrel
    by_cases hlt : k < n
    · have hkn : (k : Int) < (n : Int) := by omega
      obtain ⟨b, off, hA, hb, hx⟩ := HR.out.row (by omega)
      subst hA
      obtain ⟨Ai, ci, hcell0, hrow⟩ := hx k hlt
      have hcell := (World.cell?_of_block (a := ⟨b, off + k, none⟩) (hm.block b hb)).trans hcell0
      have hkl : k < ls.length := by rw [HN.out]; exact hlt
      have HT := Lib.hid (cntAll_take q ls k hkl)
      have hl12 : (ls.getD k []).length ≤ 12 := H12.out _ (by rw [List.getD_eq_getElem?_getD, List.getElem?_eq_getElem hkl]; exact List.getElem_mem _)
      have hfew := HF.out k
      rw [List.length_take] at hfew
      generalize cntAll q (ls.take k) = z at *
      generalize ls.getD k [] = l at *
      have HRow := Lib.hid hrow
      have HM := Lib.hid hm
      obtain ⟨m, hml⟩ : ∃ m, l.length = m := ⟨_, rfl⟩
      rw [hml] at hcell HRow hl12
      have HML := Lib.hid hml
      have hz : z ≤ 200 := by omega
      have HZ := Lib.hid hz
      clear hx hkl hrow hm hfew hml hcell0 hb hz
      go_wp2
      go_loopw [5, 18] (fun s j w2 => ∃ i : Nat, i ≤ m ∧ j = .int .i64 i ∧ s = .int .i64 ((z + cntC q (l.take i) : Nat) : Int) ∧ Below w.heap.size w w2) (fun _ j _ => m - (intOf j).toNat)
      case atStart => exact ⟨0, Nat.zero_le _, rfl, by simp [cntC], HM.out⟩
      case round =>
        obtain ⟨i, hi, rfl, rfl, hm2⟩ := hrel
        rename_i w2
        by_cases hlt2 : i < m
        · have hin : (i : Int) < (m : Int) := by omega
          obtain ⟨b2, off2, hA2, hb2, hx2⟩ := (HRow.out.below hm2).row (by omega)
          subst hA2
          obtain ⟨hc0, hc1⟩ := hx2 i hlt2
          have hT2 := cntC_take q l i (by rw [HML.out]; exact hlt2)
          have hle := cntC_le q (l.take i)
          rw [List.length_take] at hle
          generalize cntC q (l.take i) = y at *
          have HY := Lib.hid hT2
          have HB2 := Lib.hid (fun o => hm2.alloc hm2.size o)
          generalize l.getD i default = x at *
          obtain ⟨x0, x1⟩ := x
          dsimp only at hc0 hc1 HY
          obtain ⟨s, hs⟩ : ∃ s : Nat, z + y = s := ⟨_, rfl⟩
          have hs2 : s ≤ 300 := by have := HZ.out; omega
          have HS := Lib.hid hs
          rw [hs]
          clear hx2 hT2 hle hm2 hb2 hs
          by_cases he : x0 = q
          · subst he
            have heq : (x0 == x0) = true := by simp
            have hw1 : wrap64 ((s : Int) + 1) = (s : Int) + 1 := by unfold wrap64; omega
            go_wp2
            --MB
            go_roundw
            case rel => exact ⟨i + 1, by omega, by go_num, by rw [HY.out, if_pos rfl, ← Nat.add_assoc, HS.out]; go_num, HB2.out _⟩
            case measure => simp [intOf]; omega
          · have heq : (x0 == q) = false := beq_eq_false_iff_ne.2 he
            go_wp2
            go_roundw
            case rel => exact ⟨i + 1, by omega, by go_num, by rw [HY.out, if_neg he, ← Nat.add_assoc, HS.out, Nat.add_zero], HB2.out _⟩
            case measure => simp [intOf]; omega
        · have hin : ¬ (i : Int) < (m : Int) := by omega
          obtain rfl : i = m := by omega
          have hall : l.take i = l := List.take_of_length_le (by rw [HML.out]; exact Nat.le_refl _)
          rw [hall]
          have HM2 := Lib.hid hm2
          clear hm2 hall
          go_wp2
          go_roundw
          case rel => exact ⟨k + 1, by omega, by go_num, by rw [HT.out], HM2.out⟩
          case measure => simp [intOf]; omega
    · have hkn : ¬ (k : Int) < (n : Int) := by omega
      obtain rfl : k = n := by omega
      have hall : ls.take k = ls := List.take_of_length_le (by rw [HN.out]; exact Nat.le_refl _)
      rw [hall]
      have HM2 := Lib.hid hm
      clear hm hall
      go_wp2
      go_ret
      exact ⟨rfl, HM2.out⟩
end Go.Proofs.YtdfljhechmanlaaDoor
