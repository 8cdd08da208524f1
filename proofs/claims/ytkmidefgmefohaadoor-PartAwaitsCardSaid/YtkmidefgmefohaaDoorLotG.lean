/-
  Lots: stores of many cells; slices.Delete of one sleeper; waking one for nothing (Poke). slices.Delete of one sleeper; waking one for nothing (Poke). slices.DeleteFunc of sleepers. Waking those that sleep at a cell (Wake).
-/
import Derived.Test.YtkmidefgmefohaaDoorLotC
import Derived.Deep.RegionLaw
namespace Go.Proofs.YtkmidefgmefohaaDoor
set_option maxRecDepth 100000
open Go.RowKit Go.Shelf

/-- An array with the values vs from place o on. -/
def laid : Array Value → Nat → List Value → Array Value
  | cur, _, [] => cur
  | cur, o, v :: r => laid (cur.setIfInBounds o v) (o + 1) r

theorem laid_size (cur : Array Value) (o : Nat) (vs : List Value) : (laid cur o vs).size = cur.size := by
  induction vs generalizing cur o with
  | nil => rfl
  | cons v r ih => rw [laid, ih, Array.size_setIfInBounds]

theorem laid_at (cur : Array Value) (o : Nat) (vs : List Value) (i : Nat) (hfit : o + vs.length ≤ cur.size) : (laid cur o vs)[i]? = if o ≤ i ∧ i < o + vs.length then vs[i - o]? else cur[i]? := by
  induction vs generalizing cur o with
  | nil =>
    rw [laid, if_neg (by simp)]
  | cons v r ih =>
    simp only [List.length_cons] at hfit
    rw [laid, ih _ _ (by rw [Array.size_setIfInBounds]; omega), Array.getElem?_setIfInBounds]
    simp only [List.length_cons]
    by_cases h1 : o + 1 ≤ i ∧ i < o + 1 + r.length
    · rw [if_pos h1, if_pos (by omega), show i - o = (i - (o + 1)) + 1 from by omega, List.getElem?_cons_succ]
    · rw [if_neg h1]
      by_cases h2 : o = i
      · subst h2
        rw [if_pos rfl, if_pos (by omega), if_pos (by omega), Nat.sub_self]
        rfl
      · rw [if_neg h2, if_neg (by omega)]

theorem heap_setCells (g : Nat) (t : TypeId) (vs : List Value) : ∀ (o : Nat) (w : World) (cur : Array Value), w.heap[g]? = some (.cells cur t (0, 0)) →
    (w.setCells g o vs).heap[g]? = some (.cells (laid cur o vs) t (0, 0)) ∧ w.grownBy (w.setCells g o vs) (some g) := by
  induction vs with
  | nil => intro o w cur h; exact ⟨h, World.grownBy.refl w _⟩
  | cons v r ih =>
    intro o w cur h
    obtain ⟨h1, h2⟩ := ih (o + 1) (w.setCell ⟨g, o, none⟩ v) (cur.setIfInBounds o v) (heap_setCell_same w g o cur t v h)
    have h0 : w.grownBy (w.setCell ⟨g, o, none⟩ v) (some g) := ⟨rfl, rfl, rfl, by simp, fun k _ hk => heap_setCell_other w ⟨g, o, none⟩ k v (fun e => hk (by simp [e]))⟩
    exact ⟨h1, h0.andThen h2 (fun j hj => .inr hj)⟩

theorem toList_take_ext {a : Array Value} {xs : List Value} {n : Nat} (hn : xs.length = n) (h : ∀ i, i < n → a[i]? = xs[i]?) : a.toList.take n = xs := by
  apply List.ext_getElem?
  intro i
  rw [List.getElem?_take]
  by_cases hi : i < n
  · rw [if_pos hi, Array.getElem?_toList]
    exact h i hi
  · rw [if_neg hi, List.getElem?_eq_none (by omega)]

/-- The parts of a row that owns sleepers. -/
theorem own_parts {w : World} {B g cap : Nat} {l : List (Int × Int)} (h : w.ownsRow B 107 2 (.slice (some ⟨g, 0, none⟩) l.length cap) l.length (cells2 l)) :
    ∃ cur, w.heap[g]? = some (.cells cur 107 (0, 0)) ∧ B ≤ g ∧ l.length ≤ cap ∧ cap ≤ maxLen ∧ cur.size = cap * 2 ∧ ∀ i, i < l.length * 2 → cur[i]? = (cells2 l)[i]? := by
  rcases h.2 with ⟨e, _⟩ | ⟨g', cap', cur, e, hb, hh, h1, h2, h3, h4⟩
  · simp at e
  · simp only [Value.slice.injEq, Option.some.injEq, Addr.mk.injEq, and_true, true_and] at e
    obtain ⟨rfl, rfl⟩ := e
    refine ⟨cur, hh, hb, h1, h2, h3, fun i hi => ?_⟩
    rw [← h4, List.getElem?_take, if_pos hi, Array.getElem?_toList]

theorem own_of_parts {w : World} {B g cap n : Nat} {cur : Array Value} {l : List (Int × Int)} (hn : l.length = n) (hh : w.heap[g]? = some (.cells cur 107 (0, 0))) (hb : B ≤ g) (h1 : l.length ≤ cap) (h2 : cap ≤ maxLen) (h3 : cur.size = cap * 2) (h : ∀ i, i < l.length * 2 → cur[i]? = (cells2 l)[i]?) :
    w.ownsRow B 107 2 (.slice (some ⟨g, 0, none⟩) n cap) l.length (cells2 l) := by
  subst hn
  exact ⟨cells2_length l, .inr ⟨g, cap, cur, rfl, hb, hh, h1, h2, h3, toList_take_ext (cells2_length l) h⟩⟩

/-- 'clear' on a slice of sleepers. -/
theorem run_clear2 (w : World) (ty : TypeId) (b o n c : Nat) (hc : ∀ j, j < n * 2 → (w.cell? ⟨b, o + j, none⟩).isSome = true) (hf : ∀ j, j < n * 2 → w.frozen? ⟨b, o + j, none⟩ = false) :
    (Builtin.clear_ #[95] ty #[.slice (some ⟨b, o, none⟩) n c]).run Tryd.prog w = .ok (.tuple #[]) (w.setCells b o (Builtin.zeroCells #[.int .i64 0, .int .i64 0] n).toList) := by
  have hz : ∀ w, (zeroValue 107).run Tryd.prog w = .ok (.agg #[.int .i64 0, .int .i64 0]) w := fun w => by kernel_rfl
  have hl : (Builtin.zeroCells #[Value.int .i64 0, .int .i64 0] n).toList.length = n * 2 := by simp [Builtin.zeroCells]
  have h1 : ∀ v ∈ (Builtin.zeroCells #[Value.int .i64 0, .int .i64 0] n).toList, v.oneCell' = true := by
    intro v hv
    simp [Builtin.zeroCells] at hv
    obtain ⟨i, _, rfl⟩ := hv
    rcases Nat.mod_two_eq_zero_or_one i with e | e <;> simp [e] <;> rfl
  rcases n with _ | m
  · simp [Builtin.clear_, run_underlying Tryd.underlying95, Builtin.zeroCells, World.setCells]
  · have hst := run_storeCells_cells (P := Tryd.prog) b o _ 0 w (by rw [hl]; simpa using hc) (by rw [hl]; simpa using hf) h1
    simp only [Nat.add_zero] at hst
    simp [Builtin.clear_, run_underlying Tryd.underlying95, hz, Value.cells, hst]
end Go.Proofs.YtkmidefgmefohaaDoor

namespace Go.Proofs.YtkmidefgmefohaaDoor
set_option maxRecDepth 100000
open Go.RowKit Go.Shelf

/-- What cutting a row to the sleepers r comes to. -/
def CutTo (B g cap : Nat) (r : List (Int × Int)) (w : World) (e : Ending) (w' : World) : Prop :=
  e = .returned (.slice (some ⟨g, 0, none⟩) r.length cap) ∧ w'.ownsRow B 107 2 (.slice (some ⟨g, 0, none⟩) r.length cap) r.length (cells2 r) ∧ w.grownBy w' (some g)

theorem eraseP_at (p : Int × Int → Bool) (l : List (Int × Int)) (k : Nat) (hk : k < l.length) (hp : p (l.getD k default) = true) (h : ∀ j, j < k → p (l.getD j default) = false) : l.eraseP p = l.eraseIdx k := by
  induction l generalizing k with
  | nil => exact absurd hk (Nat.not_lt_zero _)
  | cons s l ih =>
    rcases k with _ | k
    · have : p s = true := hp
      rw [List.eraseP_cons, this]
      rfl
    · have h0 : p s = false := h 0 (by omega)
      rw [List.eraseP_cons, h0, ih k (by simpa using hk) hp (fun j hj => h (j + 1) (by omega))]
      rfl

def Poked (B p : Nat) (nt : Int) (r : List (Int × Int)) (v : Value) (w : World) (e : Ending) (w' : World) : Prop :=
  ∃ v', e = .returned .nilIface ∧ Lot w' B p nt v' r ∧ Below B w w' ∧ v'.ownBlock = v.ownBlock

def Poked2 (B p : Nat) (nt : Int) (r : List (Int × Int)) (v : Value) (w : World) (e : Ending) (w' : World) : Prop :=
  ∃ v', e = .returned .nilIface ∧ Lot w' B p nt v' r ∧ Below B w w' ∧ v'.ownBlock = v.ownBlock ∧ ∀ k, k < w.heap.size → k ≠ p → some k ≠ v.ownBlock → w'.heap[k]? = w.heap[k]?

end Go.Proofs.YtkmidefgmefohaaDoor

namespace Go.Proofs.YtkmidefgmefohaaDoor
set_option maxRecDepth 100000
open Go.RowKit Go.Shelf

/-- Those that are kept. -/
def keepers (p : Int × Int → Bool) (l : List (Int × Int)) : List (Int × Int) := l.filter fun s => !p s

theorem keepers_step (p : Int × Int → Bool) (l : List (Int × Int)) (j : Nat) (hj : j < l.length) : keepers p (l.take (j + 1)) = keepers p (l.take j) ++ (if p (l.getD j default) then [] else [l.getD j default]) := by
  unfold keepers
  rw [List.take_succ_eq_append_getElem hj, List.filter_append, List.getD_eq_getElem?_getD, List.getElem?_eq_getElem hj]
  congr 1
  simp only [List.filter_cons, List.filter_nil, Option.getD_some]
  cases p l[j] <;> rfl

theorem keepers_all (p : Int × Int → Bool) (l : List (Int × Int)) (h : ∀ s ∈ l, p s = false) : keepers p l = l := by
  unfold keepers
  exact List.filter_eq_self.2 fun s hs => by rw [h s hs]; rfl

/-- What holds at every head of the loop: j are looked at, i of them kept. -/
structure Sieve (w wr : World) (g cap : Nat) (cur : Array Value) (l : List (Int × Int)) (p : Int × Int → Bool) (i j : Nat) : Prop where
  hj : j ≤ l.length
  hij : i < j
  row : ∃ cu, wr.heap[g]? = some (.cells cu 107 (0, 0)) ∧ cu.size = cap * 2 ∧ (∀ x, x < i * 2 → cu[x]? = (cells2 (keepers p (l.take j)))[x]?) ∧ ∀ x, j * 2 ≤ x → cu[x]? = cur[x]?
  len : (keepers p (l.take j)).length = i
  grow : w.grownBy wr (some g)

theorem Sieve.drop {w wr w' : World} {g cap : Nat} {cur : Array Value} {l : List (Int × Int)} {p : Int × Int → Bool} {i j : Nat} (h : Sieve w wr g cap cur l p i j) (hlt : j < l.length) (hp : p (l.getD j default) = true) (hg : wr.grownBy w' none) : Sieve w w' g cap cur l p i (j + 1) := by
  obtain ⟨cu, h1, h2, h3, h4⟩ := h.row
  have e : keepers p (l.take (j + 1)) = keepers p (l.take j) := by rw [keepers_step p l j hlt, hp, if_pos rfl, List.append_nil]
  refine ⟨by omega, by have := h.hij; omega, ⟨cu, (hg.block g (lt_of_block h1) (by simp)).trans h1, h2, by rw [e]; exact h3, fun x hx => h4 x (by omega)⟩, by rw [e]; exact h.len, h.grow.andThen hg (by intro k hk; cases hk)⟩

theorem Sieve.keep {w wr w1 : World} {g cap : Nat} {cur : Array Value} {l : List (Int × Int)} {p : Int × Int → Bool} {i j : Nat} (h : Sieve w wr g cap cur l p i j) (hlt : j < l.length) (hcap : l.length ≤ cap) (hp : p (l.getD j default) = false) (hg : wr.grownBy w1 none) :
    Sieve w ((w1.setCell ⟨g, i * 2, none⟩ (.int .i64 (l.getD j default).1)).setCell ⟨g, i * 2 + 1, none⟩ (.int .i64 (l.getD j default).2)) g cap cur l p (i + 1) (j + 1) := by
  obtain ⟨cu, h1, h2, h3, h4⟩ := h.row
  have hij := h.hij
  have e : keepers p (l.take (j + 1)) = keepers p (l.take j) ++ [l.getD j default] := by rw [keepers_step p l j hlt, hp, if_neg (by simp)]
  have hh1 : w1.heap[g]? = some (.cells cu 107 (0, 0)) := (hg.block g (lt_of_block h1) (by simp)).trans h1
  have hs := heap_setCells g 107 [.int .i64 (l.getD j default).1, .int .i64 (l.getD j default).2] (i * 2) w1 cu hh1
  refine ⟨by omega, by omega, ⟨_, hs.1, by rw [laid_size]; exact h2, fun x hx => ?_, fun x hx => ?_⟩, ?_, ?_⟩
  · rw [laid_at _ _ _ _ (by rw [h2]; simp; omega), e, cells2_append]
    by_cases hx2 : x < i * 2
    · rw [if_neg (by omega), h3 x hx2, List.getElem?_append_left (by rw [cells2_length, h.len]; exact hx2)]
    · rw [if_pos (by simp; omega), List.getElem?_append_right (by rw [cells2_length, h.len]; omega), cells2_length, h.len]
      rfl
  · rw [laid_at _ _ _ _ (by rw [h2]; simp; omega), if_neg (by simp; omega), h4 x (by omega)]
  · rw [e, List.length_append, h.len]
    rfl
  · exact (h.grow.andThen hg (by intro k hk; cases hk)).andThen hs.2 (fun k hk => .inr hk)

set_option maxHeartbeats 1000000 in
theorem deleteFuncS_any {w : World} {B g cap : Nat} {l : List (Int × Int)} (hown : w.ownsRow B 107 2 (.slice (some ⟨g, 0, none⟩) l.length cap) l.length (cells2 l)) (p : Int × Int → Bool) (f : Nat) (lb : Array Value) (eg : ∀ args w, (callFunc f args).run Tryd.prog w = .ok (.enter f args) w) (hp : Pred f lb p w (some g)) :
    Calls Tryd.prog 77 #[.slice (some ⟨g, 0, none⟩) l.length cap, .func (.func f) #[] lb] w (CutTo B g cap (keepers p l) w) := by
  obtain ⟨cur, hh, hb, hlc, hcm, hcs, hat⟩ := own_parts hown
  unfold maxLen at hcm
  have hrow : Row2 w (.slice (some ⟨g, 0, none⟩) l.length cap) l := by
    refine ⟨⟨_, _, rfl, fun _ => ⟨g, rfl, lt_of_block hh, fun k hk => ?_⟩⟩, by omega⟩
    obtain ⟨h1, h2⟩ := cells2_at l k hk
    exact ⟨(hown.cellAt (k * 2) (by omega)).trans h1, (hown.cellAt (k * 2 + 1) (by omega)).trans h2⟩
  have hf := indexFuncS_any hrow p f lb eg (some g) hp
  unfold Found at hf
  rcases firstAt_cases p l with ⟨e1, hall⟩ | ⟨k0, hk0, e1, hpk, _, hpj⟩
  · rw [e1] at hf
    rw [keepers_all p l hall]
    have HF := Lib.hid hf
    have HO := Lib.hid hown
    clear hf hown hall e1 hat hh hp hrow
    go_enter Tryd.func77, Tryd.ntmps77
    go_wp2_with fail
    refine HF.out.mono ?_
    rintro e w' ⟨rfl, hg⟩
    have ho : w'.ownsRow B 107 2 (.slice (some ⟨g, 0, none⟩) l.length cap) l.length (cells2 l) := HO.out.kept hg (.inr (by simp [Value.ownBlock]))
    have HO2 := Lib.hid ho
    have HG := Lib.hid (hg.but (some g))
    clear ho hg HF HO
    go_wp2
    go_ret
    exact ⟨rfl, HO2.out, HG.out⟩
  · rw [e1] at hf
    have hne : ((k0 : Int) == -1) = false := beq_eq_false_iff_ne.2 (by omega)
    have hs0 : ∀ W, w.grownBy W none → Sieve w W g cap cur l p k0 (k0 + 1) := fun W hg => by
      have e : keepers p (l.take (k0 + 1)) = l.take k0 := by
        rw [keepers_step p l k0 hk0, hpk, if_pos rfl, List.append_nil, keepers_all]
        intro s hs
        obtain ⟨j, hj, rfl⟩ := List.mem_iff_getElem.1 hs
        have hj2 : j < k0 := by rw [List.length_take] at hj; omega
        have := hpj j hj2
        rw [List.getD_eq_getElem?_getD, List.getElem?_eq_getElem (by omega)] at this
        rw [List.getElem_take]
        exact this
      refine ⟨hk0, by omega, ⟨cur, (hg.block g (lt_of_block hh) (by simp)).trans hh, hcs, fun x hx => ?_, fun x _ => rfl⟩, by rw [e, List.length_take]; omega, hg.but _⟩
      rw [e, ← cells2_take, List.getElem?_take, if_pos hx]
      exact hat x (by omega)
    have S0 := Lib.hid hs0
    have HF := Lib.hid hf
    have HP := Lib.hid hp
    have HAT := Lib.hid hat
    have hlen9 : l.length ≤ 9223372036854775807 := by omega
    clear hs0 hf hp hat hown hpk hpj e1 hrow hh
    go_enter Tryd.func77, Tryd.ntmps77
    go_wp2_with fail
    refine HF.out.mono ?_
    rintro e w' ⟨rfl, hg⟩
    have S1 := Lib.hid (S0.out w' hg)
    clear HF S0 hg
    go_wp2
    go_loopw [5, 6] (fun s5 s6 wr => ∃ i j : Nat, s5 = .int .i64 i ∧ s6 = .int .i64 j ∧ Hid (Sieve w wr g cap cur l p i j)) (fun _ s6 _ => l.length - (intOf s6).toNat)
    case atStart => exact ⟨k0, k0 + 1, rfl, by go_num, S1⟩
    case round =>
      obtain ⟨i, j, rfl, rfl, hS⟩ := hrel
      have hij := hS.out.hij
      have hjn := hS.out.hj
      obtain ⟨cu, hh, hcs2, _, hhi⟩ := hS.out.row
      by_cases hlt : j < l.length
      · have hjl : (j : Int) < (l.length : Int) := by omega
        obtain ⟨a1, a2⟩ := cells2_at l j hlt
        have c1 : wr.cell? ⟨g, j * 2, none⟩ = some (.int .i64 (l.getD j default).1) := by
          rw [cell_of_row wr g _ _ _ _ hh, hhi _ (by omega), HAT.out _ (by omega), a1]
        have c2 : wr.cell? ⟨g, j * 2 + 1, none⟩ = some (.int .i64 (l.getD j default).2) := by
          rw [cell_of_row wr g _ _ _ _ hh, hhi _ (by omega), HAT.out _ (by omega), a2]
        obtain ⟨s, hs⟩ : ∃ s, l.getD j default = s := ⟨_, rfl⟩
        rw [hs] at c1 c2
        have HS := Lib.hid hs
        have hglt : g < wr.heap.size := lt_of_block hh
        have hgne : g ≠ wr.heap.size := by omega
        have hcall := HP.out (wr.alloc (.cells #[.int .i64 s.1, .int .i64 s.2] 107)) s (hS.out.grow.andThen (World.grownBy_alloc _ _ none) (by intro k hk; cases hk))
        have HC := Lib.hid hcall
        have HH := Lib.hid hh
        clear hs a1 a2 hhi hcall hh
        cases hq : p s with
        | true =>
          have hc := HC.out
          rw [hq] at hc
          have HC2 := Lib.hid hc
          have HQ := Lib.hid hq
          clear hc HC hq
          go_wp2_with fail
          refine HC2.out.mono ?_
          rintro e w1 ⟨rfl, hg1⟩
          have hS2 := hS.out.drop hlt (by rw [HS.out]; exact HQ.out) ((World.grownBy_alloc wr (.cells #[.int .i64 s.1, .int .i64 s.2] 107) none).andThen hg1 (by intro k hk; cases hk))
          have HS2 := Lib.hid hS2
          clear hS2 hg1 HC2
          go_wp2
          go_roundw
          case rel => exact ⟨i, j + 1, rfl, by go_num, HS2⟩
          case measure => simp [intOf]; omega
        | false =>
          have hc := HC.out
          rw [hq] at hc
          have HC2 := Lib.hid hc
          have HQ := Lib.hid hq
          clear hc HC hq
          go_wp2_with fail
          refine HC2.out.mono ?_
          rintro e w1 ⟨rfl, hg1⟩
          have hS2 := hS.out.keep (w1 := w1) hlt hlc (by rw [HS.out]; exact HQ.out) ((World.grownBy_alloc wr (.cells #[.int .i64 s.1, .int .i64 s.2] 107) none).andThen hg1 (by intro k hk; cases hk))
          rw [HS.out] at hS2
          have hh1 : w1.heap[g]? = some (.cells cu 107 (0, 0)) := (hg1.block g (by simp; omega) (by simp)).trans ((Below.heap_alloc wr _ g hglt).trans HH.out)
          have hv1 : w1.heap[wr.heap.size]? = some (.cells #[.int .i64 s.1, .int .i64 s.2] 107 (0, 0)) := (hg1.block wr.heap.size (by simp) (by simp)).trans (heap_alloc_new wr _)
          have e1 : w1.cell? ⟨wr.heap.size, 0, none⟩ = some (.int .i64 s.1) := by rw [cell_of_row w1 _ _ _ _ _ hv1]; rfl
          have e2 : w1.cell? ⟨wr.heap.size, 1, none⟩ = some (.int .i64 s.2) := by rw [cell_of_row w1 _ _ _ _ _ hv1]; rfl
          obtain ⟨o1, e3⟩ : ∃ o, w1.cell? ⟨g, i * 2, none⟩ = some o := ⟨cu[i * 2]'(by omega), by rw [cell_of_row w1 g _ _ _ _ hh1, Array.getElem?_eq_getElem (by omega)]⟩
          obtain ⟨o2, e4⟩ : ∃ o, w1.cell? ⟨g, i * 2 + 1, none⟩ = some o := ⟨cu[i * 2 + 1]'(by omega), by rw [cell_of_row w1 g _ _ _ _ hh1, Array.getElem?_eq_getElem (by omega)]⟩
          have e5 : w1.frozen? ⟨g, i * 2, none⟩ = false := frozen_of_row w1 g _ _ _ hh1
          have e6 : w1.frozen? ⟨g, i * 2 + 1, none⟩ = false := frozen_of_row w1 g _ _ _ hh1
          have hil : (i : Int) < (l.length : Int) := by omega
          have HS2 := Lib.hid hS2
          clear hS2 hg1 HC2 hh1 hv1 c1 c2
          go_wp2
          go_roundw
          case rel => exact ⟨i + 1, j + 1, by go_num, by go_num, HS2⟩
          case measure => simp [intOf]; omega
      · obtain rfl : j = l.length := by omega
        have hjl : ¬ (l.length : Int) < (l.length : Int) := by omega
        have hcl := fun ty => run_clear2 wr ty g (i * 2) (l.length - i) (cap - i) (fun x hx => by
          rw [cell_of_row wr g _ _ _ _ hh, Array.getElem?_eq_getElem (by omega)]
          rfl) (fun x _ => frozen_of_row wr g _ _ _ hh)
        have hset := heap_setCells g 107 (Builtin.zeroCells #[.int .i64 0, .int .i64 0] (l.length - i)).toList (i * 2) wr cu hh
        have hlen := hS.out.len
        rw [List.take_length] at hlen
        have hend : (wr.setCells g (i * 2) (Builtin.zeroCells #[.int .i64 0, .int .i64 0] (l.length - i)).toList).ownsRow B 107 2 (.slice (some ⟨g, 0, none⟩) i cap) (keepers p l).length (cells2 (keepers p l)) := by
          refine own_of_parts hlen hset.1 hb (by omega) (by unfold maxLen; omega) (by rw [laid_size, hcs2]) (fun x hx => ?_)
          have hz : (Builtin.zeroCells #[Value.int .i64 0, .int .i64 0] (l.length - i)).toList.length = (l.length - i) * 2 := by simp [Builtin.zeroCells]
          rw [laid_at _ _ _ _ (by rw [hz, hcs2]; omega), if_neg (by omega)]
          obtain ⟨cu', hh', _, h3, _⟩ := hS.out.row
          rw [hh] at hh'
          injection hh' with hh'
          injection hh' with hh'
          subst hh'
          rw [List.take_length] at h3
          exact h3 x (by omega)
        have hgrow := hS.out.grow.andThen hset.2 (fun k hk => .inr hk)
        have X := Lib.hid hend
        have Y := Lib.hid hgrow
        have Z := Lib.hid hlen
        have hic : i ≤ cap := by omega
        have hil : i ≤ l.length := by omega
        have hne2 : ¬ cap = i := by omega
        have hi0 : (0 : Int) ≤ (i : Int) := by omega
        clear hend hgrow hset hh hhi hlen hS HP
        go_wp2
        go_ret
        unfold CutTo
        have x := X.out
        rw [Z.out] at x ⊢
        exact ⟨rfl, x, Y.out⟩
end Go.Proofs.YtkmidefgmefohaaDoor

namespace Go.Proofs.YtkmidefgmefohaaDoor
set_option maxRecDepth 100000
open Go.RowKit Go.Shelf

/-- All blocks that there were, but those of S, are as they were. -/
structure Keeps (S : Nat → Prop) (w w' : World) : Prop where
  os : w'.os = w.os
  tape : w'.tape = w.tape
  output : w'.output = w.output
  size : w.heap.size ≤ w'.heap.size
  block : ∀ k, k < w.heap.size → ¬ S k → w'.heap[k]? = w.heap[k]?

theorem Keeps.of_grown {S : Nat → Prop} {w w' : World} {row : Option Nat} (h : w.grownBy w' row) (hS : ∀ k, row = some k → S k) : Keeps S w w' :=
  ⟨h.os, h.tape, h.output, h.size, fun k hk hn => h.block k hk (fun e => hn (hS k e.symm))⟩
theorem Keeps.trans {S : Nat → Prop} {a b c : World} (h : Keeps S a b) (k : Keeps S b c) : Keeps S a c :=
  ⟨k.os.trans h.os, k.tape.trans h.tape, k.output.trans h.output, Nat.le_trans h.size k.size, fun i hi hn => (k.block i (Nat.lt_of_lt_of_le hi h.size) hn).trans (h.block i hi hn)⟩
theorem Keeps.setCell {S : Nat → Prop} {w w' : World} (h : Keeps S w w') (a : Addr) (ha : S a.block) (u : Value) : Keeps S w (w'.setCell a u) :=
  h.trans ⟨rfl, rfl, rfl, by simp, fun k _ hn => heap_setCell_other w' a k u (fun e => hn (by rw [e]; exact ha))⟩
theorem Keeps.below {S : Nat → Prop} {w w' : World} {B : Nat} (h : Keeps S w w') (hB : B ≤ w.heap.size) (hS : ∀ k, S k → B ≤ k) : Below B w w' :=
  ⟨h.os, h.tape, h.output, h.size, fun k hk => h.block k (by omega) (fun hs => by have := hS k hs; omega)⟩
theorem Lot.keeps {S : Nat → Prop} {w w' : World} {B p : Nat} {nt : Int} {v : Value} {l : List (Int × Int)} (h : Lot w B p nt v l) (hk : Keeps S w w') (h1 : ¬ S p) (h2 : ∀ g, v.ownBlock = some g → ¬ S g) : Lot w' B p nt v l := by
  refine ⟨(hk.block p h.lt h1).trans h.at_, ?_, h.lo⟩
  refine ⟨h.own.1, ?_⟩
  rcases h.own.2 with hn | ⟨g, cap, cur, rfl, hb, hg, rest⟩
  · exact .inl hn
  · exact .inr ⟨g, cap, cur, rfl, hb, (hk.block g (lt_of_block hg) (h2 g rfl)).trans hg, rest⟩

set_option maxHeartbeats 400000 in
theorem indexI_yes {w : World} {B : Nat} (A : Option Addr) (n c : Nat) (xs : List Int) (h : Ints .i64 w B A n xs) (hn : n ≤ 9223372036854775807) (t : Int) (k : Nat) (hk : k < n) (hx : xs.getD k 0 = t) (hj : ∀ j, j < k → xs.getD j 0 ≠ t) :
    Calls Tryd.prog 80 #[.slice A n c, .int .i64 t] w fun e w' => e = .returned (.int .i64 k) ∧ w = w' := by
  obtain ⟨b, off, rfl, _, hc⟩ := h.row (by omega)
  have HJ := Lib.hid hj
  have HX := Lib.hid hx
  have HC := Lib.hid hc
  clear h hj hx hc
  go_enter Tryd.func80, Tryd.ntmps80
  go_wp2
  go_loop [5, 8] (fun _ i => ∃ j : Nat, j ≤ k ∧ i = .int .i64 j) (fun _ i => n - (intOf i).toNat)
  case atStart => exact ⟨0, Nat.zero_le _, rfl⟩
  case round =>
    obtain ⟨j, hjk, rfl⟩ := hrel
    have hjn : (j : Int) < (n : Int) := by omega
    have hcj := HC.out j (by omega)
    by_cases e : j = k
    · subst e
      rw [HX.out] at hcj
      have htt : (t == t) = true := by simp
      go_wp2
      go_ret
      exact ⟨rfl, rfl⟩
    · have hne : (t == xs.getD j 0) = false := beq_eq_false_iff_ne.2 (fun e2 => HJ.out j (by omega) e2.symm)
      generalize xs.getD j 0 = u at hcj hne
      go_wp2
      go_round
      case rel => exact ⟨j + 1, by omega, by go_num⟩
      case measure => simp [intOf]; omega

set_option maxHeartbeats 400000 in
theorem indexI_no {w : World} {B : Nat} (A : Option Addr) (n c : Nat) (xs : List Int) (h : Ints .i64 w B A n xs) (hn : n ≤ 9223372036854775807) (t : Int) (hj : ∀ j, j < n → xs.getD j 0 ≠ t) :
    Calls Tryd.prog 80 #[.slice A n c, .int .i64 t] w fun e w' => e = .returned (.int .i64 (-1)) ∧ w = w' := by
  have HJ := Lib.hid hj
  clear hj
  go_enter Tryd.func80, Tryd.ntmps80
  go_wp2
  go_loop [5, 8] (fun _ i => ∃ j : Nat, j ≤ n ∧ i = .int .i64 j) (fun _ i => n - (intOf i).toNat)
  case atStart => exact ⟨0, Nat.zero_le _, rfl⟩
  case round =>
    obtain ⟨j, hjk, rfl⟩ := hrel
    by_cases e : j < n
    · obtain ⟨b, off, rfl, _, hc⟩ := h.row (by omega)
      have hcj := hc j e
      have hjn : (j : Int) < (n : Int) := by omega
      have hne : (t == xs.getD j 0) = false := beq_eq_false_iff_ne.2 (fun e2 => HJ.out j (by omega) e2.symm)
      clear hc h
      generalize xs.getD j 0 = u at hcj hne
      go_wp2
      go_round
      case rel => exact ⟨j + 1, by omega, by go_num⟩
      case measure => simp [intOf]; omega
    · have hjn : ¬ (j : Int) < (n : Int) := by omega
      go_wp2
      go_ret
      exact ⟨rfl, rfl⟩

theorem contains_cases (xs : List Int) (n : Nat) (hl : xs.length = n) (t : Int) : (xs.contains t = true ∧ ∃ k, k < n ∧ xs.getD k 0 = t ∧ ∀ j, j < k → xs.getD j 0 ≠ t) ∨ (xs.contains t = false ∧ ∀ j, j < n → xs.getD j 0 ≠ t) := by
  subst hl
  induction xs with
  | nil => exact .inr ⟨rfl, fun j hj => absurd hj (Nat.not_lt_zero _)⟩
  | cons x xs ih =>
    by_cases hx : x = t
    · subst hx
      exact .inl ⟨by simp, 0, by simp, rfl, fun j hj => absurd hj (Nat.not_lt_zero _)⟩
    · rcases ih with ⟨h1, k, hk, hk1, hk2⟩ | ⟨h1, h2⟩
      · refine .inl ⟨by simp at h1 ⊢; exact .inr h1, k + 1, by simpa using hk, hk1, fun j hj => ?_⟩
        rcases j with _ | j
        · exact hx
        · exact hk2 j (by omega)
      · refine .inr ⟨by simp at h1 ⊢; exact ⟨fun e => hx e.symm, h1⟩, fun j hj => ?_⟩
        rcases j with _ | j
        · exact hx
        · exact h2 j (by simpa using hj)

set_option maxHeartbeats 400000 in
theorem containsI_any {w : World} {B : Nat} (A : Option Addr) (n c : Nat) (xs : List Int) (h : Ints .i64 w B A n xs) (hn : n ≤ 9223372036854775807) (t : Int) :
    Calls Tryd.prog 79 #[.slice A n c, .int .i64 t] w fun e w' => e = .returned (.bool (xs.contains t)) ∧ w = w' := by
  rcases contains_cases xs n h.len t with ⟨h1, k, hk, hk1, hk2⟩ | ⟨h1, h2⟩
  · rw [h1]
    have HI := Lib.hid (indexI_yes A n c xs h hn t k hk hk1 hk2)
    have hk0 : (0 : Int) ≤ (k : Int) := by omega
    clear h h1 hk1 hk2
    go_enter Tryd.func79, Tryd.ntmps79
    go_wp2_with fail
    refine HI.out.mono ?_
    rintro e w' ⟨rfl, rfl⟩
    go_wp2
    go_ret
    exact ⟨rfl, rfl⟩
  · rw [h1]
    have HI := Lib.hid (indexI_no A n c xs h hn t h2)
    clear h h1 h2
    go_enter Tryd.func79, Tryd.ntmps79
    go_wp2_with fail
    refine HI.out.mono ?_
    rintro e w' ⟨rfl, rfl⟩
    go_wp2
    go_ret
    exact ⟨rfl, rfl⟩

set_option maxHeartbeats 400000 in
theorem wakec_any (b : Nat) (A : Option Addr) (n c B : Nat) (xs : List Int) (s : Int × Int) (W : World) (hc : W.cell? ⟨b, 0, none⟩ = some (.slice A n c)) (h : Ints .i64 W B A n xs) (hB : B ≤ W.heap.size) (hn : n ≤ 9223372036854775807) :
    Calls Tryd.prog 78 #[.agg #[.int .i64 s.1, .int .i64 s.2], .pointer (some ⟨b, 0, none⟩)] W fun e w' => e = .returned (.bool (xs.contains s.1)) ∧ W.grownBy w' none := by
  have hb : b < W.heap.size := World.block_lt_of_cell? W _ hc
  have hne : b ≠ W.heap.size := by omega
  have h1 : Ints .i64 (W.alloc (.cells #[.int .i64 s.1, .int .i64 s.2] 107)) B A n xs := h.keep (Nat.le_refl _) fun p hp => World.cell?_alloc_lt W _ p (by omega)
  have HI := Lib.hid (containsI_any A n c xs h1 hn s.1)
  rcases s with ⟨s1, s2⟩
  generalize xs.contains s1 = r at HI ⊢
  clear h h1
  go_enter Tryd.func78, Tryd.ntmps78
  go_wp2_with fail
  refine HI.out.mono ?_
  rintro e w' ⟨rfl, rfl⟩
  go_wp2
  go_ret
  exact ⟨rfl, World.grownBy_alloc _ _ _⟩

set_option maxHeartbeats 400000 in
theorem deleteFuncS_nil {w : World} (p : Int × Int → Bool) (f : Nat) (lb : Array Value) (eg : ∀ args w, (callFunc f args).run Tryd.prog w = .ok (.enter f args) w) (hp : Pred f lb p w none) :
    Calls Tryd.prog 77 #[.slice none 0 0, .func (.func f) #[] lb] w fun e w' => e = .returned (.slice none 0 0) ∧ w.grownBy w' none := by
  have hrow : Row2 w (.slice none 0 0) [] := ⟨⟨none, 0, rfl, fun h => absurd h (Nat.lt_irrefl 0)⟩, by decide⟩
  have hf := indexFuncS_any hrow p f lb eg none hp
  have HF := Lib.hid hf
  clear hf hrow hp
  go_enter Tryd.func77, Tryd.ntmps77
  go_wp2_with fail
  refine HF.out.mono ?_
  rintro e w' ⟨he, hg⟩
  obtain rfl : e = .returned (.int .i64 (-1)) := he
  have HG := Lib.hid hg
  clear hg HF
  go_wp2
  go_ret
  exact ⟨rfl, HG.out⟩
end Go.Proofs.YtkmidefgmefohaaDoor
