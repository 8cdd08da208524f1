/-
  slices.DeleteFunc of sleepers.
-/
import Derived.Test.YtnooegfhkeddnaaDoorLotE
namespace Go.Proofs.YtnooegfhkeddnaaDoor
set_option maxRecDepth 100000
open Go.RowKit Go.Shelf

/-- Those that are kept. -/
def keepers (p : Int × Int → Bool) (l : List (Int × Int)) : List (Int × Int) := l.filter fun s => !p s

theorem keepers_step (p : Int × Int → Bool) (l : List (Int × Int)) (j : Nat) (hj : j < l.length) : keepers p (l.take (j + 1)) = keepers p (l.take j) ++ (if p (l.getD j default) then [] else [l.getD j default]) := by
  unfold keepers
  rw [List.take_succ_eq_append_getElem hj, List.filter_append, List.getD_eq_getElem?_getD, List.getElem?_eq_getElem hj]
  congr 1
  simp only [List.filter_cons, List.filter_nil, Option.getD_some]
  cases p l[j] <;> rfl

theorem keepers_all (p : Int × Int → Bool) (l : List (Int × Int)) (h : ∀ s ∈ l, p s = false) : keepers p l = l := by
  unfold keepers
  exact List.filter_eq_self.2 fun s hs => by rw [h s hs]; rfl

/-- What holds at every head of the loop: j are looked at, i of them kept. -/
structure Sieve (w wr : World) (g cap : Nat) (cur : Array Value) (l : List (Int × Int)) (p : Int × Int → Bool) (i j : Nat) : Prop where
  hj : j ≤ l.length
  hij : i < j
  row : ∃ cu, wr.heap[g]? = some (.cells cu 87 (0, 0)) ∧ cu.size = cap * 2 ∧ (∀ x, x < i * 2 → cu[x]? = (cells2 (keepers p (l.take j)))[x]?) ∧ ∀ x, j * 2 ≤ x → cu[x]? = cur[x]?
  len : (keepers p (l.take j)).length = i
  grow : w.grownBy wr (some g)

theorem Sieve.drop {w wr w' : World} {g cap : Nat} {cur : Array Value} {l : List (Int × Int)} {p : Int × Int → Bool} {i j : Nat} (h : Sieve w wr g cap cur l p i j) (hlt : j < l.length) (hp : p (l.getD j default) = true) (hg : wr.grownBy w' none) : Sieve w w' g cap cur l p i (j + 1) := by
  obtain ⟨cu, h1, h2, h3, h4⟩ := h.row
  have e : keepers p (l.take (j + 1)) = keepers p (l.take j) := by rw [keepers_step p l j hlt, hp, if_pos rfl, List.append_nil]
  refine ⟨by omega, by have := h.hij; omega, ⟨cu, (hg.block g (lt_of_block h1) (by simp)).trans h1, h2, by rw [e]; exact h3, fun x hx => h4 x (by omega)⟩, by rw [e]; exact h.len, h.grow.andThen hg (by intro k hk; cases hk)⟩

theorem Sieve.keep {w wr w1 : World} {g cap : Nat} {cur : Array Value} {l : List (Int × Int)} {p : Int × Int → Bool} {i j : Nat} (h : Sieve w wr g cap cur l p i j) (hlt : j < l.length) (hcap : l.length ≤ cap) (hp : p (l.getD j default) = false) (hg : wr.grownBy w1 none) :
    Sieve w ((w1.setCell ⟨g, i * 2, none⟩ (.int .i64 (l.getD j default).1)).setCell ⟨g, i * 2 + 1, none⟩ (.int .i64 (l.getD j default).2)) g cap cur l p (i + 1) (j + 1) := by
  obtain ⟨cu, h1, h2, h3, h4⟩ := h.row
  have hij := h.hij
  have e : keepers p (l.take (j + 1)) = keepers p (l.take j) ++ [l.getD j default] := by rw [keepers_step p l j hlt, hp, if_neg (by simp)]
  have hh1 : w1.heap[g]? = some (.cells cu 87 (0, 0)) := (hg.block g (lt_of_block h1) (by simp)).trans h1
  have hs := heap_setCells g 87 [.int .i64 (l.getD j default).1, .int .i64 (l.getD j default).2] (i * 2) w1 cu hh1
  refine ⟨by omega, by omega, ⟨_, hs.1, by rw [laid_size]; exact h2, fun x hx => ?_, fun x hx => ?_⟩, ?_, ?_⟩
  · rw [laid_at _ _ _ _ (by rw [h2]; simp; omega), e, cells2_append]
    by_cases hx2 : x < i * 2
    · rw [if_neg (by omega), h3 x hx2, List.getElem?_append_left (by rw [cells2_length, h.len]; exact hx2)]
    · rw [if_pos (by simp; omega), List.getElem?_append_right (by rw [cells2_length, h.len]; omega), cells2_length, h.len]
      rfl
  · rw [laid_at _ _ _ _ (by rw [h2]; simp; omega), if_neg (by simp; omega), h4 x (by omega)]
  · rw [e, List.length_append, h.len]
    rfl
  · exact (h.grow.andThen hg (by intro k hk; cases hk)).andThen hs.2 (fun k hk => .inr hk)

set_option maxHeartbeats 1000000 in
theorem deleteFuncS_any {w : World} {B g cap : Nat} {l : List (Int × Int)} (hown : w.ownsRow B 87 2 (.slice (some ⟨g, 0, none⟩) l.length cap) l.length (cells2 l)) (p : Int × Int → Bool) (f : Nat) (lb : Array Value) (eg : ∀ args w, (callFunc f args).run Tryd.prog w = .ok (.enter f args) w) (hp : Pred f lb p w (some g)) :
    Calls Tryd.prog 42 #[.slice (some ⟨g, 0, none⟩) l.length cap, .func (.func f) #[] lb] w (CutTo B g cap (keepers p l) w) := by
  obtain ⟨cur, hh, hb, hlc, hcm, hcs, hat⟩ := own_parts hown
  unfold maxLen at hcm
  have hrow : Row2 w (.slice (some ⟨g, 0, none⟩) l.length cap) l := by
    refine ⟨⟨_, _, rfl, fun _ => ⟨g, rfl, lt_of_block hh, fun k hk => ?_⟩⟩, by omega⟩
    obtain ⟨h1, h2⟩ := cells2_at l k hk
    exact ⟨(hown.cellAt (k * 2) (by omega)).trans h1, (hown.cellAt (k * 2 + 1) (by omega)).trans h2⟩
  have hf := indexFuncS_any hrow p f lb eg (some g) hp
  unfold Found at hf
  rcases firstAt_cases p l with ⟨e1, hall⟩ | ⟨k0, hk0, e1, hpk, _, hpj⟩
  · rw [e1] at hf
    rw [keepers_all p l hall]
    have HF := Lib.hid hf
    have HO := Lib.hid hown
    clear hf hown hall e1 hat hh hp hrow
    go_enter Tryd.func42, Tryd.ntmps42
    go_wp2_with fail
    refine HF.out.mono ?_
    rintro e w' ⟨rfl, hg⟩
    have ho : w'.ownsRow B 87 2 (.slice (some ⟨g, 0, none⟩) l.length cap) l.length (cells2 l) := HO.out.kept hg (.inr (by simp [Value.ownBlock]))
    have HO2 := Lib.hid ho
    have HG := Lib.hid (hg.but (some g))
    clear ho hg HF HO
    go_wp2
    go_ret
    exact ⟨rfl, HO2.out, HG.out⟩
  · rw [e1] at hf
    have hne : ((k0 : Int) == -1) = false := beq_eq_false_iff_ne.2 (by omega)
    have hs0 : ∀ W, w.grownBy W none → Sieve w W g cap cur l p k0 (k0 + 1) := fun W hg => by
      have e : keepers p (l.take (k0 + 1)) = l.take k0 := by
        rw [keepers_step p l k0 hk0, hpk, if_pos rfl, List.append_nil, keepers_all]
        intro s hs
        obtain ⟨j, hj, rfl⟩ := List.mem_iff_getElem.1 hs
        have hj2 : j < k0 := by rw [List.length_take] at hj; omega
        have := hpj j hj2
        rw [List.getD_eq_getElem?_getD, List.getElem?_eq_getElem (by omega)] at this
        rw [List.getElem_take]
        exact this
      refine ⟨hk0, by omega, ⟨cur, (hg.block g (lt_of_block hh) (by simp)).trans hh, hcs, fun x hx => ?_, fun x _ => rfl⟩, by rw [e, List.length_take]; omega, hg.but _⟩
      rw [e, ← cells2_take, List.getElem?_take, if_pos hx]
      exact hat x (by omega)
    have S0 := Lib.hid hs0
    have HF := Lib.hid hf
    have HP := Lib.hid hp
    have HAT := Lib.hid hat
    have hlen9 : l.length ≤ 9223372036854775807 := by omega
    clear hs0 hf hp hat hown hpk hpj e1 hrow hh
    go_enter Tryd.func42, Tryd.ntmps42
    go_wp2_with fail
    refine HF.out.mono ?_
    rintro e w' ⟨rfl, hg⟩
    have S1 := Lib.hid (S0.out w' hg)
    clear HF S0 hg
    go_wp2
    go_loopw [5, 6] (fun s5 s6 wr => ∃ i j : Nat, s5 = .int .i64 i ∧ s6 = .int .i64 j ∧ Hid (Sieve w wr g cap cur l p i j)) (fun _ s6 _ => l.length - (intOf s6).toNat)
    case atStart => exact ⟨k0, k0 + 1, rfl, by go_num, S1⟩
    case round =>
      obtain ⟨i, j, rfl, rfl, hS⟩ := hrel
      have hij := hS.out.hij
      have hjn := hS.out.hj
      obtain ⟨cu, hh, hcs2, _, hhi⟩ := hS.out.row
      by_cases hlt : j < l.length
      · have hjl : (j : Int) < (l.length : Int) := by omega
        obtain ⟨a1, a2⟩ := cells2_at l j hlt
        have c1 : wr.cell? ⟨g, j * 2, none⟩ = some (.int .i64 (l.getD j default).1) := by
          rw [cell_of_row wr g _ _ _ _ hh, hhi _ (by omega), HAT.out _ (by omega), a1]
        have c2 : wr.cell? ⟨g, j * 2 + 1, none⟩ = some (.int .i64 (l.getD j default).2) := by
          rw [cell_of_row wr g _ _ _ _ hh, hhi _ (by omega), HAT.out _ (by omega), a2]
        obtain ⟨s, hs⟩ : ∃ s, l.getD j default = s := ⟨_, rfl⟩
        rw [hs] at c1 c2
        have HS := Lib.hid hs
        have hglt : g < wr.heap.size := lt_of_block hh
        have hgne : g ≠ wr.heap.size := by omega
        have hcall := HP.out (wr.alloc (.cells #[.int .i64 s.1, .int .i64 s.2] 87)) s (hS.out.grow.andThen (World.grownBy_alloc _ _ none) (by intro k hk; cases hk))
        have HC := Lib.hid hcall
        have HH := Lib.hid hh
        clear hs a1 a2 hhi hcall hh
        cases hq : p s with
        | true =>
          have hc := HC.out
          rw [hq] at hc
          have HC2 := Lib.hid hc
          have HQ := Lib.hid hq
          clear hc HC hq
          go_wp2_with fail
          refine HC2.out.mono ?_
          rintro e w1 ⟨rfl, hg1⟩
          have hS2 := hS.out.drop hlt (by rw [HS.out]; exact HQ.out) ((World.grownBy_alloc wr (.cells #[.int .i64 s.1, .int .i64 s.2] 87) none).andThen hg1 (by intro k hk; cases hk))
          have HS2 := Lib.hid hS2
          clear hS2 hg1 HC2
          go_wp2
          go_roundw
          case rel => exact ⟨i, j + 1, rfl, by go_num, HS2⟩
          case measure => simp [intOf]; omega
        | false =>
          have hc := HC.out
          rw [hq] at hc
          have HC2 := Lib.hid hc
          have HQ := Lib.hid hq
          clear hc HC hq
          go_wp2_with fail
          refine HC2.out.mono ?_
          rintro e w1 ⟨rfl, hg1⟩
          have hS2 := hS.out.keep (w1 := w1) hlt hlc (by rw [HS.out]; exact HQ.out) ((World.grownBy_alloc wr (.cells #[.int .i64 s.1, .int .i64 s.2] 87) none).andThen hg1 (by intro k hk; cases hk))
          rw [HS.out] at hS2
          have hh1 : w1.heap[g]? = some (.cells cu 87 (0, 0)) := (hg1.block g (by simp; omega) (by simp)).trans ((Below.heap_alloc wr _ g hglt).trans HH.out)
          have hv1 : w1.heap[wr.heap.size]? = some (.cells #[.int .i64 s.1, .int .i64 s.2] 87 (0, 0)) := (hg1.block wr.heap.size (by simp) (by simp)).trans (heap_alloc_new wr _)
          have e1 : w1.cell? ⟨wr.heap.size, 0, none⟩ = some (.int .i64 s.1) := by rw [cell_of_row w1 _ _ _ _ _ hv1]; rfl
          have e2 : w1.cell? ⟨wr.heap.size, 1, none⟩ = some (.int .i64 s.2) := by rw [cell_of_row w1 _ _ _ _ _ hv1]; rfl
          obtain ⟨o1, e3⟩ : ∃ o, w1.cell? ⟨g, i * 2, none⟩ = some o := ⟨cu[i * 2]'(by omega), by rw [cell_of_row w1 g _ _ _ _ hh1, Array.getElem?_eq_getElem (by omega)]⟩
          obtain ⟨o2, e4⟩ : ∃ o, w1.cell? ⟨g, i * 2 + 1, none⟩ = some o := ⟨cu[i * 2 + 1]'(by omega), by rw [cell_of_row w1 g _ _ _ _ hh1, Array.getElem?_eq_getElem (by omega)]⟩
          have e5 : w1.frozen? ⟨g, i * 2, none⟩ = false := frozen_of_row w1 g _ _ _ hh1
          have e6 : w1.frozen? ⟨g, i * 2 + 1, none⟩ = false := frozen_of_row w1 g _ _ _ hh1
          have hil : (i : Int) < (l.length : Int) := by omega
          have HS2 := Lib.hid hS2
          clear hS2 hg1 HC2 hh1 hv1 c1 c2
          go_wp2
          go_roundw
          case rel => exact ⟨i + 1, j + 1, by go_num, by go_num, HS2⟩
          case measure => simp [intOf]; omega
      · obtain rfl : j = l.length := by omega
        have hjl : ¬ (l.length : Int) < (l.length : Int) := by omega
        have hcl := fun ty => run_clear2 wr ty g (i * 2) (l.length - i) (cap - i) (fun x hx => by
          rw [cell_of_row wr g _ _ _ _ hh, Array.getElem?_eq_getElem (by omega)]
          rfl) (fun x _ => frozen_of_row wr g _ _ _ hh)
        have hset := heap_setCells g 87 (Builtin.zeroCells #[.int .i64 0, .int .i64 0] (l.length - i)).toList (i * 2) wr cu hh
        have hlen := hS.out.len
        rw [List.take_length] at hlen
        have hend : (wr.setCells g (i * 2) (Builtin.zeroCells #[.int .i64 0, .int .i64 0] (l.length - i)).toList).ownsRow B 87 2 (.slice (some ⟨g, 0, none⟩) i cap) (keepers p l).length (cells2 (keepers p l)) := by
          refine own_of_parts hlen hset.1 hb (by omega) (by unfold maxLen; omega) (by rw [laid_size, hcs2]) (fun x hx => ?_)
          have hz : (Builtin.zeroCells #[Value.int .i64 0, .int .i64 0] (l.length - i)).toList.length = (l.length - i) * 2 := by simp [Builtin.zeroCells]
          rw [laid_at _ _ _ _ (by rw [hz, hcs2]; omega), if_neg (by omega)]
          obtain ⟨cu', hh', _, h3, _⟩ := hS.out.row
          rw [hh] at hh'
          injection hh' with hh'
          injection hh' with hh'
          subst hh'
          rw [List.take_length] at h3
          exact h3 x (by omega)
        have hgrow := hS.out.grow.andThen hset.2 (fun k hk => .inr hk)
        have X := Lib.hid hend
        have Y := Lib.hid hgrow
        have Z := Lib.hid hlen
        have hic : i ≤ cap := by omega
        have hil : i ≤ l.length := by omega
        have hne2 : ¬ cap = i := by omega
        have hi0 : (0 : Int) ≤ (i : Int) := by omega
        clear hend hgrow hset hh hhi hlen hS HP
        go_wp2
        go_ret
        unfold CutTo
        have x := X.out
        rw [Z.out] at x ⊢
        exact ⟨rfl, x, Y.out⟩
end Go.Proofs.YtnooegfhkeddnaaDoor
