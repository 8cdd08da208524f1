/-
  slices.IndexFunc, slices.DeleteFunc and slices.Clone at []int.
-/
import Derived.Test.YtpomjobgodfjmaaParkFirst
namespace Go.Proofs.Ytpomjobgodfjmaa
open Go.RowKit Go.Shelf

/-- The first place at which p holds, or -1. -/
def firstI (p : Int → Bool) : List Int → Nat → Int
  | [], _ => -1
  | t :: l, i => if p t then (i : Int) else firstI p l (i + 1)

theorem firstI_miss (p : Int → Bool) (l : List Int) (i : Nat) (h : ∀ t ∈ l, p t = false) : firstI p l i = -1 := by
  induction l generalizing i with
  | nil => rfl
  | cons s l ih =>
    rw [firstI, h s (by simp)]
    exact ih _ fun t ht => h t (by simp [ht])

theorem firstI_hit (p : Int → Bool) (l : List Int) (i k : Nat) (hk : k < l.length) (hp : p (l.getD k 0) = true) (h : ∀ j, j < k → p (l.getD j 0) = false) : firstI p l i = ((i + k : Nat) : Int) := by
  induction l generalizing i k with
  | nil => exact absurd hk (Nat.not_lt_zero _)
  | cons s l ih =>
    rcases k with _ | k
    · have : p s = true := hp
      rw [firstI, this]
      simp
    · have h0 : p s = false := h 0 (by omega)
      rw [firstI, h0]
      have := ih (i + 1) k (by simpa using hk) hp (fun j hj => h (j + 1) (by omega))
      simp only [Bool.false_eq_true, if_false]
      rw [this]
      congr 1
      omega

theorem firstI_cases (p : Int → Bool) (l : List Int) : (firstI p l 0 = -1 ∧ ∀ t ∈ l, p t = false) ∨ ∃ k, k < l.length ∧ firstI p l 0 = (k : Int) ∧ p (l.getD k 0) = true ∧ ∀ j, j < k → p (l.getD j 0) = false := by
  have key : (∀ t ∈ l, p t = false) ∨ ∃ k, k < l.length ∧ p (l.getD k 0) = true ∧ ∀ j, j < k → p (l.getD j 0) = false := by
    induction l with
    | nil => exact .inl fun t ht => by cases ht
    | cons s l ih =>
      cases hp : p s with
      | true => exact .inr ⟨0, by simp, hp, fun j hj => absurd hj (Nat.not_lt_zero _)⟩
      | false =>
        rcases ih with h | ⟨k, hk, h1, h2⟩
        · refine .inl fun t ht => ?_
          rcases List.mem_cons.1 ht with rfl | ht
          · exact hp
          · exact h t ht
        · refine .inr ⟨k + 1, by simpa using hk, h1, fun j hj => ?_⟩
          rcases j with _ | j
          · exact hp
          · exact h2 j (by omega)
  rcases key with h | ⟨k, hk, h1, h2⟩
  · exact .inl ⟨firstI_miss p l 0 h, h⟩
  · exact .inr ⟨k, hk, by rw [firstI_hit p l 0 k hk h1 h2, Nat.zero_add], h1, h2⟩

set_option maxHeartbeats 400000 in
theorem indexFuncI_any {w : World} (A : Option Addr) (n c : Nat) (xs : List Int) (h : Ints .i64 w w.heap.size A n xs) (hn : n ≤ 9223372036854775807) (p : Int → Bool) (g : Nat) (lb : Array Value) (eg : ∀ args w, (callFunc g args).run Try.prog w = .ok (.enter g args) w) (row : Option Nat) (hp : PredI g lb p w row) :
    Calls Try.prog 13 #[.slice A n c, .func (.func g) #[] lb] w (Told1 (firstI p xs 0) w) := by
  have HP := Lib.hid hp
  have HH := Lib.hid h
  have HL := Lib.hid h.len
  clear hp h
  obtain ⟨r, hr⟩ : ∃ r, firstI p xs 0 = r := ⟨_, rfl⟩
  rw [hr]
  have HR := Lib.hid hr
  clear hr
  go_enter Try.func13, Try.ntmps13
  go_wp2
  go_loopw [5, 8] (fun _ j wr => ∃ k : Nat, k ≤ n ∧ j = .int .i64 k ∧ w.grownBy wr none ∧ Hid (∀ j, j < k → p (xs.getD j 0) = false)) (fun _ j _ => n - (intOf j).toNat)
  case atStart => exact ⟨0, Nat.zero_le _, rfl, World.grownBy.refl w _, fun j hj => absurd hj (Nat.not_lt_zero _)⟩
  case round =>
    obtain ⟨k, hk, rfl, hg, hall⟩ := hrel
    by_cases hlt : k < n
    · have hkn : (k : Int) < (n : Int) := by omega
      obtain ⟨b, off, rfl, hb, hc⟩ := HH.out.row (by omega)
      have hcell : wr.cell? ⟨b, off + k, none⟩ = some (.int .i64 (xs.getD k 0)) := (World.cell?_of_block (a := ⟨b, off + k, none⟩) (hg.block b hb (by simp))).trans (hc k hlt)
      obtain ⟨t, ht⟩ : ∃ t, xs.getD k 0 = t := ⟨_, rfl⟩
      rw [ht] at hcell
      have hcall := HP.out wr t (hg.but row)
      have HT := Lib.hid ht
      have HC := Lib.hid (And.intro hg hall.out)
      clear hc ht hg hall
      cases hq : p t with
      | true =>
        rw [hq] at hcall
        have HQ := Lib.hid hq
        have HCALL := Lib.hid hcall
        clear hq hcall
        go_wp2_with fail
        refine HCALL.out.mono ?_
        rintro e w' ⟨rfl, hg'⟩
        go_wp2
        go_ret
        refine ⟨ret_int ?_, HC.out.1.andThen hg' (by intro j hj; cases hj)⟩
        rw [← HR.out, firstI_hit p xs 0 k (by rw [HL.out]; exact hlt) (by rw [HT.out]; exact HQ.out) HC.out.2, Nat.zero_add]
      | false =>
        rw [hq] at hcall
        have HQ := Lib.hid hq
        have HCALL := Lib.hid hcall
        clear hq hcall
        go_wp2_with fail
        refine HCALL.out.mono ?_
        rintro e w' ⟨rfl, hg'⟩
        have hg2 := HC.out.1.andThen hg' (by intro j hj; cases hj)
        go_wp2
        go_roundw
        case rel =>
          refine ⟨k + 1, by omega, by go_num, hg2, Lib.hid fun j hj => ?_⟩
          by_cases e : j = k
          · subst e; rw [HT.out]; exact HQ.out
          · exact HC.out.2 j (by omega)
        case measure => simp [intOf]; omega
    · have hkn : ¬ (k : Int) < (n : Int) := by omega
      have HC := Lib.hid (And.intro hg hall.out)
      clear hg hall
      go_wp2
      go_ret
      refine ⟨ret_int ?_, HC.out.1⟩
      rw [← HR.out, firstI_miss p xs 0 (fun s hs => ?_)]
      obtain ⟨j, hj, rfl⟩ := List.mem_iff_getElem.1 hs
      have := HC.out.2 j (by have := HL.out; omega)
      rw [List.getD_eq_getElem?_getD, List.getElem?_eq_getElem hj] at this
      exact this

/-- Those that are kept. -/
def keepI (p : Int → Bool) (l : List Int) : List Int := l.filter fun t => !p t

theorem keepI_step (p : Int → Bool) (l : List Int) (j : Nat) (hj : j < l.length) : keepI p (l.take (j + 1)) = keepI p (l.take j) ++ (if p (l.getD j 0) then [] else [l.getD j 0]) := by
  unfold keepI
  rw [List.take_succ_eq_append_getElem hj, List.filter_append, List.getD_eq_getElem?_getD, List.getElem?_eq_getElem hj]
  congr 1
  simp only [List.filter_cons, List.filter_nil, Option.getD_some]
  cases p l[j] <;> rfl

theorem keepI_all (p : Int → Bool) (l : List Int) (h : ∀ s ∈ l, p s = false) : keepI p l = l := by
  unfold keepI
  exact List.filter_eq_self.2 fun s hs => by rw [h s hs]; rfl

structure SieveI (w wr : World) (g cap : Nat) (cur : Array Value) (l : List Int) (p : Int → Bool) (i j : Nat) : Prop where
  hj : j ≤ l.length
  hij : i < j
  row : ∃ cu, wr.heap[g]? = some (.cells cu 3 (0, 0)) ∧ cu.size = cap ∧ (∀ x, x < i → cu[x]? = ((keepI p (l.take j)).map (Value.int .i64))[x]?) ∧ ∀ x, j ≤ x → cu[x]? = cur[x]?
  len : (keepI p (l.take j)).length = i
  grow : w.grownBy wr (some g)

theorem SieveI.drop {w wr w' : World} {g cap : Nat} {cur : Array Value} {l : List Int} {p : Int → Bool} {i j : Nat} (h : SieveI w wr g cap cur l p i j) (hlt : j < l.length) (hp : p (l.getD j 0) = true) (hg : wr.grownBy w' none) : SieveI w w' g cap cur l p i (j + 1) := by
  obtain ⟨cu, h1, h2, h3, h4⟩ := h.row
  have e : keepI p (l.take (j + 1)) = keepI p (l.take j) := by rw [keepI_step p l j hlt, hp, if_pos rfl, List.append_nil]
  refine ⟨by omega, by have := h.hij; omega, ⟨cu, (hg.block g (lt_of_block h1) (by simp)).trans h1, h2, by rw [e]; exact h3, fun x hx => h4 x (by omega)⟩, by rw [e]; exact h.len, h.grow.andThen hg (by intro k hk; cases hk)⟩

theorem SieveI.keep {w wr w1 : World} {g cap : Nat} {cur : Array Value} {l : List Int} {p : Int → Bool} {i j : Nat} (h : SieveI w wr g cap cur l p i j) (hlt : j < l.length) (hcap : l.length ≤ cap) (hp : p (l.getD j 0) = false) (hg : wr.grownBy w1 none) :
    SieveI w (w1.setCell ⟨g, i, none⟩ (.int .i64 (l.getD j 0))) g cap cur l p (i + 1) (j + 1) := by
  obtain ⟨cu, h1, h2, h3, h4⟩ := h.row
  have hij := h.hij
  have e : keepI p (l.take (j + 1)) = keepI p (l.take j) ++ [l.getD j 0] := by rw [keepI_step p l j hlt, hp, if_neg (by simp)]
  have hh1 : w1.heap[g]? = some (.cells cu 3 (0, 0)) := (hg.block g (lt_of_block h1) (by simp)).trans h1
  have hs := heap_setCells g 3 [.int .i64 (l.getD j 0)] i w1 cu hh1
  have hl := h.len
  refine ⟨by omega, by omega, ⟨_, hs.1, by rw [laid_size]; exact h2, fun x hx => ?_, fun x hx => ?_⟩, ?_, ?_⟩
  · rw [laid_at _ _ _ _ (by rw [h2]; simp; omega), e, List.map_append]
    by_cases hx2 : x < i
    · rw [if_neg (by omega), h3 x hx2, List.getElem?_append_left (by rw [List.length_map, hl]; exact hx2)]
    · obtain rfl : x = i := by omega
      rw [if_pos (by simp), List.getElem?_append_right (by rw [List.length_map, hl]; exact Nat.le_refl _), List.length_map, hl]
      rfl
  · rw [laid_at _ _ _ _ (by rw [h2]; simp; omega), if_neg (by simp; omega), h4 x (by omega)]
  · rw [e, List.length_append, hl]
    rfl
  · exact (h.grow.andThen hg (by intro k hk; cases hk)).andThen hs.2 (fun k hk => .inr hk)

/-- The parts of a row that owns integers. -/
theorem ownI_parts {w : World} {B g cap : Nat} {l : List Int} (h : w.ownsRow B 3 1 (.slice (some ⟨g, 0, none⟩) l.length cap) l.length (l.map (Value.int .i64))) :
    ∃ cur, w.heap[g]? = some (.cells cur 3 (0, 0)) ∧ B ≤ g ∧ l.length ≤ cap ∧ cap ≤ maxLen ∧ cur.size = cap ∧ ∀ i, i < l.length → cur[i]? = (l.map (Value.int .i64))[i]? := by
  rcases h.2 with ⟨e, _⟩ | ⟨g', cap', cur, e, hb, hh, h1, h2, h3, h4⟩
  · simp at e
  · simp only [Value.slice.injEq, Option.some.injEq, Addr.mk.injEq, and_true, true_and] at e
    obtain ⟨rfl, rfl⟩ := e
    refine ⟨cur, hh, hb, h1, h2, by omega, fun i hi => ?_⟩
    rw [← h4, List.getElem?_take, if_pos (by omega), Array.getElem?_toList]

theorem ownI_of_parts {w : World} {B g cap n : Nat} {cur : Array Value} {l : List Int} (hn : l.length = n) (hh : w.heap[g]? = some (.cells cur 3 (0, 0))) (hb : B ≤ g) (h1 : l.length ≤ cap) (h2 : cap ≤ maxLen) (h3 : cur.size = cap) (h : ∀ i, i < l.length → cur[i]? = (l.map (Value.int .i64))[i]?) :
    w.ownsRow B 3 1 (.slice (some ⟨g, 0, none⟩) n cap) n (l.map (Value.int .i64)) := by
  subst hn
  refine ⟨by simp, .inr ⟨g, cap, cur, rfl, hb, hh, h1, h2, by omega, ?_⟩⟩
  rw [Nat.mul_one]
  exact toList_take_ext (by simp) h

def CutI (B g cap : Nat) (r : List Int) (w : World) (e : Ending) (w' : World) : Prop :=
  e = .returned (.slice (some ⟨g, 0, none⟩) r.length cap) ∧ w'.ownsRow B 3 1 (.slice (some ⟨g, 0, none⟩) r.length cap) r.length (r.map (Value.int .i64)) ∧ w.grownBy w' (some g)
end Go.Proofs.Ytpomjobgodfjmaa
