/-
  The walk of MemSums, and its arithmetic: sums modulo a power of two don't hang on the order.
-/
import Derived.Test.YthjifekpefjjaaaLawLast
namespace Go.Proofs.Ythjifekpefjjaaa
open Go.RowKit

/-- What a cell has behind all that is fetched and added. -/
def fadd (s : Int) : List Int → Int
  | [] => s
  | x :: l => fadd (IntKind.u64.wrap (s + x)) l

theorem wrapU_eq (a : Int) : IntKind.u64.wrap a = a % 18446744073709551616 := by
  unfold IntKind.wrap
  simp [IntKind.signed, IntKind.bits]

theorem fadd_sum (l : List Int) (s : Int) (h : l ≠ []) : fadd s l = IntKind.u64.wrap (s + l.sum) := by
  induction l generalizing s with
  | nil => exact absurd rfl h
  | cons x l ih =>
    by_cases hl : l = []
    · subst hl
      simp [fadd]
    · rw [fadd, ih _ hl, List.sum_cons, wrapU_eq, wrapU_eq, wrapU_eq]
      omega

theorem fadd_snoc (l : List Int) (s x : Int) : fadd s (l ++ [x]) = IntKind.u64.wrap (fadd s l + x) := by
  induction l generalizing s with
  | nil => rfl
  | cons y l ih => exact ih _

theorem fadd_reverse (l : List Int) (s : Int) : fadd s l.reverse = fadd s l := by
  by_cases hl : l = []
  · subst hl; rfl
  · rw [fadd_sum l s hl, fadd_sum l.reverse s (by simpa using hl), List.sum_reverse]

/-- The sum behind k of the numbers, from the front; and from the back, with k still to come. -/
def upTo (s : Int) (l : List Int) (k : Nat) : Int := fadd s (l.take k)
def downTo (s : Int) (l : List Int) (k : Nat) : Int := fadd s (l.drop k).reverse

theorem upTo_zero (s : Int) (l : List Int) : upTo s l 0 = s := rfl
theorem downTo_end (s : Int) (l : List Int) (k : Nat) (h : l.length ≤ k) : downTo s l k = s := by
  unfold downTo
  rw [List.drop_eq_nil_of_le h]
  rfl
theorem upTo_step (s : Int) (l : List Int) (k : Nat) (h : k < l.length) : upTo s l (k + 1) = IntKind.u64.wrap (upTo s l k + l.getD k 0) := by
  unfold upTo
  rw [List.take_succ_eq_append_getElem h, fadd_snoc, List.getD_eq_getElem?_getD, List.getElem?_eq_getElem h]
  rfl
theorem downTo_step (s : Int) (l : List Int) (k : Nat) (h : k < l.length) : downTo s l k = IntKind.u64.wrap (downTo s l (k + 1) + l.getD k 0) := by
  unfold downTo
  rw [List.drop_eq_getElem_cons h, List.reverse_cons, fadd_snoc, List.getD_eq_getElem?_getD, List.getElem?_eq_getElem h]
  rfl
theorem up_down (s : Int) (l : List Int) : downTo s l 0 = upTo s l l.length := by
  unfold upTo downTo
  rw [List.drop_zero, List.take_length, fadd_reverse]

theorem set_set_same (xs : List Int) (k : Nat) (x y : Int) : (xs.set k x).set k y = xs.set k y := by simp
theorem set_getD_same (xs : List Int) (k : Nat) (h : k < xs.length) : xs.set k (xs.getD k 0) = xs := by
  rw [List.getD_eq_getElem?_getD, List.getElem?_eq_getElem h]
  simp

/-- What holds at every head of the first loop. -/
structure LoopOne (W wr : World) (B1 m1 B2 m2 : Nat) (v1 v2 : Value) (xs ys : List Int) (at_ : Nat) (s : Int) (k : Nat) : Prop where
  one : Mem wr B1 m1 v1 (xs.set at_ (upTo s ys k))
  two : Mem wr B2 m2 v2 xs
  bel : Below W.heap.size W wr
/-- What holds at every head of the second loop: k of the numbers are still to come. -/
structure LoopTwo (W wr : World) (B1 m1 B2 m2 : Nat) (v1 v2 : Value) (xs ys : List Int) (at_ : Nat) (s : Int) (k : Nat) : Prop where
  one : Mem wr B1 m1 v1 (xs.set at_ (upTo s ys ys.length))
  two : Mem wr B2 m2 v2 (xs.set at_ (downTo s ys k))
  bel : Below W.heap.size W wr

set_option maxHeartbeats 400000 in
theorem memSums_long {w : World} (A C : Option Addr) (n c p d : Nat) (a1 : Int) (hp : 30 < p) :
    Calls Try.prog 5 #[.slice A n c, .int .i64 a1, .slice C p d] w fun e w' => e = .returned (.bool true) ∧ Below w.heap.size w w' := by
  have h1 : (30 : Int) < (p : Int) := by omega
  go_enter Try.func5, Try.ntmps5
  go_wp2_with fail
  refine (kept_true _).mono ?_
  rintro e w1 ⟨rfl, hb⟩
  go_wp2
  go_ret
  exact ⟨rfl, hb⟩

set_option maxHeartbeats 400000 in
theorem memSums_no {w : World} (A C : Option Addr) (n c p d : Nat) (a1 : Int) (hp : p ≤ 30) (hn : n = 0 ∨ 200 < n) :
    Calls Try.prog 5 #[.slice A n c, .int .i64 a1, .slice C p d] w fun e w' => e = .returned (.bool true) ∧ Below w.heap.size w w' := by
  have hp1 : ¬ (30 : Int) < (p : Int) := by omega
  have h1 : n = 0 ∨ ((n : Int) == 0) = false ∧ (200 : Int) < (n : Int) := by
    rcases hn with rfl | hn
    · exact .inl rfl
    · exact .inr ⟨by simp; omega, by omega⟩
  clear hn
  rcases h1 with rfl | ⟨h0, h1⟩
  all_goals
    go_enter Try.func5, Try.ntmps5
    go_wp2_with fail
    refine (kept_true _).mono ?_
    rintro e w1 ⟨rfl, hb⟩
    go_wp2_with fail
    refine (memory_no A _ c (by first | exact .inl rfl | (right; omega))).mono ?_
    rintro e w3 ⟨rfl, rfl⟩
    go_wp2_with fail
    refine (memory_no A _ c (by first | exact .inl rfl | (right; omega))).mono ?_
    rintro e w3 ⟨rfl, rfl⟩
    go_wp2
    go_ret
    exact ⟨rfl, hb⟩

set_option maxHeartbeats 1000000 in
theorem memSums_yes {w : World} (A C : Option Addr) (n c p d : Nat) (xs ys : List Int) (a1 : Int) (hI : Ints .u64 w w.heap.size A n xs) (hJ : Ints .u64 w w.heap.size C p ys) (hp : p ≤ 30) (hn0 : 0 < n) (hn1 : n ≤ 200) :
    Calls Try.prog 5 #[.slice A n c, .int .i64 a1, .slice C p d] w fun e w' => e = .returned (.bool true) ∧ Below w.heap.size w w' := by
  obtain ⟨b, off, rfl, hb, hx⟩ := hI.row hn0
  have hp1 : ¬ (30 : Int) < (p : Int) := by omega
  go_enter Try.func5, Try.ntmps5
  go_wp2_with fail
  refine (kept_true _).mono ?_
  rintro e w1 ⟨rfl, hb1⟩
  have hI1 := hI.below hb1
  go_wp2_with fail
  refine (memory_yes _ n c xs hI1 hn0 hn1).mono ?_
  rintro e w2 ⟨m, v, rfl, hM, hg2⟩
  have hb2 := hb1.grown hg2 hb1.size (by intro k hk; cases hk)
  have hI2 := hI.below hb2
  go_wp2_with fail
  refine (memory_yes _ n c xs hI2 hn0 hn1).mono ?_
  rintro e w3 ⟨m', v', rfl, hM', hg3⟩
  have hb3 := hb2.grown hg3 hb2.size (by intro k hk; cases hk)
  have hM3 := hM.grown hg3 (by simp) (.inl rfl)
  have hv : ∀ k, v.ownBlock = some k → w1.heap.size ≤ k ∧ k < w2.heap.size := hM.own.lt
  have hv' : ∀ k, v'.ownBlock = some k → w2.heap.size ≤ k ∧ k < w3.heap.size := hM'.own.lt
  have hm1 := lt_of_block hM.at_
  have hm2 := hM'.lo
  have hl : xs.length = n := hI.len
  have hly : ys.length = p := hJ.len
  have HL := Lib.hid hl
  have HY := Lib.hid hly
  clear hl hly
  go_wp2_with fail
  refine (pick_any a1 n _ hn0 (by omega)).mono ?_
  rintro e w4 ⟨k, hk, rfl, rfl⟩
  have hcell : w3.cell? ⟨b, off + k, none⟩ = some (.int .u64 (xs.getD k 0)) := (hb3.cell (p := ⟨b, off + k, none⟩) hb).trans (hx k hk)
  have hkn : (k : Int) < (n : Int) := by omega
  obtain ⟨z, hz⟩ : ∃ z, xs.getD k 0 = z := ⟨_, rfl⟩
  have hs0 : LoopOne w w3 w1.heap.size m w2.heap.size m' v v' xs ys k z 0 :=
    ⟨by rw [upTo_zero, ← hz, set_getD_same _ _ (by rw [HL.out]; exact hk)]; exact hM3, hM', hb3⟩
  rw [hz] at hcell
  have HZ := Lib.hid hz
  clear hz
  have hne : v.ownBlock ≠ some m' := fun e => by have := hv _ e; omega
  have hne' : v'.ownBlock ≠ some m := fun e => by have := hv' _ e; omega
  have hnn : v.ownBlock ≠ v'.ownBlock := by
    intro e
    obtain ⟨A', c', rfl⟩ := slice_of_own hM.own
    obtain ⟨g, cap, hvv, _, _⟩ := hM.own.form (by rw [HL.out]; exact hn0)
    rw [hvv] at e hv
    have h1 := hv g rfl
    have h2 := hv' g (by rw [← e]; rfl)
    omega
  have hlo1 := hb1.size
  have hlo2 := hb2.size
  have HH := Lib.hid (And.intro hv (And.intro hv' (And.intro hne (And.intro hne' hnn))))
  clear hI hI1 hI2 hM hM' hM3 hg2 hg3 hx hb1 hb2 hb3 hv hv' hne hne' hnn
  go_wp2
  clear hcell
  go_loopw [9, 50] (fun s j wr => ∃ i : Nat, i ≤ p ∧ j = .int .i64 i ∧ s = .int .u64 (upTo z ys i) ∧ LoopOne w wr w1.heap.size m w2.heap.size m' v v' xs ys k z i) (fun _ j _ => p - (intOf j).toNat)
  case atStart => exact ⟨0, Nat.zero_le _, rfl, by rw [upTo_zero], hs0⟩
  case round =>
    obtain ⟨i, hi, rfl, rfl, hR⟩ := hrel
    by_cases hlt : i < p
    · obtain ⟨b', off', rfl, hb', hy⟩ := hJ.row (by omega)
      have hyc : wr.cell? ⟨b', off' + i, none⟩ = some (.int .u64 (ys.getD i 0)) := (hR.bel.cell (p := ⟨b', off' + i, none⟩) hb').trans (hy i hlt)
      have hip : (i : Int) < (p : Int) := by omega
      have hst := upTo_step z ys i (by rw [HY.out]; exact hlt)
      have hf := fetch_in hR.one (k := k) (by rw [List.length_set, HL.out]; exact hk) (ys.getD i 0)
      rw [getD_set_same _ _ _ (by rw [HL.out]; exact hk), set_set_same, ← hst] at hf
      obtain ⟨u, hu⟩ : ∃ u, ys.getD i 0 = u := ⟨_, rfl⟩
      rw [hu] at hyc hst hf
      have HS := Lib.hid hst
      have HF := Lib.hid hf
      have HR := Lib.hid hR
      clear hy hst hf hR hs0 hJ hu
      have hxx : (upTo z ys i != upTo z ys i) = false := by simp
      generalize upTo z ys i = t at *
      go_wp2_with fail
      refine HF.out.mono ?_
      rintro e w5 ⟨rfl, hM5, hg5⟩
      have hR5 : LoopOne w w5 w1.heap.size m w2.heap.size m' v v' xs ys k z (i + 1) :=
        ⟨hM5, HR.out.two.grown hg5 (fun e => HH.out.2.2.1 e.symm) (.inr fun e => HH.out.2.2.2.2 e.symm), HR.out.bel.grown hg5 HR.out.bel.size (fun j hj => by have := HH.out.1 j hj; omega)⟩
      have HR5 := Lib.hid hR5
      clear hM5 hg5 HF hR5
      go_wp2
      go_roundw
      case rel => exact ⟨i + 1, by omega, by go_num, by rw [HS.out], HR5.out⟩
      case measure => simp [intOf]; omega
    · have hip : ¬ (i : Int) < (p : Int) := by omega
      obtain rfl : i = p := by omega
      have hR2 : LoopTwo w wr w1.heap.size m w2.heap.size m' v v' xs ys k z i :=
        ⟨by rw [HY.out]; exact hR.one, by rw [downTo_end _ _ _ (by rw [HY.out]; exact Nat.le_refl _), ← HZ.out, set_getD_same _ _ (by rw [HL.out]; exact hk)]; exact hR.two, hR.bel⟩
      have HR2 := Lib.hid hR2
      clear hR hs0 hR2
      go_wp2
      go_loopw [14] (fun s wr => ∃ j : Nat, j ≤ i ∧ s = .int .i64 ((j : Int) - 1) ∧ LoopTwo w wr w1.heap.size m w2.heap.size m' v v' xs ys k z j) (fun s _ => (intOf s + 1).toNat)
      case atStart => exact ⟨i, Nat.le_refl _, rfl, HR2.out⟩
      case round =>
        obtain ⟨j, hj, hs, hR⟩ := hrel
        rcases j with _ | j
        · obtain rfl : _ = Value.int .i64 (-1) := hs.trans (by rfl)
          have hone := hR.one
          have hw1 := words_any hone (by rw [List.length_set, HL.out]; omega)
          have hsame : xs.set k (upTo z ys ys.length) = xs.set k (downTo z ys 0) := by rw [up_down]
          rw [HY.out] at hone hw1 hsame
          rw [List.length_set, HL.out] at hw1
          have htwo := hR.two
          rw [← hsame] at htwo
          have hbel := hR.bel
          obtain ⟨t, ht⟩ : ∃ t, upTo z ys i = t := ⟨_, rfl⟩
          rw [ht] at hone hw1 htwo
          have HW1 := Lib.hid hw1
          have HT := Lib.hid ht
          clear hw1 hs hR hsame HR2 ht
          rw [HT.out]
          go_wp2_with fail
          refine HW1.out.mono ?_
          rintro e w5 ⟨v5, rfl, hown5, hg5⟩
          obtain ⟨A5, c5, rfl⟩ := slice_of_own hown5
          have hone5 := hone.grown hg5 (by simp) (.inl rfl)
          have htwo5 := htwo.grown hg5 (by simp) (.inl rfl)
          have hbel5 := hbel.grown hg5 hbel.size (by intro k hk; cases hk)
          have hI5 : Ints .u64 w5 w5.heap.size A5 n (xs.set k t) := Ints.of_own hown5
          have hw2 := words_any htwo5 (by rw [List.length_set, HL.out]; omega)
          rw [List.length_set, HL.out] at hw2
          have HW2 := Lib.hid hw2
          clear hw2 HW1 hown5 hg5 hone htwo hbel
          go_wp2_with fail
          refine HW2.out.mono ?_
          rintro e w6 ⟨v6, rfl, hown6, hg6⟩
          obtain ⟨A6, c6, rfl⟩ := slice_of_own hown6
          have hone6 := hone5.grown hg6 (by simp) (.inl rfl)
          have hbel6 := hbel5.grown hg6 hbel5.size (by intro k hk; cases hk)
          have hI6 : Ints .u64 w6 w6.heap.size A6 n (xs.set k t) := Ints.of_own hown6
          have hI56 : Ints .u64 w6 w6.heap.size A5 n (xs.set k t) := hI5.keep hg6.size fun p hp => World.cell?_of_block (hg6.block p.block hp (by simp))
          clear HW2 hown6 hg6 hone5 htwo5 hbel5 hI5
          go_wp2_with fail
          refine (equalU_same _ _ n _ _ _ _ (by omega) _ hI56 hI6).mono ?_
          rintro e w7 ⟨rfl, q, rfl⟩
          have hone7 := hone6.drewN q
          have hbel7 := below_drewN hbel6 q
          have hw3 := words_any hone7 (by rw [List.length_set, HL.out]; omega)
          rw [List.length_set, HL.out] at hw3
          have HW3 := Lib.hid hw3
          clear hw3 hone6 hbel6 hI6 hI56
          go_wp2_with fail
          refine HW3.out.mono ?_
          rintro e w8 ⟨v8, rfl, hown8, hg8⟩
          obtain ⟨g8, c8, rfl, _, _⟩ := hown8.form hn0
          have hc8 := hown8.cellAt k (by omega)
          rw [List.getElem?_map, List.getElem?_set_self (by rw [HL.out]; exact hk)] at hc8
          have hc8' : w8.cell? ⟨g8, k, none⟩ = some (.int .u64 t) := hc8
          have hbel8 := hbel7.grown hg8 hbel7.size (by intro k hk; cases hk)
          clear hc8 hown8 hg8 hbel7 hone7 HW3
          go_wp2
          go_ret
          exact ⟨rfl, hbel8⟩
        · obtain rfl : _ = Value.int .i64 (j : Int) := hs.trans (by congr 1; omega)
          obtain ⟨b', off', rfl, hb', hy⟩ := hJ.row (by omega)
          have hyc : wr.cell? ⟨b', off' + j, none⟩ = some (.int .u64 (ys.getD j 0)) := (hR.bel.cell (p := ⟨b', off' + j, none⟩) hb').trans (hy j (by omega))
          have hji : (j : Int) < (i : Int) := by omega
          have hst := downTo_step z ys j (by rw [HY.out]; omega)
          have hf := fetch_in hR.two (k := k) (by rw [List.length_set, HL.out]; exact hk) (ys.getD j 0)
          rw [getD_set_same _ _ _ (by rw [HL.out]; exact hk), set_set_same, ← hst] at hf
          obtain ⟨u, hu⟩ : ∃ u, ys.getD j 0 = u := ⟨_, rfl⟩
          rw [hu] at hyc hf
          have HF := Lib.hid hf
          have HR := Lib.hid hR
          clear hy hst hf hR hJ hu HR2 hs
          go_wp2_with fail
          refine HF.out.mono ?_
          rintro e w5 ⟨rfl, hM5, hg5⟩
          have hR5 : LoopTwo w w5 w1.heap.size m w2.heap.size m' v v' xs ys k z j :=
            ⟨HR.out.one.grown hg5 (fun e => HH.out.2.2.2.1 e.symm) (.inr fun e => HH.out.2.2.2.2 e), hM5, HR.out.bel.grown hg5 HR.out.bel.size (fun j hj => by have := HH.out.2.1 j hj; omega)⟩
          have HR5 := Lib.hid hR5
          clear hM5 hg5 HF hR5
          go_wp2
          go_roundw
          case rel => exact ⟨j, by omega, rfl, HR5.out⟩
          case measure => simp [intOf]
end Go.Proofs.Ythjifekpefjjaaa
