/-
  slices.Grow of nil, and slices.Concat of two rows, at []int.
-/
import Derived.Test.YthjifekpefjjaaaCloneI
import Derived.Lib.AppendZerosOnto
import Derived.Lib.AppendZeros
namespace Go.Proofs.Ythjifekpefjjaaa
open Go.RowKit Go.Shelf

def Roomy (w : World) (e : Ending) (w' : World) : Prop := ∃ v, e = .returned v ∧ w'.ownsRow w.heap.size 3 1 v 0 [] ∧ w.grownBy w' none

set_option maxHeartbeats 1000000 in
theorem grow_nil {w : World} (n : Nat) (hn : n ≤ 1000) : Calls Try.prog 44 #[.slice none 0 0, .int .i64 n] w (Roomy w) := by
  have h1 : ¬ (n : Int) < 0 := by omega
  rcases Nat.eq_zero_or_pos n with rfl | hpos
  · go_enter Try.func44, Try.ntmps44
    go_wp2
    go_ret
    exact ⟨_, rfl, World.ownsRow_nil _ _ _ _, World.grownBy.refl _ _⟩
  · obtain ⟨i0, hi, hz0, hz1, hz2⟩ := info_parts infoInt
    have hold : (Builtin.firstCells i0.size 0 (.slice none 0 0)).run Try.prog w.drew = .ok ([] : List Value).toArray w.drew := run_firstCells_none w.drew i0.size 0 0 0
    have hpi : (0 : Int) < (n : Int) := by omega
    have hrz := fun ty => Lib.run_append_grow_zeros (P := Try.prog) w 46 3 ty 3 i0 (.int .i64 0) .i64 .i64 Try.underlying46 Try.underlying3 hi hz0 none 0 0 [] hold n hpos (by omega) (by omega) (by omega) (by rw [hz2]; omega) (growslice_fits (by omega) (by rw [hz2]; omega))
    simp only [Nat.zero_add] at hrz
    obtain ⟨G, hG⟩ : ∃ G, grownCap w n 0 3 = G := ⟨_, rfl⟩
    have hGn : n ≤ G := by rw [← hG]; exact grownCap_ge w _ _ _
    have hG63 : G ≤ maxLen := by rw [← hG]; exact grownCap_le_maxLen w n 0 3 (by unfold maxLen; omega)
    rw [hG] at hrz
    obtain ⟨C, hC⟩ : ∃ C, (([] : List Value).toArray ++ Builtin.zeroCells (Value.int .i64 0).cells n ++ Builtin.zeroCells (Value.int .i64 0).cells (G - n)) = C := ⟨_, rfl⟩
    have hCs : C.size = G * 1 := by
      rw [← hC]
      simp [Builtin.zeroCells, Value.cells]
      omega
    rw [hC] at hrz
    have hown := World.ownsRow_made (base := w.heap.size) (e := 3) (size := 1) w.drew C G (Nat.le_refl _) hG63 hCs
    have hgr : w.grownBy (w.drew.alloc (.cells C 3)) none := (show w.grownBy w.drew none from ⟨rfl, rfl, rfl, Nat.le_refl _, fun _ _ _ => rfl⟩).andThen (World.grownBy_alloc _ _ none) (by intro j hj; cases hj)
    have HO := Lib.hid hown
    have HG := Lib.hid hgr
    have HR := Lib.hid hrz
    have hG63' : G ≤ 9223372036854775807 := by unfold maxLen at hG63; omega
    clear hrz hown hgr hG hC hold hG63 hi hz0 hz1 hz2
    go_enter Try.func44, Try.ntmps44
    go_wp2_with (at_builtin; refine Lib.wpList_append_run _ rfl _ _ _ _ rfl _ _ rfl rfl _ _ (HR.out _) ?_)
    go_ret
    exact ⟨_, rfl, HO.out, HG.out⟩

/-- append of whatever row of integers to a row of the call's own. -/
theorem run_appendI {w : World} {base : Nat} {v : Value} {n m c B : Nat} {A : Option Addr} {xs news : List Int} (hown : w.ownsRow base 3 1 v n (xs.map (Value.int .i64))) (h : Ints .i64 w B A m news) (hn : n + m ≤ 100000) (hbase : base ≤ w.heap.size) (ty : TypeId) :
    ∃ v' w', (Builtin.append_ #[46, 46] ty #[v, .slice A m c]).run Try.prog w = .ok v' w' ∧ w'.ownsRow base 3 1 v' (n + m) ((xs ++ news).map (Value.int .i64)) ∧ w.grownBy w' v.ownBlock := by
  obtain ⟨i0, hi, hz0, hz1, hz2⟩ := info_parts infoInt
  rcases A with _ | ad
  · have h0 : m = 0 := by
      rcases Nat.eq_zero_or_pos m with h0 | h0
      · exact h0
      · obtain ⟨_, _, e, _⟩ := h.row h0
        cases e
    subst h0
    have hx : news = [] := List.eq_nil_of_length_eq_zero h.len
    subst hx
    refine ⟨v, w, ?_, by simpa using hown, World.grownBy.refl _ _⟩
    rcases hown.2 with ⟨rfl, rfl⟩ | ⟨g, cap, cur, rfl, _, _, hnc, _⟩
    · simp [Builtin.append_, run_underlying Try.underlying46, sizeOf, typeInfo, hi, Builtin.lenOf, Builtin.firstCells]
    · simp [Builtin.append_, run_underlying Try.underlying46, sizeOf, typeInfo, hi, Builtin.lenOf, Builtin.firstCells, hnc, storeCells]
  · obtain ⟨v', w', hr, ho, hg, _⟩ := run_append_own (P := Try.prog) w base 46 ty 3 i0 (.int .i64 0) 1 8 Try.underlying46 hi hz0 hz1 hz2 rfl (by decide) v n _ hown ad m c (news.map (Value.int .i64)) (by rw [List.length_map, h.len, Nat.mul_one]) (news_of_intsI h) (by
      intro u hu
      obtain ⟨x, _, rfl⟩ := List.mem_map.1 hu
      rfl) (by unfold maxLen; omega) (by omega) hbase
    exact ⟨v', w', hr, by rw [List.map_append]; exact ho, hg⟩

/-- What stands joined behind i of the two rows. -/
def joinedUpTo (xs ys : List Int) : Nat → List Int
  | 0 => []
  | 1 => xs
  | _ => xs ++ ys

def Joined (w wr : World) (xs ys : List Int) (v : Value) (i : Nat) : Prop :=
  wr.ownsRow w.heap.size 3 1 v (joinedUpTo xs ys i).length ((joinedUpTo xs ys i).map (Value.int .i64)) ∧ w.grownBy wr none

set_option maxHeartbeats 1000000 in
theorem concat_two {w : World} (b : Nat) (A1 A2 : Option Addr) (n1 n2 c1 c2 : Nat) (xs ys : List Int) (hb : w.heap[b]? = some (.cells #[.slice A1 n1 c1, .slice A2 n2 c2] 46 (0, 0))) (h1 : Ints .i64 w w.heap.size A1 n1 xs) (h2 : Ints .i64 w w.heap.size A2 n2 ys) (l1 : n1 ≤ 400) (l2 : n2 ≤ 400) :
    Calls Try.prog 29 #[.slice (some ⟨b, 0, none⟩) 2 2] w (ToldInts (xs ++ ys) w) := by
  have hc0 : w.cell? ⟨b, 0, none⟩ = some (.slice A1 n1 c1) := by rw [cell_of_row w b 0 _ _ _ hb]; rfl
  have hc1 : w.cell? ⟨b, 1, none⟩ = some (.slice A2 n2 c2) := by rw [cell_of_row w b 1 _ _ _ hb]; rfl
  have H1 := Lib.hid h1
  have H2 := Lib.hid h2
  have HB := Lib.hid hb
  clear h1 h2 hb
  go_enter Try.func29, Try.ntmps29
  go_wp2
  go_loop [3, 11] (fun s j => (s = .int .i64 0 ∧ j = .int .i64 0) ∨ (s = .int .i64 (n1 : Int) ∧ j = .int .i64 1) ∨ (s = .int .i64 ((n1 + n2 : Nat) : Int) ∧ j = .int .i64 2)) (fun _ j => 2 - (intOf j).toNat)
  case atStart => exact .inl ⟨rfl, rfl⟩
  case round =>
    rcases hrel with ⟨rfl, rfl⟩ | ⟨rfl, rfl⟩ | ⟨rfl, rfl⟩
    · go_wp2
      go_round
      case rel => exact .inr (.inl ⟨rfl, rfl⟩)
      case measure => simp [intOf]
    · go_wp2
      go_round
      case rel => exact .inr (.inr ⟨by go_num, rfl⟩)
      case measure => simp [intOf]
    · go_wp2_with fail
      refine (grow_nil (n1 + n2) (by omega)).mono ?_
      rintro e w1 ⟨v1, rfl, hown1, hg1⟩
      have hf : ∀ wr, w.grownBy wr none → wr.cell? ⟨b, 0, none⟩ = some (.slice A1 n1 c1) ∧ wr.cell? ⟨b, 1, none⟩ = some (.slice A2 n2 c2) ∧ Ints .i64 wr wr.heap.size A1 n1 xs ∧ Ints .i64 wr wr.heap.size A2 n2 ys := fun wr hg => by
        have hb1 := (hg.block b (lt_of_block HB.out) (by simp)).trans HB.out
        exact ⟨by rw [cell_of_row wr b 0 _ _ _ hb1]; rfl, by rw [cell_of_row wr b 1 _ _ _ hb1]; rfl, H1.out.grow hg, H2.out.grow hg⟩
      have HF := Lib.hid hf
      have hst : Joined w w1 xs ys v1 0 := ⟨by simpa [joinedUpTo] using hown1, hg1⟩
      clear hf hown1 hg1 hc0 hc1
      go_wp2
      go_loopw [6, 27] (fun v j wr => ∃ i : Nat, i ≤ 2 ∧ j = .int .i64 i ∧ Joined w wr xs ys v i) (fun _ j _ => 2 - (intOf j).toNat)
      case atStart => exact ⟨0, by omega, rfl, hst⟩
      case round =>
        clear hst
        obtain ⟨i, hi, rfl, hJ⟩ := hrel
        obtain ⟨hown, hg⟩ := hJ
        obtain ⟨d0, d1, i1, i2⟩ := HF.out wr hg
        have hl1 := H1.out.len
        have hl2 := H2.out.len
        have h3 : i = 0 ∨ i = 1 ∨ i = 2 := by omega
        rcases h3 with rfl | rfl | rfl
        ·
          have key : ∀ v0, wr.ownsRow w.heap.size 3 1 v0 (joinedUpTo xs ys 0).length ((joinedUpTo xs ys 0).map (Value.int .i64)) → ∃ v' w', Hid ((Builtin.append_ #[46, 46] 46 #[v0, .slice A1 n1 c1]).run Try.prog wr = .ok v' w') ∧ Hid (Joined w w' xs ys v' 1) := by
            intro v0 hown0
            obtain ⟨v', w', hrun, ho, hg'⟩ := run_appendI (xs := []) hown0 i1 (by simp [joinedUpTo]; omega) hg.size 46
            exact ⟨v', w', hrun, by simpa [joinedUpTo, hl1] using ho, hg.andThen hg' (fun k hk => .inl (hown0.lt k hk).1)⟩
          replace key := key _ hown
          clear hown hg i1 i2 hl1 hl2
          obtain ⟨v', w', HR, HN⟩ := key
          go_wp2_with (at_builtin; refine Lib.wpList_append_run _ rfl _ _ _ _ rfl _ _ rfl rfl _ _ HR.out ?_)
          go_roundw
          case rel => exact ⟨1, by omega, rfl, HN.out⟩
          case measure => simp [intOf]
        ·
          have key : ∀ v0, wr.ownsRow w.heap.size 3 1 v0 (joinedUpTo xs ys 1).length ((joinedUpTo xs ys 1).map (Value.int .i64)) → ∃ v' w', Hid ((Builtin.append_ #[46, 46] 46 #[v0, .slice A2 n2 c2]).run Try.prog wr = .ok v' w') ∧ Hid (Joined w w' xs ys v' 2) := by
            intro v0 hown0
            obtain ⟨v', w', hrun, ho, hg'⟩ := run_appendI (xs := xs) hown0 i2 (by simp [joinedUpTo]; omega) hg.size 46
            exact ⟨v', w', hrun, by simpa [joinedUpTo, hl1, hl2] using ho, hg.andThen hg' (fun k hk => .inl (hown0.lt k hk).1)⟩
          replace key := key _ hown
          clear hown hg i1 i2 hl1 hl2
          obtain ⟨v', w', HR, HN⟩ := key
          go_wp2_with (at_builtin; refine Lib.wpList_append_run _ rfl _ _ _ _ rfl _ _ rfl rfl _ _ HR.out ?_)
          go_roundw
          case rel => exact ⟨2, by omega, rfl, HN.out⟩
          case measure => simp [intOf]
        ·
          have HO := Lib.hid hown
          have HG := Lib.hid hg
          clear hown hg i1 i2 hl1 hl2
          go_wp2
          go_ret
          exact ⟨_, rfl, HO.out, HG.out⟩
end Go.Proofs.Ythjifekpefjjaaa
