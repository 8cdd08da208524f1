/-
  slices.Grow of nil and slices.Concat of two programs; the walk of CodeJoins.
-/
import Derived.Test.YtmfkjaokopkgmaaDoorCBack
import Derived.Lib.AppendZerosOnto
import Derived.Lib.AppendZeros
namespace Go.Proofs.YtmfkjaokopkgmaaDoor
set_option maxRecDepth 100000
open Go.RowKit Go.Sort

def RoomyN (w : World) (e : Ending) (w' : World) : Prop := ∃ v, e = .returned v ∧ w'.ownsRow w.heap.size 33 5 v 0 [] ∧ w.grownBy w' none

set_option maxHeartbeats 1000000 in
theorem growN_nil {w : World} (n : Nat) (hn : n ≤ 1000) : Calls Tryd.prog 25 #[.slice none 0 0, .int .i64 n] w (RoomyN w) := by
  have h1 : ¬ (n : Int) < 0 := by omega
  rcases Nat.eq_zero_or_pos n with rfl | hpos
  · go_enter Tryd.func25, Tryd.ntmps25
    go_wp2
    go_ret
    exact ⟨_, rfl, World.ownsRow_nil _ _ _ _, World.grownBy.refl _ _⟩
  · obtain ⟨i0, hi, hz0, hz1, hz2⟩ := info_parts infoIns
    have hold : (Builtin.firstCells i0.size 0 (.slice none 0 0)).run Tryd.prog w.drew = .ok ([] : List Value).toArray w.drew := run_firstCells_none w.drew i0.size 0 0 0
    have hpi : (0 : Int) < (n : Int) := by omega
    have hrz := fun ty => Lib.run_append_grow_zeros (P := Tryd.prog) w 22 3 ty 33 i0 (.agg #[.int .i64 0, .int .i64 0, .int .i64 0, .int .i64 0, .int .i64 0]) .i64 .i64 Tryd.underlying22 Tryd.underlying3 hi hz0 none 0 0 [] hold n hpos (by omega) (by omega) (by omega) (by rw [hz2]; omega) (growslice_fits (by omega) (by rw [hz2]; omega))
    simp only [Nat.zero_add] at hrz
    obtain ⟨G, hG⟩ : ∃ G, grownCap w n 0 33 = G := ⟨_, rfl⟩
    have hGn : n ≤ G := by rw [← hG]; exact grownCap_ge w _ _ _
    have hG63 : G ≤ maxLen := by rw [← hG]; exact grownCap_le_maxLen w n 0 33 (by unfold maxLen; omega)
    rw [hG] at hrz
    obtain ⟨C, hC⟩ : ∃ C, (([] : List Value).toArray ++ Builtin.zeroCells (Value.agg #[.int .i64 0, .int .i64 0, .int .i64 0, .int .i64 0, .int .i64 0]).cells n ++ Builtin.zeroCells (Value.agg #[.int .i64 0, .int .i64 0, .int .i64 0, .int .i64 0, .int .i64 0]).cells (G - n)) = C := ⟨_, rfl⟩
    have hCs : C.size = G * 5 := by
      rw [← hC]
      simp [Builtin.zeroCells, Value.cells]
      omega
    rw [hC] at hrz
    have hown := World.ownsRow_made (base := w.heap.size) (e := 33) (size := 5) w.drew C G (Nat.le_refl _) hG63 hCs
    have hgr : w.grownBy (w.drew.alloc (.cells C 33)) none := (show w.grownBy w.drew none from ⟨rfl, rfl, rfl, Nat.le_refl _, fun _ _ _ => rfl⟩).andThen (World.grownBy_alloc _ _ none) (by intro j hj; cases hj)
    have HO := Lib.hid hown
    have HG := Lib.hid hgr
    have HR := Lib.hid hrz
    have hG63' : G ≤ 9223372036854775807 := by unfold maxLen at hG63; omega
    clear hrz hown hgr hG hC hold hG63 hi hz0 hz1 hz2
    go_enter Tryd.func25, Tryd.ntmps25
    go_wp2_with (at_builtin; refine Lib.wpList_append_run _ rfl _ _ _ _ rfl _ _ rfl rfl _ _ (HR.out _) ?_)
    go_ret
    exact ⟨_, rfl, HO.out, HG.out⟩

/-- append of whatever row of instructions to a row of the call's own. -/
theorem run_appendN {w : World} {base : Nat} {v : Value} {n m c B : Nat} {A : Option Addr} {xs news : List In5} (hown : w.ownsRow base 33 5 v n (cells5 xs)) (h : Inss w B A m news) (hn : n + m ≤ 100000) (hbase : base ≤ w.heap.size) (ty : TypeId) :
    ∃ v' w', (Builtin.append_ #[22, 22] ty #[v, .slice A m c]).run Tryd.prog w = .ok v' w' ∧ w'.ownsRow base 33 5 v' (n + m) (cells5 (xs ++ news)) ∧ w.grownBy w' v.ownBlock := by
  obtain ⟨i0, hi, hz0, hz1, hz2⟩ := info_parts infoIns
  rcases A with _ | ad
  · have h0 : m = 0 := by
      rcases Nat.eq_zero_or_pos m with h0 | h0
      · exact h0
      · obtain ⟨_, _, e, _⟩ := h.row h0
        cases e
    subst h0
    have hx : news = [] := List.eq_nil_of_length_eq_zero h.len
    subst hx
    refine ⟨v, w, ?_, by simpa using hown, World.grownBy.refl _ _⟩
    rcases hown.2 with ⟨rfl, rfl⟩ | ⟨g, cap, cur, rfl, _, _, hnc, _⟩
    · simp [Builtin.append_, run_underlying Tryd.underlying22, sizeOf, typeInfo, hi, Builtin.lenOf, Builtin.firstCells]
    · simp [Builtin.append_, run_underlying Tryd.underlying22, sizeOf, typeInfo, hi, Builtin.lenOf, Builtin.firstCells, hnc, storeCells]
  · obtain ⟨v', w', hr, ho, hg, _⟩ := run_append_own (P := Tryd.prog) w base 22 ty 33 i0 (.agg #[.int .i64 0, .int .i64 0, .int .i64 0, .int .i64 0, .int .i64 0]) 5 40 Tryd.underlying22 hi hz0 hz1 hz2 rfl (by decide) v n _ hown ad m c (cells5 news) (by rw [cells5_len, h.len]) (news_of_inss h) oneCell5 (by unfold maxLen; omega) (by omega) hbase
    exact ⟨v', w', hr, by rw [cells5_append]; exact ho, hg⟩

/-- What stands joined behind i of the two. -/
def joinedN (xs ys : List In5) : Nat → List In5
  | 0 => []
  | 1 => xs
  | _ => xs ++ ys

def JoinedN (w wr : World) (xs ys : List In5) (v : Value) (i : Nat) : Prop :=
  wr.ownsRow w.heap.size 33 5 v (joinedN xs ys i).length (cells5 (joinedN xs ys i)) ∧ w.grownBy wr none

def ToldInss (xs : List In5) (w : World) (e : Ending) (w' : World) : Prop :=
  ∃ A c, e = .returned (.slice A xs.length c) ∧ w'.ownsRow w.heap.size 33 5 (.slice A xs.length c) xs.length (cells5 xs) ∧ w.grownBy w' none

theorem Inss.grow {w w' : World} {A : Option Addr} {n : Nat} {xs : List In5} (h : Inss w w.heap.size A n xs) (hg : w.grownBy w' none) : Inss w' w'.heap.size A n xs :=
  h.old ⟨hg.os, hg.tape, hg.output, hg.size, fun k hk => hg.block k hk (by simp)⟩

set_option maxHeartbeats 2000000 in
theorem concatN_two {w : World} (b : Nat) (A1 A2 : Option Addr) (n1 n2 c1 c2 : Nat) (xs ys : List In5) (hb : w.heap[b]? = some (.cells #[.slice A1 n1 c1, .slice A2 n2 c2] 22 (0, 0))) (h1 : Inss w w.heap.size A1 n1 xs) (h2 : Inss w w.heap.size A2 n2 ys) (l1 : n1 ≤ 1000) (l2 : n1 + n2 ≤ 1000) :
    Calls Tryd.prog 13 #[.slice (some ⟨b, 0, none⟩) 2 2] w (ToldInss (xs ++ ys) w) := by
  have hc0 : w.cell? ⟨b, 0, none⟩ = some (.slice A1 n1 c1) := by rw [cell_of_row w b 0 _ _ _ hb]; rfl
  have hc1 : w.cell? ⟨b, 1, none⟩ = some (.slice A2 n2 c2) := by rw [cell_of_row w b 1 _ _ _ hb]; rfl
  have H1 := Lib.hid h1
  have H2 := Lib.hid h2
  have HB := Lib.hid hb
  clear h1 h2 hb
  go_enter Tryd.func13, Tryd.ntmps13
  go_wp2
  go_loop [3, 11] (fun s j => (s = .int .i64 0 ∧ j = .int .i64 0) ∨ (s = .int .i64 (n1 : Int) ∧ j = .int .i64 1) ∨ (s = .int .i64 ((n1 + n2 : Nat) : Int) ∧ j = .int .i64 2)) (fun _ j => 2 - (intOf j).toNat)
  case atStart => exact .inl ⟨rfl, rfl⟩
  case round =>
    rcases hrel with ⟨rfl, rfl⟩ | ⟨rfl, rfl⟩ | ⟨rfl, rfl⟩
    · go_wp2
      go_round
      case rel => exact .inr (.inl ⟨rfl, rfl⟩)
      case measure => simp [intOf]
    · go_wp2
      go_round
      case rel => exact .inr (.inr ⟨by go_num, rfl⟩)
      case measure => simp [intOf]
    · go_wp2_with fail
      refine (growN_nil (n1 + n2) (by omega)).mono ?_
      rintro e w1 ⟨v1, rfl, hown1, hg1⟩
      have hf : ∀ wr, w.grownBy wr none → wr.cell? ⟨b, 0, none⟩ = some (.slice A1 n1 c1) ∧ wr.cell? ⟨b, 1, none⟩ = some (.slice A2 n2 c2) ∧ Inss wr wr.heap.size A1 n1 xs ∧ Inss wr wr.heap.size A2 n2 ys := fun wr hg => by
        have hb1 := (hg.block b (lt_of_block HB.out) (by simp)).trans HB.out
        exact ⟨by rw [cell_of_row wr b 0 _ _ _ hb1]; rfl, by rw [cell_of_row wr b 1 _ _ _ hb1]; rfl, H1.out.grow hg, H2.out.grow hg⟩
      have HF := Lib.hid hf
      have hst : JoinedN w w1 xs ys v1 0 := ⟨by simpa [joinedN, cells5] using hown1, hg1⟩
      clear hf hown1 hg1 hc0 hc1
      go_wp2
      go_loopw [6, 27] (fun v j wr => ∃ i : Nat, i ≤ 2 ∧ j = .int .i64 i ∧ JoinedN w wr xs ys v i) (fun _ j _ => 2 - (intOf j).toNat)
      case atStart => exact ⟨0, by omega, rfl, hst⟩
      case round =>
        clear hst
        obtain ⟨i, hi, rfl, hJ⟩ := hrel
        obtain ⟨hown, hg⟩ := hJ
        obtain ⟨d0, d1, i1, i2⟩ := HF.out wr hg
        have hl1 := H1.out.len
        have hl2 := H2.out.len
        have h3 : i = 0 ∨ i = 1 ∨ i = 2 := by omega
        rcases h3 with rfl | rfl | rfl
        · have key : ∀ v0, wr.ownsRow w.heap.size 33 5 v0 (joinedN xs ys 0).length (cells5 (joinedN xs ys 0)) → ∃ v' w', Hid ((Builtin.append_ #[22, 22] 22 #[v0, .slice A1 n1 c1]).run Tryd.prog wr = .ok v' w') ∧ Hid (JoinedN w w' xs ys v' 1) := by
            intro v0 hown0
            obtain ⟨v', w', hrun, ho, hg'⟩ := run_appendN (xs := []) (c := c1) hown0 i1 (by simp [joinedN]; omega) hg.size 22
            exact ⟨v', w', hrun, by simpa [joinedN, hl1] using ho, hg.andThen hg' (fun k hk => .inl (hown0.lt k hk).1)⟩
          replace key := key _ hown
          clear hown hg i1 i2 hl1 hl2
          obtain ⟨v', w', HR, HN⟩ := key
          go_wp2_with (at_builtin; refine Lib.wpList_append_run _ rfl _ _ _ _ rfl _ _ rfl rfl _ _ HR.out ?_)
          go_roundw
          case rel => exact ⟨1, by omega, rfl, HN.out⟩
          case measure => simp [intOf]
        · have key : ∀ v0, wr.ownsRow w.heap.size 33 5 v0 (joinedN xs ys 1).length (cells5 (joinedN xs ys 1)) → ∃ v' w', Hid ((Builtin.append_ #[22, 22] 22 #[v0, .slice A2 n2 c2]).run Tryd.prog wr = .ok v' w') ∧ Hid (JoinedN w w' xs ys v' 2) := by
            intro v0 hown0
            obtain ⟨v', w', hrun, ho, hg'⟩ := run_appendN (xs := xs) (c := c2) hown0 i2 (by simp [joinedN]; omega) hg.size 22
            exact ⟨v', w', hrun, by simpa [joinedN, hl1, hl2] using ho, hg.andThen hg' (fun k hk => .inl (hown0.lt k hk).1)⟩
          replace key := key _ hown
          clear hown hg i1 i2 hl1 hl2
          obtain ⟨v', w', HR, HN⟩ := key
          go_wp2_with (at_builtin; refine Lib.wpList_append_run _ rfl _ _ _ _ rfl _ _ rfl rfl _ _ HR.out ?_)
          go_roundw
          case rel => exact ⟨2, by omega, rfl, HN.out⟩
          case measure => simp [intOf]
        · obtain ⟨A, c, rfl⟩ := own_form hown
          have HO := Lib.hid hown
          have HG := Lib.hid hg
          clear hown hg i1 i2 hl1 hl2
          go_wp2
          go_ret
          exact ⟨_, _, rfl, HO.out, HG.out⟩

/-- An instruction without what isn't named. -/
def zeroed : List Nat → List Int → List Int
  | k :: ks, v :: vs => (if k = 0 then 0 else v) :: zeroed ks vs
  | _, _ => []
def normX (x : In5) : In5 := toX x.1.toNat (zeroed (kindsOf x.1.toNat) (nums x))

theorem zeroed_len : ∀ (ks : List Nat) (vs : List Int), ks.length = vs.length → (zeroed ks vs).length = ks.length
  | [], _, _ => rfl
  | _ :: _, [], h => by cases h
  | _ :: ks, _ :: vs, h => by simp [zeroed, zeroed_len ks vs (by simpa using h)]
theorem zeroed_zeros : ∀ (ks : List Nat) (vs : List Int), zeros ks (zeroed ks vs)
  | [], _ => trivial
  | _ :: _, [] => trivial
  | _ :: ks, _ :: vs => ⟨fun h => if_pos h, zeroed_zeros ks vs⟩
theorem zeroed_pieces : ∀ (ks : List Nat) (vs : List Int), pieces ks (zeroed ks vs) = pieces ks vs
  | [], _ => rfl
  | _ :: _, [] => rfl
  | k :: ks, v :: vs => by
    rw [zeroed, pieces, pieces, zeroed_pieces ks vs]
    unfold piece
    by_cases h : k = 0
    · simp [h]
    · simp [h]
theorem zeroed_int : ∀ (ks : List Nat) (vs : List Int), (∀ n ∈ vs, isInt n) → ∀ n ∈ zeroed ks vs, isInt n
  | [], _, _, n, h => by cases h
  | _ :: _, [], _, n, h => by cases h
  | k :: ks, v :: vs, h, n, hn => by
    rcases List.mem_cons.1 hn with rfl | hn
    · split
      · exact ⟨by decide, by decide⟩
      · exact h v (by simp)
    · exact zeroed_int ks vs (fun z hz => h z (by simp [hz])) n hn

theorem normX_spec {x : In5} (h : hasOp x) (hi : ints5 x) : okX (normX x) ∧ lineL (normX x) = lineL x := by
  have hop : x.1.toNat < 17 := by have := h.1; have := h.2; omega
  have hk := kinds_len _ hop
  have hnl : (nums x).length = 4 := rfl
  have hzl := zeroed_len (kindsOf x.1.toNat) (nums x) (by rw [hk, hnl])
  have hn : nums (normX x) = zeroed (kindsOf x.1.toNat) (nums x) := list4 (by rw [hzl, hk])
  have ht : (normX x).1.toNat = x.1.toNat := Int.toNat_natCast _
  have h1 : (normX x).1 = (x.1.toNat : Int) := rfl
  have hi4 : ∀ n ∈ nums x, isInt n := by
    intro z hz
    obtain ⟨_, g1, g2, g3, g4⟩ := hi
    unfold nums at hz
    simp only [List.mem_cons, List.not_mem_nil, or_false] at hz
    rcases hz with rfl | rfl | rfl | rfl
    · exact g1
    · exact g2
    · exact g3
    · exact g4
  refine ⟨⟨by rw [h1]; omega, by rw [h1]; omega, by rw [hn]; exact zeroed_int _ _ hi4, by rw [hn, ht]; exact zeroed_zeros _ _⟩, ?_⟩
  unfold lineL bodyL
  rw [hn, ht, zeroed_pieces]

theorem norm_list (l : List In5) (h : ∀ x ∈ l, hasOp x) (hi : ∀ x ∈ l, ints5 x) : (∀ x ∈ l.map normX, okX x) ∧ printL (l.map normX) = printL l := by
  refine ⟨fun x hx => ?_, ?_⟩
  · obtain ⟨y, hy, rfl⟩ := List.mem_map.1 hx
    exact (normX_spec (h y hy) (hi y hy)).1
  · induction l with
    | nil => rfl
    | cons x l ih =>
      show lineL (normX x) ++ printL (l.map normX) = lineL x ++ printL l
      rw [(normX_spec (h x (by simp)) (hi x (by simp))).2, ih (fun y hy => h y (by simp [hy])) (fun y hy => hi y (by simp [hy]))]
end Go.Proofs.YtmfkjaokopkgmaaDoor
