/-
  The walk of ParkFirst.
-/
import Derived.Test.YthjifekpefjjaaaIntF
namespace Go.Proofs.Ythjifekpefjjaaa
open Go.RowKit Go.Shelf

theorem grownBy_draws (w : World) (q : Nat) : w.grownBy (w.drewN q) none := ⟨rfl, rfl, rfl, Nat.le_refl _, fun _ _ _ => rfl⟩

theorem Ints.grow {k : IntKind} {w w' : World} {n : Nat} {A : Option Addr} {xs : List Int} (h : Ints k w w.heap.size A n xs) (hg : w.grownBy w' none) : Ints k w' w'.heap.size A n xs :=
  h.keep hg.size fun p hp => World.cell?_of_block (hg.block p.block hp (by simp))

/-- What stands behind the first k of a row. -/
theorem Ints.drop {k : IntKind} {w : World} {B n m cap : Nat} {g : Nat} {xs : List Int} (h : Ints k w B (some ⟨g, 0, none⟩) n xs) (hm : m ≤ n) (hc : n ≤ cap) :
    ∃ Ad, (if cap = m then some (⟨g, 0, none⟩ : Addr) else some ⟨g, m, none⟩) = some Ad ∧ Ints k w B (some Ad) (n - m) (xs.drop m) := by
  have hl : (xs.drop m).length = n - m := by rw [List.length_drop, h.len]
  by_cases e : cap = m
  · exact ⟨⟨g, 0, none⟩, by rw [if_pos e], hl, fun h0 => absurd h0 (by omega)⟩
  · refine ⟨⟨g, m, none⟩, by rw [if_neg e], hl, fun h0 => ?_⟩
    obtain ⟨b, off, e2, hb, hx⟩ := h.row (by omega)
    obtain ⟨rfl, rfl⟩ : g = b ∧ 0 = off := by
      injection e2 with e2
      injection e2 with e2 e3
      exact ⟨e2, e3⟩
    refine ⟨g, m, rfl, hb, fun i hi => ?_⟩
    have h1 := hx (m + i) (by omega)
    rw [Nat.zero_add] at h1
    rw [h1, List.getD_eq_getElem?_getD, List.getD_eq_getElem?_getD, List.getElem?_drop]

/-- What a call that tells true, and makes no more than blocks behind w5, comes to. -/
def Yes (b : Bool) (w5 : World) (e : Ending) (w' : World) : Prop := e = .returned (.bool b) ∧ w5.grownBy w' none
/-- What asking for those at the cell comes to, behind w5. -/
def Row (R : List Int) (r : Nat) (w5 : World) (e : Ending) (w' : World) : Prop := ∃ A6 c6, e = .returned (.slice A6 r c6) ∧ Ints .i64 w' w'.heap.size A6 r R ∧ w5.grownBy w' none

theorem first_eq {w5 : World} {A C : Option Addr} {k : Nat} {O : List Int} (h1 : Ints .i64 w5 w5.heap.size A k O) (h2 : Ints .i64 w5 w5.heap.size C k O) (hk : k ≤ 1000) (c d : Nat) (X : World) (hX : w5.grownBy X none) :
    Calls Try.prog 25 #[.slice A k c, .slice C k d] X (Yes true w5) := by
  refine (equalI_same _ _ k _ _ O X (by omega) _ (h1.grow hX) (h2.grow hX)).mono ?_
  rintro e w' ⟨rfl, q, rfl⟩
  exact ⟨rfl, hX.andThen (grownBy_draws X q) (by intro j hj; cases hj)⟩

theorem second_eq {w5 : World} {C : Option Addr} {r : Nat} {R : List Int} (h2 : Ints .i64 w5 w5.heap.size C r R) (hr : r ≤ 1000) (A : Option Addr) (c d : Nat) (X : World) (h1 : Ints .i64 X X.heap.size A r R) (hX : w5.grownBy X none) :
    Calls Try.prog 25 #[.slice A r c, .slice C r d] X (Yes true w5) := by
  refine (equalI_same _ _ r _ _ R X (by omega) _ h1 (h2.grow hX)).mono ?_
  rintro e w' ⟨rfl, q, rfl⟩
  exact ⟨rfl, hX.andThen (grownBy_draws X q) (by intro j hj; cases hj)⟩

theorem first_at {w5 : World} {B p : Nat} {nt : Int} {v : Value} {l : List (Int × Int)} (h : Lot w5 B p nt v l) (hl : l.length ≤ 1000) (c : Int) (R : List Int) (hR : threadsAt l c = R) (X : World) (hX : w5.grownBy X none) :
    Calls Try.prog 23 #[.pointer (some ⟨p, 0, none⟩), .int .i64 c] X (Row R R.length w5) := by
  have ha := at_any (h.grow hX) hl c
  rw [hR] at ha
  refine ha.mono ?_
  rintro e w' ⟨v', rfl, hown, hg⟩
  obtain ⟨A6, c6, rfl⟩ := slice_of_own2 hown
  exact ⟨A6, c6, rfl, Ints.of_own hown, hX.andThen hg (by intro j hj; cases hj)⟩

theorem first_cf {w5 : World} {B p : Nat} {nt : Int} {v : Value} {l : List (Int × Int)} (h : Lot w5 B p nt v l) {A : Option Addr} {k : Nat} {O : List Int} (h1 : Ints .i64 w5 w5.heap.size A k O) (hk : k ≤ 1000) (b : Nat) (hb : w5.heap[b]? = some (.cells #[.pointer (some ⟨p, 0, none⟩)] 44 (0, 0))) (hgone : ∀ t ∈ O, cellOf l t = -1) (c : Nat) (X : World) (hX : w5.grownBy X none) :
    Calls Try.prog 26 #[.slice A k c, .func (.func 27) #[] #[.pointer (some ⟨b, 0, none⟩)]] X (Yes false w5) := by
  have eg : ∀ args w, (callFunc 27 args).run Try.prog w = .ok (.enter 27 args) w := enters_of Try.func27 (by kernel_rfl) rfl
  have hp : PredI 27 #[.pointer (some ⟨b, 0, none⟩)] (fun t => cellOf l t != -1) X none := by
    intro W t hW
    have hg := hX.andThen hW (by intro j hj; cases hj)
    exact firstc_any (h.grow hg) b ((World.cell?_of_block (a := ⟨b, 0, none⟩) (hg.block b (lt_of_block hb) (by simp))).trans (cell_of_one hb)) t
  refine (containsFuncI_none A k c O (h1.grow hX) (by omega) _ _ _ eg hp (fun t ht => by rw [hgone t ht]; rfl)).mono ?_
  rintro e w' ⟨rfl, hg⟩
  exact ⟨rfl, hX.andThen hg (by intro j hj; cases hj)⟩

set_option maxHeartbeats 1000000 in
theorem parkFirst_long {w : World} (A : Option Addr) (n c : Nat) (a1 a2 : Int) (hn : 60 < n) :
    Calls Try.prog 7 #[.slice A n c, .int .i64 a1, .int .i64 a2] w fun e w' => e = .returned (.bool true) ∧ Below w.heap.size w w' := by
  have h1 : (60 : Int) < (n : Int) := by omega
  go_enter Try.func7, Try.ntmps7
  go_wp2_with fail
  refine (asleep_true _).mono ?_
  rintro e w1 ⟨rfl, hb⟩
  go_wp2
  go_ret
  exact ⟨rfl, hb⟩

/-- All that the last line of ParkFirst is told: k are woken, r are left, of those at the cell. -/
structure Line (w5 : World) (p b k r : Nat) (A4 A3 Ad : Option Addr) (c4 c3 c7 : Nat) (cell : Int) (R : List Int) : Prop where
  e1 : ∀ X, w5.grownBy X none → Calls Try.prog 25 #[.slice A4 k c4, .slice A3 k c3] X (Yes true w5)
  at_ : ∀ X, w5.grownBy X none → Calls Try.prog 23 #[.pointer (some ⟨p, 0, none⟩), .int .i64 cell] X (Row R r w5)
  e2 : ∀ A c X, Ints .i64 X X.heap.size A r R → w5.grownBy X none → Calls Try.prog 25 #[.slice A r c, .slice Ad r c7] X (Yes true w5)
  cf : ∀ X, w5.grownBy X none → Calls Try.prog 26 #[.slice A4 k c4, .func (.func 27) #[] #[.pointer (some ⟨b, 0, none⟩)]] X (Yes false w5)

set_option maxHeartbeats 1000000 in
theorem parkFirst_short {w : World} (A : Option Addr) (n c : Nat) (nods : List (Int × Int × Bool)) (hN : Nods w w.heap.size A n nods) (a1 a2 : Int) (hn : n ≤ 60) :
    Calls Try.prog 7 #[.slice A n c, .int .i64 a1, .int .i64 a2] w fun e w' => e = .returned (.bool true) ∧ Below w.heap.size w w' := by
  have h1 : ¬ (60 : Int) < (n : Int) := by omega
  have hlen : (bedL nods).length ≤ 60 := by have := bedL_len nods; have := hN.len; omega
  have hgood := bedL_good nods
  go_enter Try.func7, Try.ntmps7
  go_wp2_with fail
  refine (asleep_true _).mono ?_
  rintro e w1 ⟨rfl, hb1⟩
  have hN1 : Nods w1 w1.heap.size A n nods := ⟨hN.len, fun h0 => by
    obtain ⟨b, off, e, hlt, hc⟩ := (hN.below hb1).row h0
    exact ⟨b, off, e, Nat.lt_of_lt_of_le hlt hb1.size, hc⟩⟩
  go_wp2_with fail
  refine (bed_any A n c nods hN1 hn).mono ?_
  rintro e w2 ⟨p, v, rfl, hL, hb2⟩
  generalize bedL nods = L at *
  have hb2' : Below w.heap.size w w2 := hb1.trans (hb2.mono hb1.size)
  have hsz := hb1.size
  clear hN hN1 hb1
  obtain ⟨cell, hcell⟩ : ∃ x, pickI a1 4 = x := ⟨_, rfl⟩
  obtain ⟨nn, hnn⟩ : ∃ x : Nat, pickI a2 20 = x := ⟨(pickI a2 20).toNat, by have := pickI_lo a2 20; omega⟩
  have hp1 := fun w => pick_det a1 4 4 w rfl (by decide) (by decide)
  have hp2 := fun w => pick_det a2 20 20 w rfl (by decide) (by decide)
  simp only [hcell] at hp1
  simp only [hnn] at hp2
  have HP1 := Lib.hid hp1
  have HP2 := Lib.hid hp2
  clear hp1 hp2 hcell hnn
  have hL2 := hL.grow (World.grownBy_alloc w2 (.cells #[.pointer (some ⟨p, 0, none⟩)] 44) none)
  have hblk2 : (w2.alloc (.cells #[.pointer (some ⟨p, 0, none⟩)] 44)).heap[w2.heap.size]? = some (.cells #[.pointer (some ⟨p, 0, none⟩)] 44 (0, 0)) := heap_alloc_new w2 _
  have hb2a := hb2'.alloc hb2'.size (.cells #[.pointer (some ⟨p, 0, none⟩)] 44)
  have hvlt : ∀ k, v.ownBlock = some k → k < w2.heap.size := fun k hk => (hL.own.lt k hk).2
  have hplt := hL.lt
  have hvlo : ∀ k, v.ownBlock = some k → w1.heap.size ≤ k := fun k hk => (hL.own.lt k hk).1
  have hplo := hL.lo
  clear hL hb2 hb2'
  go_wp2_with fail
  refine (HP1.out _).mono ?_
  rintro e w3 ⟨rfl, rfl⟩
  go_wp2_with fail
  refine (HP2.out _).mono ?_
  rintro e w3 ⟨rfl, rfl⟩
  clear HP1 HP2
  go_wp2_with fail
  have hat := at_any hL2 (by omega) cell
  obtain ⟨T, hT⟩ : ∃ T, threadsAt L cell = T := ⟨_, rfl⟩
  have hTl : T.length ≤ 60 := by rw [← hT]; exact threads_len hlen cell
  rw [hT] at hat
  refine hat.mono ?_
  rintro e w3 ⟨v3, rfl, hown3, hg3⟩
  have hL3 := hL2.grow hg3
  have hb3 := hb2a.grown hg3 hb2a.size (by intro k hk; cases hk)
  have hblk3 := (hg3.block w2.heap.size (by simp) (by simp)).trans hblk2
  have hcell3 := cell_of_one hblk3
  have hw3 : w2.heap.size + 1 ≤ w3.heap.size := by have := hg3.size; simp at this; omega
  clear hat hL2 hb2a hg3 hblk2
  obtain ⟨A3, c3, rfl⟩ := slice_of_own2 hown3
  go_wp2_with fail
  have hwk := wake_any hL3 (by omega) cell nn
  rw [hT] at hwk
  refine hwk.mono ?_
  rintro e w4 ⟨v4, A4, c4, rfl, hI4, hL4, hk4, _⟩
  clear hwk
  have hb4 : Below w.heap.size w w4 := hb3.trans (hk4.below hb3.size fun k hk => by
    rcases hk with rfl | hk
    · omega
    · have := hvlo k hk.symm; omega)
  have hblk4 : w4.heap[w2.heap.size]? = some (.cells #[.pointer (some ⟨p, 0, none⟩)] 44 (0, 0)) := (hk4.block w2.heap.size (by omega) (by
    rintro (e | hk)
    · omega
    · have := hvlt _ hk.symm; omega)).trans hblk3
  have hcell4 := cell_of_one hblk4
  have hown4 : w4.ownsRow _ 3 1 (.slice A3 T.length c3) T.length (T.map (Value.int .i64)) := own_keeps hown3 hk4 fun g hg hS => by
    have h1 := (hown3.lt g hg).1
    simp at h1
    rcases hS with rfl | hk
    · omega
    · have := hvlt g hk.symm
      omega
  have hnd : T.Nodup := by rw [← hT]; exact threadsAt_nodup hgood cell
  -- all that the last line is told
  have line : ∀ (k r : Nat) (Ad : Option Addr) (c7 : Nat), wakeN nn T = k → (T.drop k).length = r → Ints .i64 w4 w4.heap.size A3 k (T.take k) → Ints .i64 w4 w4.heap.size Ad r (T.drop k) →
      Line w4 p w2.heap.size k r A4 A3 Ad c4 c3 c7 cell (T.drop k) := by
    intro k r Ad c7 hk hr h3 hd
    rw [hk] at hI4 hL4
    have hkl : (T.take k).length = k := by
      rw [List.length_take]
      unfold wakeN at hk
      omega
    rw [hkl] at hI4
    have hk60 : k ≤ 60 := by rw [List.length_take] at hkl; omega
    have hr60 : r ≤ 60 := by rw [List.length_drop] at hr; omega
    have hLl : (rest L (T.take k)).length ≤ 1000 := Nat.le_trans (List.Sublist.length_le (rest_sub _ _)) (by omega)
    refine ⟨fun X hX => first_eq hI4 h3 (by omega) _ _ X hX, fun X hX => ?_, fun A c X hA hX => second_eq hd (by omega) A c c7 X hA hX, fun X hX => first_cf hL4 hI4 (by omega) _ hblk4 (fun t ht => cellOf_gone L _ t ht) c4 X hX⟩
    have := first_at hL4 hLl cell (T.drop k) (by rw [threadsAt_rest, hT]; exact filter_take T hnd k) X hX
    rwa [hr] at this
  have hcx : ∀ X, w4.grownBy X none → X.cell? ⟨w2.heap.size, 0, none⟩ = some (.pointer (some ⟨p, 0, none⟩)) := fun X hX =>
    (World.cell?_of_block (a := ⟨w2.heap.size, 0, none⟩) (hX.block _ (lt_of_block hblk4) (by simp))).trans hcell4
  have hcx0 := hcx w4.drew ⟨rfl, rfl, rfl, Nat.le_refl _, fun _ _ _ => rfl⟩
  have hkl : (T.take (wakeN nn T)).length = wakeN nn T := by
    rw [List.length_take]
    unfold wakeN
    omega
  rw [hkl]
  have hA3 : (A3 = none ∧ c3 = 0 ∧ T.length = 0) ∨ ∃ g3, A3 = some ⟨g3, 0, none⟩ ∧ T.length ≤ c3 := by
    rcases hown4.2 with ⟨e, e2⟩ | ⟨g, cap, _, e, _, _, h1, _⟩
    · injection e with e1 _ e3
      exact .inl ⟨e1, e3, e2⟩
    · injection e with e1 _ e3
      exact .inr ⟨g, e1, by omega⟩
  have hI3 : Ints .i64 w4 w4.heap.size A3 T.length T := Ints.of_own hown4
  have hB := Lib.hid hb4
  have HCX := Lib.hid hcx
  have HLINE := Lib.hid line
  have HI3 := Lib.hid hI3
  clear hown4 hown3 hI4 hL4 hk4 hL3 hgood hnd line hcx hkl hb3 hb4 hblk3 hblk4 hcell3 hI3 hT hw3
  obtain ⟨tl, htl⟩ : ∃ tl, T.length = tl := ⟨_, rfl⟩
  have HTL := Lib.hid htl
  rw [htl] at hA3 hTl ⊢
  rcases hA3 with ⟨rfl, rfl, rfl⟩ | ⟨g3, rfl, hc3⟩
  · have hk : wakeN nn T = 0 := by unfold wakeN; rw [htl]; simp
    have hLN := HLINE.out 0 0 none 0 hk (by rw [List.length_drop, htl]) (by have := HI3.out.take (m := 0) (by omega); exact this) ⟨by rw [List.length_drop, htl], fun h0 => absurd h0 (Nat.lt_irrefl 0)⟩
    rw [hk]
    have LN := Lib.hid hLN
    clear hLN hk HLINE HI3 htl
    rcases Nat.eq_zero_or_pos nn with rfl | hpos
    · go_wp2_with fail
      go_region_with (first | (go_at_call_of 25 (Value.slice A4 0 c4); refine (LN.out.e1 _ (by exact ⟨rfl, rfl, rfl, Nat.le_refl _, fun _ _ _ => rfl⟩)).mono ?_; rintro e x1 ⟨rfl, hx1⟩; have hcx1 := HCX.out x1 hx1) | (go_at_call 23; refine (LN.out.at_ _ (by assumption)).mono ?_; rintro e x2 ⟨A6, c6, rfl, hI6, hx2⟩) | (go_at_call 25; refine (LN.out.e2 _ _ _ (by assumption) (by assumption)).mono ?_; rintro e x3 ⟨rfl, hx3⟩) | (go_at_call 26; refine (LN.out.cf _ (by assumption)).mono ?_; rintro e x4 ⟨rfl, hx4⟩))
      all_goals
        have hbx := hB.out.grown hx4 hB.out.size (by intro k hk; cases hk)
        clear hx4
        go_wp2
        go_ret
        exact ⟨rfl, hbx⟩
    · have hi1 : ¬ (nn : Int) ≤ 0 := by omega
      have hi2 : (0 : Int) < (nn : Int) := by omega
      go_wp2_with fail
      go_region_with (first | (go_at_call_of 25 (Value.slice A4 0 c4); refine (LN.out.e1 _ (by exact ⟨rfl, rfl, rfl, Nat.le_refl _, fun _ _ _ => rfl⟩)).mono ?_; rintro e x1 ⟨rfl, hx1⟩; have hcx1 := HCX.out x1 hx1) | (go_at_call 23; refine (LN.out.at_ _ (by assumption)).mono ?_; rintro e x2 ⟨A6, c6, rfl, hI6, hx2⟩) | (go_at_call 25; refine (LN.out.e2 _ _ _ (by assumption) (by assumption)).mono ?_; rintro e x3 ⟨rfl, hx3⟩) | (go_at_call 26; refine (LN.out.cf _ (by assumption)).mono ?_; rintro e x4 ⟨rfl, hx4⟩))
      all_goals
        have hbx := hB.out.grown hx4 hB.out.size (by intro k hk; cases hk)
        clear hx4
        go_wp2
        go_ret
        exact ⟨rfl, hbx⟩
  · by_cases hle : nn ≤ tl
    · have hk : wakeN nn T = nn := by unfold wakeN; rw [htl]; simp; omega
      obtain ⟨Ad, hAd, hId⟩ := (show Ints .i64 w4 w4.heap.size (some ⟨g3, 0, none⟩) tl T from by have := HI3.out; rwa [htl] at this).drop hle hc3
      have hLN := HLINE.out nn (tl - nn) (some Ad) (c3 - nn) hk (by rw [List.length_drop, htl]) (by have := HI3.out.take (m := nn) (by omega); exact this) hId
      rw [hk]
      have LN := Lib.hid hLN
      have hi0 : (0 : Int) ≤ (nn : Int) := by omega
      have hi1 : (nn : Int) ≤ (tl : Int) := by omega
      have hn3 : nn ≤ c3 := by omega
      clear hId hLN hk HLINE HI3 htl
      go_wp2_with fail
      go_region_with (first | (go_at_call_of 25 (Value.slice A4 nn c4); refine (LN.out.e1 _ (by exact ⟨rfl, rfl, rfl, Nat.le_refl _, fun _ _ _ => rfl⟩)).mono ?_; rintro e x1 ⟨rfl, hx1⟩; have hcx1 := HCX.out x1 hx1) | (go_at_call 23; refine (LN.out.at_ _ (by assumption)).mono ?_; rintro e x2 ⟨A6, c6, rfl, hI6, hx2⟩) | (go_at_call 25; refine (LN.out.e2 _ _ _ (by assumption) (by assumption)).mono ?_; rintro e x3 ⟨rfl, hx3⟩) | (go_at_call 26; refine (LN.out.cf _ (by assumption)).mono ?_; rintro e x4 ⟨rfl, hx4⟩))
      all_goals
        have hbx := hB.out.grown hx4 hB.out.size (by intro k hk; cases hk)
        clear hx4
        go_wp2
        go_ret
        exact ⟨rfl, hbx⟩
    · have hk : wakeN nn T = tl := by unfold wakeN; rw [htl]; simp; omega
      obtain ⟨Ad, hAd, hId⟩ := (show Ints .i64 w4 w4.heap.size (some ⟨g3, 0, none⟩) tl T from by have := HI3.out; rwa [htl] at this).drop (Nat.le_refl tl) hc3
      have hLN := HLINE.out tl 0 (some Ad) (c3 - tl) hk (by rw [List.length_drop, htl]; omega) (by have := HI3.out.take (m := tl) (by omega); exact this) (by rw [Nat.sub_self] at hId; exact hId)
      rw [hk]
      have LN := Lib.hid hLN
      have hi0 : (0 : Int) ≤ (nn : Int) := by omega
      have hi1 : ¬ (nn : Int) ≤ (tl : Int) := by omega
      have hi2 : (tl : Int) < (nn : Int) := by omega
      have hi3 : (0 : Int) ≤ (tl : Int) := by omega
      clear hId hLN hk HLINE HI3 htl
      go_wp2_with fail
      go_region_with (first | (go_at_call_of 25 (Value.slice A4 tl c4); refine (LN.out.e1 _ (by exact ⟨rfl, rfl, rfl, Nat.le_refl _, fun _ _ _ => rfl⟩)).mono ?_; rintro e x1 ⟨rfl, hx1⟩; have hcx1 := HCX.out x1 hx1) | (go_at_call 23; refine (LN.out.at_ _ (by assumption)).mono ?_; rintro e x2 ⟨A6, c6, rfl, hI6, hx2⟩) | (go_at_call 25; refine (LN.out.e2 _ _ _ (by assumption) (by assumption)).mono ?_; rintro e x3 ⟨rfl, hx3⟩) | (go_at_call 26; refine (LN.out.cf _ (by assumption)).mono ?_; rintro e x4 ⟨rfl, hx4⟩))
      all_goals
        have hbx := hB.out.grown hx4 hB.out.size (by intro k hk; cases hk)
        clear hx4
        go_wp2
        go_ret
        exact ⟨rfl, hbx⟩
end Go.Proofs.Ythjifekpefjjaaa
