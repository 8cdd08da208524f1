/-
  slices.Delete of one sleeper; waking one for nothing (Poke).
-/
import Derived.Test.YtnooegfhkeddnaaDoorLotD
namespace Go.Proofs.YtnooegfhkeddnaaDoor
set_option maxRecDepth 100000
open Go.RowKit Go.Shelf

/-- What cutting a row to the sleepers r comes to. -/
def CutTo (B g cap : Nat) (r : List (Int × Int)) (w : World) (e : Ending) (w' : World) : Prop :=
  e = .returned (.slice (some ⟨g, 0, none⟩) r.length cap) ∧ w'.ownsRow B 87 2 (.slice (some ⟨g, 0, none⟩) r.length cap) r.length (cells2 r) ∧ w.grownBy w' (some g)

set_option maxHeartbeats 1000000 in
theorem deleteS_any {w : World} {B g cap : Nat} {l : List (Int × Int)} (hown : w.ownsRow B 87 2 (.slice (some ⟨g, 0, none⟩) l.length cap) l.length (cells2 l)) (k : Nat) (hk : k < l.length) :
    Calls Tryd.prog 45 #[.slice (some ⟨g, 0, none⟩) l.length cap, .int .i64 k, .int .i64 ((k : Int) + 1)] w (CutTo B g cap (l.eraseIdx k) w) := by
  obtain ⟨cur, hh, hb, hlc, hcm, hcs, hat⟩ := own_parts hown
  obtain ⟨i0, hi, hz0, hz1, hz2⟩ := info_parts infoSl
  obtain ⟨n, hn⟩ : ∃ n, l.length = n := ⟨_, rfl⟩
  rw [hn] at hk hlc hat ⊢
  unfold maxLen at hcm
  have hkk : ((k : Int) == (k : Int) + 1) = false := by simp; omega
  have hkn : (k : Int) + 1 ≤ (n : Int) := by omega
  have hnc : (n : Int) ≤ (cap : Int) := by omega
  have HN := Lib.hid hn
  have HAT := Lib.hid hat
  have HH := Lib.hid hh
  obtain ⟨news, hnews⟩ : ∃ news, news = cells2 (l.drop (k + 1)) := ⟨_, rfl⟩
  have hnl : news.length = (n - (k + 1)) * 2 := by rw [hnews, cells2_length, List.length_drop, hn]
  obtain ⟨A, hA, hsrc⟩ : ∃ A : Addr, (if cap = k + 1 then some (⟨g, 0, none⟩ : Addr) else some ⟨g, (k + 1) * 2, none⟩) = some A ∧ Hid (∀ t u, news[t]? = some u → w.drew.cell? (A.add t) = some u) := by
    by_cases h : cap = k + 1
    · refine ⟨⟨g, 0, none⟩, by simp [h], fun t u hu => ?_⟩
      rw [List.length_eq_zero_iff.1 (show news.length = 0 by omega)] at hu
      simp at hu
    · refine ⟨⟨g, (k + 1) * 2, none⟩, by simp [h], fun t u hu => ?_⟩
      have ht : t < (n - (k + 1)) * 2 := by
        have := (List.getElem?_eq_some_iff.1 hu).1
        omega
      have ha : (⟨g, (k + 1) * 2, none⟩ : Addr).add t = ⟨g, (k + 1) * 2 + t, none⟩ := by unfold Addr.add; split <;> simp_all
      rw [ha]
      show w.cell? _ = _
      rw [cell_of_row w g _ cur _ _ hh, hat _ (by omega), ← hu, hnews, ← cells2_drop, List.getElem?_drop]
  have s1 : Hid (news.length = (n - (k + 1)) * 2) := hnl
  have s2 : Hid (∀ u ∈ news, u.oneCell' = true) := by rw [hnews]; exact cells2_one _
  have s3 : Hid (∀ t, t < news.length → (w.drew.cell? ⟨g, 0 + k * 2 + t, none⟩).isSome = true ∧ w.drew.frozen? ⟨g, 0 + k * 2 + t, none⟩ = false) := by
    intro t ht
    refine ⟨?_, ?_⟩
    · show (w.cell? _).isSome = true
      rw [cell_of_row w g _ cur _ _ hh, Array.getElem?_eq_getElem (by omega)]
      rfl
    · show w.frozen? _ = false
      exact frozen_of_row w g _ cur _ hh
  have hset := heap_setCells g 87 news (0 + k * 2) w.drew cur hh
  obtain ⟨W1, hW1⟩ : ∃ W1, W1 = w.drew.setCells g (0 + k * 2) news := ⟨_, rfl⟩
  rw [← hW1] at hset
  obtain ⟨hset1, hset2⟩ := hset
  have hsz := laid_size cur (0 + k * 2) news
  have hcl := fun ty => run_clear2 W1 ty g ((n - 1) * 2) 1 (cap - (n - 1)) (fun j hj => by
    rw [cell_of_row W1 g _ _ _ _ hset1, Array.getElem?_eq_getElem (by omega)]
    rfl) (fun j _ => frozen_of_row W1 g _ _ _ hset1)
  have hset' := heap_setCells g 87 (Builtin.zeroCells #[.int .i64 0, .int .i64 0] 1).toList ((n - 1) * 2) W1 _ hset1
  have hend : (W1.setCells g ((n - 1) * 2) (Builtin.zeroCells #[.int .i64 0, .int .i64 0] 1).toList).ownsRow B 87 2 (.slice (some ⟨g, 0, none⟩) (n - 1) cap) (l.eraseIdx k).length (cells2 (l.eraseIdx k)) := by
    have hel : (l.eraseIdx k).length = n - 1 := by rw [List.length_eraseIdx, if_pos (by omega), hn]
    refine own_of_parts hel hset'.1 hb (by omega) (by unfold maxLen; omega) (by rw [laid_size, hsz, hcs]) (fun i hi => ?_)
    have hz : (Builtin.zeroCells #[Value.int .i64 0, .int .i64 0] 1).toList.length = 2 := by simp [Builtin.zeroCells]
    rw [laid_at _ _ _ _ (by rw [hz, hsz, hcs]; omega), if_neg (by omega), laid_at _ _ _ _ (by rw [hnl, hcs]; omega), List.eraseIdx_eq_take_drop_succ, cells2_append]
    by_cases h1 : i < k * 2
    · rw [if_neg (by omega), hat _ (by omega), List.getElem?_append_left (by rw [cells2_length, List.length_take]; omega), ← cells2_take, List.getElem?_take, if_pos h1]
    · rw [if_pos (by omega), List.getElem?_append_right (by rw [cells2_length, List.length_take]; omega), hnews, cells2_length, List.length_take]
      congr 1
      omega
  have hgrow : w.grownBy (W1.setCells g ((n - 1) * 2) (Builtin.zeroCells #[.int .i64 0, .int .i64 0] 1).toList) (some g) := by
    have h0 : w.grownBy w.drew (some g) := ⟨rfl, rfl, rfl, Nat.le_refl _, fun _ _ _ => rfl⟩
    exact (h0.andThen hset2 (fun j hj => .inr hj)).andThen hset'.2 (fun j hj => .inr hj)
  have hel : (l.eraseIdx k).length = n - 1 := by rw [List.length_eraseIdx, if_pos (by omega), hn]
  have X := Lib.hid hend
  have Y := Lib.hid hgrow
  have Z := Lib.hid hel
  have hW : Hid (W1 = w.drew.setCells g (0 + k * 2) news) := hW1
  have hkc : k ≤ cap := by omega
  have hk1c : k + 1 ≤ cap := by omega
  have hk0 : (0 : Int) ≤ (k : Int) + 1 := by omega
  have hd : k + (n - (k + 1)) = n - 1 := by omega
  have hd2 : n - (n - 1) = 1 := by omega
  have hd3 : n - 1 ≤ n := by omega
  have hd4 : n - 1 ≤ cap := by omega
  clear hn hat hh hown hend hgrow hset' hset1 hset2 hW1 hnews hnl hel HAT HH hsz hcs
  go_enter Tryd.func45, Tryd.ntmps45
  go_wp2_with fail
  go_region_law (refine step_append_room rfl (.tmp 22) (.tmp 25) 80 rfl 87 i0 2 Tryd.underlying80 hi hz1 g 0 k cap (by simp [Act.eval, Act.put]) A (n - (k + 1)) (cap - (k + 1)) news (by simp [Act.eval, Act.put]) s1.out hsrc.out s2.out (by omega) s3.out ?_; rw [← hW.out])
  go_wp2
  go_ret
  unfold CutTo
  have x := X.out
  rw [Z.out] at x ⊢
  exact ⟨rfl, x, Y.out⟩

theorem eraseP_at (p : Int × Int → Bool) (l : List (Int × Int)) (k : Nat) (hk : k < l.length) (hp : p (l.getD k default) = true) (h : ∀ j, j < k → p (l.getD j default) = false) : l.eraseP p = l.eraseIdx k := by
  induction l generalizing k with
  | nil => exact absurd hk (Nat.not_lt_zero _)
  | cons s l ih =>
    rcases k with _ | k
    · have : p s = true := hp
      rw [List.eraseP_cons, this]
      rfl
    · have h0 : p s = false := h 0 (by omega)
      rw [List.eraseP_cons, h0, ih k (by simpa using hk) hp (fun j hj => h (j + 1) (by omega))]
      rfl

def Poked (B p : Nat) (nt : Int) (r : List (Int × Int)) (v : Value) (w : World) (e : Ending) (w' : World) : Prop :=
  ∃ v', e = .returned .nilIface ∧ Lot w' B p nt v' r ∧ Below B w w' ∧ v'.ownBlock = v.ownBlock

def Poked2 (B p : Nat) (nt : Int) (r : List (Int × Int)) (v : Value) (w : World) (e : Ending) (w' : World) : Prop :=
  ∃ v', e = .returned .nilIface ∧ Lot w' B p nt v' r ∧ Below B w w' ∧ v'.ownBlock = v.ownBlock ∧ ∀ k, k < w.heap.size → k ≠ p → some k ≠ v.ownBlock → w'.heap[k]? = w.heap[k]?

set_option maxHeartbeats 1000000 in
theorem poke_yes2 {w : World} {B p : Nat} {nt : Int} {v : Value} {l : List (Int × Int)} (h : Lot w B p nt v l) (hB : B ≤ w.heap.size) (t : Int) (ht0 : 0 ≤ t) (ht1 : t < nt) (hs : sleeps l t) :
    Calls Tryd.prog 25 #[.pointer (some ⟨p, 0, none⟩), .int .i64 t] w (Poked2 B p nt (l.eraseP (isThread t)) v w) := by
  have hh := has_yes h t ht0 ht1
  have hf := find_any h t
  unfold Found at hf
  obtain ⟨k, hk, hke, hpk, _, hpj⟩ : ∃ k, k < l.length ∧ firstAt (isThread t) l 0 = (k : Int) ∧ isThread t (l.getD k default) = true ∧ l.find? (isThread t) = some (l.getD k default) ∧ ∀ j, j < k → isThread t (l.getD j default) = false := by
    rcases firstAt_cases (isThread t) l with ⟨_, hall⟩ | h
    · obtain ⟨s, hm, he⟩ := hs
      rw [hall s hm] at he
      cases he
    · exact h
  rw [hke] at hf
  rw [eraseP_at _ _ _ hk hpk hpj]
  obtain ⟨g, cap, rfl, hbg, _, _, _⟩ := h.form hk
  have hlen : l.length ≤ 9223372036854775807 := h.row2.len
  have hkn : (k : Int) < (l.length : Int) := by omega
  have hk0 : ¬ (k : Int) < 0 := by omega
  have H := Lib.hid h
  have HH := Lib.hid hh
  have HF := Lib.hid hf
  clear h hh hf hs hke hpk hpj
  go_enter Tryd.func25, Tryd.ntmps25
  go_wp2_with fail
  refine HH.out.mono ?_
  rintro e w1 ⟨rfl, rfl⟩
  go_wp2_with fail
  refine HF.out.mono ?_
  rintro e w1 ⟨rfl, hg⟩
  have h1 := H.out.grow hg
  obtain ⟨_, hcell, hfz⟩ := h1.cells
  have hbel := (Below.refl B w).grown hg hB (by intro k hk; cases hk)
  have H1 := Lib.hid h1
  have HB := Lib.hid hbel
  have HGK := Lib.hid hg
  clear h1 hg H HH HF hbel
  go_wp2_with fail
  refine (deleteS_any H1.out.own k hk).mono ?_
  rintro e w2 ⟨rfl, hown2, hg2⟩
  have hap := H1.out.apart
  have hat2 : w2.heap[p]? = some (.cells #[.int .i64 nt, .slice (some ⟨g, 0, none⟩) l.length cap] 82 (0, 0)) :=
    (hg2.block p H1.out.lt (fun e => hap e.symm)).trans H1.out.at_
  have hL := Lot.put hat2 H1.out.lo hown2
  have hcell2 : w2.cell? ⟨p, 1, none⟩ = some (.slice (some ⟨g, 0, none⟩) l.length cap) := by rw [cell_of_row w2 p 1 _ _ _ hat2]; rfl
  have hfz2 : w2.frozen? ⟨p, 1, none⟩ = false := frozen_of_row w2 p 1 _ _ hat2
  have hbel2 : Below B w (w2.setCell ⟨p, 1, none⟩ (.slice (some ⟨g, 0, none⟩) (l.eraseIdx k).length cap)) :=
    (HB.out.grown hg2 (Nat.le_trans hB HB.out.size) (fun j hj => by injection hj with hj; omega)).setCell (p := ⟨p, 1, none⟩) H1.out.lo _
  have HL := Lib.hid hL
  have HB2 := Lib.hid hbel2
  have HKK := Lib.hid (show ∀ j, j < w.heap.size → j ≠ p → some j ≠ (Value.slice (some ⟨g, 0, none⟩) l.length cap).ownBlock → (w2.setCell ⟨p, 1, none⟩ (.slice (some ⟨g, 0, none⟩) (l.eraseIdx k).length cap)).heap[j]? = w.heap[j]? from fun j hj h1 h2 => by
    have hs1 := HGK.out.size
    exact (heap_setCell_other w2 ⟨p, 1, none⟩ j _ h1).trans ((hg2.block j (by omega) h2).trans (HGK.out.block j hj (by simp))))
  clear hL hbel2 hown2 hg2 hat2 hap hcell hfz HGK
  go_wp2
  go_ret
  exact ⟨_, rfl, HL.out, HB2.out, rfl, HKK.out⟩

theorem poke_yes {w : World} {B p : Nat} {nt : Int} {v : Value} {l : List (Int × Int)} (h : Lot w B p nt v l) (hB : B ≤ w.heap.size) (t : Int) (ht0 : 0 ≤ t) (ht1 : t < nt) (hs : sleeps l t) :
    Calls Tryd.prog 25 #[.pointer (some ⟨p, 0, none⟩), .int .i64 t] w (Poked B p nt (l.eraseP (isThread t)) v w) :=
  (poke_yes2 h hB t ht0 ht1 hs).mono fun _ _ ⟨v', h1, h2, h3, h4, _⟩ => ⟨v', h1, h2, h3, h4⟩

set_option maxHeartbeats 400000 in
theorem poke_none {w : World} {B p : Nat} {nt : Int} {v : Value} {l : List (Int × Int)} (h : Lot w B p nt v l) (t : Int) (ht0 : 0 ≤ t) (ht1 : t < nt) (hs : ∀ s ∈ l, isThread t s = false) :
    Calls Tryd.prog 25 #[.pointer (some ⟨p, 0, none⟩), .int .i64 t] w (ToldErr (.iface 30 (.int .i64 6)) w) := by
  have hf := find_any h t
  unfold Found at hf
  rw [firstAt_miss _ _ _ hs] at hf
  have HH := Lib.hid (has_yes h t ht0 ht1)
  have HF := Lib.hid hf
  clear h hf hs
  go_enter Tryd.func25, Tryd.ntmps25
  go_wp2_with fail
  refine HH.out.mono ?_
  rintro e w1 ⟨rfl, rfl⟩
  go_wp2_with fail
  refine HF.out.mono ?_
  rintro e w1 ⟨rfl, hg⟩
  go_wp2
  go_ret
  exact ⟨rfl, hg⟩

set_option maxHeartbeats 400000 in
theorem poke_range {w : World} {B p : Nat} {nt : Int} {v : Value} {l : List (Int × Int)} (h : Lot w B p nt v l) (t : Int) (hr : t < 0 ∨ nt ≤ t) :
    Calls Tryd.prog 25 #[.pointer (some ⟨p, 0, none⟩), .int .i64 t] w (ToldErr (.iface 30 (.int .i64 2)) w) := by
  have HH := Lib.hid (has_no h t hr)
  clear h hr
  go_enter Tryd.func25, Tryd.ntmps25
  go_wp2_with fail
  refine HH.out.mono ?_
  rintro e w1 ⟨rfl, rfl⟩
  go_wp2
  go_ret
  exact ⟨rfl, World.grownBy.refl _ _⟩
end Go.Proofs.YtnooegfhkeddnaaDoor
