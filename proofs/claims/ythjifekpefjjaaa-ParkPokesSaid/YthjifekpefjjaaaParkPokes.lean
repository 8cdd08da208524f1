/-
  The walk of ParkPokes.
-/
import Derived.Test.YthjifekpefjjaaaCloneI
namespace Go.Proofs.Ythjifekpefjjaaa
open Go.RowKit Go.Shelf

theorem eraseP_filter {l : List (Int × Int)} (h : (l.map (·.1)).Nodup) (t : Int) : l.eraseP (isThread t) = l.filter fun s => !isThread t s := by
  induction l with
  | nil => rfl
  | cons s l ih =>
    rw [List.map_cons, List.nodup_cons] at h
    rw [List.eraseP_cons, List.filter_cons]
    cases hp : isThread t s with
    | true =>
      have hst : s.1 = t := by unfold isThread at hp; simpa using hp
      have hall : l.filter (fun s => !isThread t s) = l := by
        apply List.filter_eq_self.2
        intro r hr
        have hne : r.1 ≠ t := fun e => h.1 (List.mem_map.2 ⟨r, hr, by rw [e, hst]⟩)
        unfold isThread
        simp [hne]
      simp [hall]
    | false =>
      simp [ih h.2]

theorem threadsAt_erase {l : List (Int × Int)} (h : Good l) (t c : Int) : threadsAt (l.eraseP (isThread t)) c = keepI (fun x => x == t) (threadsAt l c) := by
  rw [eraseP_filter h.nodup]
  unfold threadsAt keepI
  rw [List.filter_map, List.filter_filter, List.filter_filter]
  congr 1
  apply List.filter_congr
  intro s _
  unfold isThread
  simp only [Function.comp]
  exact Bool.and_comm _ _

theorem cellOf_cases (l : List (Int × Int)) (t : Int) : (cellOf l t = -1 ∧ ∀ s ∈ l, isThread t s = false) ∨ (sleeps l t ∧ ∃ s ∈ l, s.1 = t ∧ cellOf l t = s.2) := by
  rcases firstAt_cases (isThread t) l with ⟨_, hall⟩ | ⟨k, hk, _, hp, hf, _⟩
  · refine .inl ⟨?_, hall⟩
    unfold cellOf
    rw [List.find?_eq_none.2 (fun s hs => by rw [hall s hs]; simp)]
    rfl
  · have hm : l.getD k default ∈ l := by
      rw [List.getD_eq_getElem?_getD, List.getElem?_eq_getElem hk]
      exact List.getElem_mem _
    refine .inr ⟨⟨_, hm, hp⟩, _, hm, ?_, ?_⟩
    · unfold isThread at hp
      simpa using hp
    · unfold cellOf
      rw [hf]
      rfl

def PokedK (B p : Nat) (nt : Int) (r : List (Int × Int)) (v : Value) (w : World) (e : Ending) (w' : World) : Prop :=
  ∃ v', e = .returned .nilIface ∧ Lot w' B p nt v' r ∧ Below B w w' ∧ Keeps (fun k => k = p ∨ some k = v.ownBlock) w w'

set_option maxHeartbeats 1000000 in
theorem poke_keeps {w : World} {B p : Nat} {nt : Int} {v : Value} {l : List (Int × Int)} (h : Lot w B p nt v l) (hB : B ≤ w.heap.size) (t : Int) (ht0 : 0 ≤ t) (ht1 : t < nt) (hs : sleeps l t) :
    Calls Try.prog 30 #[.pointer (some ⟨p, 0, none⟩), .int .i64 t] w (PokedK B p nt (l.eraseP (isThread t)) v w) := by
  have hh := has_yes h t ht0 ht1
  have hf := find_any h t
  unfold Found at hf
  obtain ⟨k, hk, hke, hpk, _, hpj⟩ : ∃ k, k < l.length ∧ firstAt (isThread t) l 0 = (k : Int) ∧ isThread t (l.getD k default) = true ∧ l.find? (isThread t) = some (l.getD k default) ∧ ∀ j, j < k → isThread t (l.getD j default) = false := by
    rcases firstAt_cases (isThread t) l with ⟨_, hall⟩ | h
    · obtain ⟨s, hm, he⟩ := hs
      rw [hall s hm] at he
      cases he
    · exact h
  rw [hke] at hf
  rw [eraseP_at _ _ _ hk hpk hpj]
  obtain ⟨g, cap, rfl, hbg, _, _, _⟩ := h.form hk
  have hlen : l.length ≤ 9223372036854775807 := h.row2.len
  have hkn : (k : Int) < (l.length : Int) := by omega
  have hk0 : ¬ (k : Int) < 0 := by omega
  have H := Lib.hid h
  have HH := Lib.hid hh
  have HF := Lib.hid hf
  clear h hh hf hs hke hpk hpj
  go_enter Try.func30, Try.ntmps30
  go_wp2_with fail
  refine HH.out.mono ?_
  rintro e w1 ⟨rfl, rfl⟩
  go_wp2_with fail
  refine HF.out.mono ?_
  rintro e w1 ⟨rfl, hg⟩
  have h1 := H.out.grow hg
  obtain ⟨_, hcell, hfz⟩ := h1.cells
  have hbel := (Below.refl B w).grown hg hB (by intro k hk; cases hk)
  have H1 := Lib.hid h1
  have HB := Lib.hid hbel
  have HG0 := Lib.hid hg
  clear h1 hg H HH HF hbel
  go_wp2_with fail
  refine (deleteS_any H1.out.own k hk).mono ?_
  rintro e w2 ⟨rfl, hown2, hg2⟩
  have hap := H1.out.apart
  have hat2 : w2.heap[p]? = some (.cells #[.int .i64 nt, .slice (some ⟨g, 0, none⟩) l.length cap] 74 (0, 0)) :=
    (hg2.block p H1.out.lt (fun e => hap e.symm)).trans H1.out.at_
  have hL := Lot.put hat2 H1.out.lo hown2
  have hcell2 : w2.cell? ⟨p, 1, none⟩ = some (.slice (some ⟨g, 0, none⟩) l.length cap) := by rw [cell_of_row w2 p 1 _ _ _ hat2]; rfl
  have hfz2 : w2.frozen? ⟨p, 1, none⟩ = false := frozen_of_row w2 p 1 _ _ hat2
  have hbel2 : Below B w (w2.setCell ⟨p, 1, none⟩ (.slice (some ⟨g, 0, none⟩) (l.eraseIdx k).length cap)) :=
    (HB.out.grown hg2 (Nat.le_trans hB HB.out.size) (fun j hj => by injection hj with hj; omega)).setCell (p := ⟨p, 1, none⟩) H1.out.lo _
  have hkeep : Keeps (fun k => k = p ∨ some k = (Value.slice (some ⟨g, 0, none⟩) l.length cap).ownBlock) w (w2.setCell ⟨p, 1, none⟩ (.slice (some ⟨g, 0, none⟩) (l.eraseIdx k).length cap)) :=
    ((Keeps.of_grown HG0.out (by intro k hk; cases hk)).trans (Keeps.of_grown hg2 (fun k hk => .inr hk.symm))).setCell _ (.inl rfl) _
  have HL := Lib.hid hL
  have HB2 := Lib.hid hbel2
  have HK := Lib.hid hkeep
  clear hL hbel2 hkeep hown2 hg2 hat2 hap hcell hfz
  go_wp2
  go_ret
  exact ⟨_, rfl, HL.out, HB2.out, HK.out⟩

theorem pokec_any (b : Nat) (t x : Int) (w : World) (hb : w.cell? ⟨b, 0, none⟩ = some (.int .i64 t)) :
    Calls Try.prog 33 #[.int .i64 x, .pointer (some ⟨b, 0, none⟩)] w fun e w' => e = .returned (.bool (x == t)) ∧ w.grownBy w' none := by
  obtain ⟨r, hr⟩ : ∃ r, (x == t) = r := ⟨_, rfl⟩
  rw [hr]
  cases r
  all_goals
    go_enter Try.func33, Try.ntmps33
    go_wp2
    go_ret
    exact ⟨rfl, World.grownBy.refl _ _⟩

set_option maxHeartbeats 1000000 in
theorem parkPokes_long {w : World} (A : Option Addr) (n c : Nat) (a1 : Int) (hn : 60 < n) :
    Calls Try.prog 10 #[.slice A n c, .int .i64 a1] w fun e w' => e = .returned (.bool true) ∧ Below w.heap.size w w' := by
  have h1 : (60 : Int) < (n : Int) := by omega
  have hb0 := (Below.refl w.heap.size w).alloc (Nat.le_refl _) (.cells #[.int .i64 a1] 3)
  go_enter Try.func10, Try.ntmps10
  go_wp2_with fail
  refine (asleep_true _).mono ?_
  rintro e w1 ⟨rfl, hb⟩
  have hb1 := hb0.trans (hb.mono hb0.size)
  clear hb hb0
  go_wp2
  go_ret
  exact ⟨rfl, hb1⟩

set_option maxHeartbeats 1000000 in
theorem parkPokes_short {w : World} (A : Option Addr) (n c : Nat) (nods : List (Int × Int × Bool)) (hN : Nods w w.heap.size A n nods) (a1 : Int) (hn : n ≤ 60) :
    Calls Try.prog 10 #[.slice A n c, .int .i64 a1] w fun e w' => e = .returned (.bool true) ∧ Below w.heap.size w w' := by
  have h1 : ¬ (60 : Int) < (n : Int) := by omega
  have hlen : (bedL nods).length ≤ 60 := by have := bedL_len nods; have := hN.len; omega
  have hgood := bedL_good nods
  have hb0 := (Below.refl w.heap.size w).alloc (Nat.le_refl _) (.cells #[.int .i64 a1] 3)
  have hk0 : (w.alloc (.cells #[.int .i64 a1] 3)).heap[w.heap.size]? = some (.cells #[.int .i64 a1] 3 (0, 0)) := heap_alloc_new w _
  have hs0 : w.heap.size < (w.alloc (.cells #[.int .i64 a1] 3)).heap.size := by simp
  obtain ⟨w0, hw0⟩ : ∃ w0, w.alloc (.cells #[.int .i64 a1] 3) = w0 := ⟨_, rfl⟩
  rw [hw0] at hb0 hk0 hs0
  have HW0 := Lib.hid hw0
  clear hw0
  go_enter Try.func10, Try.ntmps10
  go_wp2_with fail
  rw [HW0.out]
  refine (asleep_true _).mono ?_
  rintro e w1 ⟨rfl, hb⟩
  have hb1 := hb0.trans (hb.mono hb0.size)
  have hk1 := (hb.block w.heap.size hs0).trans hk0
  have hs1 := hb.size
  clear hb hb0 hk0 HW0
  have hN1 : Nods w1 w1.heap.size A n nods := ⟨hN.len, fun h0 => by
    obtain ⟨b, off, e, hlt, hc⟩ := (hN.below hb1).row h0
    exact ⟨b, off, e, Nat.lt_of_lt_of_le hlt hb1.size, hc⟩⟩
  go_wp2_with fail
  refine (bed_any A n c nods hN1 hn).mono ?_
  rintro e w2 ⟨p, v, rfl, hL, hb⟩
  generalize bedL nods = L at *
  have hb2 := hb1.trans (hb.mono hb1.size)
  have hk2 := (hb.block w.heap.size (by omega)).trans hk1
  have hsz2 := hb.size
  have hcell2 := cell_of_one hk2
  have hfree2 := free_of_one hk2
  clear hb hb1 hk1 hN hN1
  obtain ⟨t, ht⟩ : ∃ x, pickI a1 16 = x := ⟨_, rfl⟩
  have ht0 : 0 ≤ t := by rw [← ht]; exact pickI_lo _ _
  have ht1 : t < 16 := by rw [← ht]; exact pickI_hi _ 16 (by decide)
  have hp1 := fun w => pick_det a1 16 16 w rfl (by decide) (by decide)
  simp only [ht] at hp1
  have HP1 := Lib.hid hp1
  clear hp1 ht
  go_wp2_with fail
  refine (HP1.out _).mono ?_
  rintro e w3 ⟨rfl, rfl⟩
  clear HP1
  have hL3 : Lot (w2.setCell ⟨w.heap.size, 0, none⟩ (.int .i64 t)) w1.heap.size p 16 v L := by
    refine hL.keeps (S := fun k => k = w.heap.size) ⟨rfl, rfl, rfl, by simp, fun k _ hne => heap_setCell_other w2 ⟨w.heap.size, 0, none⟩ k _ hne⟩ ?_ ?_
    · have := hL.lo; omega
    · intro g hg; have := (hL.own.lt g hg).1; omega
  have hk3 : (w2.setCell ⟨w.heap.size, 0, none⟩ (.int .i64 t)).heap[w.heap.size]? = some (.cells #[.int .i64 t] 3 (0, 0)) := one_setCell hk2
  have hb3 := hb2.setCell (p := ⟨w.heap.size, 0, none⟩) (Nat.le_refl _) (.int .i64 t)
  have hs3 : (w2.setCell ⟨w.heap.size, 0, none⟩ (.int .i64 t)).heap.size = w2.heap.size := by simp
  go_wp2_with fail
  refine (cell_any hL3 t).mono ?_
  rintro e w4 ⟨rfl, hg4⟩
  have hL4 := hL3.grow hg4
  have hk4 := (hg4.block w.heap.size (by omega) (by simp)).trans hk3
  have hb4 := hb3.grown hg4 hb3.size (by intro k hk; cases hk)
  have hsz4 := hg4.size
  have hcell4 := cell_of_one hk4
  clear hL hL3 hk2 hk3 hb2 hb3 hg4 hcell2 hfree2
  rcases cellOf_cases L t with ⟨hm1, hall⟩ | ⟨hsl, s, hsm, hst, hc⟩
  · rw [hm1]
    have HPN := Lib.hid (poke_none hL4 t ht0 ht1 hall)
    clear hL4 hall hgood
    go_wp2_with fail
    refine HPN.out.mono ?_
    rintro e w5 ⟨rfl, hg5⟩
    have hb5 := hb4.grown hg5 hb4.size (by intro k hk; cases hk)
    clear hg5
    go_wp2
    go_ret
    exact ⟨rfl, hb5⟩
  · have hc0 : 0 ≤ s.2 := (hgood.ok s hsm).2.2.1
    rw [hc]
    have htm : t ∈ threadsAt L s.2 := by
      unfold threadsAt
      exact List.mem_map.2 ⟨s, List.mem_filter.2 ⟨hsm, by simp⟩, hst⟩
    have her := threadsAt_erase hgood t s.2
    have hTl := threads_len hlen s.2
    have hat := at_any hL4 (by omega) s.2
    have hle : (L.eraseP (isThread t)).length ≤ 1000 := Nat.le_trans List.length_eraseP_le (by omega)
    generalize s.2 = cc at *
    obtain ⟨T, hT⟩ : ∃ T, threadsAt L cc = T := ⟨_, rfl⟩
    rw [hT] at htm her hTl hat
    have hTpos : 0 < T.length := List.length_pos_of_mem htm
    have hc0' : ¬ cc < 0 := by omega
    have HAT := Lib.hid hat
    have HER := Lib.hid her
    clear hat her hc hT htm
    go_wp2_with fail
    refine HAT.out.mono ?_
    rintro e w5 ⟨v5, rfl, hown5, hg5⟩
    obtain ⟨g5, c5, rfl, _, _⟩ := hown5.form hTpos
    have hL5 := hL4.grow hg5
    have hk5 := (hg5.block w.heap.size (by omega) (by simp)).trans hk4
    have hb5 := hb4.grown hg5 hb4.size (by intro k hk; cases hk)
    have hcell5 := cell_of_one hk5
    have hsz5 := hg5.size
    have hvlt : ∀ k, v.ownBlock = some k → k < w4.heap.size := fun k hk => (hL4.own.lt k hk).2
    have hplt := hL4.lt
    clear hL4 hk4 hb4 hg5 hcell4 HAT
    go_wp2_with fail
    refine (poke_keeps hL5 (by omega) t ht0 ht1 hsl).mono ?_
    rintro e w6 ⟨v6, rfl, hL6, hb6', hk6'⟩
    have hb6 := hb5.trans (hb6'.mono (by omega))
    have hk6 := (hb6'.block w.heap.size (by omega)).trans hk5
    have hcell6 := cell_of_one hk6
    have hown6 := own_keeps hown5 hk6' fun g hg hS => by
      have h1 := (hown5.lt g hg).1
      rcases hS with rfl | hk
      · omega
      · have := hvlt g hk.symm
        omega
    have hsz6 := hk6'.size
    clear hL5 hk5 hb5 hb6' hk6' hcell5 hown5
    have hat6 := at_any hL6 hle cc
    rw [HER.out] at hat6
    have HAT6 := Lib.hid hat6
    clear hat6 hL6 HER
    go_wp2_with fail
    refine HAT6.out.mono ?_
    rintro e w7 ⟨v7, rfl, hown7, hg7⟩
    obtain ⟨A7, c7, rfl⟩ := slice_of_own2 hown7
    have hI7 : Ints .i64 w7 w7.heap.size A7 _ _ := Ints.of_own hown7
    have hown67 := hown6.kept hg7 (.inr (by simp [Value.ownBlock]))
    have hk7 := (hg7.block w.heap.size (by omega) (by simp)).trans hk6
    have hb7 := hb6.grown hg7 hb6.size (by intro k hk; cases hk)
    have hsz7 := hg7.size
    clear hown7 hg7 hk6 hb6 hcell6 hown6 HAT6
    go_wp2_with fail
    refine (cloneI_any _ _ _ T (Ints.of_own hown67) (by omega)).mono ?_
    rintro e w8 ⟨v8, rfl, hown8, hg8⟩
    obtain ⟨g8, c8, rfl, hlo8, hlt8⟩ := hown8.form hTpos
    have hI8 := hI7.grow hg8
    have hk8 := (hg8.block w.heap.size (by omega) (by simp)).trans hk7
    have hb8 := hb7.grown hg8 hb7.size (by intro k hk; cases hk)
    have hI7lt : ∀ b off, A7 = some ⟨b, off, none⟩ → 0 < (keepI (fun x => x == t) T).length → b < w7.heap.size := fun b off e h0 => by
      obtain ⟨b', off', e', hb', _⟩ := hI7.row h0
      rw [e] at e'
      injection e' with e'
      injection e' with e1 _
      omega
    clear hk7 hb7 hown67 hI7
    have eg : ∀ args w, (callFunc 33 args).run Try.prog w = .ok (.enter 33 args) w := enters_of Try.func33 (by kernel_rfl) rfl
    have hp : PredI 33 #[.pointer (some ⟨w.heap.size, 0, none⟩)] (fun x => x == t) w8 (some g8) := fun W x hW =>
      pokec_any w.heap.size t x W ((World.cell?_of_block (a := ⟨w.heap.size, 0, none⟩) (hW.block w.heap.size (lt_of_block hk8) (by intro e; injection e with e; omega))).trans (cell_of_one hk8))
    have HD := Lib.hid (deleteFuncI_any hown8 (fun x => x == t) 33 _ eg hp)
    clear hp eg hown8 hg8
    go_wp2_with fail
    refine HD.out.mono ?_
    rintro e w9 ⟨rfl, hown9, hg9⟩
    have hI9 : Ints .i64 w9 w9.heap.size _ _ _ := Ints.of_own hown9
    have hI79 : Ints .i64 w9 w9.heap.size A7 (keepI (fun x => x == t) T).length (keepI (fun x => x == t) T) := by
      refine ⟨hI8.len, fun h0 => ?_⟩
      obtain ⟨b, off, e, hb, hc⟩ := hI8.row h0
      have hbl := hI7lt b off e h0
      exact ⟨b, off, e, Nat.lt_of_lt_of_le hb hg9.size, fun i hi => (World.cell?_of_block (a := ⟨b, off + i, none⟩) (hg9.block b hb (by intro e; injection e with e; omega))).trans (hc i hi)⟩
    have hb9 := hb8.grown hg9 hb8.size (fun k hk => by injection hk with hk; omega)
    have hRl : (keepI (fun x => x == t) T).length ≤ 60 := Nat.le_trans (List.length_filter_le _ _) hTl
    clear hI8 hk8 hb8 hg9 HD hI7lt hown9
    generalize keepI (fun x => x == t) T = R at *
    go_wp2_with fail
    refine (equalI_same _ _ _ _ _ R _ (by omega) _ hI79 hI9).mono ?_
    rintro e w10 ⟨rfl, q, rfl⟩
    have hb10 := below_drewN hb9 q
    go_wp2
    go_ret
    exact ⟨rfl, hb10⟩
end Go.Proofs.Ythjifekpefjjaaa
