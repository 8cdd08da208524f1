/-
  cell: the cell that an offset tells of, if there is one. A machine's lot: falling asleep, waking, waking for nothing.
-/
import Derived.Test.YtkmidefgmefohaaDoorMTouch
import Derived.Test.YtkmidefgmefohaaDoorMemErrO
namespace Go.Proofs.YtkmidefgmefohaaDoor
set_option maxRecDepth 100000
open Go.RowKit Go.Shelf Go.Sort

/-- What cell tells: place p, or that there is none. -/
def CellTold (p n : Int) (w : World) (e : Ending) (w' : World) : Prop :=
  w.grownBy w' none ∧ ((p < n ∧ e = .returned (.tuple #[.int .i64 p, .bool true])) ∨ (n ≤ p ∧ ∃ z, e = .returned (.tuple #[.int .i64 z, .bool false])))

set_option maxHeartbeats 2000000 in
theorem kcell_any {w : World} {B : Nat} {S : Nat → Prop} {X : KB} {m : Mach} (h : Core w B S X m) {k : Nat} (hk : k < m.progs.length) (hn3 : m.cells.length ≤ 300) (hr : ∀ v ∈ m.regs.getD k [], okU v) {tb cap : Nat} (htv : X.tv = .slice (some ⟨tb, 0, none⟩) m.progs.length cap) (op a b c d : Int) (ha0 : 0 ≤ a) (ha1 : a < m.cells.length) (hc0 : -1 ≤ c) (hc1 : c ≤ 7) :
    Calls Tryd.prog 67 #[.pointer (some ⟨X.c, 0, none⟩), .pointer (some ⟨tb, k * 11, none⟩), insV (op, a, b, c, d)] w (CellTold (placeOf a c (m.regs.getD k [])) m.cells.length w) := by
  by_cases hc : c = -1
  · subst hc
    have hp : placeOf a (-1) (m.regs.getD k []) = a := by unfold placeOf; rw [if_pos rfl]
    rw [hp]
    have HA := Lib.hid ha1
    clear h hk hn3 hr htv hp ha0 ha1 hc0 hc1
    unfold insV
    go_enter Tryd.func67, Tryd.ntmps67
    go_wp2
    go_ret2
    exact ⟨World.grownBy_alloc _ _ none, .inl ⟨HA.out, rfl⟩⟩
  · obtain ⟨j, rfl⟩ : ∃ j : Nat, c = j := ⟨c.toNat, by omega⟩
    have hj : j < 8 := by omega
    obtain ⟨c0, -⟩ := h.cells
    obtain ⟨-, -, -, hR, -⟩ := h.thread hk htv
    have cj := hR j hj
    have hv := getD_okU hr j
    have hp : placeOf a (j : Int) (m.regs.getD k []) = a + (m.regs.getD k []).getD j 0 := by
      unfold placeOf regOf
      rw [if_neg (by omega), Int.toNat_natCast]
    rw [hp]
    have hlt : tb < w.heap.size := World.block_lt_of_cell? w _ cj
    have htne : tb ≠ w.heap.size := by omega
    have hcl : X.c < w.heap.size := lt_of_block h.at_
    have hcne : X.c ≠ w.heap.size := by omega
    have hj0 : (0 : Int) ≤ (j : Int) := by omega
    have hj8 : (j : Int) < 8 := by omega
    have hjn : ¬ (j : Int) < 0 := by omega
    have HIN := Lib.hid (fun (i : Nat) (hi : i < m.cells.length) w' (hg : w.grownBy w' none) => load_in (h.grow hg).mem hi)
    have HOUT := Lib.hid (fun (i : Int) (hi : i < 0 ∨ (m.cells.length : Int) ≤ i) w' (hg : w.grownBy w' none) => load_out (h.grow hg).mem i hi)
    generalize (m.regs.getD k []).getD j 0 = v at *
    obtain ⟨v0, v1⟩ := hv
    clear h hR hr htv hp hc hk
    generalize m.cells.length = n at *
    by_cases hbig : 300 ≤ v
    · have HN := Lib.hid (show (n : Int) ≤ a + v by omega)
      clear HIN HOUT ha0 ha1 hn3 hc0 hc1
      unfold insV
      go_enter Tryd.func67, Tryd.ntmps67
      go_wp2
      go_region
      go_wp2
      go_ret2
      exact ⟨grown_d (World.grownBy_alloc _ _ none), .inr ⟨HN.out, _, rfl⟩⟩
    · have hw1 : IntKind.i64.wrap v = v := by simp [IntKind.wrap, IntKind.signed, IntKind.bits]; omega
      have hw2 : wrap64 (a + v) = a + v := by unfold wrap64; omega
      by_cases hin : a + v < n
      · obtain ⟨i, hi⟩ : ∃ i : Nat, a + v = (i : Int) := ⟨(a + v).toNat, by omega⟩
        have HL := Lib.hid (HIN.out i (by omega))
        have HN := Lib.hid (show (i : Int) < (n : Int) by omega)
        rw [hi] at hw2 ⊢
        clear HIN HOUT ha0 ha1 hn3 hc0 hc1 hin
        have HI := Lib.hid hi
        unfold insV
        go_enter Tryd.func67, Tryd.ntmps67
        go_wp2
        go_region
        go_wp2_with fail
        refine (HL.out _ (grown_d (World.grownBy_alloc _ _ none))).mono ?_
        rintro e w3 ⟨rfl, rfl⟩
        clear HL
        go_wp2
        repeat (go_region; go_wp2)
        go_ret2
        refine ⟨?_, .inl ⟨HN.out, rfl⟩⟩
        repeat (first | exact World.grownBy.refl _ none | refine grown_d ?_ | refine grown_a ?_ _)
      · obtain ⟨i, hi⟩ : ∃ i : Int, a + v = i := ⟨_, rfl⟩
        have HL := Lib.hid (HOUT.out i (by omega))
        have HN := Lib.hid (show (n : Int) ≤ i by omega)
        rw [hi] at hw2 ⊢
        clear HIN HOUT ha0 ha1 hn3 hc0 hc1 hin
        have HI := Lib.hid hi
        unfold insV
        go_enter Tryd.func67, Tryd.ntmps67
        go_wp2
        go_region
        go_wp2_with fail
        refine (HL.out _ (grown_d (World.grownBy_alloc _ _ none))).mono ?_
        rintro e w3 ⟨rfl, rfl⟩
        clear HL
        go_wp2
        repeat (go_region; go_wp2)
        go_ret2
        refine ⟨?_, .inr ⟨HN.out, _, rfl⟩⟩
        repeat (first | exact World.grownBy.refl _ none | refine grown_d ?_ | refine grown_a ?_ _)
end Go.Proofs.YtkmidefgmefohaaDoor

namespace Go.Proofs.YtkmidefgmefohaaDoor
set_option maxRecDepth 100000
open Go.RowKit Go.Shelf Go.Sort

/-- Behind a call: the machine m', by what blocks ever. -/
def Moved (w : World) (B : Nat) (S : Nat → Prop) (X : KB) (m' : Mach) (w' : World) : Prop :=
  ∃ S' X', X'.c = X.c ∧ X'.tv = X.tv ∧ Core w' B S' X' m' ∧ Since S S' w ∧ Keeps S w w'

theorem Moved.then {w w' w'' : World} {B : Nat} {S : Nat → Prop} {X : KB} {m' m'' : Mach} (h : Moved w B S X m' w') (h2 : ∀ S' X', X'.c = X.c → X'.tv = X.tv → Core w' B S' X' m' → Moved w' B S' X' m'' w'') : Moved w B S X m'' w'' := by
  obtain ⟨S', X', e1, e2, hC, hS, hK⟩ := h
  obtain ⟨S'', X'', e3, e4, hC2, hS2, hK2⟩ := h2 S' X' e1 e2 hC
  exact ⟨S'', X'', e3.trans e1, e4.trans e2, hC2, hS.trans hS2 hK.size, hK.on hS hK2⟩
theorem Moved.of {w w' : World} {B : Nat} {S : Nat → Prop} {X : KB} {m' : Mach} (h : Core w' B S X m') (hk : Keeps S w w') : Moved w B S X m' w' := ⟨S, X, rfl, rfl, h, Since.refl _ _, hk⟩
theorem Moved.grow {w w' w'' : World} {B : Nat} {S : Nat → Prop} {X : KB} {m' : Mach} (h : Moved w B S X m' w') (hg : w'.grownBy w'' none) : Moved w B S X m' w'' :=
  h.then fun _ _ _ _ hC => .of (hC.grow hg) (Keeps.of_grown hg (by intro k hk; cases hk))
theorem Moved.from {w0 w w' : World} {B : Nat} {S : Nat → Prop} {X : KB} {m' : Mach} (h : Moved w B S X m' w') (hk : Keeps S w0 w) : Moved w0 B S X m' w' := by
  obtain ⟨S', X', e1, e2, hC, hS, hK⟩ := h
  exact ⟨S', X', e1, e2, hC, fun k hs => (hS k hs).imp id (fun h => Nat.le_trans hk.size h), hk.on (Since.refl _ _) hK⟩

def SleptAt (B p : Nat) (nt : Int) (v : Value) (l : List (Int × Int)) (t c : Int) (w : World) (e : Ending) (w' : World) : Prop :=
  ∃ v', e = .returned .nilIface ∧ Lot w' B p nt v' (l ++ [(t, c)]) ∧ Below B w w' ∧ (∀ k, k < w.heap.size → k ≠ p → some k ≠ v.ownBlock → w'.heap[k]? = w.heap[k]?) ∧ (v'.ownBlock = v.ownBlock ∨ ∃ g, v'.ownBlock = some g ∧ w.heap.size ≤ g)
def PokedAt (B p : Nat) (nt : Int) (r : List (Int × Int)) (v : Value) (w : World) (e : Ending) (w' : World) : Prop :=
  ∃ v', e = .returned .nilIface ∧ Lot w' B p nt v' r ∧ Below B w w' ∧ Keeps (fun k => k = p ∨ some k = v.ownBlock) w w' ∧ v'.ownBlock = v.ownBlock

set_option maxHeartbeats 400000 in
theorem sleep_at {w : World} {B p : Nat} {nt : Int} {v : Value} {l : List (Int × Int)} (h : Lot w B p nt v l) (hB : B ≤ w.heap.size) (hsmall : l.length ≤ 1000) (t c : Int) (ht0 : 0 ≤ t) (ht1 : t < nt) (hc0 : 0 ≤ c) (hc1 : c < 300) (hs : ∀ s ∈ l, isThread t s = false) :
    Calls Tryd.prog 66 #[.pointer (some ⟨p, 0, none⟩), .int .i64 t, .int .i64 c] w (SleptAt B p nt v l t c w) := by
  obtain ⟨i0, hi, hz0, hz1, hz2⟩ := info_parts infoSl
  have hh := has_yes h t ht0 ht1
  have hf := find_any h t
  unfold Found at hf
  rw [firstAt_miss _ _ _ hs] at hf
  have hlv := slice_of_own2 h.own
  obtain ⟨A, cap, rfl⟩ := hlv
  have H := Lib.hid h
  have HH := Lib.hid hh
  have HF := Lib.hid hf
  have h1c : ∀ u ∈ [Value.int .i64 t, Value.int .i64 c], u.oneCell' = true := by
    intro u hu
    simp only [List.mem_cons, List.not_mem_nil, or_false] at hu
    rcases hu with rfl | rfl <;> rfl
  have H1C := Lib.hid h1c
  have hc0' : ¬ c < 0 := by omega
  have hc1' : ¬ 300 ≤ c := by omega
  clear h hh hf hs h1c hc0 hc1
  go_enter Tryd.func66, Tryd.ntmps66
  go_wp2_with fail
  refine HH.out.mono ?_
  rintro e w1 ⟨rfl, rfl⟩
  go_wp2_with fail
  refine HF.out.mono ?_
  rintro e w1 ⟨rfl, hg⟩
  have h1 := H.out.grow hg
  obtain ⟨_, hcell, hfz⟩ := h1.cells
  have hbel := (Below.refl B w).grown hg hB (by intro k hk; cases hk)
  have H1 := Lib.hid h1
  have HB := Lib.hid hbel
  have hp1 : p ≠ w1.heap.size := by have := h1.lt; omega
  have HGK := Lib.hid hg
  clear h1 hg H HH HF hbel
  go_wp2_with (at_builtin; refine wpList_append_own_at _ rfl (.tmp 29) (.tmp 33) 95 rfl B 107 i0 (.agg #[.int .i64 0, .int .i64 0]) 2 16 Tryd.underlying95 hi hz0 hz1 hz2 rfl (by decide) _ l.length (cells2 l) rfl ?hown ⟨w1.heap.size, 0, none⟩ 1 1 [.int .i64 t, .int .i64 c] rfl rfl ?c1 H1C.out ?c3 ?c4 ?c5 ?_)
  case hown => exact H1.out.own.alloc _
  case c1 => exact World.news_of_block (cs := #[.int .i64 t, .int .i64 c]) (heap_alloc_new w1 _)
  case c3 => unfold maxLen; omega
  case c4 => omega
  case c5 => have := HB.out.size; simp; omega
  intro v' w2 hown2 hg2 _ hat
  obtain ⟨A2, cap2, rfl⟩ := slice_of_own2 hown2
  have hap := H1.out.apart
  have hat2 : w2.heap[p]? = some (.cells #[.int .i64 nt, .slice A l.length cap] 97 (0, 0)) :=
    (hg2.block p (by have := H1.out.lt; simp; omega) (fun e => hap e.symm)).trans ((Below.heap_alloc w1 _ p H1.out.lt).trans H1.out.at_)
  have hown2' : w2.ownsRow B 107 2 (.slice A2 (l.length + 1) cap2) (l ++ [(t, c)]).length (cells2 (l ++ [(t, c)])) := by
    rw [cells2_append, List.length_append]
    exact hown2
  have hL := Lot.put hat2 H1.out.lo hown2'
  have hcell2 : w2.cell? ⟨p, 1, none⟩ = some (.slice A l.length cap) := by rw [cell_of_row w2 p 1 _ _ _ hat2]; rfl
  have hfz2 : w2.frozen? ⟨p, 1, none⟩ = false := frozen_of_row w2 p 1 _ _ hat2
  have hbel2 : Below B w (w2.setCell ⟨p, 1, none⟩ (.slice A2 (l.length + 1) cap2)) :=
    ((HB.out.alloc (Nat.le_trans hB HB.out.size) _).grown hg2 (by have := HB.out.size; simp; omega) (fun k hk => (H1.out.own.lt k hk).1)).setCell (p := ⟨p, 1, none⟩) H1.out.lo _
  have HAT := Lib.hid (show (Value.slice A2 (l.length + 1) cap2).ownBlock = (Value.slice A l.length cap).ownBlock ∨ ∃ g, (Value.slice A2 (l.length + 1) cap2).ownBlock = some g ∧ w.heap.size ≤ g from by
    rcases hat with e | e
    · exact .inl e
    · exact .inr ⟨_, e, by have := HGK.out.size; simp; omega⟩)
  have HL := Lib.hid hL
  have HB2 := Lib.hid hbel2
  have HKK := Lib.hid (show ∀ k, k < w.heap.size → k ≠ p → some k ≠ (Value.slice A l.length cap).ownBlock → (w2.setCell ⟨p, 1, none⟩ (.slice A2 (l.length + 1) cap2)).heap[k]? = w.heap[k]? from fun k hk h1 h2 => by
    have hs1 := HGK.out.size
    exact (heap_setCell_other w2 ⟨p, 1, none⟩ k _ h1).trans ((hg2.block k (by simp; omega) h2).trans ((Below.heap_alloc w1 _ k (by omega)).trans (HGK.out.block k hk (by simp)))))
  clear hL hbel2 hown2 hown2' hg2 hat hat2 hap hcell hfz HGK
  go_wp2
  go_ret
  exact ⟨_, rfl, HL.out, HB2.out, HKK.out, HAT.out⟩

/-- Those that sleep are threads, each once: so they are no more than there are. -/
theorem few_sleep : ∀ (n : Nat) (l : List Int), l.Pairwise (· ≠ ·) → (∀ x ∈ l, 0 ≤ x ∧ x < n) → l.length ≤ n
  | 0, l, _, h => by
    cases l with
    | nil => simp
    | cons x l => have := h x (by simp); omega
  | n + 1, l, hp, h => by
    have h1 := few_sleep n (l.filter fun x => !(x == (n : Int))) (hp.filter _) (fun x hx => by
      obtain ⟨hm, hne⟩ := List.mem_filter.1 hx
      have := h x hm
      have hne : x ≠ n := by simpa using hne
      omega)
    have h2 : ∀ l : List Int, l.Pairwise (· ≠ ·) → l.length ≤ (l.filter fun x => !(x == (n : Int))).length + 1 := by
      intro l
      induction l with
      | nil => intro _; simp
      | cons x l ih =>
        intro hp
        obtain ⟨hx, hp⟩ := List.pairwise_cons.1 hp
        by_cases e : x = n
        · have : l.filter (fun x => !(x == (n : Int))) = l := List.filter_eq_self.2 fun y hy => by
            have := hx y hy
            simp
            omega
          rw [List.filter_cons_of_neg (by simpa using e), this]
          simp
        · rw [List.filter_cons_of_pos (by simpa using e)]
          have := ih hp
          simp only [List.length_cons]
          omega
    have := h2 l hp
    omega
theorem MOk.lotLen {cells0 : List Int} {m : Mach} (h : MOk cells0 m) : m.lot.length ≤ m.progs.length := by
  have := few_sleep m.progs.length (m.lot.map (·.1)) (List.pairwise_map.2 h.once) (fun x hx => by
    obtain ⟨s, hs, rfl⟩ := List.mem_map.1 hx
    obtain ⟨k, e, h1, _⟩ := h.lot s hs
    omega)
  rwa [List.length_map] at this

theorem awake_all {m : Mach} {t : Int} (h : asleepM m t = false) : ∀ s ∈ m.lot, isThread t s = false := by
  intro s hs
  unfold asleepM at h
  rw [List.any_eq_false] at h
  have := h s hs
  unfold isThread
  simpa using this
theorem asleep_some {m : Mach} {t : Int} (h : asleepM m t = true) : sleeps m.lot t := by
  unfold asleepM at h
  rw [List.any_eq_true] at h
  exact h

theorem msleep {w : World} {B : Nat} {S : Nat → Prop} {X : KB} {m : Mach} (h : Core w B S X m) (hB : B ≤ w.heap.size) (hs : m.lot.length ≤ 16) (k : Nat) (hk : k < m.progs.length) (c : Int) (hc0 : 0 ≤ c) (hc1 : c < 300) (ha : asleepM m k = false) :
    Calls Tryd.prog 66 #[.pointer (some ⟨X.lb, 0, none⟩), .int .i64 k, .int .i64 c] w fun e w' => e = .returned .nilIface ∧ Moved w B S X { m with lot := m.lot ++ [((k : Int), c)] } w' := by
  refine (sleep_at h.lot hB (by omega) k c (by omega) (by omega) hc0 hc1 (awake_all ha)).mono ?_
  rintro e w' ⟨v', rfl, hL, hb, hkk, hv⟩
  have hk2 : Keeps (fun k => k = X.lb ∨ some k = X.lv.ownBlock) w w' := ⟨hb.os, hb.tape, hb.output, hb.size, fun i hi hn => hkk i hi (fun e => hn (.inl e)) (fun e => hn (.inr e))⟩
  obtain ⟨h1, h2, h3⟩ := h.setLot hL hk2 (fun g hg => by
    rcases hv with e | ⟨g', e, hg'⟩
    · exact .inl (h.sv X.lv (by simp) g (by rw [← e]; exact hg))
    · rw [e] at hg; injection hg with hg; exact .inr (by omega))
  exact ⟨rfl, _, { X with lv := v' }, rfl, rfl, h1, h3, h2⟩

end Go.Proofs.YtkmidefgmefohaaDoor
