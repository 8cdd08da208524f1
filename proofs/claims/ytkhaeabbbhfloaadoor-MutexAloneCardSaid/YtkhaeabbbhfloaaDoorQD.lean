/-
  cell: the cell that an offset tells of, if there is one. A machine's lot: falling asleep, waking, waking for nothing. wait: a thread falls asleep, if the cell has what the register has; waking by the machine. reach: what is done at a cell that may hang on a register. What instructions come to, group by group: a machine behind each of the functions that do calls. do: a thread's instruction.
-/
import Derived.Test.YtkhaeabbbhfloaaDoorQC3
namespace Go.Proofs.YtkhaeabbbhfloaaDoor
set_option maxRecDepth 100000
open Go.RowKit Go.Shelf Go.Sort

/-- What cell tells: place p, or that there is none. -/
def CellTold (p n : Int) (w : World) (e : Ending) (w' : World) : Prop :=
  w.grownBy w' none ∧ ((p < n ∧ e = .returned (.tuple #[.int .i64 p, .bool true])) ∨ (n ≤ p ∧ ∃ z, e = .returned (.tuple #[.int .i64 z, .bool false])))

set_option maxHeartbeats 2000000 in
theorem kcell_any {w : World} {B : Nat} {S : Nat → Prop} {X : KB} {m : Mach} (h : Core w B S X m) {k : Nat} (hk : k < m.progs.length) (hn3 : m.cells.length ≤ 300) (hr : ∀ v ∈ m.regs.getD k [], okU v) {tb cap : Nat} (htv : X.tv = .slice (some ⟨tb, 0, none⟩) m.progs.length cap) (op a b c d : Int) (ha0 : 0 ≤ a) (ha1 : a < m.cells.length) (hc0 : -1 ≤ c) (hc1 : c ≤ 7) :
    Calls Tryd.prog 73 #[.pointer (some ⟨X.c, 0, none⟩), .pointer (some ⟨tb, k * 11, none⟩), insV (op, a, b, c, d)] w (CellTold (placeOf a c (m.regs.getD k [])) m.cells.length w) := by
  by_cases hc : c = -1
  · subst hc
    have hp : placeOf a (-1) (m.regs.getD k []) = a := by unfold placeOf; rw [if_pos rfl]
    rw [hp]
    have HA := Lib.hid ha1
    clear h hk hn3 hr htv hp ha0 ha1 hc0 hc1
    unfold insV
    go_enter Tryd.func73, Tryd.ntmps73
    go_wp2
    go_ret2
    exact ⟨World.grownBy_alloc _ _ none, .inl ⟨HA.out, rfl⟩⟩
  · obtain ⟨j, rfl⟩ : ∃ j : Nat, c = j := ⟨c.toNat, by omega⟩
    have hj : j < 8 := by omega
    obtain ⟨c0, -⟩ := h.cells
    obtain ⟨-, -, -, hR, -⟩ := h.thread hk htv
    have cj := hR j hj
    have hv := getD_okU hr j
    have hp : placeOf a (j : Int) (m.regs.getD k []) = a + (m.regs.getD k []).getD j 0 := by
      unfold placeOf regOf
      rw [if_neg (by omega), Int.toNat_natCast]
    rw [hp]
    have hlt : tb < w.heap.size := World.block_lt_of_cell? w _ cj
    have htne : tb ≠ w.heap.size := by omega
    have hcl : X.c < w.heap.size := lt_of_block h.at_
    have hcne : X.c ≠ w.heap.size := by omega
    have hj0 : (0 : Int) ≤ (j : Int) := by omega
    have hj8 : (j : Int) < 8 := by omega
    have hjn : ¬ (j : Int) < 0 := by omega
    have HIN := Lib.hid (fun (i : Nat) (hi : i < m.cells.length) w' (hg : w.grownBy w' none) => load_in (h.grow hg).mem hi)
    have HOUT := Lib.hid (fun (i : Int) (hi : i < 0 ∨ (m.cells.length : Int) ≤ i) w' (hg : w.grownBy w' none) => load_out (h.grow hg).mem i hi)
    generalize (m.regs.getD k []).getD j 0 = v at *
    obtain ⟨v0, v1⟩ := hv
    clear h hR hr htv hp hc hk
    generalize m.cells.length = n at *
    by_cases hbig : 300 ≤ v
    · have HN := Lib.hid (show (n : Int) ≤ a + v by omega)
      clear HIN HOUT ha0 ha1 hn3 hc0 hc1
      unfold insV
      go_enter Tryd.func73, Tryd.ntmps73
      go_wp2
      go_region
      go_wp2
      go_ret2
      exact ⟨grown_d (World.grownBy_alloc _ _ none), .inr ⟨HN.out, _, rfl⟩⟩
    · have hw1 : IntKind.i64.wrap v = v := by simp [IntKind.wrap, IntKind.signed, IntKind.bits]; omega
      have hw2 : wrap64 (a + v) = a + v := by unfold wrap64; omega
      by_cases hin : a + v < n
      · obtain ⟨i, hi⟩ : ∃ i : Nat, a + v = (i : Int) := ⟨(a + v).toNat, by omega⟩
        have HL := Lib.hid (HIN.out i (by omega))
        have HN := Lib.hid (show (i : Int) < (n : Int) by omega)
        rw [hi] at hw2 ⊢
        clear HIN HOUT ha0 ha1 hn3 hc0 hc1 hin
        have HI := Lib.hid hi
        unfold insV
        go_enter Tryd.func73, Tryd.ntmps73
        go_wp2
        go_region
        go_wp2_with fail
        refine (HL.out _ (grown_d (World.grownBy_alloc _ _ none))).mono ?_
        rintro e w3 ⟨rfl, rfl⟩
        clear HL
        go_wp2
        repeat (go_region; go_wp2)
        go_ret2
        refine ⟨?_, .inl ⟨HN.out, rfl⟩⟩
        repeat (first | exact World.grownBy.refl _ none | refine grown_d ?_ | refine grown_a ?_ _)
      · obtain ⟨i, hi⟩ : ∃ i : Int, a + v = i := ⟨_, rfl⟩
        have HL := Lib.hid (HOUT.out i (by omega))
        have HN := Lib.hid (show (n : Int) ≤ i by omega)
        rw [hi] at hw2 ⊢
        clear HIN HOUT ha0 ha1 hn3 hc0 hc1 hin
        have HI := Lib.hid hi
        unfold insV
        go_enter Tryd.func73, Tryd.ntmps73
        go_wp2
        go_region
        go_wp2_with fail
        refine (HL.out _ (grown_d (World.grownBy_alloc _ _ none))).mono ?_
        rintro e w3 ⟨rfl, rfl⟩
        clear HL
        go_wp2
        repeat (go_region; go_wp2)
        go_ret2
        refine ⟨?_, .inr ⟨HN.out, _, rfl⟩⟩
        repeat (first | exact World.grownBy.refl _ none | refine grown_d ?_ | refine grown_a ?_ _)
end Go.Proofs.YtkhaeabbbhfloaaDoor

namespace Go.Proofs.YtkhaeabbbhfloaaDoor
set_option maxRecDepth 100000
open Go.RowKit Go.Shelf Go.Sort

/-- Behind a call: the machine m', by what blocks ever. -/
def Moved (w : World) (B : Nat) (S : Nat → Prop) (X : KB) (m' : Mach) (w' : World) : Prop :=
  ∃ S' X', X'.c = X.c ∧ X'.tv = X.tv ∧ Core w' B S' X' m' ∧ Since S S' w ∧ Keeps S w w'

theorem Moved.then {w w' w'' : World} {B : Nat} {S : Nat → Prop} {X : KB} {m' m'' : Mach} (h : Moved w B S X m' w') (h2 : ∀ S' X', X'.c = X.c → X'.tv = X.tv → Core w' B S' X' m' → Moved w' B S' X' m'' w'') : Moved w B S X m'' w'' := by
  obtain ⟨S', X', e1, e2, hC, hS, hK⟩ := h
  obtain ⟨S'', X'', e3, e4, hC2, hS2, hK2⟩ := h2 S' X' e1 e2 hC
  exact ⟨S'', X'', e3.trans e1, e4.trans e2, hC2, hS.trans hS2 hK.size, hK.on hS hK2⟩
theorem Moved.of {w w' : World} {B : Nat} {S : Nat → Prop} {X : KB} {m' : Mach} (h : Core w' B S X m') (hk : Keeps S w w') : Moved w B S X m' w' := ⟨S, X, rfl, rfl, h, Since.refl _ _, hk⟩
theorem Moved.grow {w w' w'' : World} {B : Nat} {S : Nat → Prop} {X : KB} {m' : Mach} (h : Moved w B S X m' w') (hg : w'.grownBy w'' none) : Moved w B S X m' w'' :=
  h.then fun _ _ _ _ hC => .of (hC.grow hg) (Keeps.of_grown hg (by intro k hk; cases hk))
theorem Moved.from {w0 w w' : World} {B : Nat} {S : Nat → Prop} {X : KB} {m' : Mach} (h : Moved w B S X m' w') (hk : Keeps S w0 w) : Moved w0 B S X m' w' := by
  obtain ⟨S', X', e1, e2, hC, hS, hK⟩ := h
  exact ⟨S', X', e1, e2, hC, fun k hs => (hS k hs).imp id (fun h => Nat.le_trans hk.size h), hk.on (Since.refl _ _) hK⟩

def SleptAt (B p : Nat) (nt : Int) (v : Value) (l : List (Int × Int)) (t c : Int) (w : World) (e : Ending) (w' : World) : Prop :=
  ∃ v', e = .returned .nilIface ∧ Lot w' B p nt v' (l ++ [(t, c)]) ∧ Below B w w' ∧ (∀ k, k < w.heap.size → k ≠ p → some k ≠ v.ownBlock → w'.heap[k]? = w.heap[k]?) ∧ (v'.ownBlock = v.ownBlock ∨ ∃ g, v'.ownBlock = some g ∧ w.heap.size ≤ g)
def PokedAt (B p : Nat) (nt : Int) (r : List (Int × Int)) (v : Value) (w : World) (e : Ending) (w' : World) : Prop :=
  ∃ v', e = .returned .nilIface ∧ Lot w' B p nt v' r ∧ Below B w w' ∧ Keeps (fun k => k = p ∨ some k = v.ownBlock) w w' ∧ v'.ownBlock = v.ownBlock

set_option maxHeartbeats 400000 in
theorem sleep_at {w : World} {B p : Nat} {nt : Int} {v : Value} {l : List (Int × Int)} (h : Lot w B p nt v l) (hB : B ≤ w.heap.size) (hsmall : l.length ≤ 1000) (t c : Int) (ht0 : 0 ≤ t) (ht1 : t < nt) (hc0 : 0 ≤ c) (hc1 : c < 300) (hs : ∀ s ∈ l, isThread t s = false) :
    Calls Tryd.prog 72 #[.pointer (some ⟨p, 0, none⟩), .int .i64 t, .int .i64 c] w (SleptAt B p nt v l t c w) := by
  obtain ⟨i0, hi, hz0, hz1, hz2⟩ := info_parts infoSl
  have hh := has_yes h t ht0 ht1
  have hf := find_any h t
  unfold Found at hf
  rw [firstAt_miss _ _ _ hs] at hf
  have hlv := slice_of_own2 h.own
  obtain ⟨A, cap, rfl⟩ := hlv
  have H := Lib.hid h
  have HH := Lib.hid hh
  have HF := Lib.hid hf
  have h1c : ∀ u ∈ [Value.int .i64 t, Value.int .i64 c], u.oneCell' = true := by
    intro u hu
    simp only [List.mem_cons, List.not_mem_nil, or_false] at hu
    rcases hu with rfl | rfl <;> rfl
  have H1C := Lib.hid h1c
  have hc0' : ¬ c < 0 := by omega
  have hc1' : ¬ 300 ≤ c := by omega
  clear h hh hf hs h1c hc0 hc1
  go_enter Tryd.func72, Tryd.ntmps72
  go_wp2_with fail
  refine HH.out.mono ?_
  rintro e w1 ⟨rfl, rfl⟩
  go_wp2_with fail
  refine HF.out.mono ?_
  rintro e w1 ⟨rfl, hg⟩
  have h1 := H.out.grow hg
  obtain ⟨_, hcell, hfz⟩ := h1.cells
  have hbel := (Below.refl B w).grown hg hB (by intro k hk; cases hk)
  have H1 := Lib.hid h1
  have HB := Lib.hid hbel
  have hp1 : p ≠ w1.heap.size := by have := h1.lt; omega
  have HGK := Lib.hid hg
  clear h1 hg H HH HF hbel
  go_wp2_with (at_builtin; refine wpList_append_own_at _ rfl (.tmp 29) (.tmp 33) 102 rfl B 113 i0 (.agg #[.int .i64 0, .int .i64 0]) 2 16 Tryd.underlying102 hi hz0 hz1 hz2 rfl (by decide) _ l.length (cells2 l) rfl ?hown ⟨w1.heap.size, 0, none⟩ 1 1 [.int .i64 t, .int .i64 c] rfl rfl ?c1 H1C.out ?c3 ?c4 ?c5 ?_)
  case hown => exact H1.out.own.alloc _
  case c1 => exact World.news_of_block (cs := #[.int .i64 t, .int .i64 c]) (heap_alloc_new w1 _)
  case c3 => unfold maxLen; omega
  case c4 => omega
  case c5 => have := HB.out.size; simp; omega
  intro v' w2 hown2 hg2 _ hat
  obtain ⟨A2, cap2, rfl⟩ := slice_of_own2 hown2
  have hap := H1.out.apart
  have hat2 : w2.heap[p]? = some (.cells #[.int .i64 nt, .slice A l.length cap] 104 (0, 0)) :=
    (hg2.block p (by have := H1.out.lt; simp; omega) (fun e => hap e.symm)).trans ((Below.heap_alloc w1 _ p H1.out.lt).trans H1.out.at_)
  have hown2' : w2.ownsRow B 113 2 (.slice A2 (l.length + 1) cap2) (l ++ [(t, c)]).length (cells2 (l ++ [(t, c)])) := by
    rw [cells2_append, List.length_append]
    exact hown2
  have hL := Lot.put hat2 H1.out.lo hown2'
  have hcell2 : w2.cell? ⟨p, 1, none⟩ = some (.slice A l.length cap) := by rw [cell_of_row w2 p 1 _ _ _ hat2]; rfl
  have hfz2 : w2.frozen? ⟨p, 1, none⟩ = false := frozen_of_row w2 p 1 _ _ hat2
  have hbel2 : Below B w (w2.setCell ⟨p, 1, none⟩ (.slice A2 (l.length + 1) cap2)) :=
    ((HB.out.alloc (Nat.le_trans hB HB.out.size) _).grown hg2 (by have := HB.out.size; simp; omega) (fun k hk => (H1.out.own.lt k hk).1)).setCell (p := ⟨p, 1, none⟩) H1.out.lo _
  have HAT := Lib.hid (show (Value.slice A2 (l.length + 1) cap2).ownBlock = (Value.slice A l.length cap).ownBlock ∨ ∃ g, (Value.slice A2 (l.length + 1) cap2).ownBlock = some g ∧ w.heap.size ≤ g from by
    rcases hat with e | e
    · exact .inl e
    · exact .inr ⟨_, e, by have := HGK.out.size; simp; omega⟩)
  have HL := Lib.hid hL
  have HB2 := Lib.hid hbel2
  have HKK := Lib.hid (show ∀ k, k < w.heap.size → k ≠ p → some k ≠ (Value.slice A l.length cap).ownBlock → (w2.setCell ⟨p, 1, none⟩ (.slice A2 (l.length + 1) cap2)).heap[k]? = w.heap[k]? from fun k hk h1 h2 => by
    have hs1 := HGK.out.size
    exact (heap_setCell_other w2 ⟨p, 1, none⟩ k _ h1).trans ((hg2.block k (by simp; omega) h2).trans ((Below.heap_alloc w1 _ k (by omega)).trans (HGK.out.block k hk (by simp)))))
  clear hL hbel2 hown2 hown2' hg2 hat hat2 hap hcell hfz HGK
  go_wp2
  go_ret
  exact ⟨_, rfl, HL.out, HB2.out, HKK.out, HAT.out⟩

set_option maxHeartbeats 1000000 in
theorem poke_at {w : World} {B p : Nat} {nt : Int} {v : Value} {l : List (Int × Int)} (h : Lot w B p nt v l) (hB : B ≤ w.heap.size) (t : Int) (ht0 : 0 ≤ t) (ht1 : t < nt) (hs : sleeps l t) :
    Calls Tryd.prog 42 #[.pointer (some ⟨p, 0, none⟩), .int .i64 t] w (PokedAt B p nt (l.eraseP (isThread t)) v w) := by
  have hh := has_yes h t ht0 ht1
  have hf := find_any h t
  unfold Found at hf
  obtain ⟨k, hk, hke, hpk, _, hpj⟩ : ∃ k, k < l.length ∧ firstAt (isThread t) l 0 = (k : Int) ∧ isThread t (l.getD k default) = true ∧ l.find? (isThread t) = some (l.getD k default) ∧ ∀ j, j < k → isThread t (l.getD j default) = false := by
    rcases firstAt_cases (isThread t) l with ⟨_, hall⟩ | h
    · obtain ⟨s, hm, he⟩ := hs
      rw [hall s hm] at he
      cases he
    · exact h
  rw [hke] at hf
  rw [eraseP_at _ _ _ hk hpk hpj]
  obtain ⟨g, cap, rfl, hbg, _, _, _⟩ := h.form hk
  have hlen : l.length ≤ 9223372036854775807 := h.row2.len
  have hkn : (k : Int) < (l.length : Int) := by omega
  have hk0 : ¬ (k : Int) < 0 := by omega
  have H := Lib.hid h
  have HH := Lib.hid hh
  have HF := Lib.hid hf
  clear h hh hf hs hke hpk hpj
  go_enter Tryd.func42, Tryd.ntmps42
  go_wp2_with fail
  refine HH.out.mono ?_
  rintro e w1 ⟨rfl, rfl⟩
  go_wp2_with fail
  refine HF.out.mono ?_
  rintro e w1 ⟨rfl, hg⟩
  have h1 := H.out.grow hg
  obtain ⟨_, hcell, hfz⟩ := h1.cells
  have hbel := (Below.refl B w).grown hg hB (by intro k hk; cases hk)
  have H1 := Lib.hid h1
  have HB := Lib.hid hbel
  have HG0 := Lib.hid hg
  clear h1 hg H HH HF hbel
  go_wp2_with fail
  refine (deleteS_any H1.out.own k hk).mono ?_
  rintro e w2 ⟨rfl, hown2, hg2⟩
  have hap := H1.out.apart
  have hat2 : w2.heap[p]? = some (.cells #[.int .i64 nt, .slice (some ⟨g, 0, none⟩) l.length cap] 104 (0, 0)) :=
    (hg2.block p H1.out.lt (fun e => hap e.symm)).trans H1.out.at_
  have hL := Lot.put hat2 H1.out.lo hown2
  have hcell2 : w2.cell? ⟨p, 1, none⟩ = some (.slice (some ⟨g, 0, none⟩) l.length cap) := by rw [cell_of_row w2 p 1 _ _ _ hat2]; rfl
  have hfz2 : w2.frozen? ⟨p, 1, none⟩ = false := frozen_of_row w2 p 1 _ _ hat2
  have hbel2 : Below B w (w2.setCell ⟨p, 1, none⟩ (.slice (some ⟨g, 0, none⟩) (l.eraseIdx k).length cap)) :=
    (HB.out.grown hg2 (Nat.le_trans hB HB.out.size) (fun j hj => by injection hj with hj; omega)).setCell (p := ⟨p, 1, none⟩) H1.out.lo _
  have hkeep : Keeps (fun k => k = p ∨ some k = (Value.slice (some ⟨g, 0, none⟩) l.length cap).ownBlock) w (w2.setCell ⟨p, 1, none⟩ (.slice (some ⟨g, 0, none⟩) (l.eraseIdx k).length cap)) :=
    ((Keeps.of_grown HG0.out (by intro k hk; cases hk)).trans (Keeps.of_grown hg2 (fun k hk => .inr hk.symm))).setCell _ (.inl rfl) _
  have HL := Lib.hid hL
  have HB2 := Lib.hid hbel2
  have HK := Lib.hid hkeep
  clear hL hbel2 hkeep hown2 hg2 hat2 hap hcell hfz
  go_wp2
  go_ret
  exact ⟨_, rfl, HL.out, HB2.out, HK.out, rfl⟩


/-- Those that sleep are threads, each once: so they are no more than there are. -/
theorem few_sleep : ∀ (n : Nat) (l : List Int), l.Pairwise (· ≠ ·) → (∀ x ∈ l, 0 ≤ x ∧ x < n) → l.length ≤ n
  | 0, l, _, h => by
    cases l with
    | nil => simp
    | cons x l => have := h x (by simp); omega
  | n + 1, l, hp, h => by
    have h1 := few_sleep n (l.filter fun x => !(x == (n : Int))) (hp.filter _) (fun x hx => by
      obtain ⟨hm, hne⟩ := List.mem_filter.1 hx
      have := h x hm
      have hne : x ≠ n := by simpa using hne
      omega)
    have h2 : ∀ l : List Int, l.Pairwise (· ≠ ·) → l.length ≤ (l.filter fun x => !(x == (n : Int))).length + 1 := by
      intro l
      induction l with
      | nil => intro _; simp
      | cons x l ih =>
        intro hp
        obtain ⟨hx, hp⟩ := List.pairwise_cons.1 hp
        by_cases e : x = n
        · have : l.filter (fun x => !(x == (n : Int))) = l := List.filter_eq_self.2 fun y hy => by
            have := hx y hy
            simp
            omega
          rw [List.filter_cons_of_neg (by simpa using e), this]
          simp
        · rw [List.filter_cons_of_pos (by simpa using e)]
          have := ih hp
          simp only [List.length_cons]
          omega
    have := h2 l hp
    omega
theorem MOk.lotLen {cells0 : List Int} {m : Mach} (h : MOk cells0 m) : m.lot.length ≤ m.progs.length := by
  have := few_sleep m.progs.length (m.lot.map (·.1)) (List.pairwise_map.2 h.once) (fun x hx => by
    obtain ⟨s, hs, rfl⟩ := List.mem_map.1 hx
    obtain ⟨k, e, h1, _⟩ := h.lot s hs
    omega)
  rwa [List.length_map] at this

theorem awake_all {m : Mach} {t : Int} (h : asleepM m t = false) : ∀ s ∈ m.lot, isThread t s = false := by
  intro s hs
  unfold asleepM at h
  rw [List.any_eq_false] at h
  have := h s hs
  unfold isThread
  simpa using this
theorem asleep_some {m : Mach} {t : Int} (h : asleepM m t = true) : sleeps m.lot t := by
  unfold asleepM at h
  rw [List.any_eq_true] at h
  exact h

theorem msleep {w : World} {B : Nat} {S : Nat → Prop} {X : KB} {m : Mach} (h : Core w B S X m) (hB : B ≤ w.heap.size) (hs : m.lot.length ≤ 16) (k : Nat) (hk : k < m.progs.length) (c : Int) (hc0 : 0 ≤ c) (hc1 : c < 300) (ha : asleepM m k = false) :
    Calls Tryd.prog 72 #[.pointer (some ⟨X.lb, 0, none⟩), .int .i64 k, .int .i64 c] w fun e w' => e = .returned .nilIface ∧ Moved w B S X { m with lot := m.lot ++ [((k : Int), c)] } w' := by
  refine (sleep_at h.lot hB (by omega) k c (by omega) (by omega) hc0 hc1 (awake_all ha)).mono ?_
  rintro e w' ⟨v', rfl, hL, hb, hkk, hv⟩
  have hk2 : Keeps (fun k => k = X.lb ∨ some k = X.lv.ownBlock) w w' := ⟨hb.os, hb.tape, hb.output, hb.size, fun i hi hn => hkk i hi (fun e => hn (.inl e)) (fun e => hn (.inr e))⟩
  obtain ⟨h1, h2, h3⟩ := h.setLot hL hk2 (fun g hg => by
    rcases hv with e | ⟨g', e, hg'⟩
    · exact .inl (h.sv X.lv (by simp) g (by rw [← e]; exact hg))
    · rw [e] at hg; injection hg with hg; exact .inr (by omega))
  exact ⟨rfl, _, { X with lv := v' }, rfl, rfl, h1, h3, h2⟩

theorem mpoke {w : World} {B : Nat} {S : Nat → Prop} {X : KB} {m : Mach} (h : Core w B S X m) (hB : B ≤ w.heap.size) (t : Int) (h0 : 0 ≤ t) (h1 : t < m.progs.length) (ha : asleepM m t = true) :
    Calls Tryd.prog 42 #[.pointer (some ⟨X.lb, 0, none⟩), .int .i64 t] w fun e w' => e = .returned .nilIface ∧ Moved w B S X { m with lot := m.lot.eraseP fun s => s.1 == t } w' := by
  refine (poke_at h.lot hB t h0 h1 (asleep_some ha)).mono ?_
  rintro e w' ⟨v', rfl, hL, hb, hk2, hv⟩
  obtain ⟨h1, h2, h3⟩ := h.setLot hL hk2 (fun g hg => .inl (h.sv X.lv (by simp) g (by rw [← hv]; exact hg)))
  exact ⟨rfl, _, { X with lv := v' }, rfl, rfl, h1, h3, h2⟩
end Go.Proofs.YtkhaeabbbhfloaaDoor

namespace Go.Proofs.YtkhaeabbbhfloaaDoor
set_option maxRecDepth 100000
open Go.RowKit Go.Shelf Go.Sort
set_option linter.unusedVariables false

theorem take_min_len {α : Type} (n : Nat) (l : List α) : l.take (min n l.length) = l.take n := by
  rcases Nat.le_total n l.length with h | h
  · rw [Nat.min_eq_left h]
  · rw [Nat.min_eq_right h, List.take_of_length_le (Nat.le_refl _), List.take_of_length_le h]

theorem mwake {w : World} {B : Nat} {S : Nat → Prop} {X : KB} {m : Mach} (h : Core w B S X m) (hs : m.lot.length ≤ 16) (hp : m.lot.Pairwise fun a b => a.1 ≠ b.1) (c n : Int) :
    Calls Tryd.prog 74 #[.pointer (some ⟨X.lb, 0, none⟩), .int .i64 c, .int .i64 n] w fun e w' => (∃ A l c, e = .returned (.slice A l c)) ∧ Moved w B S X { m with lot := wakeL m.lot c n.toNat } w' := by
  refine (wake_any h.lot (by omega) c n).mono ?_
  rintro e w' ⟨v', A, cc, rfl, -, hL, hk2, hv, -⟩
  have he : rest m.lot ((threadsAt m.lot c).take (wakeN n (threadsAt m.lot c))) = wakeL m.lot c n.toNat := by
    unfold wakeN
    rw [take_min_len, ← wakeL_filter c m.lot n.toNat hp]
    rfl
  rw [he] at hL
  obtain ⟨h1, h2, h3⟩ := h.setLot hL hk2 (fun g hg => .inl (h.sv X.lv (by simp) g (by rw [← hv]; exact hg)))
  exact ⟨⟨_, _, _, rfl⟩, _, { X with lv := v' }, rfl, rfl, h1, h3, h2⟩

set_option maxHeartbeats 2000000 in
theorem wait_yes {w : World} {B : Nat} {S : Nat → Prop} {X : KB} {m : Mach} (h : Core w B S X m) (hB : B ≤ w.heap.size) (hs : m.lot.length ≤ 16) {k : Nat} (hk : k < m.progs.length) (a : Nat) (ha : a < m.cells.length) (ha3 : a < 300) (b : Nat) (hb : b < 8) (c d : Int) (hsl : asleepM m k = false) (he0 : m.cells.getD a 0 = (m.regs.getD k []).getD b 0) :
    Calls Tryd.prog 52 #[.pointer (some ⟨X.c, 0, none⟩), .int .i64 k, insV (14, (a : Int), (b : Int), c, d)] w fun e w' => e = .returned (.tuple #[]) ∧ Moved w B S X { m with lot := m.lot ++ [((k : Int), (a : Int))] } w' := by
  obtain ⟨tb, cap, htv, -, htb⟩ := h.tform (by omega)
  obtain ⟨c0, c1, c2, -⟩ := h.cells
  obtain ⟨-, -, -, hR, -⟩ := h.thread hk htv
  have cb := hR b hb
  rw [htv] at c2
  have hkn : (k : Int) < (m.progs.length : Int) := by omega
  have hb0 : (0 : Int) ≤ (b : Int) := by omega
  have hb8 : (b : Int) < 8 := by omega
  have hcl : X.c < w.heap.size := lt_of_block h.at_
  have hcne : X.c ≠ w.heap.size := by omega
  have htne : tb ≠ w.heap.size := by omega
  have HL := Lib.hid (fun w' (hg : w.grownBy w' none) => load_in (h.grow hg).mem ha)
  have HS := Lib.hid (fun w' (hg : w.grownBy w' none) => (msleep (h.grow hg) (Nat.le_trans hB hg.size) hs k hk a (by omega) (by omega) hsl).mono (R' := fun e w'' => e = .returned .nilIface ∧ Moved w B S X { m with lot := m.lot ++ [((k : Int), (a : Int))] } w'') fun e w'' ⟨he, hM⟩ => ⟨he, hM.from (Keeps.of_grown hg (by intro k hk; cases hk))⟩)
  rw [he0] at HL
  obtain ⟨P, hP⟩ : ∃ P, P = fun w' => Moved w B S X { m with lot := m.lot ++ [((k : Int), (a : Int))] } w' := ⟨_, rfl⟩
  have HP := Lib.hid (fun w' (hm : Moved w B S X { m with lot := m.lot ++ [((k : Int), (a : Int))] } w') w'' (hg : w'.grownBy w'' none) => hm.grow hg)
  generalize (m.regs.getD k []).getD b 0 = v at *
  have hvv : (v == v) = true := by simp
  generalize m.progs.length = n at *
  obtain ⟨M, hM⟩ : ∃ M : World → Prop, M = Moved w B S X { m with lot := m.lot ++ [((k : Int), (a : Int))] } := ⟨_, rfl⟩
  rw [← hM] at HS HP ⊢
  clear hM hP P h hR ha ha3 he0 hsl hs hB htv hk
  unfold insV
  go_enter Tryd.func52, Tryd.ntmps52
  go_wp2_with fail
  have HXB := Lib.hid (show (w.alloc (.cells #[.int .i64 14, .int .i64 a, .int .i64 b, .int .i64 c, .int .i64 d] 89)).drew.heap[w.heap.size]? = some (.cells #[.int .i64 14, .int .i64 a, .int .i64 b, .int .i64 c, .int .i64 d] 89 (0, 0)) from heap_alloc_new w _)
  have y0 : (w.alloc (.cells #[.int .i64 14, .int .i64 a, .int .i64 b, .int .i64 c, .int .i64 d] 89)).drew.cell? ⟨X.c, 0, none⟩ = some (.pointer (some ⟨X.mb, 0, none⟩)) := (World.cell?_alloc_lt w _ ⟨X.c, 0, none⟩ hcl).trans c0
  obtain ⟨-, y1, -⟩ := ins_cell (x := (14, (a : Int), (b : Int), c, d)) HXB.out
  go_region_held3 (fun u => u.cell? ⟨X.c, 0, none⟩ = some (.pointer (some ⟨X.mb, 0, none⟩)) ∧ u.cell? ⟨w.heap.size, 1, none⟩ = some (.int .i64 a)) (first | exact ⟨y0, y1⟩) (first
    | (go_at_call 68; refine (HL.out _ (grown_d (World.grownBy_alloc _ _ none))).mono ?_; rintro e w3 ⟨rfl, rfl⟩))
  clear y0 y1 HXB
  go_wp2
  go_region
  go_wp2_with fail
  have y2 : (w.alloc (.cells #[.int .i64 14, .int .i64 a, .int .i64 b, .int .i64 c, .int .i64 d] 89)).cell? ⟨X.c, 1, none⟩ = some (.pointer (some ⟨X.lb, 0, none⟩)) := (World.cell?_alloc_lt w _ ⟨X.c, 1, none⟩ hcl).trans c1
  go_region_with (first
    | (go_at_call 72; refine (HS.out _ (grown_d (grown_d (grown_d (World.grownBy_alloc _ _ none))))).mono ?_; rintro e w3 ⟨rfl, hM⟩))
  all_goals
    have HM := Lib.hid hM
    clear hM HS HL HP
    go_wp2
    go_end0
    exact ⟨rfl, HM.out⟩

set_option maxHeartbeats 2000000 in
theorem wait_no {w : World} {B : Nat} {S : Nat → Prop} {X : KB} {m : Mach} (h : Core w B S X m) {k : Nat} (hk : k < m.progs.length) (a : Nat) (ha : a < m.cells.length) (b : Nat) (hb : b < 8) (c d : Int) (he0 : m.cells.getD a 0 ≠ (m.regs.getD k []).getD b 0) :
    Calls Tryd.prog 52 #[.pointer (some ⟨X.c, 0, none⟩), .int .i64 k, insV (14, (a : Int), (b : Int), c, d)] w fun e w' => e = .returned (.tuple #[]) ∧ w.grownBy w' none := by
  obtain ⟨tb, cap, htv, -, htb⟩ := h.tform (by omega)
  obtain ⟨c0, c1, c2, -⟩ := h.cells
  obtain ⟨-, -, -, hR, -⟩ := h.thread hk htv
  have cb := hR b hb
  rw [htv] at c2
  have hkn : (k : Int) < (m.progs.length : Int) := by omega
  have hb0 : (0 : Int) ≤ (b : Int) := by omega
  have hb8 : (b : Int) < 8 := by omega
  have hcl : X.c < w.heap.size := lt_of_block h.at_
  have hcne : X.c ≠ w.heap.size := by omega
  have htne : tb ≠ w.heap.size := by omega
  have HL := Lib.hid (fun w' (hg : w.grownBy w' none) => load_in (h.grow hg).mem ha)
  generalize m.cells.getD a 0 = old at *
  generalize (m.regs.getD k []).getD b 0 = v at *
  have hvv : (old == v) = false := beq_eq_false_iff_ne.2 he0
  generalize m.progs.length = n at *
  clear h hR ha he0 htv hk
  unfold insV
  go_enter Tryd.func52, Tryd.ntmps52
  go_wp2_with fail
  have HXB := Lib.hid (show (w.alloc (.cells #[.int .i64 14, .int .i64 a, .int .i64 b, .int .i64 c, .int .i64 d] 89)).drew.heap[w.heap.size]? = some (.cells #[.int .i64 14, .int .i64 a, .int .i64 b, .int .i64 c, .int .i64 d] 89 (0, 0)) from heap_alloc_new w _)
  have y0 : (w.alloc (.cells #[.int .i64 14, .int .i64 a, .int .i64 b, .int .i64 c, .int .i64 d] 89)).drew.cell? ⟨X.c, 0, none⟩ = some (.pointer (some ⟨X.mb, 0, none⟩)) := (World.cell?_alloc_lt w _ ⟨X.c, 0, none⟩ hcl).trans c0
  obtain ⟨-, y1, -⟩ := ins_cell (x := (14, (a : Int), (b : Int), c, d)) HXB.out
  go_region_held3 (fun u => u.cell? ⟨X.c, 0, none⟩ = some (.pointer (some ⟨X.mb, 0, none⟩)) ∧ u.cell? ⟨w.heap.size, 1, none⟩ = some (.int .i64 a)) (first | exact ⟨y0, y1⟩) (first
    | (go_at_call 68; refine (HL.out _ (grown_d (World.grownBy_alloc _ _ none))).mono ?_; rintro e w3 ⟨rfl, rfl⟩))
  clear y0 y1 HXB
  go_wp2
  go_region
  go_wp2
  go_end0
  refine ⟨rfl, ?_⟩
  repeat (first | exact World.grownBy.refl _ none | refine grown_d ?_ | refine grown_a ?_ _)
end Go.Proofs.YtkhaeabbbhfloaaDoor

namespace Go.Proofs.YtkhaeabbbhfloaaDoor
set_option maxRecDepth 100000
open Go.RowKit Go.Shelf Go.Sort
set_option linter.unusedVariables false

theorem Touched.moved {w : World} {B : Nat} {S : Nat → Prop} {X : KB} {m1 : Mach} {a : Act6} {e : Ending} {w' : World} (h : Touched w B S X m1 a e w') : e = .returned (.tuple #[]) ∧ Moved w B S X { m1 with acts := m1.acts ++ [a] } w' := h

set_option maxHeartbeats 2000000 in
theorem reach_lost {w : World} {B : Nat} {S : Nat → Prop} {X : KB} {m : Mach} (h : Core w B S X m) {k : Nat} (hk : k < m.progs.length) (hle : m.ended.length = m.progs.length) (hn3 : m.cells.length ≤ 300) (hr : ∀ v ∈ m.regs.getD k [], okU v) (op a b c d : Int) (ha0 : 0 ≤ a) (ha1 : a < m.cells.length) (hc0 : -1 ≤ c) (hc1 : c ≤ 7) (hp : ¬ placeOf a c (m.regs.getD k []) < m.cells.length) :
    Calls Tryd.prog 53 #[.pointer (some ⟨X.c, 0, none⟩), .int .i64 k, insV (op, a, b, c, d)] w fun e w' => e = .returned (.iface 80 (.int .i64 13)) ∧ Moved w B S X { m with ended := m.ended.set k true } w' := by
  obtain ⟨tb, cap, htv, -, htb⟩ := h.tform (by omega)
  obtain ⟨c0, c1, c2, -⟩ := h.cells
  rw [htv] at c2
  have hkn : (k : Int) < (m.progs.length : Int) := by omega
  have hcl : X.c < w.heap.size := lt_of_block h.at_
  have hcne : X.c ≠ w.heap.size := by omega
  have HCELL := Lib.hid (fun w' (hg : w.grownBy w' none) => kcell_any (h.grow hg) hk hn3 hr htv op a b c d ha0 ha1 hc0 hc1)
  have HE := Lib.hid (fun w' (hg : w.grownBy w' none) => And.intro ((h.grow hg).thread hk htv).2.2 (And.intro ((h.grow hg).setEnd hle hk htv) (Keeps.of_grown (S := S) hg (by intro k hk; cases hk))))
  have HNP := Lib.hid hp
  generalize m.progs.length = n at *
  generalize placeOf a c (m.regs.getD k []) = p at *
  generalize m.cells.length = nc at *
  obtain ⟨en, hen⟩ : ∃ b, m.ended.getD k false = b := ⟨_, rfl⟩
  rw [hen] at HE
  obtain ⟨M, hM⟩ : ∃ M : World → Prop, M = Moved w B S X { m with ended := m.ended.set k true } := ⟨_, rfl⟩
  have HM := Lib.hid hM
  rw [← hM]
  clear h hM hen hr hle hk hn3 ha0 ha1 hc0 hc1 hp htv
  unfold insV at HCELL ⊢
  go_enter Tryd.func53, Tryd.ntmps53
  go_wp2_with fail
  refine (HCELL.out _ (World.grownBy_alloc _ _ none)).mono ?_
  rintro e w3 ⟨hg3, ⟨hlt, rfl⟩ | ⟨hge, z, rfl⟩⟩
  · exact absurd hlt (by have := HNP.out; omega)
  · have HG := Lib.hid ((World.grownBy_alloc w _ none).andThen hg3 (fun j hj => by cases hj))
    obtain ⟨⟨e1, -, e3⟩, -⟩ := HE.out w3 HG.out
    have e4 := e3 (k * 11 + 2)
    clear hg3 HCELL hge e3
    go_wp2
    go_ret
    refine ⟨rfl, ?_⟩
    rw [HM.out]
    obtain ⟨-, ⟨h1, h2⟩, h3⟩ := HE.out w3 HG.out
    exact Moved.of h1 (h3.trans h2)

set_option maxHeartbeats 2000000 in
theorem reach_wake {w : World} {B : Nat} {S : Nat → Prop} {X : KB} {m : Mach} (h : Core w B S X m) {k : Nat} (hk : k < m.progs.length) (hs : m.lot.length ≤ 16) (hpw : m.lot.Pairwise fun a b => a.1 ≠ b.1) (hn3 : m.cells.length ≤ 300) (hr : ∀ v ∈ m.regs.getD k [], okU v) (a b c d : Int) (ha0 : 0 ≤ a) (ha1 : a < m.cells.length) (hc0 : -1 ≤ c) (hc1 : c ≤ 7) (hp : placeOf a c (m.regs.getD k []) < m.cells.length) :
    Calls Tryd.prog 53 #[.pointer (some ⟨X.c, 0, none⟩), .int .i64 k, insV (15, a, b, c, d)] w fun e w' => e = .returned .nilIface ∧ Moved w B S X { m with lot := wakeL m.lot (placeOf a c (m.regs.getD k [])) b.toNat } w' := by
  obtain ⟨tb, cap, htv, -, htb⟩ := h.tform (by omega)
  obtain ⟨c0, c1, c2, -⟩ := h.cells
  rw [htv] at c2
  have hkn : (k : Int) < (m.progs.length : Int) := by omega
  have hcl : X.c < w.heap.size := lt_of_block h.at_
  have hcne : X.c ≠ w.heap.size := by omega
  have HCELL := Lib.hid (fun w' (hg : w.grownBy w' none) => kcell_any (h.grow hg) hk hn3 hr htv 15 a b c d ha0 ha1 hc0 hc1)
  have HW := Lib.hid (fun w' (hg : w.grownBy w' none) => (mwake (h.grow hg) hs hpw (placeOf a c (m.regs.getD k [])) b).mono (R' := fun e w'' => (∃ A l c, e = .returned (.slice A l c)) ∧ Moved w B S X { m with lot := wakeL m.lot (placeOf a c (m.regs.getD k [])) b.toNat } w'') fun e w'' ⟨h1, h2⟩ => ⟨h1, h2.from (Keeps.of_grown hg (by intro k hk; cases hk))⟩)
  have HC1 := Lib.hid (fun w' (hg : w.grownBy w' none) => (h.grow hg).cells.2.1)
  have HP := Lib.hid hp
  generalize m.progs.length = n at *
  generalize placeOf a c (m.regs.getD k []) = p at *
  generalize m.cells.length = nc at *
  obtain ⟨M, hM⟩ : ∃ M : World → Prop, M = Moved w B S X { m with lot := wakeL m.lot p b.toNat } := ⟨_, rfl⟩
  rw [← hM] at HW ⊢
  clear h hM hr hk hn3 ha0 ha1 hc0 hc1 hp htv hs hpw c1
  unfold insV at HCELL ⊢
  go_enter Tryd.func53, Tryd.ntmps53
  go_wp2_with fail
  refine (HCELL.out _ (World.grownBy_alloc _ _ none)).mono ?_
  rintro e w3 ⟨hg3, ⟨hlt, rfl⟩ | ⟨hge, z, rfl⟩⟩
  · have HG := Lib.hid ((World.grownBy_alloc w _ none).andThen hg3 (fun j hj => by cases hj))
    have e1 := HC1.out w3 HG.out
    have HXB := Lib.hid ((hg3.block w.heap.size (by simp) (by simp)).trans (heap_alloc_new w (.cells #[.int .i64 15, .int .i64 a, .int .i64 b, .int .i64 c, .int .i64 d] 89)))
    obtain ⟨y0, -, y2, -⟩ := ins_cell (x := (15, a, b, c, d)) HXB.out
    clear hg3 HCELL hlt
    go_wp2
    go_region_with (first
      | (go_at_call 74; refine (HW.out _ (grown_d HG.out)).mono ?_; rintro e w4 ⟨⟨A4, l4, c4, rfl⟩, hM⟩))
    all_goals
      have HMM := Lib.hid hM
      clear hM HW HG HC1 HXB
      go_wp2
      go_ret
      exact ⟨rfl, HMM.out⟩
  · exact absurd HP.out (by omega)

set_option maxHeartbeats 2000000 in
theorem reach_store {w : World} {B : Nat} {S : Nat → Prop} {X : KB} {m : Mach} (h : Core w B S X m) (hB : B ≤ w.heap.size) {k : Nat} (hk : k < m.progs.length) (hlr : m.regs.length = m.progs.length) (hr8 : (m.regs.getD k []).length = 8) (hsm : m.acts.length ≤ 20000) (hn3 : m.cells.length ≤ 300) (hr : ∀ v ∈ m.regs.getD k [], okU v) (a c d : Int) (b : Nat) (hb : b < 8) (ha0 : 0 ≤ a) (ha1 : a < m.cells.length) (hc0 : -1 ≤ c) (hc1 : c ≤ 7) (q : Nat) (hq : placeOf a c (m.regs.getD k []) = q) (hp : q < m.cells.length) :
    Calls Tryd.prog 53 #[.pointer (some ⟨X.c, 0, none⟩), .int .i64 k, insV (7, a, (b : Int), c, d)] w fun e w' => e = .returned .nilIface ∧ Moved w B S X { m with cells := m.cells.set q ((m.regs.getD k []).getD b 0), acts := m.acts ++ [((m.steps : Int), (k : Int), 7, (q : Int), m.cells.getD q 0, (m.regs.getD k []).getD b 0)] } w' := by
  obtain ⟨tb, cap, htv, -, htb⟩ := h.tform (by omega)
  obtain ⟨c0, c1, c2, -⟩ := h.cells
  rw [htv] at c2
  have hkn : (k : Int) < (m.progs.length : Int) := by omega
  have hcl : X.c < w.heap.size := lt_of_block h.at_
  have hcne : X.c ≠ w.heap.size := by omega
  have HCELL := Lib.hid (fun w' (hg : w.grownBy w' none) => kcell_any (h.grow hg) hk hn3 hr htv 7 a b c d ha0 ha1 hc0 hc1)
  have HT := Lib.hid (fun w' (hg : w.grownBy w' none) => (touch_store (h.grow hg) (Nat.le_trans hB hg.size) hk hlr hr8 hp hsm a b hb c d).mono (R' := fun e w'' => e = .returned (.tuple #[]) ∧ Moved w B S X { m with cells := m.cells.set q ((m.regs.getD k []).getD b 0), acts := m.acts ++ [((m.steps : Int), (k : Int), 7, (q : Int), m.cells.getD q 0, (m.regs.getD k []).getD b 0)] } w'') fun e w'' ht => ⟨ht.moved.1, ht.moved.2.from (Keeps.of_grown hg (by intro k hk; cases hk))⟩)
  have HC2 := Lib.hid (fun w' (hg : w.grownBy w' none) => (h.grow hg).cells.1)
  have HP := Lib.hid hp
  rw [hq] at HCELL
  generalize m.progs.length = n at *
  generalize hnc : m.cells.length = nc at *
  obtain ⟨M, hM⟩ : ∃ M : World → Prop, M = Moved w B S X { m with cells := m.cells.set q ((m.regs.getD k []).getD b 0), acts := m.acts ++ [((m.steps : Int), (k : Int), 7, (q : Int), m.cells.getD q 0, (m.regs.getD k []).getD b 0)] } := ⟨_, rfl⟩
  rw [← hM] at HT ⊢
  clear h hM hr hk hn3 ha0 ha1 hc0 hc1 hp htv hq hnc hlr hr8 hsm hB c1
  unfold insV at HCELL HT ⊢
  go_enter Tryd.func53, Tryd.ntmps53
  go_wp2_with fail
  refine (HCELL.out _ (World.grownBy_alloc _ _ none)).mono ?_
  rintro e w3 ⟨hg3, ⟨hlt, rfl⟩ | ⟨hge, z, rfl⟩⟩
  · have HG := Lib.hid ((World.grownBy_alloc w _ none).andThen hg3 (fun j hj => by cases hj))
    have e1 := HC2.out w3 HG.out
    have HXB := Lib.hid ((hg3.block w.heap.size (by simp) (by simp)).trans (heap_alloc_new w (.cells #[.int .i64 7, .int .i64 a, .int .i64 b, .int .i64 c, .int .i64 d] 89)))
    obtain ⟨y0, y1, y2, y3, y4⟩ := ins_cell (x := (7, a, (b : Int), c, d)) HXB.out
    clear hg3 HCELL hlt
    go_wp2_with fail
    refine (HT.out _ HG.out).mono ?_
    rintro e w4 ⟨rfl, hM⟩
    have HMM := Lib.hid hM
    clear hM HT HG HC2 HXB e1 y0 y1 y2 y3 y4
    go_wp2
    go_ret
    exact ⟨rfl, HMM.out⟩
  · exact absurd HP.out (by omega)
end Go.Proofs.YtkhaeabbbhfloaaDoor

namespace Go.Proofs.YtkhaeabbbhfloaaDoor
set_option maxRecDepth 100000
open Go.RowKit Go.Shelf Go.Sort
set_option linter.unusedVariables false

/-- The machine behind what an instruction comes to; its step is counted, and it is at the next one. -/
def after (m : Mach) (k : Nat) (op : Int) : Eff → Mach
  | .halt => { m with ended := m.ended.set k true }
  | .set r v => { m with regs := m.regs.set k ((m.regs.getD k []).set r v) }
  | .mem c now none => { m with cells := m.cells.set c now, acts := m.acts ++ [((m.steps : Int), (k : Int), op, (c : Int), m.cells.getD c 0, now)] }
  | .mem c now (some rv) => { m with cells := m.cells.set c now, regs := m.regs.set k ((m.regs.getD k []).set rv.1 rv.2), acts := m.acts ++ [((m.steps : Int), (k : Int), op, (c : Int), m.cells.getD c 0, now)] }
  | .goto p => { m with at_ := m.at_.set k p }
  | .next => m
  | .sleep c => { m with lot := m.lot ++ [((k : Int), c)] }
  | .wake c n => { m with lot := wakeL m.lot c n.toNat }
  | .say what v => { m with events := m.events ++ [((m.steps : Int), what, (k : Int), v)] }
  | .lost => { m with ended := m.ended.set k true }

/-- What the functions ask of the machine. -/
structure Fits (m : Mach) (k : Nat) (x : Ins5) : Prop where
  hk : k < m.progs.length
  la : m.at_.length = m.progs.length
  le : m.ended.length = m.progs.length
  lr : m.regs.length = m.progs.length
  r8 : (m.regs.getD k []).length = 8
  ru : ∀ v ∈ m.regs.getD k [], okU v
  c3 : m.cells.length ≤ 300
  fit : FitX (m.progs.getD k []).length m.cells.length x
  few : m.lot.length ≤ 16
  once : m.lot.Pairwise fun a b => a.1 ≠ b.1
  awake : asleepM m k = false
  acts : m.acts.length ≤ 20000
  events : m.events.length ≤ 20000

theorem set_getD_self {l : List Int} {q : Nat} (h : q < l.length) : l.set q (l.getD q 0) = l := by
  rw [List.getD_eq_getElem?_getD, List.getElem?_eq_getElem h]
  simp

theorem nat_of {v : Int} (h : 0 ≤ v) : ∃ n : Nat, v = n := ⟨v.toNat, by omega⟩

section
variable {w : World} {B : Nat} {S : Nat → Prop} {X : KB} {m : Mach} {k : Nat} {tb cap : Nat}

theorem Core.registers (h : Core w B S X m) (hk : k < m.progs.length) (htv : X.tv = .slice (some ⟨tb, 0, none⟩) m.progs.length cap) : Regs w tb (k * 11) (m.regs.getD k []) :=
  ⟨(h.thread hk htv).2.2.2.1, (h.thread hk htv).2.2.2.2⟩

theorem RegSet.moved {a : Nat} {v : Int} {e : Ending} {w' : World} (hr : RegSet tb (k * 11) a v w e w') (h : Core w B S X m) (hk : k < m.progs.length) (hlr : m.regs.length = m.progs.length) (hr8 : (m.regs.getD k []).length = 8) (htv : X.tv = .slice (some ⟨tb, 0, none⟩) m.progs.length cap) (ha : a < 8) :
    e = .returned (.tuple #[]) ∧ Moved w B S X { m with regs := m.regs.set k ((m.regs.getD k []).set a v) } w' := by
  obtain ⟨he, hg⟩ := hr
  obtain ⟨h1, h2⟩ := h.setReg hlr hk hr8 htv a ha v
  exact ⟨he, (Moved.of h1 h2).grow hg⟩

theorem kreckon_any (h : Core w B S X m) {x : Ins5} (hf : Fits m k x) (htv : X.tv = .slice (some ⟨tb, 0, none⟩) m.progs.length cap) (ho : x.1 = 1 ∨ x.1 = 2 ∨ x.1 = 3 ∨ x.1 = 4 ∨ x.1 = 5) :
    Calls Tryd.prog 49 #[.pointer (some ⟨tb, k * 11, none⟩), insV x] w fun e w' => e = .returned (.tuple #[]) ∧ Moved w B S X (after m k x.1 (eff x (m.regs.getD k []) m.cells)) w' := by
  obtain ⟨op, a, b, c, d⟩ := x
  have hR := h.registers hf.hk htv
  have hx := hf.fit
  dsimp only at ho
  rcases ho with rfl | rfl | rfl | rfl | rfl
  · obtain ⟨a0, a7⟩ := hx.ra (by simp)
    obtain ⟨a, rfl⟩ := nat_of a0
    dsimp only at a7
    exact (reckon_let hR a (by omega) b c d).mono fun e w' hr => hr.moved h hf.hk hf.lr hf.r8 htv (by omega)
  · obtain ⟨a0, a7⟩ := hx.ra (by simp)
    obtain ⟨b0, b7⟩ := hx.rb (by simp)
    obtain ⟨a, rfl⟩ := nat_of a0
    obtain ⟨b, rfl⟩ := nat_of b0
    dsimp only at a7 b7
    exact (reckon_copy hR a b (by omega) (by omega) c d).mono fun e w' hr => hr.moved h hf.hk hf.lr hf.r8 htv (by omega)
  · obtain ⟨a0, a7⟩ := hx.ra (by simp)
    obtain ⟨b0, b7⟩ := hx.rb (by simp)
    obtain ⟨a, rfl⟩ := nat_of a0
    obtain ⟨b, rfl⟩ := nat_of b0
    dsimp only at a7 b7
    exact (reckon_plus hR a b (by omega) (by omega) c d).mono fun e w' hr => hr.moved h hf.hk hf.lr hf.r8 htv (by omega)
  · obtain ⟨a0, a7⟩ := hx.ra (by simp)
    obtain ⟨b0, b7⟩ := hx.rb (by simp)
    obtain ⟨c0, c7⟩ := hx.rc (by simp)
    obtain ⟨a, rfl⟩ := nat_of a0
    obtain ⟨b, rfl⟩ := nat_of b0
    obtain ⟨c, rfl⟩ := nat_of c0
    dsimp only at a7 b7 c7
    exact (reckon_sum hR a b c (by omega) (by omega) (by omega) d).mono fun e w' hr => hr.moved h hf.hk hf.lr hf.r8 htv (by omega)
  · obtain ⟨a0, a7⟩ := hx.ra (by simp)
    obtain ⟨b0, b7⟩ := hx.rb (by simp)
    obtain ⟨c0, c7, d0, d7⟩ := hx.bw rfl
    obtain ⟨a, rfl⟩ := nat_of a0
    obtain ⟨b, rfl⟩ := nat_of b0
    obtain ⟨c, rfl⟩ := nat_of c0
    obtain ⟨d, rfl⟩ : ∃ n : Nat, d = n := ⟨d.toNat, by dsimp only at d0; omega⟩
    dsimp only at a7 b7 c7 d7
    exact (reckon_field hR a b c d (by omega) (by omega) (by omega) (by omega) (getD_okU hf.ru _)).mono fun e w' hr => hr.moved h hf.hk hf.lr hf.r8 htv (by omega)

theorem AtSet.moved {p : Int} {e : Ending} {w' : World} (hr : AtSet tb (k * 11) p w e w') (h : Core w B S X m) (hk : k < m.progs.length) (hla : m.at_.length = m.progs.length) (htv : X.tv = .slice (some ⟨tb, 0, none⟩) m.progs.length cap) :
    e = .returned (.tuple #[]) ∧ Moved w B S X { m with at_ := m.at_.set k p } w' := by
  obtain ⟨he, hg⟩ := hr
  obtain ⟨h1, h2⟩ := h.setAt hla hk htv p
  exact ⟨he, (Moved.of h1 h2).grow hg⟩
theorem Passed.moved {e : Ending} {w' : World} (hr : Passed w e w') (h : Core w B S X m) : e = .returned (.tuple #[]) ∧ Moved w B S X m w' := by
  obtain ⟨he, hg⟩ := hr
  exact ⟨he, (Moved.of h (Keeps.refl _ _)).grow hg⟩

theorem kturn_any (h : Core w B S X m) {x : Ins5} (hf : Fits m k x) (htv : X.tv = .slice (some ⟨tb, 0, none⟩) m.progs.length cap) (ho : x.1 = 10 ∨ x.1 = 11 ∨ x.1 = 12 ∨ x.1 = 13) :
    Calls Tryd.prog 50 #[.pointer (some ⟨tb, k * 11, none⟩), insV x] w fun e w' => e = .returned (.tuple #[]) ∧ Moved w B S X (after m k x.1 (eff x (m.regs.getD k []) m.cells)) w' := by
  obtain ⟨op, a, b, c, d⟩ := x
  have hR := h.registers hf.hk htv
  obtain ⟨-, ⟨z, hz, -⟩, -⟩ := h.thread hf.hk htv
  have hx := hf.fit
  dsimp only at ho
  rcases ho with rfl | rfl | rfl | rfl
  · exact (turn_jump hR hz a b c d).mono fun e w' hr => hr.moved h hf.hk hf.la htv
  · obtain ⟨a0, a7⟩ := hx.ra (by simp)
    obtain ⟨a, rfl⟩ := nat_of a0
    dsimp only at a7
    by_cases hc : (m.regs.getD k []).getD a 0 = b % m64
    · have e : eff (11, (a : Int), b, c, d) (m.regs.getD k []) m.cells = .goto c := by
        show (if regOf (m.regs.getD k []) (a : Int) = b % m64 then Eff.goto c else .next) = _
        unfold regOf; rw [Int.toNat_natCast, if_pos hc]
      rw [e]
      exact (turn_same_yes hR hz a (by omega) b c d hc).mono fun e w' hr => hr.moved h hf.hk hf.la htv
    · have e : eff (11, (a : Int), b, c, d) (m.regs.getD k []) m.cells = .next := by
        show (if regOf (m.regs.getD k []) (a : Int) = b % m64 then Eff.goto c else .next) = _
        unfold regOf; rw [Int.toNat_natCast, if_neg hc]
      rw [e]
      exact (turn_same_no hR hz a (by omega) b c d hc).mono fun e w' hr => hr.moved h
  · obtain ⟨a0, a7⟩ := hx.ra (by simp)
    obtain ⟨b0, b7⟩ := hx.rb (by simp)
    obtain ⟨a, rfl⟩ := nat_of a0
    obtain ⟨b, rfl⟩ := nat_of b0
    dsimp only at a7 b7
    by_cases hc : (m.regs.getD k []).getD a 0 < (m.regs.getD k []).getD b 0
    · have e : eff (12, (a : Int), (b : Int), c, d) (m.regs.getD k []) m.cells = .goto c := by
        show (if regOf (m.regs.getD k []) (a : Int) < regOf (m.regs.getD k []) (b : Int) then Eff.goto c else .next) = _
        unfold regOf; rw [Int.toNat_natCast, Int.toNat_natCast, if_pos hc]
      rw [e]
      exact (turn_less_yes hR hz a b (by omega) (by omega) c d hc).mono fun e w' hr => hr.moved h hf.hk hf.la htv
    · have e : eff (12, (a : Int), (b : Int), c, d) (m.regs.getD k []) m.cells = .next := by
        show (if regOf (m.regs.getD k []) (a : Int) < regOf (m.regs.getD k []) (b : Int) then Eff.goto c else .next) = _
        unfold regOf; rw [Int.toNat_natCast, Int.toNat_natCast, if_neg hc]
      rw [e]
      exact (turn_less_no hR hz a b (by omega) (by omega) c d hc).mono fun e w' hr => hr.moved h
  · obtain ⟨a0, a7⟩ := hx.ra (by simp)
    obtain ⟨b0, b7⟩ := hx.rb (by simp)
    obtain ⟨a, rfl⟩ := nat_of a0
    obtain ⟨b, rfl⟩ := nat_of b0
    dsimp only at a7 b7
    by_cases hc : (m.regs.getD k []).getD a 0 = (m.regs.getD k []).getD b 0
    · have e : eff (13, (a : Int), (b : Int), c, d) (m.regs.getD k []) m.cells = .goto c := by
        show (if regOf (m.regs.getD k []) (a : Int) = regOf (m.regs.getD k []) (b : Int) then Eff.goto c else .next) = _
        unfold regOf; rw [Int.toNat_natCast, Int.toNat_natCast, if_pos hc]
      rw [e]
      exact (turn_equal_yes hR hz a b (by omega) (by omega) c d hc).mono fun e w' hr => hr.moved h hf.hk hf.la htv
    · have e : eff (13, (a : Int), (b : Int), c, d) (m.regs.getD k []) m.cells = .next := by
        show (if regOf (m.regs.getD k []) (a : Int) = regOf (m.regs.getD k []) (b : Int) then Eff.goto c else .next) = _
        unfold regOf; rw [Int.toNat_natCast, Int.toNat_natCast, if_neg hc]
      rw [e]
      exact (turn_equal_no hR hz a b (by omega) (by omega) c d hc).mono fun e w' hr => hr.moved h

theorem ktouch_any (h : Core w B S X m) (hB : B ≤ w.heap.size) {x : Ins5} (hf : Fits m k x) (ho : x.1 = 6 ∨ x.1 = 8 ∨ x.1 = 9) :
    Calls Tryd.prog 51 #[.pointer (some ⟨X.c, 0, none⟩), .int .i64 k, insV x, .int .i64 x.2.2.1] w fun e w' => e = .returned (.tuple #[]) ∧ Moved w B S X (after m k x.1 (eff x (m.regs.getD k []) m.cells)) w' := by
  obtain ⟨op, a, b, c, d⟩ := x
  have hx := hf.fit
  dsimp only at ho
  rcases ho with rfl | rfl | rfl
  · obtain ⟨a0, a7⟩ := hx.ra (by simp)
    obtain ⟨b0, b7⟩ := hx.cb (by simp)
    obtain ⟨a, rfl⟩ := nat_of a0
    obtain ⟨b, rfl⟩ := nat_of b0
    dsimp only at a7 b7
    have hb : b < m.cells.length := by omega
    refine (touch_load h hB hf.hk hf.lr hf.r8 hb hf.acts a (by omega) b c d).mono fun e w' ht => ⟨ht.moved.1, ?_⟩
    have e : after m k 6 (eff (6, (a : Int), (b : Int), c, d) (m.regs.getD k []) m.cells) = { m with regs := m.regs.set k ((m.regs.getD k []).set a (m.cells.getD b 0)), acts := m.acts ++ [((m.steps : Int), (k : Int), 6, (b : Int), m.cells.getD b 0, m.cells.getD b 0)] } := by
      show ({ m with cells := m.cells.set b (m.cells.getD b 0), regs := _, acts := _ } : Mach) = _
      rw [set_getD_self hb]
      rfl
    rw [e]
    exact ht.moved.2
  · obtain ⟨a0, a7⟩ := hx.ra (by simp)
    obtain ⟨b0, b7⟩ := hx.cb (by simp)
    obtain ⟨a, rfl⟩ := nat_of a0
    obtain ⟨b, rfl⟩ := nat_of b0
    dsimp only at a7 b7
    have hb : b < m.cells.length := by omega
    exact (touch_fetch h hB hf.hk hf.lr hf.r8 hb hf.acts a (by omega) b c d).mono fun e w' ht => ht.moved
  · obtain ⟨a0, a7⟩ := hx.ra (by simp)
    obtain ⟨b0, b7⟩ := hx.cb (by simp)
    obtain ⟨c0, c7⟩ := hx.rc (by simp)
    obtain ⟨d0, d7⟩ := hx.rd rfl
    obtain ⟨a, rfl⟩ := nat_of a0
    obtain ⟨b, rfl⟩ := nat_of b0
    obtain ⟨c, rfl⟩ := nat_of c0
    obtain ⟨d, rfl⟩ := nat_of d0
    dsimp only at a7 b7 c7 d7
    have hb : b < m.cells.length := by omega
    by_cases he : m.cells.getD b 0 = (m.regs.getD k []).getD c 0
    · have e : eff (9, (a : Int), (b : Int), (c : Int), (d : Int)) (m.regs.getD k []) m.cells = .mem b ((m.regs.getD k []).getD d 0) (some (a, 1)) := by
        show (if m.cells.getD (b : Int).toNat 0 = regOf (m.regs.getD k []) (c : Int) then Eff.mem (b : Int).toNat (regOf (m.regs.getD k []) (d : Int)) (some ((a : Int).toNat, 1)) else _) = _
        unfold regOf; rw [Int.toNat_natCast, Int.toNat_natCast, Int.toNat_natCast, Int.toNat_natCast, if_pos he]
      rw [e]
      exact (touch_swap_yes h hB hf.hk hf.lr hf.r8 hb hf.acts a c d (by omega) (by omega) (by omega) b he).mono fun e w' ht => ht.moved
    · have e : eff (9, (a : Int), (b : Int), (c : Int), (d : Int)) (m.regs.getD k []) m.cells = .mem b (m.cells.getD b 0) (some (a, 0)) := by
        show (if m.cells.getD (b : Int).toNat 0 = regOf (m.regs.getD k []) (c : Int) then _ else Eff.mem (b : Int).toNat (m.cells.getD (b : Int).toNat 0) (some ((a : Int).toNat, 0))) = _
        unfold regOf; simp only [Int.toNat_natCast]; rw [if_neg he]
      rw [e]
      refine (touch_swap_no h hB hf.hk hf.lr hf.r8 hb hf.acts a c d (by omega) (by omega) (by omega) b he).mono fun e w' ht => ⟨ht.moved.1, ?_⟩
      have e2 : after m k 9 (.mem b (m.cells.getD b 0) (some (a, 0))) = { m with regs := m.regs.set k ((m.regs.getD k []).set a 0), acts := m.acts ++ [((m.steps : Int), (k : Int), 9, (b : Int), m.cells.getD b 0, m.cells.getD b 0)] } := by
        show ({ m with cells := m.cells.set b (m.cells.getD b 0), regs := _, acts := _ } : Mach) = _
        rw [set_getD_self hb]
      rw [e2]
      exact ht.moved.2

theorem kwait_any (h : Core w B S X m) (hB : B ≤ w.heap.size) {x : Ins5} (hf : Fits m k x) (ho : x.1 = 14) :
    Calls Tryd.prog 52 #[.pointer (some ⟨X.c, 0, none⟩), .int .i64 k, insV x] w fun e w' => e = .returned (.tuple #[]) ∧ Moved w B S X (after m k x.1 (eff x (m.regs.getD k []) m.cells)) w' := by
  obtain ⟨op, a, b, c, d⟩ := x
  have hx := hf.fit
  dsimp only at ho
  subst ho
  obtain ⟨a0, a7⟩ := hx.ca (by simp)
  obtain ⟨b0, b7⟩ := hx.rb (by simp)
  obtain ⟨a, rfl⟩ := nat_of a0
  obtain ⟨b, rfl⟩ := nat_of b0
  dsimp only at a7 b7
  have ha : a < m.cells.length := by omega
  have hc3 := hf.c3
  by_cases he : m.cells.getD a 0 = (m.regs.getD k []).getD b 0
  · have e : eff (14, (a : Int), (b : Int), c, d) (m.regs.getD k []) m.cells = .sleep a := by
      show (if m.cells.getD (a : Int).toNat 0 = regOf (m.regs.getD k []) (b : Int) then Eff.sleep a else .next) = _
      unfold regOf; rw [Int.toNat_natCast, Int.toNat_natCast, if_pos he]
    rw [e]
    exact wait_yes h hB hf.few hf.hk a ha (by omega) b (by omega) c d hf.awake he
  · have e : eff (14, (a : Int), (b : Int), c, d) (m.regs.getD k []) m.cells = .next := by
      show (if m.cells.getD (a : Int).toNat 0 = regOf (m.regs.getD k []) (b : Int) then Eff.sleep a else .next) = _
      unfold regOf; rw [Int.toNat_natCast, Int.toNat_natCast, if_neg he]
    rw [e]
    exact (wait_no h hf.hk a ha b (by omega) c d he).mono fun e w' ⟨h1, h2⟩ => ⟨h1, (Moved.of h (Keeps.refl _ _)).grow h2⟩

theorem kreach_any (h : Core w B S X m) (hB : B ≤ w.heap.size) {x : Ins5} (hf : Fits m k x) (ho : x.1 = 7 ∨ x.1 = 15) :
    Calls Tryd.prog 53 #[.pointer (some ⟨X.c, 0, none⟩), .int .i64 k, insV x] w fun e w' => e = .returned (errV (errEff (eff x (m.regs.getD k []) m.cells))) ∧ Moved w B S X (after m k x.1 (eff x (m.regs.getD k []) m.cells)) w' := by
  obtain ⟨op, a, b, c, d⟩ := x
  have hx := hf.fit
  dsimp only at ho
  have hca := hx.ca (by simp only; omega)
  have hoc := hx.oc (by simp only; omega)
  dsimp only at hca hoc
  rcases ho with rfl | rfl
  · obtain ⟨b0, b7⟩ := hx.rb (by simp)
    obtain ⟨b, rfl⟩ := nat_of b0
    dsimp only at b7
    by_cases hp : placeOf a c (m.regs.getD k []) < m.cells.length
    · have hnn : 0 ≤ placeOf a c (m.regs.getD k []) := by
        unfold placeOf
        have := (getD_okU hf.ru c.toNat).1
        unfold regOf
        split <;> omega
      obtain ⟨q, hq⟩ := nat_of hnn
      have e : eff (7, a, (b : Int), c, d) (m.regs.getD k []) m.cells = .mem q ((m.regs.getD k []).getD b 0) none := by
        show (if placeOf a c (m.regs.getD k []) < m.cells.length then Eff.mem (placeOf a c (m.regs.getD k [])).toNat (regOf (m.regs.getD k []) (b : Int)) none else .lost) = _
        rw [if_pos hp, hq]
        unfold regOf; rw [Int.toNat_natCast, Int.toNat_natCast]
      rw [e]
      exact reach_store h hB hf.hk hf.lr hf.r8 hf.acts hf.c3 hf.ru a c d b (by omega) hca.1 hca.2 hoc.1 hoc.2 q hq (by omega)
    · have e : eff (7, a, (b : Int), c, d) (m.regs.getD k []) m.cells = .lost := by
        show (if placeOf a c (m.regs.getD k []) < m.cells.length then Eff.mem (placeOf a c (m.regs.getD k [])).toNat (regOf (m.regs.getD k []) (b : Int)) none else .lost) = _
        rw [if_neg hp]
      rw [e]
      exact reach_lost h hf.hk hf.le hf.c3 hf.ru 7 a b c d hca.1 hca.2 hoc.1 hoc.2 hp
  · by_cases hp : placeOf a c (m.regs.getD k []) < m.cells.length
    · have e : eff (15, a, b, c, d) (m.regs.getD k []) m.cells = .wake (placeOf a c (m.regs.getD k [])) b := by
        show (if placeOf a c (m.regs.getD k []) < m.cells.length then Eff.wake (placeOf a c (m.regs.getD k [])) b else .lost) = _
        rw [if_pos hp]
      rw [e]
      exact reach_wake h hf.hk hf.few hf.once hf.c3 hf.ru a b c d hca.1 hca.2 hoc.1 hoc.2 hp
    · have e : eff (15, a, b, c, d) (m.regs.getD k []) m.cells = .lost := by
        show (if placeOf a c (m.regs.getD k []) < m.cells.length then Eff.wake (placeOf a c (m.regs.getD k [])) b else .lost) = _
        rw [if_neg hp]
      rw [e]
      exact reach_lost h hf.hk hf.le hf.c3 hf.ru 15 a b c d hca.1 hca.2 hoc.1 hoc.2 hp
end
end Go.Proofs.YtkhaeabbbhfloaaDoor

namespace Go.Proofs.YtkhaeabbbhfloaaDoor
set_option maxRecDepth 100000
open Go.RowKit Go.Shelf Go.Sort
set_option linter.unusedVariables false

/-- What do asks of a machine (its step counted already): thread k, under way and awake, at instruction i. -/
structure DoAt (m : Mach) (k i : Nat) (x : Ins5) : Prop where
  hk : k < m.progs.length
  la : m.at_.length = m.progs.length
  le : m.ended.length = m.progs.length
  lr : m.regs.length = m.progs.length
  r8 : (m.regs.getD k []).length = 8
  ru : ∀ v ∈ m.regs.getD k [], okU v
  up : m.ended.getD k false = false
  at_ : m.at_.getD k 0 = (i : Int)
  hi : i < (m.progs.getD k []).length
  ins : (m.progs.getD k []).getD i default = x
  small : i < 100000

/-- What do reads at first. -/
structure DoRead (w : World) (X : KB) (m : Mach) (k i : Nat) (x : Ins5) (tb g : Nat) (n cap pl pc : Nat) : Prop where
  c2 : w.cell? ⟨X.c, 2, none⟩ = some (.slice (some ⟨tb, 0, none⟩) n cap)
  p0 : w.cell? ⟨tb, k * 11, none⟩ = some (.slice (some ⟨g, 0, none⟩) pl pc)
  p1 : w.cell? ⟨tb, k * 11 + 1, none⟩ = some (.int .i64 i)
  i0 : w.cell? ⟨g, i * 5, none⟩ = some (.int .i64 x.1)
  i1 : w.cell? ⟨g, i * 5 + 1, none⟩ = some (.int .i64 x.2.1)
  i2 : w.cell? ⟨g, i * 5 + 2, none⟩ = some (.int .i64 x.2.2.1)
  i3 : w.cell? ⟨g, i * 5 + 3, none⟩ = some (.int .i64 x.2.2.2.1)
  i4 : w.cell? ⟨g, i * 5 + 4, none⟩ = some (.int .i64 x.2.2.2.2)
  f1 : w.frozen? ⟨tb, k * 11 + 1, none⟩ = false
  hi : i < pl
  hk : k < n
  htb : tb < w.heap.size

theorem doRead {w : World} {B : Nat} {S : Nat → Prop} {X : KB} {m : Mach} {k i : Nat} {x : Ins5} (h : Core w B S X m) (hd : DoAt m k i x) : ∃ tb cap g pl pc n, n = m.progs.length ∧ X.tv = .slice (some ⟨tb, 0, none⟩) m.progs.length cap ∧ DoRead w X m k i x tb g n cap pl pc := by
  obtain ⟨tb, cap, htv, -, htb⟩ := h.tform (by have := hd.hk; omega)
  obtain ⟨g, pc, hpv, -, i0, i1, i2, i3, i4⟩ := h.ins hd.hk hd.hi
  obtain ⟨p0, ⟨z, hz, hz2⟩, -, -, hf⟩ := h.thread hd.hk htv
  have e := hz2 hd.up
  rw [hd.at_] at e
  subst e
  rw [hd.ins] at i0 i1 i2 i3 i4
  rw [hpv] at p0
  exact ⟨tb, cap, g, _, pc, _, rfl, htv, by rw [← htv]; exact h.cells.2.2.1, p0, hz, i0, i1, i2, i3, i4, hf _, hd.hi, hd.hk, htb⟩

def at1 (m : Mach) (k i : Nat) : Mach := { m with at_ := m.at_.set k ((i : Int) + 1) }

/-- Behind the count of the instruction: the machine, in all worlds that grew from there. -/
theorem do_at {w : World} {B : Nat} {S : Nat → Prop} {X : KB} {m : Mach} {k i tb cap : Nat} {x : Ins5} (h : Core w B S X m) (hd : DoAt m k i x) (htv : X.tv = .slice (some ⟨tb, 0, none⟩) m.progs.length cap) (w' : World) (hg : (w.setCell ⟨tb, k * 11 + 1, none⟩ (.int .i64 ((i : Int) + 1))).grownBy w' none) :
    Core w' B S X (at1 m k i) ∧ Keeps S w w' := by
  obtain ⟨h1, h2⟩ := h.setAt hd.la hd.hk htv ((i : Int) + 1)
  exact ⟨h1.grow hg, h2.trans (Keeps.of_grown hg (by intro k hk; cases hk))⟩
end Go.Proofs.YtkhaeabbbhfloaaDoor
