/-
  A latch where the laws have it: latched; what is so behind moves, and at its end. The laws' helpers on threads that ask for calls: count.
-/
import Derived.Test.YtdfljhechmanlaaDoorQL2
import Derived.Test.YtdfljhechmanlaaDoorQI2
namespace Go.Proofs.YtdfljhechmanlaaDoor
set_option maxRecDepth 100000
open Go.RowKit Go.Shelf Go.Sort
set_option linter.unusedVariables false
set_option linter.unusedSimpArgs false

def callsL (Ls : List (List Bool)) (t : Nat) : List Bool := Ls.getD t []
/-- Calls that a latch may be asked for. -/
structure LaOk (f : Nat) (Ls : List (List Bool)) : Prop where
  f12 : f ≤ 12
  n9 : Ls.length ≤ 9
  l12 : ∀ L ∈ Ls, L.length ≤ 12
theorem LaOk.calls {f : Nat} {Ls : List (List Bool)} (h : LaOk f Ls) (u : Nat) : (callsL Ls u).length ≤ 12 := by
  unfold callsL
  rw [List.getD_eq_getElem?_getD]
  cases hc : Ls[u]? with
  | none => exact Nat.zero_le _
  | some l => exact h.l12 l (List.mem_of_getElem? hc)
def laK {f : Nat} {Ls : List (List Bool)} (h : LaOk f Ls) : KindF latchF Ls.length (callsL Ls) (fun c => ([(f : Int)] : List Int).getD c 0) := latK f Ls.length (callsL Ls) (by have := h.f12; omega) (by have := h.n9; omega)
/-- A latch behind some steps and p pokes. -/
def LaM {f : Nat} {Ls : List (List Bool)} (h : LaOk f Ls) (p : Nat) (m : Mach) : Prop := ∃ S, RanF (laK h) p S m
section
variable {f : Nat} {Ls : List (List Bool)} {h : LaOk f Ls} {p : Nat} {m m' : Mach}
theorem laK_pot (h : LaOk f Ls) : (laK h).pot (newK fun c => ([(f : Int)] : List Int).getD c 0) ≤ 5600 := latK_pot h.f12 h.n9 h.calls _ _
theorem laK_pk (h : LaOk f Ls) : (laK h).pk = 4 := rfl
theorem la_new (h : LaOk f Ls) : LaM h 0 (newM (wholesK latchF Ls) [(f : Int)]) := by
  rw [wholesK_at]
  refine ⟨_, ranF_new (K := laK h) rfl fun v hv => ?_⟩
  rw [List.mem_singleton.1 hv]
  have := h.f12
  exact ⟨by omega, by unfold m64; omega⟩
theorem la_moves (hm : LaM h p m) (l : List (Int × Bool)) (hp : p + pokesM l ≤ 500) : LaM h (p + pokesM l) (behindM 20000 m l) := by
  obtain ⟨S, hS⟩ := hm
  exact ranF_moves l p S m hS (by have := laK_pot h; rw [laK_pk]; omega)
theorem la_fin (hm : LaM h p m) (hp : p ≤ 500) (hf : Fin m m') : ∃ S', RanF (laK h) p S' m' ∧ ∀ t, t < Ls.length → stillK S' t := by
  obtain ⟨S, hS⟩ := hm
  exact ranF_fin (by have := laK_pot h; rw [laK_pk]; omega) hS hf
theorem laM_inv {S : CS} (hS : RanF (laK h) p S m) : LatI Ls.length (callsL Ls) f S m.acts m.events := hS.inv
theorem laM_cells {S : CS} (hS : RanF (laK h) p S m) : m.cells = [S.cell 0] := by
  have hl : m.cells.length = 1 := hS.sim.lc
  have hc : S.cell 0 = m.cells.getD 0 0 := by rw [hS.sim.cell]
  match hm : m.cells, hl with
  | [v], _ => rw [hm] at hc; rw [hc]; rfl
theorem laM_ended {S : CS} (hS : RanF (laK h) p S m) {t : Nat} (ht : t < Ls.length) : m.ended.getD t false = (S.th t).en := hS.ended ht
end

/-- Finish, where a machine lies. -/
theorem at_finish {w wr : World} {c : Nat} {cells0 : List Int} {m : Mach} (h : At w c m wr) (hb : MBig cells0 m) :
    Calls Tryd.prog 23 #[.pointer (some ⟨c, 0, none⟩)] wr fun e w' => ∃ m', Fin m m' ∧ e = .returned (.int .i64 ((m'.steps : Int) - (m.steps : Int))) ∧ At w c m' w' ∧ MBig cells0 m' := by
  obtain ⟨S, X, rfl, hC, hB⟩ := h
  exact (ffin_any hC hB.size hb).mono fun e w' ⟨m', hf, he, hm, hbig⟩ => ⟨m', hf, he, At.moved rfl hC hB hm, hbig⟩

theorem la_right (L : List Bool) (hL : L.length ≤ 12) : RightL (wholeK latchF L) latchF.nc := whole_right latchF (fun c => by cases c <;> decide) (by decide) latch_good L hL
theorem la_codes (w : World) : CodesOf latchF encL 18 w := fun w1 hb L hL A n cap i hR => lacode_any L hL A n cap hR i
theorem la_big {f : Nat} {Ls : List (List Bool)} (h : LaOk f Ls) : MBig [(f : Int)] (newM (wholesK latchF Ls) [(f : Int)]) := by
  have hl : (wholesK latchF Ls).length = Ls.length := by unfold wholesK; rw [List.length_map]
  refine newM_big ⟨by rw [hl]; have := h.n9; omega, (show (1 : Nat) ≤ 100 by decide), fun i hi => ?_⟩ fun v hv => ?_
  · have hi' : i < Ls.length := by rw [← hl]; exact hi
    have e : (wholesK latchF Ls).getD i [] = wholeK latchF (Ls.getD i []) := by unfold wholesK; rw [List.getD_eq_getElem?_getD, List.getElem?_map, List.getElem?_eq_getElem hi', List.getD_eq_getElem?_getD, List.getElem?_eq_getElem hi']; rfl
    rw [e]
    exact la_right _ (h.calls i)
  · rw [List.mem_singleton.1 hv]
    have := h.f12
    exact ⟨by omega, by omega⟩
/-- A latch at a place. -/
structure LaAt (w : World) (c : Nat) {f : Nat} {Ls : List (List Bool)} (h : LaOk f Ls) (p : Nat) (m : Mach) (wr : World) : Prop where
  at_ : At w c m wr
  big : MBig [(f : Int)] m
  la : LaM h p m
theorem LaAt.grow {w wr w' : World} {c : Nat} {f : Nat} {Ls : List (List Bool)} {h : LaOk f Ls} {p : Nat} {m : Mach} (hA : LaAt w c h p m wr) (hg : wr.grownBy w' none) : LaAt w c h p m w' := ⟨hA.at_.grow hg, hA.big, hA.la⟩

theorem lamade_any {w : World} (hw : CW w) {f : Nat} {Ls : List (List Bool)} (h : LaOk f Ls) (A C D : Option Addr) (n cap cc nm cm : Nat) (hA : CRows w w.heap.size A n (Ls.map (List.map encL))) (hc : Ints .u64 w w.heap.size C 1 [(f : Int)]) (l : List (Int × Bool)) (hl : Moves w w.heap.size D nm l) (hnm : nm ≤ 500) :
    Calls Tryd.prog 17 #[.slice A n cap, .func (.func 18) #[] #[], .slice C 1 cc, .slice D nm cm] w fun e w' => ∃ c m, e = .returned (.pointer (some ⟨c, 0, none⟩)) ∧ LaAt w c h (pokesM l) m w' ∧ m = behindM 20000 (newM (wholesK latchF Ls) [(f : Int)]) l := by
  refine (made_any latchF encL 18 (enter_ask Tryd.func18 (by kernel_rfl) (by kernel_rfl)) hw (la_codes w) la_right (by decide) (by decide) Ls (by have := h.n9; omega) h.l12 A C D n cap 1 cc nm cm hA [(f : Int)] hc rfl l hl (fun v hv => by rw [List.mem_singleton.1 hv]; have := h.f12; exact ⟨by omega, by omega⟩) (by omega)).mono ?_
  rintro e w' ⟨c, rfl, hAt⟩
  have hp := pokesM_le l
  have hl' := hl.len
  have := la_moves (la_new h) l (by omega)
  rw [Nat.zero_add] at this
  exact ⟨c, _, rfl, ⟨hAt, (la_big h).behind l, this⟩, rfl⟩

/-- Two calls that are written down. -/
def twoW (w : World) (x y v : Int) : World := (((w.alloc (.cells #[.int .i64 x, .int .i64 0] 43)).alloc (.cells #[.int .i64 y, .int .i64 0] 43)).alloc (.cells #[.slice (some ⟨w.heap.size, 0, none⟩) 1 1, .slice (some ⟨w.heap.size + 1, 0, none⟩) 1 1] 41)).alloc (.cells #[.int .u64 v] 31)
theorem two_calls (w : World) (x y v : Int) : CRows (twoW w x y v) (twoW w x y v).heap.size (some ⟨w.heap.size + 1 + 1, 0, none⟩) 2 [[(x, 0)], [(y, 0)]] ∧ Ints .u64 (twoW w x y v) (twoW w x y v).heap.size (some ⟨w.heap.size + 1 + 1 + 1, 0, none⟩) 1 [v] ∧ Below w.heap.size w (twoW w x y v) := by
  obtain ⟨hs, s0, s1, s2, s3, hb⟩ := four_made w (.cells #[.int .i64 x, .int .i64 0] 43) (.cells #[.int .i64 y, .int .i64 0] 43) (.cells #[.slice (some ⟨w.heap.size, 0, none⟩) 1 1, .slice (some ⟨w.heap.size + 1, 0, none⟩) 1 1] 41) (.cells #[.int .u64 v] 31)
  have hW : (((w.alloc (.cells #[.int .i64 x, .int .i64 0] 43)).alloc (.cells #[.int .i64 y, .int .i64 0] 43)).alloc (.cells #[.slice (some ⟨w.heap.size, 0, none⟩) 1 1, .slice (some ⟨w.heap.size + 1, 0, none⟩) 1 1] 41)).alloc (.cells #[.int .u64 v] 31) = twoW w x y v := rfl
  rw [hW] at hs s0 s1 s2 s3 hb
  generalize twoW w x y v = W at *
  have c0 := cell_in s0
  have c1 := cell_in s1
  have c2 := cell_in s2
  have c3 := cell_in s3
  refine ⟨⟨rfl, fun _ => ⟨_, 0, rfl, by omega, fun i hi => ?_⟩⟩, ⟨rfl, fun _ => ⟨_, 0, rfl, by omega, fun i hi => ?_⟩⟩, hb⟩
  · match i, hi with
    | 0, _ =>
      refine ⟨some ⟨w.heap.size, 0, none⟩, 1, c2 0, rfl, fun _ => ⟨_, 0, rfl, by omega, fun j hj => ?_⟩⟩
      match j, hj with
      | 0, _ => exact ⟨c0 0, c0 1⟩
    | 1, _ =>
      refine ⟨some ⟨w.heap.size + 1, 0, none⟩, 1, c2 1, rfl, fun _ => ⟨_, 0, rfl, by omega, fun j hj => ?_⟩⟩
      match j, hj with
      | 0, _ => exact ⟨c1 0, c1 1⟩
  · match i, hi with
    | 0, _ => exact c3 0

/-- slices.Equal with one number that is written down. -/
theorem equal_one {w : World} (A : Option Addr) (c : Nat) (v : Int) (h : Ints .u64 w w.heap.size A 1 [v]) : Calls Tryd.prog 31 #[.slice A 1 c, .slice (some ⟨w.heap.size, 0, none⟩) 1 1] (w.alloc (.cells #[.int .u64 v] 31)) fun e w' => e = .returned (.bool true) ∧ w.grownBy w' none := by
  have hI5 := h.below ((Below.refl w.heap.size w).alloc (Nat.le_refl _) (.cells #[.int .u64 v] 31))
  have hI6 : Ints .u64 (w.alloc (.cells #[.int .u64 v] 31)) (w.heap.size + 1) (some ⟨w.heap.size, 0, none⟩) 1 [v] := ⟨rfl, fun _ => ⟨_, 0, rfl, by omega, fun i hi => by
    match i, hi with
    | 0, _ => exact (cell_of_row _ _ 0 _ _ _ (heap_alloc_new w (.cells #[.int .u64 v] 31))).trans rfl⟩⟩
  refine (equalU_same A _ 1 _ 1 [v] _ (by decide) (w.heap.size + 1) (hI5.keep (by omega) (fun p hp => rfl)) hI6).mono ?_
  rintro e w5 ⟨rfl, q, rfl⟩
  exact ⟨rfl, (World.grownBy_alloc w (.cells #[.int .u64 v] 31) none).andThen (row' := none) ⟨rfl, rfl, rfl, Nat.le_refl _, fun _ _ _ => rfl⟩ (fun k hk => by cases hk)⟩

def latL : List (List Bool) := [[true], [false]]
theorem lat_ok : LaOk 1 latL := ⟨by decide, by decide, fun L hL => by simp only [latL, List.mem_cons, List.not_mem_nil, or_false] at hL; rcases hL with rfl | rfl <;> decide⟩
theorem lat_fact {m m' : Mach} (hm : LaM lat_ok 0 m) (hf : Fin m m') : m'.cells = [0] ∧ endsM m' = (true, false) ∧ m'.events.length = 2 := by
  obtain ⟨S, hS, hq⟩ := la_fin hm (by decide) hf
  have hI := laM_inv hS
  obtain ⟨h1, h2, h3⟩ := lat_over hI hS.sim.wf hq
  have e1 : (S.th 1).k = 1 := by
    rcases h1 1 (by decide) with ⟨_, h⟩ | ⟨_, h⟩
    · exact h
    · have hk := (hS.sim.wf.th 1 (by decide)).k
      have hk' : (S.th 1).k ≤ 1 := hk
      rcases (by omega : (S.th 1).k = 0 ∨ (S.th 1).k = 1) with e | e
      · rw [e] at h; cases h
      · exact e
  have hD : (sumN 2 fun u => dnB (callsL latL u) (S.th u).k) = dnB (callsL latL 0) (S.th 0).k + dnB (callsL latL 1) (S.th 1).k := by rw [sumN_succ, sumN_succ]; simp [sumN]
  have d1 : dnB (callsL latL 1) 1 = 1 := rfl
  have d0 : dnB (callsL latL 0) (S.th 0).k = 0 := by
    have hk : (S.th 0).k ≤ 1 := (hS.sim.wf.th 0 (by decide)).k
    rcases (by omega : (S.th 0).k = 0 ∨ (S.th 0).k = 1) with e | e <;> rw [e] <;> rfl
  have hz : S.cell 0 = 0 := by
    have h3' : S.cell 0 + ((sumN 2 fun u => dnB (callsL latL u) (S.th u).k : Nat) : Int) = ((1 : Nat) : Int) ∨ (S.cell 0 = 0 ∧ ((1 : Nat) : Int) ≤ ((sumN 2 fun u => dnB (callsL latL u) (S.th u).k : Nat) : Int)) := h3
    rw [hD, e1, d1, d0] at h3'
    omega
  have hall := h2 hz
  refine ⟨by rw [laM_cells hS, hz], ends_done fun t ht => ?_, ?_⟩
  · have ht' : t < latL.length := by rw [← hS.sim.plen]; exact ht
    rw [laM_ended hS ht']; exact hall t ht'
  · rw [ans_len 2 m'.events hI.evs, sumN_succ, sumN_succ, (hI.ans 0 (by decide)).1, (hI.ans 1 (by decide)).1, e1]
    have e0 : (S.th 0).k = 1 := by
      rcases h1 0 (by decide) with ⟨_, h⟩ | ⟨_, h⟩
      · exact h
      · have he := hall 0 (by decide)
        have := (hS.sim.wf.th 0 (by decide)).fin he
        rw [h] at this; cases this
    rw [e0]
    rfl
set_option maxHeartbeats 2000000 in
theorem latched_any {w : World} (hw : CW w) : Calls Tryd.prog 14 #[] w fun e w' => e = .returned (.bool true) ∧ Below w.heap.size w w' := by
  obtain ⟨t1, t2, t3⟩ := two_calls w 2 1 1
  have HM := Lib.hid (lamade_any (hw.old t3) lat_ok (some ⟨w.heap.size + 1 + 1, 0, none⟩) (some ⟨w.heap.size + 1 + 1 + 1, 0, none⟩) none 2 2 1 0 0 t1 t2 [] ⟨rfl, fun h => absurd h (by omega)⟩ (by omega))
  have HB := Lib.hid t3
  clear t1 t2 t3
  unfold twoW at HM HB
  go_enter Tryd.func14, Tryd.ntmps14
  go_wp2_with fail
  refine HM.out.mono ?_
  rintro e w1 ⟨c, m, rfl, hA, -⟩
  have HF := Lib.hid (at_finish (hA.at_.old HB.out) hA.big)
  have HL := Lib.hid (show LaM lat_ok 0 m from hA.la)
  clear hA HM
  go_wp2_with fail
  refine HF.out.mono ?_
  rintro e w2 ⟨m', hf, rfl, hA2, hb2⟩
  obtain ⟨f1, f2, f3⟩ := lat_fact HL.out hf
  have HE := Lib.hid (at_ends hA2 (hb2.few))
  rw [f2] at HE
  have HA2 := Lib.hid hA2
  have HC3 := Lib.hid f1
  have HV3 := Lib.hid f3
  generalize ((m'.steps : Int) - (m.steps : Int)) = dd
  clear hf hA2 hb2 f1 f2 f3 HF HL
  go_wp2_with fail
  refine HE.out.mono ?_
  rintro e w3 ⟨rfl, hg3⟩
  have HA3 := Lib.hid (HA2.out.grow hg3)
  have HCe := Lib.hid (at_cells HA3.out (by rw [HC3.out]; decide))
  rw [HC3.out] at HCe
  clear hg3 HE HA2
  go_wp2_with fail
  refine HCe.out.mono ?_
  rintro e w4 ⟨A4, c4, rfl, ho4, hg4⟩
  have HA4 := Lib.hid (HA3.out.grow hg4)
  have HI4 := Lib.hid (show Ints .u64 w4 w4.heap.size A4 1 [0] from Ints.of_own ho4)
  clear hg4 ho4 HCe HA3
  go_wp2_with fail
  refine (equal_one A4 c4 0 HI4.out).mono ?_
  rintro e w5 ⟨rfl, hg5⟩
  have HA5 := Lib.hid (HA4.out.grow hg5)
  have HEv := Lib.hid (at_events HA5.out (by rw [HV3.out]; decide))
  rw [HV3.out] at HEv
  clear hg5 HA4 HI4
  go_wp2_with fail
  refine HEv.out.mono ?_
  rintro e w6 ⟨A6, c6, rfl, -, hg6⟩
  have HB6 := Lib.hid (HA5.out.grow hg6).bel
  clear hg6 HEv HA5
  go_wp2
  go_ret
  exact ⟨rfl, HB6.out⟩
theorem askL {w wr : World} {vs : List Int} {v : Value} {k : Nat} (hvs : ∀ x ∈ vs, x = 1 ∨ x = 2) (h : AskI w vs v k wr) :
    ∃ (A : Option Addr) (c : Nat) (Ls : List (List Bool)), v = .slice A k c ∧ CRows wr wr.heap.size A k (Ls.map (List.map encL)) ∧ Below w.heap.size w wr ∧ Ls.length = k ∧ ∀ L ∈ Ls, L.length ≤ 8 ∧ ∀ b ∈ L, (encL b).1 ∈ vs := by
  obtain ⟨A, c, ls, rfl, hN, hof⟩ := h.nest
  have henc : ∀ l ∈ ls, (l.map fun x => x.1 == 2).map encL = l := fun l hl => by
    rw [List.map_map]
    refine (List.map_congr_left fun x hx => ?_).trans (List.map_id l)
    obtain ⟨h1, h2⟩ := (hof l hl).2 x hx
    obtain ⟨a, b⟩ := x
    dsimp only at h1 h2
    subst h1
    rcases hvs a h2 with rfl | rfl <;> rfl
  refine ⟨A, c, ls.map (List.map fun x => x.1 == 2), rfl, ?_, hN.bel, ?_, fun L hL => ?_⟩
  · have e : (ls.map (List.map fun x => x.1 == 2)).map (List.map encL) = ls := by
      rw [List.map_map]
      exact (List.map_congr_left fun l hl => henc l hl).trans (List.map_id ls)
    rw [e]
    exact hN.calls
  · have := hN.len
    rw [List.length_map] at this ⊢
    exact this
  · obtain ⟨l, hl, rfl⟩ := List.mem_map.1 hL
    refine ⟨by rw [List.length_map]; exact (hof l hl).1, fun b hb => ?_⟩
    have : encL b ∈ (l.map fun x => x.1 == 2).map encL := List.mem_map_of_mem hb
    rw [henc l hl] at this
    exact ((hof l hl).2 _ this).2

theorem IRows.old {w w' : World} {n : Nat} {A : Option Addr} {l : List (List Int)} (h : IRows w w.heap.size A n l) (hb : Below w.heap.size w w') : IRows w' w'.heap.size A n l := by
  have h1 := h.below hb
  refine ⟨h1.len, fun h0 => ?_⟩
  obtain ⟨b, off, e, hlt, hx⟩ := h1.row h0
  refine ⟨b, off, e, Nat.lt_of_lt_of_le hlt hb.size, fun i hi => ?_⟩
  obtain ⟨Ai, ci, h2, h3, h4⟩ := hx i hi
  exact ⟨Ai, ci, h2, h3, h4.keep hb.size (fun p _ => rfl)⟩
/-- What calls of a latch come out of asks. -/
def LaAsked (w : World) (vs : List Int) (e : Ending) (w' : World) : Prop := ∃ (A : Option Addr) (c k : Nat) (Ls : List (List Bool)), e = .returned (.slice A k c) ∧ CRows w' w'.heap.size A k (Ls.map (List.map encL)) ∧ Below w.heap.size w w' ∧ Ls.length = k ∧ k ≤ 8 ∧ ∀ L ∈ Ls, L.length ≤ 8 ∧ ∀ b ∈ L, (encL b).1 ∈ vs
theorem laasks_any {w w1 : World} (hb : Below w.heap.size w w1) (A : Option Addr) (n cap d : Nat) (ls : List (List Int)) (hR : IRows w w.heap.size A n ls) (hcap : n ≤ cap) (vs : List Int) (hvs : ∀ x ∈ vs, x = 1 ∨ x = 2) (cs : Array Value) (hcs : cs.toList = vs.map (Value.int .i64)) (hd : vs.length = d) (d1 : 0 < d) (d9 : d ≤ 9) :
    Calls Tryd.prog 16 #[.slice A n cap, .slice (some ⟨w1.heap.size, 0, none⟩) d d] (w1.alloc (.cells cs 3)) (LaAsked w vs) := by
  have hb2 := hb.alloc hb.size (.cells cs 3)
  have hO : Ints .i64 (w1.alloc (.cells cs 3)) (w1.alloc (.cells cs 3)).heap.size (some ⟨w1.heap.size, 0, none⟩) d vs := ⟨hd, fun _ => ⟨_, 0, rfl, by simp, fun i hi => by
    have hz : cs[i]? = some (.int .i64 (vs.getD i 0)) := by
      rw [← Array.getElem?_toList, hcs, List.getElem?_map, List.getD_eq_getElem?_getD, List.getElem?_eq_getElem (by omega)]
      rfl
    rw [Nat.zero_add]
    exact (cell_of_row _ _ i _ _ _ (heap_alloc_new w1 (.cells cs 3))).trans hz⟩⟩
  refine (asks_any A _ n cap d d ls (hR.old hb2) hcap vs hO d1 d9).mono ?_
  rintro e w' ⟨k, v, hk, rfl, hA⟩
  obtain ⟨A', c', Ls, rfl, hC, hB, hl, hL⟩ := askL hvs hA
  exact ⟨A', c', k, Ls, rfl, hC, hb2.trans (hB.mono hb2.size), hl, hk, hL⟩
theorem la_ok_of {f : Nat} {Ls : List (List Bool)} {vs : List Int} {k : Nat} (hf : f ≤ 12) (hl : Ls.length = k) (hk : k ≤ 8) (hL : ∀ L ∈ Ls, L.length ≤ 8 ∧ ∀ b ∈ L, (encL b).1 ∈ vs) : LaOk f Ls := ⟨hf, by omega, fun L h => by have := (hL L h).1; omega⟩

theorem CRows.old {w w' : World} {n : Nat} {A : Option Addr} {l : List (List (Int × Int))} (h : CRows w w.heap.size A n l) (hb : Below w.heap.size w w') : CRows w' w'.heap.size A n l := by
  have h1 := h.below hb
  refine ⟨h1.len, fun h0 => ?_⟩
  obtain ⟨b, off, e, hlt, hx⟩ := h1.row h0
  refine ⟨b, off, e, Nat.lt_of_lt_of_le hlt hb.size, fun i hi => ?_⟩
  obtain ⟨Ai, ci, h2, h3⟩ := hx i hi
  exact ⟨Ai, ci, h2, h3.wide hb.size⟩
theorem lamade2 {w w2 : World} (hw : CW w) (hb : Below w.heap.size w w2) {f : Nat} {Ls : List (List Bool)} (h : LaOk f Ls) (A D : Option Addr) (n cap nm cm : Nat) (hA : CRows w2 w2.heap.size A n (Ls.map (List.map encL))) (l : List (Int × Bool)) (hl : Moves w w.heap.size D nm l) (hnm : nm ≤ 500) :
    Calls Tryd.prog 17 #[.slice A n cap, .func (.func 18) #[] #[], .slice (some ⟨w2.heap.size, 0, none⟩) 1 1, .slice D nm cm] (w2.alloc (.cells #[.int .u64 (f : Nat)] 31)) fun e w' => ∃ c m, e = .returned (.pointer (some ⟨c, 0, none⟩)) ∧ LaAt w c h (pokesM l) m w' ∧ m = behindM 20000 (newM (wholesK latchF Ls) [(f : Int)]) l := by
  have hb2 := (Below.refl w2.heap.size w2).alloc (Nat.le_refl _) (.cells #[.int .u64 (f : Nat)] 31)
  have hb3 := hb.alloc hb.size (.cells #[.int .u64 (f : Nat)] 31)
  have hI : Ints .u64 (w2.alloc (.cells #[.int .u64 (f : Nat)] 31)) (w2.alloc (.cells #[.int .u64 (f : Nat)] 31)).heap.size (some ⟨w2.heap.size, 0, none⟩) 1 [(f : Int)] := ⟨rfl, fun _ => ⟨_, 0, rfl, by simp, fun i hi => by
    match i, hi with
    | 0, _ => exact (cell_of_row _ _ 0 _ _ _ (heap_alloc_new w2 (.cells #[.int .u64 (f : Nat)] 31))).trans rfl⟩⟩
  refine (lamade_any (hw.old hb3) h A _ D n cap 1 nm cm (hA.old hb2) hI l (hl.old hb3) hnm).mono ?_
  rintro e w' ⟨c, m, he, hAt, hm⟩
  exact ⟨c, m, he, ⟨hAt.at_.old hb3, hAt.big, hAt.la⟩, hm⟩

theorem u64_small {f : Nat} (h : f ≤ 1000) : IntKind.u64.wrap (f : Int) = (f : Int) := by
  show (f : Int) % 18446744073709551616 = _
  omega
theorem ActRow.below {w w' : World} {A : Option Addr} {n : Nat} {l : List Act6} (h : ActRow w A n l) (hb : Below w.heap.size w w') : ActRow w' A n l := fun i hi => by
  obtain ⟨b, off, e, h0, h1, h2, h3, h4, h5⟩ := h i hi
  have hlt : b < w.heap.size := World.block_lt_of_cell? w _ h0
  have hx : ∀ (j : Nat), w'.cell? ⟨b, off + i * 6 + j, none⟩ = w.cell? ⟨b, off + i * 6 + j, none⟩ := fun j => World.cell?_of_block (a := ⟨b, off + i * 6 + j, none⟩) (hb.block b hlt)
  exact ⟨b, off, e, (hx 0).trans h0, (hx 1).trans h1, (hx 2).trans h2, (hx 3).trans h3, (hx 4).trans h4, (hx 5).trans h5⟩
theorem lamade3 {w w2 : World} (hw : CW w) (hb : Below w.heap.size w w2) {f : Nat} {Ls : List (List Bool)} (h : LaOk f Ls) (A D : Option Addr) (n cap nm cm : Nat) (hA : CRows w2 w2.heap.size A n (Ls.map (List.map encL))) (l : List (Int × Bool)) (hl : Moves w w.heap.size D nm l) (hnm : nm ≤ 500) :
    Calls Tryd.prog 17 #[.slice A n cap, .func (.func 18) #[] #[], .slice (some ⟨w2.heap.size, 0, none⟩) 1 1, .slice D nm cm] (w2.alloc (.cells #[.int .u64 (f : Nat)] 31)) fun e w' => ∃ c m, e = .returned (.pointer (some ⟨c, 0, none⟩)) ∧ LaAt w2 c h (pokesM l) m w' ∧ m = behindM 20000 (newM (wholesK latchF Ls) [(f : Int)]) l := by
  have hb2 := (Below.refl w2.heap.size w2).alloc (Nat.le_refl _) (.cells #[.int .u64 (f : Nat)] 31)
  have hb3 := hb.alloc hb.size (.cells #[.int .u64 (f : Nat)] 31)
  have hI : Ints .u64 (w2.alloc (.cells #[.int .u64 (f : Nat)] 31)) (w2.alloc (.cells #[.int .u64 (f : Nat)] 31)).heap.size (some ⟨w2.heap.size, 0, none⟩) 1 [(f : Int)] := ⟨rfl, fun _ => ⟨_, 0, rfl, by simp, fun i hi => by
    match i, hi with
    | 0, _ => exact (cell_of_row _ _ 0 _ _ _ (heap_alloc_new w2 (.cells #[.int .u64 (f : Nat)] 31))).trans rfl⟩⟩
  refine (lamade_any (hw.old hb3) h A _ D n cap 1 nm cm (hA.old hb2) hI l (hl.old hb3) hnm).mono ?_
  rintro e w' ⟨c, m, he, hAt, hm⟩
  exact ⟨c, m, he, ⟨hAt.at_.old hb2, hAt.big, hAt.la⟩, hm⟩

theorem Nest.low {tO tI : TypeId} {sz : Nat} {w W wr : World} {A : Option Addr} {n c : Nat} {rs : List (Nat × List Value)} (h : Nest tO tI sz W A n c rs wr) (hb : Below w.heap.size w W) : Nest tO tI sz w A n c rs wr := by
  obtain ⟨xs, h1, h2⟩ := h.row
  refine ⟨hb.trans (h.bel.mono hb.size), h.len, xs, own_low h1 hb.size, fun j hj => ?_⟩
  obtain ⟨Aj, cj, h3, h4⟩ := h2 j hj
  exact ⟨Aj, cj, h3, own_low h4 hb.size⟩
end Go.Proofs.YtdfljhechmanlaaDoor

namespace Go.Proofs.YtdfljhechmanlaaDoor
set_option maxRecDepth 100000
open Go.RowKit Go.Shelf Go.Sort
set_option linter.unusedVariables false
set_option linter.unusedSimpArgs false

def cntC (q : Int) (l : List (Int × Int)) : Nat := l.countP fun x => x.1 == q
def cntAll (q : Int) (ls : List (List (Int × Int))) : Nat := (ls.map (cntC q)).sum
theorem cntC_take (q : Int) (l : List (Int × Int)) (i : Nat) (hi : i < l.length) : cntC q (l.take (i + 1)) = cntC q (l.take i) + if (l.getD i default).1 = q then 1 else 0 := by
  have e : l.take (i + 1) = l.take i ++ [l.getD i default] := by
    rw [List.take_add_one, List.getD_eq_getElem?_getD, List.getElem?_eq_getElem hi]
    rfl
  unfold cntC
  rw [e, List.countP_append]
  by_cases h : (l.getD i default).1 = q
  · simp [List.countP_cons, h]
  · have : ((l.getD i default).1 == q) = false := beq_eq_false_iff_ne.2 h
    simp [List.countP_cons, this, h]
theorem cntC_le (q : Int) (l : List (Int × Int)) : cntC q l ≤ l.length := List.countP_le_length
theorem cntAll_take (q : Int) (ls : List (List (Int × Int))) (k : Nat) (hk : k < ls.length) : cntAll q (ls.take (k + 1)) = cntAll q (ls.take k) + cntC q (ls.getD k []) := by
  have e : ls.take (k + 1) = ls.take k ++ [ls.getD k []] := by
    rw [List.take_add_one, List.getD_eq_getElem?_getD, List.getElem?_eq_getElem hk]
    rfl
  unfold cntAll
  rw [e, List.map_append, List.sum_append]
  simp
theorem cntAll_few (q : Int) : ∀ (ls : List (List (Int × Int))), (∀ l ∈ ls, l.length ≤ 12) → cntAll q ls ≤ 12 * ls.length
  | [], _ => by simp [cntAll]
  | l :: ls, h => by
    have h1 := cntAll_few q ls (fun x hx => h x (.tail _ hx))
    have h2 := cntC_le q l
    have h3 := h l (.head _)
    have e : cntAll q (l :: ls) = cntC q l + cntAll q ls := by simp [cntAll]
    rw [e, List.length_cons]
    omega
set_option maxHeartbeats 2000000 in
theorem count_any {w : World} (A : Option Addr) (n cap : Nat) (ls : List (List (Int × Int))) (hR : CRows w w.heap.size A n ls) (h12 : ∀ l ∈ ls, l.length ≤ 12) (hn : n ≤ 16) (q : Int) :
    Calls Tryd.prog 25 #[.slice A n cap, .int .i64 q] w fun e w' => e = .returned (.int .i64 (cntAll q ls : Nat)) ∧ Below w.heap.size w w' := by
  have HR := Lib.hid hR
  have HN := Lib.hid hR.len
  have HF := Lib.hid (fun k => cntAll_few q (ls.take k) fun l hl => h12 l (List.mem_of_mem_take hl))
  have H12 := Lib.hid h12
  clear hR h12
  go_enter Tryd.func25, Tryd.ntmps25
  go_wp2
  go_loopw [5, 12] (fun s j wr => ∃ k : Nat, k ≤ n ∧ j = .int .i64 k ∧ s = .int .i64 (cntAll q (ls.take k) : Nat) ∧ Below w.heap.size w wr) (fun _ j _ => n - (intOf j).toNat)
  case atStart => exact ⟨0, Nat.zero_le _, rfl, rfl, Below.refl _ _⟩
  case round =>
    obtain ⟨k, hk, rfl, rfl, hm⟩ := hrel
    by_cases hlt : k < n
    · have hkn : (k : Int) < (n : Int) := by omega
      obtain ⟨b, off, hA, hb, hx⟩ := HR.out.row (by omega)
      subst hA
      obtain ⟨Ai, ci, hcell0, hrow⟩ := hx k hlt
      have hcell := (World.cell?_of_block (a := ⟨b, off + k, none⟩) (hm.block b hb)).trans hcell0
      have hkl : k < ls.length := by rw [HN.out]; exact hlt
      have HT := Lib.hid (cntAll_take q ls k hkl)
      have hl12 : (ls.getD k []).length ≤ 12 := H12.out _ (by rw [List.getD_eq_getElem?_getD, List.getElem?_eq_getElem hkl]; exact List.getElem_mem _)
      have hfew := HF.out k
      rw [List.length_take] at hfew
      generalize cntAll q (ls.take k) = z at *
      generalize ls.getD k [] = l at *
      have HRow := Lib.hid hrow
      have HM := Lib.hid hm
      obtain ⟨m, hml⟩ : ∃ m, l.length = m := ⟨_, rfl⟩
      rw [hml] at hcell HRow hl12
      have HML := Lib.hid hml
      have hz : z ≤ 200 := by omega
      have HZ := Lib.hid hz
      clear hx hkl hrow hm hfew hml hcell0 hb hz
      go_wp2
      go_loopw [5, 18] (fun s j w2 => ∃ i : Nat, i ≤ m ∧ j = .int .i64 i ∧ s = .int .i64 ((z + cntC q (l.take i) : Nat) : Int) ∧ Below w.heap.size w w2) (fun _ j _ => m - (intOf j).toNat)
      case atStart => exact ⟨0, Nat.zero_le _, rfl, by simp [cntC], HM.out⟩
      case round =>
        obtain ⟨i, hi, rfl, rfl, hm2⟩ := hrel
        rename_i w2
        by_cases hlt2 : i < m
        · have hin : (i : Int) < (m : Int) := by omega
          obtain ⟨b2, off2, hA2, hb2, hx2⟩ := (HRow.out.below hm2).row (by omega)
          subst hA2
          obtain ⟨hc0, hc1⟩ := hx2 i hlt2
          have hT2 := cntC_take q l i (by rw [HML.out]; exact hlt2)
          have hle := cntC_le q (l.take i)
          rw [List.length_take] at hle
          generalize cntC q (l.take i) = y at *
          have HY := Lib.hid hT2
          have HB2 := Lib.hid (fun o => hm2.alloc hm2.size o)
          generalize l.getD i default = x at *
          obtain ⟨x0, x1⟩ := x
          dsimp only at hc0 hc1 HY
          obtain ⟨s, hs⟩ : ∃ s : Nat, z + y = s := ⟨_, rfl⟩
          have hs2 : s ≤ 300 := by have := HZ.out; omega
          have HS := Lib.hid hs
          rw [hs]
          clear hx2 hT2 hle hm2 hb2 hs
          by_cases he : x0 = q
          · subst he
            have heq : (x0 == x0) = true := by simp
            have hw1 : wrap64 ((s : Int) + 1) = (s : Int) + 1 := by unfold wrap64; omega
            go_wp2
            --MB
            go_roundw
            case rel => exact ⟨i + 1, by omega, by go_num, by rw [HY.out, if_pos rfl, ← Nat.add_assoc, HS.out]; go_num, HB2.out _⟩
            case measure => simp [intOf]; omega
          · have heq : (x0 == q) = false := beq_eq_false_iff_ne.2 he
            go_wp2
            go_roundw
            case rel => exact ⟨i + 1, by omega, by go_num, by rw [HY.out, if_neg he, ← Nat.add_assoc, HS.out, Nat.add_zero], HB2.out _⟩
            case measure => simp [intOf]; omega
        · have hin : ¬ (i : Int) < (m : Int) := by omega
          obtain rfl : i = m := by omega
          have hall : l.take i = l := List.take_of_length_le (by rw [HML.out]; exact Nat.le_refl _)
          rw [hall]
          have HM2 := Lib.hid hm2
          clear hm2 hall
          go_wp2
          go_roundw
          case rel => exact ⟨k + 1, by omega, by go_num, by rw [HT.out], HM2.out⟩
          case measure => simp [intOf]; omega
    · have hkn : ¬ (k : Int) < (n : Int) := by omega
      obtain rfl : k = n := by omega
      have hall : ls.take k = ls := List.take_of_length_le (by rw [HN.out]; exact Nat.le_refl _)
      rw [hall]
      have HM2 := Lib.hid hm
      clear hm hall
      go_wp2
      go_ret
      exact ⟨rfl, HM2.out⟩
end Go.Proofs.YtdfljhechmanlaaDoor
