/-
  A semaphore where the laws have it: counted; what is so behind moves, and at its end.
-/
import Derived.Test.YtdfljhechmanlaaDoorQL3
import Derived.Test.YtdfljhechmanlaaDoorQL7
namespace Go.Proofs.YtdfljhechmanlaaDoor
set_option maxRecDepth 100000
open Go.RowKit Go.Shelf Go.Sort
set_option linter.unusedVariables false
set_option linter.unusedSimpArgs false

/-- Calls that a semaphore may be asked for. -/
structure SeOk (f : Nat) (Ls : List (List Bool)) : Prop where
  f12 : f ≤ 12
  n9 : Ls.length ≤ 9
  l12 : ∀ L ∈ Ls, L.length ≤ 12
theorem SeOk.calls {f : Nat} {Ls : List (List Bool)} (h : SeOk f Ls) (u : Nat) : (callsL Ls u).length ≤ 12 := by
  unfold callsL
  rw [List.getD_eq_getElem?_getD]
  cases hc : Ls[u]? with
  | none => exact Nat.zero_le _
  | some l => exact h.l12 l (List.mem_of_getElem? hc)
def seB (f : Nat) (Ls : List (List Bool)) : Int := (f : Int) + (sumN Ls.length fun u => (callsL Ls u).length : Nat)
theorem seB_le {f : Nat} {Ls : List (List Bool)} (h : SeOk f Ls) : seB f Ls ≤ 500 := by
  have h1 : (sumN Ls.length fun u => (callsL Ls u).length) ≤ sumN Ls.length fun _ => 12 := sumN_le fun u _ => h.calls u
  rw [sumN_const] at h1
  have h2 : Ls.length * 12 ≤ 9 * 12 := Nat.mul_le_mul_right _ h.n9
  have := h.f12
  unfold seB
  omega
def seK {f : Nat} {Ls : List (List Bool)} (h : SeOk f Ls) : KindF semaF Ls.length (callsL Ls) (fun c => ([(f : Int)] : List Int).getD c 0) := semK f Ls.length (callsL Ls) (seB f Ls) (Int.le_refl _) (seB_le h) (by have := h.n9; omega)
/-- A semaphore behind some steps and p pokes. -/
def SeM {f : Nat} {Ls : List (List Bool)} (h : SeOk f Ls) (p : Nat) (m : Mach) : Prop := ∃ S, RanF (seK h) p S m
section
variable {f : Nat} {Ls : List (List Bool)} {h : SeOk f Ls} {p : Nat} {m m' : Mach}
theorem seK_pot (h : SeOk f Ls) : (seK h).pot (newK fun c => ([(f : Int)] : List Int).getD c 0) ≤ 10600 := semK_pot h.n9 h.calls _ _ _
theorem seK_pk (h : SeOk f Ls) : (seK h).pk = 4 := rfl
theorem se_new (h : SeOk f Ls) : SeM h 0 (newM (wholesK semaF Ls) [(f : Int)]) := by
  rw [wholesK_at]
  refine ⟨_, ranF_new (K := seK h) rfl fun v hv => ?_⟩
  rw [List.mem_singleton.1 hv]
  have := h.f12
  exact ⟨by omega, by unfold m64; omega⟩
theorem se_moves (hm : SeM h p m) (l : List (Int × Bool)) (hp : p + pokesM l ≤ 500) : SeM h (p + pokesM l) (behindM 20000 m l) := by
  obtain ⟨S, hS⟩ := hm
  exact ranF_moves l p S m hS (by have := seK_pot h; rw [seK_pk]; omega)
theorem se_fin (hm : SeM h p m) (hp : p ≤ 500) (hf : Fin m m') : ∃ S', RanF (seK h) p S' m' ∧ ∀ t, t < Ls.length → stillK S' t := by
  obtain ⟨S, hS⟩ := hm
  exact ranF_fin (by have := seK_pot h; rw [seK_pk]; omega) hS hf
theorem seM_inv {S : CS} (hS : RanF (seK h) p S m) : SemI Ls.length (callsL Ls) f (seB f Ls) S m.acts m.events := hS.inv
theorem seM_cells {S : CS} (hS : RanF (seK h) p S m) : m.cells = [S.cell 0] := by
  have hl : m.cells.length = 1 := hS.sim.lc
  have hc : S.cell 0 = m.cells.getD 0 0 := by rw [hS.sim.cell]
  match hm : m.cells, hl with
  | [v], _ => rw [hm] at hc; rw [hc]; rfl
theorem seM_ended {S : CS} (hS : RanF (seK h) p S m) {t : Nat} (ht : t < Ls.length) : m.ended.getD t false = (S.th t).en := hS.ended ht
theorem seM_all {S : CS} (hS : RanF (seK h) p S m) : allTo m m.progs.length = true ↔ ∀ t, t < Ls.length → (S.th t).en = true := by
  rw [allTo_iff, hS.sim.plen]
  exact ⟨fun q t ht => by rw [← seM_ended hS ht]; exact q t ht, fun q t ht => by rw [seM_ended hS ht]; exact q t ht⟩
theorem seM_stuck {S : CS} (hS : RanF (seK h) p S m) (hq : ∀ t, t < Ls.length → stillK S t) : stuckTo m m.progs.length = true := by
  rw [stuckTo_iff, hS.sim.plen]
  intro t ht
  unfold readyE
  rw [if_neg (by rw [hS.sim.plen]; omega)]
  by_cases he : m.ended.getD (t : Int).toNat false = true
  · rw [if_pos he]; decide
  · rw [if_neg he, if_pos]
    · decide
    · rw [Int.toNat_natCast, seM_ended hS ht] at he
      have hs : slK S t = true := (hq t ht).resolve_left he
      have ha := hS.sim.asleep t
      rw [hs] at ha
      unfold asleepM at ha
      obtain ⟨s, hs1, hs2⟩ := List.any_eq_true.1 ha
      unfold cellM
      cases hfd : m.lot.find? (fun s => s.1 == (t : Int)) with
      | none =>
        rw [List.find?_eq_none] at hfd
        exact absurd hs2 (hfd s hs1)
      | some q =>
        have hq1 := List.mem_of_find?_eq_some hfd
        rw [hS.sim.lot] at hq1
        obtain ⟨r, _, rfl⟩ := List.mem_map.1 hq1
        show (0 : Int) ≤ ((r.2 : Nat) : Int)
        omega
end

theorem se_right (L : List Bool) (hL : L.length ≤ 12) : RightL (wholeK semaF L) semaF.nc := whole_right semaF (fun c => by cases c <;> decide) (by decide) sema_good L hL
theorem se_codes (w : World) : CodesOf semaF encS 29 w := fun w1 hb L hL A n cap i hR => secode_any L hL A n cap hR i
theorem se_big {f : Nat} {Ls : List (List Bool)} (h : SeOk f Ls) : MBig [(f : Int)] (newM (wholesK semaF Ls) [(f : Int)]) := by
  have hl : (wholesK semaF Ls).length = Ls.length := by unfold wholesK; rw [List.length_map]
  refine newM_big ⟨by rw [hl]; have := h.n9; omega, (show (1 : Nat) ≤ 100 by decide), fun i hi => ?_⟩ fun v hv => ?_
  · have hi' : i < Ls.length := by rw [← hl]; exact hi
    have e : (wholesK semaF Ls).getD i [] = wholeK semaF (Ls.getD i []) := by unfold wholesK; rw [List.getD_eq_getElem?_getD, List.getElem?_map, List.getElem?_eq_getElem hi', List.getD_eq_getElem?_getD, List.getElem?_eq_getElem hi']; rfl
    rw [e]
    exact se_right _ (h.calls i)
  · rw [List.mem_singleton.1 hv]
    have := h.f12
    exact ⟨by omega, by omega⟩
/-- A latch at a place. -/
structure SeAt (w : World) (c : Nat) {f : Nat} {Ls : List (List Bool)} (h : SeOk f Ls) (p : Nat) (m : Mach) (wr : World) : Prop where
  at_ : At w c m wr
  big : MBig [(f : Int)] m
  la : SeM h p m
theorem SeAt.grow {w wr w' : World} {c : Nat} {f : Nat} {Ls : List (List Bool)} {h : SeOk f Ls} {p : Nat} {m : Mach} (hA : SeAt w c h p m wr) (hg : wr.grownBy w' none) : SeAt w c h p m w' := ⟨hA.at_.grow hg, hA.big, hA.la⟩

theorem semade_any {w : World} (hw : CW w) {f : Nat} {Ls : List (List Bool)} (h : SeOk f Ls) (A C D : Option Addr) (n cap cc nm cm : Nat) (hA : CRows w w.heap.size A n (Ls.map (List.map encS))) (hc : Ints .u64 w w.heap.size C 1 [(f : Int)]) (l : List (Int × Bool)) (hl : Moves w w.heap.size D nm l) (hnm : nm ≤ 500) :
    Calls Tryd.prog 17 #[.slice A n cap, .func (.func 29) #[] #[], .slice C 1 cc, .slice D nm cm] w fun e w' => ∃ c m, e = .returned (.pointer (some ⟨c, 0, none⟩)) ∧ SeAt w c h (pokesM l) m w' ∧ m = behindM 20000 (newM (wholesK semaF Ls) [(f : Int)]) l := by
  refine (made_any semaF encS 29 (enter_ask Tryd.func29 (by kernel_rfl) (by kernel_rfl)) hw (se_codes w) se_right (by decide) (by decide) Ls (by have := h.n9; omega) h.l12 A C D n cap 1 cc nm cm hA [(f : Int)] hc rfl l hl (fun v hv => by rw [List.mem_singleton.1 hv]; have := h.f12; exact ⟨by omega, by omega⟩) (by omega)).mono ?_
  rintro e w' ⟨c, rfl, hAt⟩
  have hp := pokesM_le l
  have hl' := hl.len
  have := se_moves (se_new h) l (by omega)
  rw [Nat.zero_add] at this
  exact ⟨c, _, rfl, ⟨hAt, (se_big h).behind l, this⟩, rfl⟩

def semL : List (List Bool) := [[false], [true]]
theorem sem_ok : SeOk 0 semL := ⟨by decide, by decide, fun L hL => by simp only [semL, List.mem_cons, List.not_mem_nil, or_false] at hL; rcases hL with rfl | rfl <;> decide⟩
theorem sem_fact {m m' : Mach} (hm : SeM sem_ok 0 m) (hf : Fin m m') : m'.cells = [0] ∧ endsM m' = (true, false) ∧ m'.events.length = 2 := by
  obtain ⟨S, hS, hq⟩ := se_fin hm (by decide) hf
  have hI := seM_inv hS
  obtain ⟨h1, h2, h3⟩ := sem_over hI hS.sim.wf hq
  have hk0 : (S.th 0).k ≤ 1 := (hS.sim.wf.th 0 (by decide)).k
  have hk1 : (S.th 1).k ≤ 1 := (hS.sim.wf.th 1 (by decide)).k
  have e1 : (S.th 1).k = 1 := by
    rcases h1 1 (by decide) with ⟨_, h⟩ | ⟨_, h⟩
    · exact h
    · rcases (by omega : (S.th 1).k = 0 ∨ (S.th 1).k = 1) with e | e
      · rw [e] at h; cases h
      · exact e
  have c0 : ∀ k, k ≤ 1 → cntB false (callsL semL 0) k = k ∧ cntB true (callsL semL 0) k = 0 := fun k hk => by
    rcases (by omega : k = 0 ∨ k = 1) with e | e <;> subst e <;> exact ⟨rfl, rfl⟩
  have d0 : cntB false (callsL semL 1) 1 = 0 ∧ cntB true (callsL semL 1) 1 = 1 := ⟨rfl, rfl⟩
  have h3' : S.cell 0 + (sumN 2 fun u => cntB false (callsL semL u) (S.th u).k : Nat) = ((0 : Nat) : Int) + (sumN 2 fun u => cntB true (callsL semL u) (S.th u).k : Nat) := h3
  rw [sumN_succ, sumN_succ, sumN_succ, sumN_succ, e1, (c0 _ hk0).1, (c0 _ hk0).2, d0.1, d0.2] at h3'
  have hz0 : ∀ g : Nat → Nat, sumN 0 g = 0 := fun g => rfl
  rw [hz0, hz0] at h3'
  have e0 : (S.th 0).k = 1 := by
    rcases (by omega : (S.th 0).k = 0 ∨ (S.th 0).k = 1) with e | e
    · exfalso
      rw [e] at h3'
      have hen := h2 (by omega) 0 (by decide)
      have := (hS.sim.wf.th 0 (by decide)).fin hen
      rw [e] at this
      cases this
    · exact e
  have hz : S.cell 0 = 0 := by rw [e0] at h3'; omega
  have hall : ∀ u, u < 2 → (S.th u).en = true := fun u hu => by
    rcases h1 u hu with ⟨h, _⟩ | ⟨_, h⟩
    · exact h
    · rcases (by omega : u = 0 ∨ u = 1) with e | e
      · subst e; rw [e0] at h; cases h
      · subst e; rw [e1] at h; cases h
  refine ⟨by rw [seM_cells hS, hz], ends_done fun t ht => ?_, ?_⟩
  · have ht' : t < semL.length := by rw [← hS.sim.plen]; exact ht
    rw [seM_ended hS ht']; exact hall t ht'
  · rw [ans_len 2 m'.events hI.evs, sumN_succ, sumN_succ, hI.ans 0 (by decide), hI.ans 1 (by decide), e0, e1]
    rfl
set_option maxHeartbeats 2000000 in
theorem counted_any {w : World} (hw : CW w) : Calls Tryd.prog 28 #[] w fun e w' => e = .returned (.bool true) ∧ Below w.heap.size w w' := by
  obtain ⟨t1, t2, t3⟩ := two_calls w 3 4 0
  have HM := Lib.hid (semade_any (hw.old t3) sem_ok (some ⟨w.heap.size + 1 + 1, 0, none⟩) (some ⟨w.heap.size + 1 + 1 + 1, 0, none⟩) none 2 2 1 0 0 t1 t2 [] ⟨rfl, fun h => absurd h (by omega)⟩ (by omega))
  have HB := Lib.hid t3
  clear t1 t2 t3
  unfold twoW at HM HB
  go_enter Tryd.func28, Tryd.ntmps28
  go_wp2_with fail
  refine HM.out.mono ?_
  rintro e w1 ⟨c, m, rfl, hA, -⟩
  have HF := Lib.hid (at_finish (hA.at_.old HB.out) hA.big)
  have HL := Lib.hid (show SeM sem_ok 0 m from hA.la)
  clear hA HM
  go_wp2_with fail
  refine HF.out.mono ?_
  rintro e w2 ⟨m', hf, rfl, hA2, hb2⟩
  obtain ⟨f1, f2, f3⟩ := sem_fact HL.out hf
  have HE := Lib.hid (at_ends hA2 (hb2.few))
  rw [f2] at HE
  have HA2 := Lib.hid hA2
  have HC3 := Lib.hid f1
  have HV3 := Lib.hid f3
  generalize ((m'.steps : Int) - (m.steps : Int)) = dd
  clear hf hA2 hb2 f1 f2 f3 HF HL
  go_wp2_with fail
  refine HE.out.mono ?_
  rintro e w3 ⟨rfl, hg3⟩
  have HA3 := Lib.hid (HA2.out.grow hg3)
  have HCe := Lib.hid (at_cells HA3.out (by rw [HC3.out]; decide))
  rw [HC3.out] at HCe
  clear hg3 HE HA2
  go_wp2_with fail
  refine HCe.out.mono ?_
  rintro e w4 ⟨A4, c4, rfl, ho4, hg4⟩
  have HA4 := Lib.hid (HA3.out.grow hg4)
  have HI4 := Lib.hid (show Ints .u64 w4 w4.heap.size A4 1 [0] from Ints.of_own ho4)
  clear hg4 ho4 HCe HA3
  go_wp2_with fail
  refine (equal_one A4 c4 0 HI4.out).mono ?_
  rintro e w5 ⟨rfl, hg5⟩
  have HA5 := Lib.hid (HA4.out.grow hg5)
  have HEv := Lib.hid (at_events HA5.out (by rw [HV3.out]; decide))
  rw [HV3.out] at HEv
  clear hg5 HA4 HI4
  go_wp2_with fail
  refine HEv.out.mono ?_
  rintro e w6 ⟨A6, c6, rfl, -, hg6⟩
  have HB6 := Lib.hid (HA5.out.grow hg6).bel
  clear hg6 HEv HA5
  go_wp2
  go_ret
  exact ⟨rfl, HB6.out⟩
theorem semade3 {w w2 : World} (hw : CW w) (hb : Below w.heap.size w w2) {f : Nat} {Ls : List (List Bool)} (h : SeOk f Ls) (A D : Option Addr) (n cap nm cm : Nat) (hA : CRows w2 w2.heap.size A n (Ls.map (List.map encS))) (l : List (Int × Bool)) (hl : Moves w w.heap.size D nm l) (hnm : nm ≤ 500) :
    Calls Tryd.prog 17 #[.slice A n cap, .func (.func 29) #[] #[], .slice (some ⟨w2.heap.size, 0, none⟩) 1 1, .slice D nm cm] (w2.alloc (.cells #[.int .u64 (f : Nat)] 31)) fun e w' => ∃ c m, e = .returned (.pointer (some ⟨c, 0, none⟩)) ∧ SeAt w2 c h (pokesM l) m w' ∧ m = behindM 20000 (newM (wholesK semaF Ls) [(f : Int)]) l := by
  have hb2 := (Below.refl w2.heap.size w2).alloc (Nat.le_refl _) (.cells #[.int .u64 (f : Nat)] 31)
  have hb3 := hb.alloc hb.size (.cells #[.int .u64 (f : Nat)] 31)
  have hI : Ints .u64 (w2.alloc (.cells #[.int .u64 (f : Nat)] 31)) (w2.alloc (.cells #[.int .u64 (f : Nat)] 31)).heap.size (some ⟨w2.heap.size, 0, none⟩) 1 [(f : Int)] := ⟨rfl, fun _ => ⟨_, 0, rfl, by simp, fun i hi => by
    match i, hi with
    | 0, _ => exact (cell_of_row _ _ 0 _ _ _ (heap_alloc_new w2 (.cells #[.int .u64 (f : Nat)] 31))).trans rfl⟩⟩
  refine (semade_any (hw.old hb3) h A _ D n cap 1 nm cm (hA.old hb2) hI l (hl.old hb3) hnm).mono ?_
  rintro e w' ⟨c, m, he, hAt, hm⟩
  exact ⟨c, m, he, ⟨hAt.at_.old hb2, hAt.big, hAt.la⟩, hm⟩

/-- Rows of calls of a latch that are the call's own. -/
abbrev SeNest (w : World) (A : Option Addr) (k c : Nat) (Ls : List (List Bool)) (wr : World) : Prop := Nest 41 43 2 w A k c ((Ls.map (List.map encS)).map fun (l : List (Int × Int)) => (l.length, cellsC l)) wr
theorem seasksN_any {w w1 : World} (hb : Below w.heap.size w w1) (A : Option Addr) (n cap d : Nat) (ls : List (List Int)) (hR : IRows w w.heap.size A n ls) (hcap : n ≤ cap) (vs : List Int) (hvs : ∀ x ∈ vs, x = 3 ∨ x = 4) (cs : Array Value) (hcs : cs.toList = vs.map (Value.int .i64)) (hd : vs.length = d) (d1 : 0 < d) (d9 : d ≤ 9) :
    Calls Tryd.prog 16 #[.slice A n cap, .slice (some ⟨w1.heap.size, 0, none⟩) d d] (w1.alloc (.cells cs 3)) fun e w' => ∃ (A : Option Addr) (c k : Nat) (Ls : List (List Bool)), e = .returned (.slice A k c) ∧ SeNest w A k c Ls w' ∧ Ls.length = k ∧ k ≤ 8 ∧ ∀ L ∈ Ls, L.length ≤ 8 ∧ ∀ b ∈ L, (encS b).1 ∈ vs := by
  have hb2 := hb.alloc hb.size (.cells cs 3)
  have hO : Ints .i64 (w1.alloc (.cells cs 3)) (w1.alloc (.cells cs 3)).heap.size (some ⟨w1.heap.size, 0, none⟩) d vs := ⟨hd, fun _ => ⟨_, 0, rfl, by simp, fun i hi => by
    have hz : cs[i]? = some (.int .i64 (vs.getD i 0)) := by
      rw [← Array.getElem?_toList, hcs, List.getElem?_map, List.getD_eq_getElem?_getD, List.getElem?_eq_getElem (by omega)]
      rfl
    rw [Nat.zero_add]
    exact (cell_of_row _ _ i _ _ _ (heap_alloc_new w1 (.cells cs 3))).trans hz⟩⟩
  refine (asks_any A _ n cap d d ls (hR.old hb2) hcap vs hO d1 d9).mono ?_
  rintro e w' ⟨k, v, hk, rfl, ⟨A', c', ls', rfl, hN, hof⟩⟩
  have henc : ∀ l ∈ ls', (l.map fun x => x.1 == 4).map encS = l := fun l hl => by
    rw [List.map_map]
    refine (List.map_congr_left fun x hx => ?_).trans (List.map_id l)
    obtain ⟨h1, h2⟩ := (hof l hl).2 x hx
    obtain ⟨a, b⟩ := x
    dsimp only at h1 h2
    subst h1
    rcases hvs a h2 with rfl | rfl <;> rfl
  have e : (ls'.map (List.map fun x => x.1 == 4)).map (List.map encS) = ls' := by
    rw [List.map_map]
    exact (List.map_congr_left fun l hl => henc l hl).trans (List.map_id ls')
  refine ⟨A', c', k, ls'.map (List.map fun x => x.1 == 4), rfl, ?_, ?_, hk, fun L hL => ?_⟩
  · unfold SeNest
    rw [e]
    exact hN.low hb2
  · have := hN.len
    rw [List.length_map] at this ⊢
    exact this
  · obtain ⟨l, hl, rfl⟩ := List.mem_map.1 hL
    refine ⟨by rw [List.length_map]; exact (hof l hl).1, fun b hb => ?_⟩
    have : encS b ∈ (l.map fun x => x.1 == 4).map encS := List.mem_map_of_mem hb
    rw [henc l hl] at this
    exact ((hof l hl).2 _ this).2
end Go.Proofs.YtdfljhechmanlaaDoor
