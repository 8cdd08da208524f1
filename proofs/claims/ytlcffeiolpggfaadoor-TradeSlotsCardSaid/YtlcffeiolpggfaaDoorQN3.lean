/-
  The laws' helpers on threads that trade: trades, swapped.
-/
import Derived.Test.YtlcffeiolpggfaaDoorQL4
import Derived.Test.YtlcffeiolpggfaaDoorQN2
import Derived.Test.YtlcffeiolpggfaaDoorQL2
namespace Go.Proofs.YtlcffeiolpggfaaDoor
set_option maxRecDepth 100000
open Go.RowKit Go.Shelf Go.Sort
set_option linter.unusedVariables false
set_option linter.unusedSimpArgs false

/-- The k-th trade of the i-th thread. -/
def tdc (i k : Nat) : Trd := (⟨min (i + 1) 16, by omega⟩, ⟨min (10 * i + k) 1000, by omega⟩)
def tdRow (i q : Nat) : List Trd := (List.range q).map (tdc i)
def tdLs (qs : List Nat) : List (List Trd) := (List.range qs.length).map fun i => tdRow i (qs.getD i 0)
def callsT (Ls : List (List Trd)) (t : Nat) : List Trd := Ls.getD t []
theorem tdLs_len (qs : List Nat) : (tdLs qs).length = qs.length := by unfold tdLs; simp
theorem tdLs_at (qs : List Nat) (u : Nat) (hu : u < qs.length) : callsT (tdLs qs) u = tdRow u (qs.getD u 0) := by
  unfold callsT tdLs
  rw [List.getD_eq_getElem?_getD, List.getElem?_map, List.getElem?_range hu]
  rfl
theorem tdRow_enc (i k : Nat) (hi : i ≤ 8) (hk : k ≤ 8) : (tdRow i k).map encTr = (List.range k).map fun j => ((5 : Int), ((10 * i + j : Nat) : Int)) := by
  unfold tdRow
  rw [List.map_map]
  refine List.map_congr_left fun j hj => ?_
  have := List.mem_range.1 hj
  show ((5 : Int), (((min (10 * i + j) 1000) : Nat) : Int)) = _
  rw [Nat.min_eq_left (by omega)]
theorem tdLs_succ (qs : List Nat) (q : Nat) : tdLs (qs ++ [q]) = tdLs qs ++ [tdRow qs.length q] := by
  unfold tdLs
  rw [List.length_append, List.length_singleton, List.range_succ, List.map_append]
  congr 1
  · refine List.map_congr_left fun j hj => ?_
    have := List.mem_range.1 hj
    rw [List.getD_eq_getElem?_getD, List.getElem?_append_left this, ← List.getD_eq_getElem?_getD]
  · simp [List.getD_eq_getElem?_getD]

abbrev TdNest (w : World) (A : Option Addr) (k c : Nat) (Ls : List (List Trd)) (wr : World) : Prop := Nest 35 52 2 w A k c ((Ls.map (List.map encTr)).map fun (l : List (Int × Int)) => (l.length, cellsC l)) wr
structure TdTo (w : World) (v : Value) (k : Nat) (wr : World) : Prop where
  nest : ∃ (A : Option Addr) (c : Nat) (qs : List Nat), v = .slice A k c ∧ TdNest w A k c (tdLs qs) wr ∧ qs.length = k ∧ ∀ q ∈ qs, q ≤ 6
set_option maxHeartbeats 2000000 in
theorem trades_any {w : World} (A : Option Addr) (n cap : Nat) (ls : List (List Int)) (hR : IRows w w.heap.size A n ls) (hcap : n ≤ cap) :
    Calls Tryd.prog 7 #[.slice A n cap] w fun e w' => ∃ k v, k ≤ 8 ∧ e = .returned v ∧ TdTo w v k w' := by
  have HR := Lib.hid hR
  obtain ⟨m, hm⟩ : ∃ m : Nat, (m : Int) = min (n : Int) 8 := ⟨min n 8, by omega⟩
  have hm8 : m ≤ 8 ∧ m ≤ n := by omega
  have e1 : max (min (n : Int) 8) 0 = (m : Int) := by omega
  have e2 : (min (n : Int) 8).toNat = m := by omega
  have HA0 := Lib.hid (show TdTo w (.slice none 0 0) 0 w from ⟨none, 0, [], rfl, Nest.nil _ _ _ w, rfl, fun l h => by cases h⟩)
  have h8 : (min (n : Int) 8).toNat ≤ cap := by omega
  have HM8 := Lib.hid hm8
  clear hR hm hcap
  go_enter Tryd.func7, Tryd.ntmps7
  go_wp2
  clear e1 e2 h8
  --MA
  go_loopw [3, 14] (fun v j wr => ∃ k : Nat, k ≤ m ∧ j = .int .i64 k ∧ TdTo w v k wr) (fun _ j _ => m - (intOf j).toNat)
  case atStart => exact ⟨0, Nat.zero_le _, rfl, HA0.out⟩
  case round =>
    obtain ⟨k, hk, rfl, hm⟩ := hrel
    by_cases hlt : k < m
    · have hkn : (k : Int) < (m : Int) := by omega
      obtain ⟨Av, cv, qs, rfl, hN, hqs, hq6⟩ := hm.nest
      obtain ⟨b, off, hA, hbl, hx⟩ := (HR.out.below hN.bel).row (by have := HM8.out; omega)
      subst hA
      obtain ⟨Ai, ci, hcell, hci, hin⟩ := hx k (by have := HM8.out; omega)
      generalize hli : ls.getD k [] = li at *
      obtain ⟨z, hz⟩ : ∃ z, li.length = z := ⟨_, rfl⟩
      rw [hz] at hcell hci hin
      have HNs := Lib.hid hN
      have HQs := Lib.hid (And.intro hqs hq6)
      obtain ⟨q, hq⟩ : ∃ q : Nat, (q : Int) = min (z : Int) 6 := ⟨min z 6, by omega⟩
      have hq8 : q ≤ 6 ∧ q ≤ z := by omega
      have e1 : max (min (z : Int) 6) 0 = (q : Int) := by omega
      have e2 : (min (z : Int) 6).toNat = q := by omega
      have h8 : (min (z : Int) 6).toNat ≤ ci := by omega
      have HQ := Lib.hid hq8
      have hk8 : k < 8 := by have := HM8.out; omega
      clear hm hx hin hN hz hli hq hq8 hci hbl HA0 hqs hq6
      go_wp2
      clear e1 e2 h8
      --MB
      go_loopw [6, 25] (fun v j w2 => ∃ i : Nat, i ≤ q ∧ j = .int .i64 i ∧ ∃ A c, v = .slice A i c ∧ RowC wr A i c ((List.range i).map fun j => ((5 : Int), ((10 * k + j : Nat) : Int))) w2) (fun _ j _ => q - (intOf j).toNat)
      case atStart => exact ⟨0, Nat.zero_le _, rfl, none, 0, rfl, RowC.nil _⟩
      case round =>
        obtain ⟨i, hi, rfl, Ac, cc, rfl, hRow⟩ := hrel
        by_cases hlt2 : i < q
        · have hin2 : (i : Int) < (q : Int) := by omega
          rename_i wr2
          obtain ⟨A4, c4, w4, hr4, hR4⟩ := hRow.add #[.int .i64 5, .int .i64 (10 * (k : Int) + (i : Int))] 1 (r := [(5, 10 * (k : Int) + (i : Int))]) rfl rfl (by have := HQ.out; omega) (by decide)
          rw [show ((List.range i).map fun j => ((5 : Int), ((10 * k + j : Nat) : Int))) ++ [(5, 10 * (k : Int) + (i : Int))] = (List.range (i + 1)).map fun j => ((5 : Int), ((10 * k + j : Nat) : Int)) by rw [List.range_succ, List.map_append, show 10 * (k : Int) + (i : Int) = ((10 * k + i : Nat) : Int) by omega]; rfl] at hR4
          have HR4 := Lib.hid hR4
          have HRun := Lib.hid hr4
          have hq8 := HQ.out.1
          clear hRow hr4 hR4
          go_wp2_with (at_builtin; refine Lib.wpList_append_run _ rfl _ _ _ _ rfl _ _ rfl rfl _ _ HRun.out ?_; clear HRun)
          --MC
          go_roundw
          case rel => exact ⟨i + 1, by omega, by go_num, A4, c4, rfl, HR4.out⟩
          case measure => simp [intOf]; omega
        · have hin2 : ¬ (i : Int) < (q : Int) := by omega
          obtain rfl : i = q := by omega
          obtain ⟨A4, c4, w4, hr4, hN4⟩ := (HNs.out.grow hRow.bel).add (tS := 25) Tryd.underlying25 infoSCallM (by decide) hRow.own HNs.out.bel.size (by have := HM8.out; omega)
          have HN4 := Lib.hid (show TdTo w (.slice A4 (k + 1) c4) (k + 1) w4 from ⟨A4, c4, qs ++ [i], rfl, by
            unfold TdNest
            rw [tdLs_succ, HQs.out.1, List.map_append, List.map_append]
            have e : ([tdRow k i].map (List.map encTr)).map (fun (l : List (Int × Int)) => (l.length, cellsC l)) = [(i, cellsC ((List.range i).map fun j => ((5 : Int), ((10 * k + j : Nat) : Int))))] := by
              have := HQ.out
              simp only [List.map_cons, List.map_nil]
              rw [tdRow_enc k i (by omega) (by omega), List.length_map, List.length_range]
            rw [e]
            exact hN4, by rw [List.length_append, HQs.out.1]; rfl, fun r hr => by
            rcases List.mem_append.1 hr with hr | hr
            · exact HQs.out.2 r hr
            · rw [List.mem_singleton.1 hr]; exact HQ.out.1⟩)
          have HRun := Lib.hid hr4
          clear hr4 hN4 hRow HNs HQs
          go_wp2_with (at_builtin; refine Lib.wpList_append_run _ rfl _ _ _ _ rfl _ _ rfl rfl _ _ HRun.out ?_; clear HRun)
          --MD
          go_roundw
          case rel => exact ⟨k + 1, by omega, by go_num, HN4.out⟩
          case measure => simp [intOf]; omega
    · have hkn : ¬ (k : Int) < (m : Int) := by omega
      obtain rfl : k = m := by omega
      have HM := Lib.hid hm
      clear hm HA0
      go_wp2
      go_ret
      --MZ
      exact ⟨k, HM8.out.1, _, rfl, HM.out⟩

structure TdOk (Ls : List (List Trd)) : Prop where
  n8 : Ls.length ≤ 8
  l6 : ∀ L ∈ Ls, L.length ≤ 6
  mine : ∀ u, u < Ls.length → ∀ c ∈ callsT Ls u, (c.1 : Nat) = u + 1
theorem TdOk.calls {Ls : List (List Trd)} (h : TdOk Ls) (u : Nat) : (callsT Ls u).length ≤ 6 := by
  unfold callsT
  rw [List.getD_eq_getElem?_getD]
  cases hc : Ls[u]? with
  | none => exact Nat.zero_le _
  | some l => exact h.l6 l (List.mem_of_getElem? hc)
theorem tdLs_ok {qs : List Nat} (h8 : qs.length ≤ 8) (h6 : ∀ q ∈ qs, q ≤ 6) : TdOk (tdLs qs) := by
  refine ⟨by rw [tdLs_len]; exact h8, fun L hL => ?_, fun u hu c hc => ?_⟩
  · obtain ⟨i, hi, rfl⟩ := List.mem_map.1 hL
    have hi := List.mem_range.1 hi
    unfold tdRow
    rw [List.length_map, List.length_range, List.getD_eq_getElem?_getD, List.getElem?_eq_getElem hi]
    exact h6 _ (List.getElem_mem hi)
  · rw [tdLs_len] at hu
    rw [tdLs_at qs u hu] at hc
    obtain ⟨k, _, rfl⟩ := List.mem_map.1 hc
    show min (u + 1) 16 = u + 1
    omega
abbrev td0 : List Int := List.replicate 17 0
def tdK {Ls : List (List Trd)} (h : TdOk Ls) : KindF tradeF Ls.length (callsT Ls) (fun c => td0.getD c 0) := trK Ls.length (callsT Ls) h.mine
/-- Threads that trade behind some steps and p pokes. -/
def TdM {Ls : List (List Trd)} (h : TdOk Ls) (p : Nat) (m : Mach) : Prop := ∃ S, RanF (tdK h) p S m
section
variable {Ls : List (List Trd)} {h : TdOk Ls} {p : Nat} {m m' : Mach}
theorem tdK_pot (h : TdOk Ls) : (tdK h).pot (newK fun c => td0.getD c 0) ≤ 4200 := trK_pot h.n8 h.calls
theorem tdK_pk (h : TdOk Ls) : (tdK h).pk = 4 := rfl
theorem td_whole (Ls : List (List Trd)) : wholesK tradeF Ls = (List.range Ls.length).map fun t => wholeK tradeF (callsT Ls t) := wholesK_at tradeF Ls
theorem td_new (h : TdOk Ls) : TdM h 0 (newM (wholesK tradeF Ls) td0) := by
  rw [td_whole]
  refine ⟨_, ranF_new (K := tdK h) rfl fun v hv => ?_⟩
  rw [(List.mem_replicate.1 hv).2]
  exact ⟨by decide, by decide⟩
theorem td_moves (hm : TdM h p m) (l : List (Int × Bool)) (hp : p + pokesM l ≤ 500) : TdM h (p + pokesM l) (behindM 20000 m l) := by
  obtain ⟨S, hS⟩ := hm
  exact ranF_moves l p S m hS (by have := tdK_pot h; rw [tdK_pk]; omega)
theorem td_fin (hm : TdM h p m) (hp : p ≤ 500) (hf : Fin m m') : ∃ S', RanF (tdK h) p S' m' ∧ ∀ t, t < Ls.length → stillK S' t := by
  obtain ⟨S, hS⟩ := hm
  exact ranF_fin (by have := tdK_pot h; rw [tdK_pk]; omega) hS hf
theorem tdM_inv {S : CS} (hS : RanF (tdK h) p S m) : TrI Ls.length (callsT Ls) S m.acts m.events := hS.inv
theorem tdM_cells {S : CS} (hS : RanF (tdK h) p S m) : m.cells = (List.range 17).map S.cell := by
  have hl : m.cells.length = 17 := hS.sim.lc
  have hc := hS.sim.cell
  refine List.ext_getElem (by simp [hl]) fun i h1 h2 => ?_
  rw [List.getElem_map, List.getElem_range, hc]
  show _ = m.cells.getD i 0
  rw [List.getD_eq_getElem?_getD, List.getElem?_eq_getElem h1]
  rfl
theorem tdM_ended {S : CS} (hS : RanF (tdK h) p S m) {t : Nat} (ht : t < Ls.length) : m.ended.getD t false = (S.th t).en := hS.ended ht
end
theorem td_right (L : List Trd) (hL : L.length ≤ 12) : RightL (wholeK tradeF L) tradeF.nc := whole_right tradeF (fun c => (by decide : (23 : Nat) ≤ 40)) (by decide) trade_good L hL
theorem td_codes (w : World) : CodesQ tradeF encTr 9 w fun i L => i < 16 ∧ ∀ c ∈ L, (c.1 : Nat) = i + 1 := fun w1 hb L hL A n cap i hQ hR => trcode_any L hL i hQ.1 hQ.2 A n cap hR
theorem td_big {Ls : List (List Trd)} (h : TdOk Ls) : MBig td0 (newM (wholesK tradeF Ls) td0) := by
  have hl : (wholesK tradeF Ls).length = Ls.length := by unfold wholesK; rw [List.length_map]
  refine newM_big ⟨by rw [hl]; have := h.n8; omega, (show (17 : Nat) ≤ 100 by decide), fun i hi => ?_⟩ fun v hv => ?_
  · have hi' : i < Ls.length := by rw [← hl]; exact hi
    have e : (wholesK tradeF Ls).getD i [] = wholeK tradeF (Ls.getD i []) := by unfold wholesK; rw [List.getD_eq_getElem?_getD, List.getElem?_map, List.getElem?_eq_getElem hi', List.getD_eq_getElem?_getD, List.getElem?_eq_getElem hi']; rfl
    rw [e]
    exact td_right _ (by have := h.calls i; unfold callsT at this; omega)
  · rw [(List.mem_replicate.1 hv).2]
    exact ⟨by decide, by decide⟩
/-- Threads that trade, at a place. -/
structure TdAt (w : World) (c : Nat) {Ls : List (List Trd)} (h : TdOk Ls) (p : Nat) (m : Mach) (wr : World) : Prop where
  at_ : At w c m wr
  big : MBig td0 m
  la : TdM h p m
theorem TdAt.grow {w wr w' : World} {c : Nat} {Ls : List (List Trd)} {h : TdOk Ls} {p : Nat} {m : Mach} (hA : TdAt w c h p m wr) (hg : wr.grownBy w' none) : TdAt w c h p m w' := ⟨hA.at_.grow hg, hA.big, hA.la⟩
theorem tdmade_any {w : World} (hw : CW w) {Ls : List (List Trd)} (h : TdOk Ls) (A C D : Option Addr) (n cap cc nm cm : Nat) (hA : CRows w w.heap.size A n (Ls.map (List.map encTr))) (hc : Ints .u64 w w.heap.size C 17 td0) (l : List (Int × Bool)) (hl : Moves w w.heap.size D nm l) (hnm : nm ≤ 500) :
    Calls Tryd.prog 8 #[.slice A n cap, .func (.func 9) #[] #[], .slice C 17 cc, .slice D nm cm] w fun e w' => ∃ c m, e = .returned (.pointer (some ⟨c, 0, none⟩)) ∧ TdAt w c h (pokesM l) m w' ∧ m = behindM 20000 (newM (wholesK tradeF Ls) td0) l := by
  refine (madeQ_any tradeF encTr 9 (enter_ask Tryd.func9 (by kernel_rfl) (by kernel_rfl)) hw _ (td_codes w) td_right (by decide) (by decide) Ls (by have := h.n8; omega) (fun L hL => by have := h.l6 L hL; omega) (fun k hk => ⟨by have := h.n8; omega, h.mine k hk⟩) A C D n cap 17 cc nm cm hA td0 hc rfl l hl (fun v hv => by rw [(List.mem_replicate.1 hv).2]; exact ⟨by decide, by decide⟩) (by omega)).mono ?_
  rintro e w' ⟨c, rfl, hAt⟩
  have hp := pokesM_le l
  have hl' := hl.len
  have := td_moves (td_new h) l (by omega)
  rw [Nat.zero_add] at this
  exact ⟨c, _, rfl, ⟨hAt, (td_big h).behind l, this⟩, rfl⟩
theorem tdmade3 {w w2 : World} (hw : CW w) (hb : Below w.heap.size w w2) {Ls : List (List Trd)} (h : TdOk Ls) (A D : Option Addr) (n cap nm cm : Nat) (hA : CRows w2 w2.heap.size A n (Ls.map (List.map encTr))) (l : List (Int × Bool)) (hl : Moves w w.heap.size D nm l) (hnm : nm ≤ 500) (cs : Array Value) (hcs : cs.toList = td0.map (Value.int .u64)) :
    Calls Tryd.prog 8 #[.slice A n cap, .func (.func 9) #[] #[], .slice (some ⟨w2.heap.size, 0, none⟩) 17 17, .slice D nm cm] (w2.alloc (.cells cs 43)) fun e w' => ∃ c m, e = .returned (.pointer (some ⟨c, 0, none⟩)) ∧ TdAt w2 c h (pokesM l) m w' ∧ m = behindM 20000 (newM (wholesK tradeF Ls) td0) l := by
  have hb2 := (Below.refl w2.heap.size w2).alloc (Nat.le_refl _) (.cells cs 43)
  have hb3 := hb.alloc hb.size (.cells cs 43)
  have hI : Ints .u64 (w2.alloc (.cells cs 43)) (w2.alloc (.cells cs 43)).heap.size (some ⟨w2.heap.size, 0, none⟩) 17 td0 := ⟨rfl, fun _ => ⟨_, 0, rfl, by simp, fun i hi => by
    have hz : cs[i]? = some (.int .u64 (td0.getD i 0)) := by
      rw [← Array.getElem?_toList, hcs, List.getElem?_map, List.getD_eq_getElem?_getD, List.getElem?_eq_getElem (by simpa using hi)]
      rfl
    rw [Nat.zero_add]
    exact (cell_of_row _ _ i _ _ _ (heap_alloc_new w2 (.cells cs 43))).trans hz⟩⟩
  refine (tdmade_any (hw.old hb3) h A _ D n cap 17 nm cm (hA.old hb2) hI l (hl.old hb3) hnm).mono ?_
  rintro e w' ⟨c, m, he, hAt, hm⟩
  exact ⟨c, m, he, ⟨hAt.at_.old hb2, hAt.big, hAt.la⟩, hm⟩

/-! A fact: two who trade. -/
def swL : List (List Trd) := [[(⟨1, by decide⟩, ⟨5, by decide⟩)], [(⟨2, by decide⟩, ⟨8, by decide⟩)]]
theorem sw_ok : TdOk swL := ⟨by decide, fun L hL => by simp only [swL, List.mem_cons, List.not_mem_nil, or_false] at hL; rcases hL with rfl | rfl <;> decide, fun u hu c hc => by
  match u, hu with
  | 0, _ => rw [List.mem_singleton.1 (show c ∈ [((⟨1, by decide⟩ : _root_.Fin 17), (⟨5, by decide⟩ : _root_.Fin 1001))] from hc)]
  | 1, _ => rw [List.mem_singleton.1 (show c ∈ [((⟨2, by decide⟩ : _root_.Fin 17), (⟨8, by decide⟩ : _root_.Fin 1001))] from hc)]
  | u + 2, h => exact absurd h (by simp [swL])⟩
theorem sw_fact {m m' : Mach} (hm : TdM sw_ok 0 m) (hf : Fin m m') : endsM m' = (true, false) ∧ (∀ x ∈ m'.events, ∃ s v : Int, ∃ u : Nat, u < 2 ∧ x = (s, 3, (u : Int), v)) ∧ ansOf m'.events 0 = [8] ∧ ansOf m'.events 1 = [5] ∧ m'.events.length ≤ 20000 := by
  obtain ⟨S, hS, hq⟩ := td_fin hm (by decide) hf
  obtain ⟨⟨pr, hG⟩, _⟩ := tdM_inv hS
  have hwf := hS.sim.wf
  have hmn := sw_ok.mine
  obtain ⟨_, _, _, q, hev⟩ := tr_over hG hwf hmn hq
  have hk0 : (S.th 0).k ≤ 1 := (hwf.th 0 (by decide)).k
  have hk1 : (S.th 1).k ≤ 1 := (hwf.th 1 (by decide)).k
  have hev' : (sumN 2 fun u => (S.th u).k) = 2 * q := hev
  rw [sumN_succ, sumN_succ, show sumN 0 (fun u => (S.th u).k) = 0 from rfl] at hev'
  have hen : ∀ u, u < 2 → (S.th u).en = true → (S.th u).k = 1 := fun u hu he => by
    have h1 := (hwf.th u hu).fin he
    have h2 := List.getElem?_eq_none_iff.1 h1
    match u, hu with
    | 0, _ => exact Nat.le_antisymm hk0 h2
    | 1, _ => exact Nat.le_antisymm hk1 h2
  have hnot : ¬ ((S.th 0).en = false ∧ (S.th 1).en = false) := fun ⟨a, b⟩ => by
    have := tr_open hG hwf hmn hq (u := 0) (v := 1) (by decide) (by decide) a b
    omega
  have hboth : (S.th 0).k = 1 ∧ (S.th 1).k = 1 := by
    cases h0 : (S.th 0).en with
    | true => have := hen 0 (by decide) h0; omega
    | false =>
      cases h1 : (S.th 1).en with
      | true => have := hen 1 (by decide) h1; omega
      | false => exact absurd ⟨h0, h1⟩ hnot
  have hall : ∀ u, u < 2 → (S.th u).en = true := fun u hu => by
    rcases hq u hu with he | hs
    · exact he
    · exfalso
      obtain ⟨c, hc⟩ := slK_mem hs
      obtain ⟨_, _, h3⟩ := hG.lot _ hc
      apply h3
      match u, hu with
      | 0, _ => show (callsT swL 0)[(S.th 0).k]? = none; rw [hboth.1]; rfl
      | 1, _ => show (callsT swL 1)[(S.th 1).k]? = none; rw [hboth.2]; rfl
  have hans : ∀ u (v : Nat) (d : Trd), u < 2 → (S.th u).k = 1 → v < 2 → v ≠ u → callsT swL v = [d] → ansOf m'.events u = [givT d - 1] := fun u v d hu hk hv hvu hd => by
    obtain ⟨v', l, d', _, h2, h3, h4, _, h6⟩ := tr_told hG (u := u) (k := 0) hu (by omega)
    have hvv : v' = v := by have h3' : v' < 2 := h3; omega
    subst hvv
    rw [hd] at h2
    have hl : l = 0 := by
      have := (List.getElem?_eq_some_iff.1 h2).1
      simpa using this
    subst hl
    injection h2 with h2
    subst h2
    have hlen := (hG.ans u hu).1
    rw [hk] at hlen
    match hz : ansOf m'.events u, hlen with
    | [y], _ =>
      rw [hz] at h6
      injection h6 with h6
      rw [h6]
  refine ⟨ends_done fun t ht => ?_, hG.evs, hans 0 1 _ (by decide) hboth.1 (by decide) (by decide) rfl, hans 1 0 _ (by decide) hboth.2 (by decide) (by decide) rfl, ?_⟩
  · have ht' : t < swL.length := by rw [← hS.sim.plen]; exact ht
    rw [tdM_ended hS ht']; exact hall t ht'
  · rw [ans_len 2 m'.events hG.evs, sumN_succ, sumN_succ, (hG.ans 0 (by decide)).1, (hG.ans 1 (by decide)).1, hboth.1, hboth.2]
    exact (show 0 + 1 + 1 ≤ 20000 by decide)
theorem infoU64T : (Tryd.prog.info? 43).map (fun i => (i.zero, i.size, i.bytes)) = some (some (.int .u64 0), 1, 8) := by kernel_rfl
/-- make of 17 words. -/
theorem make_words : ∃ C : Array Value, C.toList = td0.map (Value.int .u64) ∧ ∀ W : World, Sem.run Tryd.prog (Instr.makeSlice 30 (.int .i64 17) (.int .i64 17)) W = .ok (.slice (some ⟨W.heap.size, 0, none⟩) 17 17) (W.alloc (.cells C 43)) := by
  obtain ⟨i0, hi, hz0, hz1, hz2⟩ := info_parts infoU64T
  refine ⟨madeCells #[Value.int .u64 0] (17 * 1), by rw [toList_madeCells_one]; rfl, fun W => ?_⟩
  have hr := run_make (P := Tryd.prog) W 30 43 i0 (.int .u64 0) Tryd.underlying30 hi hz0 .i64 .i64 17 17 (by omega) (Int.le_refl _) (by rw [hz2]; omega) (by omega)
  rw [hz1] at hr
  exact hr
theorem equalI_one {w : World} (A : Option Addr) (c : Nat) (v : Int) (h : Ints .i64 w w.heap.size A 1 [v]) : Calls Tryd.prog 18 #[.slice A 1 c, .slice (some ⟨w.heap.size, 0, none⟩) 1 1] (w.alloc (.cells #[.int .i64 v] 3)) fun e w' => e = .returned (.bool true) ∧ w.grownBy w' none := by
  have hb := (Below.refl w.heap.size w).alloc (Nat.le_refl _) (.cells #[.int .i64 v] 3)
  have hI : Ints .i64 (w.alloc (.cells #[.int .i64 v] 3)) (w.alloc (.cells #[.int .i64 v] 3)).heap.size (some ⟨w.heap.size, 0, none⟩) 1 [v] := ⟨rfl, fun _ => ⟨_, 0, rfl, by simp, fun i hi => by
    match i, hi with
    | 0, _ => exact (cell_of_row _ _ 0 _ _ _ (heap_alloc_new w (.cells #[.int .i64 v] 3))).trans rfl⟩⟩
  refine (equalI_same A _ 1 c 1 [v] _ (by omega) _ (h.old hb) hI).mono ?_
  rintro e w' ⟨rfl, q, rfl⟩
  exact ⟨rfl, (World.grownBy_alloc w _ none).andThen (grown_drewN _ q) (fun k hk => by cases hk)⟩
theorem three_made (w : World) (o1 o2 o3 : Obj) :
    (((w.alloc o1).alloc o2).alloc o3).heap.size = w.heap.size + 1 + 1 + 1 ∧
    (((w.alloc o1).alloc o2).alloc o3).heap[w.heap.size]? = some o1 ∧ (((w.alloc o1).alloc o2).alloc o3).heap[w.heap.size + 1]? = some o2 ∧
    (((w.alloc o1).alloc o2).alloc o3).heap[w.heap.size + 1 + 1]? = some o3 ∧
    Below w.heap.size w (((w.alloc o1).alloc o2).alloc o3) := by
  have hs : ∀ (w : World) (o : Obj), (w.alloc o).heap.size = w.heap.size + 1 := fun w o => by simp
  have hn : ∀ (w : World) (o : Obj), (w.alloc o).heap[w.heap.size]? = some o := fun w o => by
    show (w.heap.push o)[w.heap.size]? = _
    simp
  refine ⟨by rw [hs, hs, hs], ?_, ?_, ?_, (((Below.refl _ _).alloc (Nat.le_refl _) _).alloc (by rw [hs]; omega) _).alloc (by rw [hs, hs]; omega) _⟩
  · rw [Below.heap_alloc _ _ _ (by rw [hs, hs]; omega), Below.heap_alloc _ _ _ (by rw [hs]; omega)]
    exact hn w o1
  · rw [Below.heap_alloc _ _ _ (by rw [hs, hs]; omega)]
    have := hn (w.alloc o1) o2
    rwa [hs] at this
  · have := hn ((w.alloc o1).alloc o2) o3
    rwa [hs, hs] at this
def swW (w : World) : World := ((w.alloc (.cells #[.int .i64 5, .int .i64 5] 52)).alloc (.cells #[.int .i64 5, .int .i64 8] 52)).alloc (.cells #[.slice (some ⟨w.heap.size, 0, none⟩) 1 1, .slice (some ⟨w.heap.size + 1, 0, none⟩) 1 1] 35)
theorem sw_calls (w : World) : CRows (swW w) (swW w).heap.size (some ⟨w.heap.size + 1 + 1, 0, none⟩) 2 (swL.map (List.map encTr)) ∧ Below w.heap.size w (swW w) ∧ (swW w).heap.size = w.heap.size + 1 + 1 + 1 := by
  obtain ⟨hs, s0, s1, s2, hb⟩ := three_made w (.cells #[.int .i64 5, .int .i64 5] 52) (.cells #[.int .i64 5, .int .i64 8] 52) (.cells #[.slice (some ⟨w.heap.size, 0, none⟩) 1 1, .slice (some ⟨w.heap.size + 1, 0, none⟩) 1 1] 35)
  have hW : ((w.alloc (.cells #[.int .i64 5, .int .i64 5] 52)).alloc (.cells #[.int .i64 5, .int .i64 8] 52)).alloc (.cells #[.slice (some ⟨w.heap.size, 0, none⟩) 1 1, .slice (some ⟨w.heap.size + 1, 0, none⟩) 1 1] 35) = swW w := rfl
  rw [hW] at hs s0 s1 s2 hb
  generalize swW w = W at *
  have c0 := cell_in s0
  have c1 := cell_in s1
  have c2 := cell_in s2
  refine ⟨⟨rfl, fun _ => ⟨_, 0, rfl, by omega, fun i hi => ?_⟩⟩, hb, hs⟩
  match i, hi with
  | 0, _ =>
    refine ⟨some ⟨w.heap.size, 0, none⟩, 1, c2 0, rfl, fun _ => ⟨_, 0, rfl, by omega, fun j hj => ?_⟩⟩
    match j, hj with
    | 0, _ => exact ⟨c0 0, c0 1⟩
  | 1, _ =>
    refine ⟨some ⟨w.heap.size + 1, 0, none⟩, 1, c2 1, rfl, fun _ => ⟨_, 0, rfl, by omega, fun j hj => ?_⟩⟩
    match j, hj with
    | 0, _ => exact ⟨c1 0, c1 1⟩
set_option maxHeartbeats 2000000 in
theorem swapped_any {w : World} (hw : CW w) : Calls Tryd.prog 6 #[] w fun e w' => e = .returned (.bool true) ∧ Below w.heap.size w w' := by
  obtain ⟨t1, t2, t3⟩ := sw_calls w
  obtain ⟨C, hC, hmk⟩ := make_words
  have HM := Lib.hid (tdmade3 hw t2 sw_ok (some ⟨w.heap.size + 1 + 1, 0, none⟩) none 2 2 0 0 t1 [] ⟨rfl, fun h => absurd h (by omega)⟩ (by omega) C hC)
  rw [t3] at HM
  have HB := Lib.hid t2
  clear t1 t2 t3 hC
  unfold swW at HM HB
  go_enter Tryd.func6, Tryd.ntmps6
  go_wp2_with fail
  refine HM.out.mono ?_
  rintro e w1 ⟨c, m, rfl, hA, -⟩
  have HF := Lib.hid (at_finish (hA.at_.old HB.out) hA.big)
  have HL := Lib.hid (show TdM sw_ok 0 m from hA.la)
  clear hA HM hmk
  go_wp2_with fail
  refine HF.out.mono ?_
  rintro e w2 ⟨m', hf, rfl, hA2, hb2⟩
  obtain ⟨f1, f2, f3, f4, f5⟩ := sw_fact HL.out hf
  have HE := Lib.hid (at_ends hA2 (hb2.few))
  rw [f1] at HE
  have HA2 := Lib.hid hA2
  have HAn := Lib.hid (fun w3 (hg : w2.grownBy w3 none) => answers_any (n := 2) (hA2.grow hg) f5 f2 (by decide))
  have HT := Lib.hid (And.intro f3 f4)
  generalize ((m'.steps : Int) - (m.steps : Int)) = dd
  clear hf hA2 hb2 f1 f2 f3 f4 f5 HF HL
  go_wp2_with fail
  refine HE.out.mono ?_
  rintro e w3 ⟨rfl, hg3⟩
  have HA3 := Lib.hid (HA2.out.grow hg3)
  have HAn3 := Lib.hid (HAn.out w3 hg3)
  clear hg3 HE HA2 HAn
  go_wp2_with fail
  refine HAn3.out.mono ?_
  rintro e w4 ⟨g, rfl, hAn⟩
  have HB4 := Lib.hid (HA3.out.keepB hAn.bel).bel
  obtain ⟨bi, offi, hAi, _, hxi⟩ := hAn.rows.row (by decide)
  have hgi : bi = g ∧ offi = 0 := by injection hAi with h; injection h with h1 h2; exact ⟨h1.symm, h2.symm⟩
  obtain ⟨rfl, rfl⟩ := hgi
  obtain ⟨A0, c0, hcell0, _, hrow0⟩ := hxi 0 (by decide)
  obtain ⟨A1, c1, hcell1, _, hrow1⟩ := hxi 1 (by decide)
  have he0 : ((List.range 2).map (ansOf m'.events)).getD 0 [] = [8] := HT.out.1
  have he1 : ((List.range 2).map (ansOf m'.events)).getD 1 [] = [5] := HT.out.2
  rw [he0] at hcell0 hrow0
  rw [he1] at hcell1 hrow1
  have hcell0' : w4.cell? ⟨bi, 0, none⟩ = some (.slice A0 1 c0) := hcell0
  have hcell1' : w4.cell? ⟨bi, 1, none⟩ = some (.slice A1 1 c1) := hcell1
  have HC1 := Lib.hid hcell1'
  have HR1 := Lib.hid hrow1
  have HE0 := Lib.hid (equalI_one A0 c0 8 hrow0)
  have HBi := Lib.hid (World.block_lt_of_cell? w4 _ hcell1')
  clear hAn hxi hrow0 hrow1 he0 he1 hAi hcell0 hcell1 hcell1' HAn3 HA3 HT
  go_wp2_with fail
  --MA
  refine HE0.out.mono ?_
  rintro e w5 ⟨rfl, hg5⟩
  have hb5 : Below w4.heap.size w4 w5 := ⟨hg5.os, hg5.tape, hg5.output, hg5.size, fun k hk => hg5.block k hk (by simp)⟩
  have hcell1 := (World.cell?_of_block (a := ⟨bi, 1, none⟩) (hb5.block bi HBi.out)).trans HC1.out
  have HE1 := Lib.hid (equalI_one A1 c1 5 (HR1.out.old hb5))
  have HB5 := Lib.hid (HB4.out.trans (hb5.mono HB4.out.size))
  clear hg5 hb5 HE0 HC1 HR1 hcell0'
  go_wp2_with fail
  --MB
  refine HE1.out.mono ?_
  rintro e w6 ⟨rfl, hg6⟩
  have HB6 := Lib.hid (HB5.out.trans ((show Below w5.heap.size w5 w6 from ⟨hg6.os, hg6.tape, hg6.output, hg6.size, fun k hk => hg6.block k hk (by simp)⟩).mono HB5.out.size))
  clear hg6 HE1 hcell1
  go_wp2
  go_ret
  exact ⟨rfl, HB6.out⟩
end Go.Proofs.YtlcffeiolpggfaaDoor
