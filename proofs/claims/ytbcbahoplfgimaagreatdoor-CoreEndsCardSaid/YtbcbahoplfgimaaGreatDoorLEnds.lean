/-
  WHO IS AT ITS END STAYS THERE.
-/
import Derived.Test.YtbcbahoplfgimaaGreatDoorLSame
import Derived.Test.YtbcbahoplfgimaaGreatDoorRegF
import Derived.Maps.AppendAt
namespace Go.Proofs.YtbcbahoplfgimaaGreatDoor
set_option maxRecDepth 100000
open Go.RowKit Go.Shelf Go.Sort
set_option linter.unusedVariables false
set_option linter.unusedSimpArgs false

/-- What is asked of a predicate on integers that makes no more than blocks. -/
def PredI (g : Nat) (lb : Array Value) (p : Int → Bool) (w : World) (row : Option Nat) : Prop :=
  ∀ (W : World) (t : Int), w.grownBy W row → Calls Tryz.prog g (#[.int .i64 t] ++ lb) W fun e w' => e = .returned (.bool (p t)) ∧ W.grownBy w' none

set_option maxHeartbeats 400000 in
theorem indexFuncI_none {w : World} (A : Option Addr) (n c : Nat) (xs : List Int) (h : Ints .i64 w w.heap.size A n xs) (hn : n ≤ 9223372036854775807) (p : Int → Bool) (g : Nat) (lb : Array Value) (eg : ∀ args w, (callFunc g args).run Tryz.prog w = .ok (.enter g args) w) (hp : PredI g lb p w none) (hall : ∀ t ∈ xs, p t = false) :
    Calls Tryz.prog 46 #[.slice A n c, .func (.func g) #[] lb] w (Told1 (-1) w) := by
  have HP := Lib.hid hp
  have HA := Lib.hid hall
  have HH := Lib.hid h
  clear hp hall h
  go_enter Tryz.func46, Tryz.ntmps46
  go_wp2
  go_loopw [5, 8] (fun _ j wr => ∃ k : Nat, k ≤ n ∧ j = .int .i64 k ∧ w.grownBy wr none) (fun _ j _ => n - (intOf j).toNat)
  case atStart => exact ⟨0, Nat.zero_le _, rfl, World.grownBy.refl w _⟩
  case round =>
    obtain ⟨k, hk, rfl, hg⟩ := hrel
    by_cases hlt : k < n
    · have hkn : (k : Int) < (n : Int) := by omega
      obtain ⟨b, off, rfl, hb, hc⟩ := HH.out.row (by omega)
      have hcell : wr.cell? ⟨b, off + k, none⟩ = some (.int .i64 (xs.getD k 0)) := (World.cell?_of_block (a := ⟨b, off + k, none⟩) (hg.block b hb (by simp))).trans (hc k hlt)
      have hm : xs.getD k 0 ∈ xs := by
        have hl := HH.out.len
        rw [List.getD_eq_getElem?_getD, List.getElem?_eq_getElem (by omega)]
        exact List.getElem_mem _
      have hcall := HP.out wr (xs.getD k 0) hg
      rw [HA.out _ hm] at hcall
      generalize xs.getD k 0 = t at hcell hcall
      have HC := Lib.hid hcall
      have HG := Lib.hid hg
      clear hc hm hcall hg
      go_wp2_with fail
      refine HC.out.mono ?_
      rintro e w' ⟨rfl, hg'⟩
      have hg2 := HG.out.andThen hg' (by intro j hj; cases hj)
      clear hg' HC HG
      go_wp2
      go_roundw
      case rel => exact ⟨k + 1, by omega, by go_num, hg2⟩
      case measure => simp [intOf]; omega
    · have hkn : ¬ (k : Int) < (n : Int) := by omega
      have HG := Lib.hid hg
      clear hg
      go_wp2
      go_ret
      exact ⟨rfl, HG.out⟩

set_option maxHeartbeats 400000 in
theorem containsFuncI_none {w : World} (A : Option Addr) (n c : Nat) (xs : List Int) (h : Ints .i64 w w.heap.size A n xs) (hn : n ≤ 9223372036854775807) (p : Int → Bool) (g : Nat) (lb : Array Value) (eg : ∀ args w, (callFunc g args).run Tryz.prog w = .ok (.enter g args) w) (hp : PredI g lb p w none) (hall : ∀ t ∈ xs, p t = false) :
    Calls Tryz.prog 29 #[.slice A n c, .func (.func g) #[] lb] w fun e w' => e = .returned (.bool false) ∧ w.grownBy w' none := by
  have HI := Lib.hid (indexFuncI_none A n c xs h hn p g lb eg hp hall)
  clear h hp hall
  go_enter Tryz.func29, Tryz.ntmps29
  go_wp2_with fail
  refine HI.out.mono ?_
  rintro e w' ⟨rfl, hg⟩
  go_wp2
  go_ret
  exact ⟨rfl, hg⟩

/-- The machine, a variable that points to it, and a row of integers, apart. -/
def AtO (w : World) (c : Nat) (m : Mach) (p : Nat) (v : Value) (n : Nat) (xs : List Int) (wr : World) : Prop := ∃ S X, X.c = c ∧ Core wr w.heap.size S X m ∧ Below w.heap.size w wr ∧ wr.ownsRow w.heap.size 3 1 v n (xs.map (Value.int .i64)) ∧
  (∀ g, v.ownBlock = some g → ¬ S g ∧ g ≠ p) ∧ wr.cell? ⟨p, 0, none⟩ = some (.pointer (some ⟨c, 0, none⟩)) ∧ ¬ S p

section
variable {w wr w' : World} {c : Nat} {m : Mach} {p : Nat} {v : Value} {n : Nat} {xs : List Int} {cells0 : List Int}
theorem At.noRow (h : At w c m wr) (t : TypeId) : AtO w c m wr.heap.size (.slice none 0 0) 0 [] (wr.alloc (.cells #[.pointer (some ⟨c, 0, none⟩)] t)) := by
  have hg := grown_a (World.grownBy.refl wr none) (.cells #[.pointer (some ⟨c, 0, none⟩)] t)
  have hb := (h.grow hg).bel
  obtain ⟨S, X, e, hC, hB⟩ := h
  refine ⟨S, X, e, hC.grow hg, hb, World.ownsRow_nil _ _ _ _, (fun g hg => by cases hg), ?_, fun hS => ?_⟩
  · exact cell_in (heap_alloc_new wr _) 0
  · have := (hC.slo _ hS).2
    omega
theorem AtO.at_ (h : AtO w c m p v n xs wr) : At w c m wr := by
  obtain ⟨S, X, e, hC, hB, _⟩ := h
  exact ⟨S, X, e, hC, hB⟩
theorem AtO.own (h : AtO w c m p v n xs wr) : wr.ownsRow w.heap.size 3 1 v n (xs.map (Value.int .i64)) := by
  obtain ⟨S, X, e, hC, hB, ho, _⟩ := h
  exact ho
theorem AtO.var (h : AtO w c m p v n xs wr) : wr.cell? ⟨p, 0, none⟩ = some (.pointer (some ⟨c, 0, none⟩)) := by
  obtain ⟨S, X, e, hC, hB, ho, _, hv, _⟩ := h
  exact hv
theorem AtO.grow (h : AtO w c m p v n xs wr) (hg : wr.grownBy w' none) : AtO w c m p v n xs w' := by
  have hb := (h.at_.grow hg).bel
  obtain ⟨S, X, e, hC, hB, ho, hd, hv, hp⟩ := h
  exact ⟨S, X, e, hC.grow hg, hb, own_grown ho hg, hd, hg.cell hv (by simp), hp⟩
theorem AtO.appended {v' : Value} {n' : Nat} {ys : List Int} (h : AtO w c m p v n xs wr) (ho' : w'.ownsRow w.heap.size 3 1 v' n' (ys.map (Value.int .i64))) (hg : wr.grownBy w' v.ownBlock) (hv : v'.ownBlock = v.ownBlock ∨ v'.ownBlock = some wr.heap.size) : AtO w c m p v' n' ys w' := by
  obtain ⟨S, X, e, hC, hB, ho, hd, hx, hp⟩ := h
  have hK : Keeps (fun k => v.ownBlock = some k) wr w' := Keeps.of_grown hg (fun k hk => hk)
  refine ⟨S, X, e, hC.keeps hK (fun k hk hv => (hd k hv).1 hk), hB.trans (below_of_keeps hK (fun k hk => (ho.lt k hk).1) hB.size), ho', fun g hg => ?_, hg.cell hx (fun e => (hd p e.symm).2 rfl), hp⟩
  rcases hv with h1 | h1
  · exact hd g (h1 ▸ hg)
  · rw [h1] at hg
    injection hg with hg
    refine ⟨fun hS => ?_, fun e => ?_⟩
    · have := (hC.slo g hS).2
      omega
    · have : p < wr.heap.size := World.block_lt_of_cell? wr _ hx
      omega
theorem AtO.moved {m' : Mach} {S : Nat → Prop} {X : KB} (hX : X.c = c) (hC : Core wr w.heap.size S X m) (hB : Below w.heap.size w wr) (ho : wr.ownsRow w.heap.size 3 1 v n (xs.map (Value.int .i64))) (hd : ∀ g, v.ownBlock = some g → ¬ S g ∧ g ≠ p) (hx : wr.cell? ⟨p, 0, none⟩ = some (.pointer (some ⟨c, 0, none⟩))) (hp : ¬ S p) (hm : Moved wr w.heap.size S X m' w') : AtO w c m' p v n xs w' := by
  obtain ⟨S', X', e1, e2, hC2, hS, hK⟩ := hm
  have hpl : p < wr.heap.size := World.block_lt_of_cell? wr _ hx
  refine ⟨S', X', e1.trans hX, hC2, hB.trans (below_of_keeps hK (fun k hs => (hC.slo k hs).1) hB.size), own_keeps ho hK (fun g hg => (hd g hg).1), fun g hg => ⟨fun hS' => ?_, (hd g hg).2⟩, (World.cell?_of_block (a := ⟨p, 0, none⟩) (hK.block p hpl hp)).trans hx, fun hS' => ?_⟩
  · rcases hS g hS' with h1 | h1
    · exact (hd g hg).1 h1
    · have := (ho.lt g hg).2
      omega
  · rcases hS p hS' with h1 | h1
    · exact hp h1
    · omega
theorem AtO.step (h : AtO w c m p v n xs wr) (hb : MBig cells0 m) (t : Int) :
    Calls Tryz.prog 17 #[.pointer (some ⟨c, 0, none⟩), .int .i64 t] wr fun e w' => e = .returned (errV (stepM 20000 m t).1) ∧ AtO w c (stepM 20000 m t).2 p v n xs w' := by
  obtain ⟨S, X, rfl, hC, hB, ho, hd, hx, hp⟩ := h
  exact (kstep_any hC hB.size hb t).mono fun e w' ⟨he, hm⟩ => ⟨he, AtO.moved rfl hC hB ho hd hx hp hm⟩
theorem AtO.poke (h : AtO w c m p v n xs wr) (hb : MBig cells0 m) (t : Int) :
    Calls Tryz.prog 27 #[.pointer (some ⟨c, 0, none⟩), .int .i64 t] wr fun e w' => e = .returned (errV (pokeM m t).1) ∧ AtO w c (pokeM m t).2 p v n xs w' := by
  obtain ⟨S, X, rfl, hC, hB, ho, hd, hx, hp⟩ := h
  exact (kpoke_any hC hB.size hb t).mono fun e w' ⟨he, hm⟩ => ⟨he, AtO.moved rfl hC hB ho hd hx hp hm⟩
theorem AtO.step_new (h : AtO w c m p v n xs wr) (hb : MBig cells0 m) (t : Int) (cs : Array Value) (ty : TypeId) :
    Calls Tryz.prog 17 #[.pointer (some ⟨c, 0, none⟩), .int .i64 t] (wr.alloc (.cells cs ty)) fun e w' => e = .returned (errV (stepM 20000 m t).1) ∧ AtO w c (stepM 20000 m t).2 p v n xs w' ∧ ∀ j, w'.cell? ⟨wr.heap.size, j, none⟩ = cs[j]? := by
  have hb2 := (h.grow (grown_a (World.grownBy.refl wr none) (.cells cs ty))).at_.bel
  obtain ⟨S, X, rfl, hC, hB, ho, hd, hx, hp⟩ := h
  have hS : ¬ S wr.heap.size := fun hS => by have := (hC.slo _ hS).2; omega
  have hg := grown_a (World.grownBy.refl wr none) (.cells cs ty)
  have hC1 := hC.grow hg
  refine (kstep_any hC1 hb2.size hb t).mono fun e w' ⟨he, hm⟩ => ⟨he, AtO.moved rfl hC1 hb2 (own_grown ho hg) hd (hg.cell hx (by simp)) hp hm, fun j => ?_⟩
  obtain ⟨S', X', e1, e2, hC2, hS2, hK⟩ := hm
  rw [World.cell?_of_block (a := ⟨wr.heap.size, j, none⟩) (hK.block wr.heap.size (by simp) hS)]
  exact cell_in (heap_alloc_new wr _) j
end

/-- Who of the first n is at its end. -/
def endedL (m : Mach) (n : Nat) : List Int := ((List.range n).filter fun k => m.ended.getD k false).map Int.ofNat
theorem endedL_succ (m : Mach) (n : Nat) : endedL m (n + 1) = endedL m n ++ (if m.ended.getD n false = true then [(n : Int)] else []) := by
  unfold endedL
  rw [List.range_succ, List.filter_append, List.map_append]
  by_cases h : m.ended.getD n false = true
  · rw [if_pos h, List.filter_cons_of_pos (by simpa using h)]
    rfl
  · rw [if_neg h, List.filter_cons_of_neg (by simpa using h)]
    rfl
theorem endedL_len (m : Mach) (n : Nat) : (endedL m n).length ≤ n := by
  unfold endedL
  rw [List.length_map]
  exact Nat.le_trans (List.length_filter_le _ _) (by simp)
theorem mem_endedL {m : Mach} {n : Nat} {t : Int} : t ∈ endedL m n ↔ ∃ k : Nat, t = k ∧ k < n ∧ m.ended.getD k false = true := by
  unfold endedL
  simp only [List.mem_map, List.mem_filter, List.mem_range]
  constructor
  · rintro ⟨k, ⟨h1, h2⟩, h3⟩
    exact ⟨k, h3.symm, h1, h2⟩
  · rintro ⟨k, h3, h1, h2⟩
    exact ⟨k, ⟨h1, h2⟩, h3.symm⟩
theorem behindM_ended (most : Nat) (l : List (Int × Bool)) : ∀ (m : Mach) (k : Nat), m.ended.getD k false = true → (behindM most m l).ended.getD k false = true := by
  unfold behindM
  induction l with
  | nil => intro m k h; exact h
  | cons v l ih => intro m k h; exact ih _ k (moveM_ended most m v k h)
theorem atM_ended {m : Mach} {k : Nat} (hk : k < m.progs.length) : (atM m k).2.2 = if m.ended.getD k false = true then 6 else 0 := by
  have hc : ¬ ((k : Int) < 0 ∨ (m.progs.length : Int) ≤ k) := by omega
  unfold atM underE
  simp only [if_neg hc, Int.toNat_natCast]
  by_cases h : m.ended.getD k false = true
  · simp only [if_pos h]
    rfl
  · simp only [if_neg h]
    rfl

theorem coreEndsc_any {w wr : World} {c : Nat} {m : Mach} {p : Nat} {v : Value} {n : Nat} {xs : List Int} (h : AtO w c m p v n xs wr) (t : Int) :
    Calls Tryz.prog 30 #[.int .i64 t, .pointer (some ⟨p, 0, none⟩)] wr fun e w' => e = .returned (.bool (readyE m t == 0)) ∧ wr.grownBy w' none := by
  have hc := h.var
  have HC := Lib.hid (at_can h.at_ t)
  clear h
  generalize (readyE m t == 0) = q at *
  go_enter Tryz.func30, Tryz.ntmps30
  go_wp2_with fail
  refine HC.out.mono ?_
  rintro e w' ⟨rfl, hg⟩
  go_wp2
  go_ret
  exact ⟨rfl, hg⟩

set_option maxHeartbeats 4000000 in
theorem coreEnds_any {w : World} (hw : CW w) (hg : ErrVar w) (A C D E : Option Addr) (n c nc cc nm cm ne ce : Nat) (ps : List (List Ins5)) (cells : List Int) (l r : List (Int × Bool)) (hn : n ≤ 9223372036854775807)
    (hp : Progs w w.heap.size A n ps) (hc : Ints .u64 w w.heap.size C nc cells) (hcU : ∀ v ∈ cells, okU v) (hl : Moves w w.heap.size D nm l) (hr : Moves w w.heap.size E ne r) (hnm : nm ≤ 17592186044416) (hne : ne ≤ 17592186044416) :
    Calls Tryz.prog 6 #[.slice A n c, .slice C nc cc, .slice D nm cm, .slice E ne ce] w fun e w' => e = .returned (.bool true) ∧ Below w.heap.size w w' := by
  have HG := Lib.hid (gone_any hw)
  have HW := Lib.hid (fun w1 (hb : Below w.heap.size w w1) => written_true w1 (hw.old hb))
  have HF := Lib.hid (fun w1 (hb : Below w.heap.size w w1) => kfits_any (hw.old hb) A C n c nc cc ps (hp.old hb) hn)
  have HBH := Lib.hid (fun w1 (hb : Below w.heap.size w w1) (hf : Fit ps nc) (hnm : nm ≤ 400) => kbehind_any (hw.old hb) A C D n c nc cc nm cm ps cells l (hp.old hb) (hc.old hb) (hl.old hb) hf hcU (by omega))
  have hlen := hp.len
  have hclen := hc.len
  have HBig := Lib.hid (fun (hf : Fit ps nc) => MBig.behind l (newM_big (cells := cells) (by rw [hclen]; exact hf) hcU))
  have HLN := Lib.hid hlen
  have HRL := Lib.hid hr.len
  have HR := Lib.hid hr
  clear hp hc hw hl hcU hlen hclen hr
  go_enter Tryz.func6, Tryz.ntmps6
  go_wp2_with fail
  refine HG.out.mono ?_
  rintro e w1 ⟨rfl, hb1⟩
  have HB1 := Lib.hid hb1
  clear hb1 HG
  go_wp2_with fail
  refine (HW.out w1 HB1.out).mono ?_
  rintro e w2 ⟨rfl, hb2⟩
  have HB2 := Lib.hid (HB1.out.trans (hb2.mono HB1.out.size))
  clear hb2 HB1 HW
  have hsum : wrap64 ((nm : Int) + (ne : Int)) = (nm : Int) + (ne : Int) := by unfold wrap64; omega
  by_cases h3 : 400 < nm + ne
  · have h3' : (400 : Int) < (nm : Int) + (ne : Int) := by omega
    go_wp2
    go_ret
    exact ⟨rfl, HB2.out⟩
  have h3' : ¬ (400 : Int) < (nm : Int) + (ne : Int) := by omega
  have hz3 : decide ((400 : Int) < (nm : Int) + (ne : Int)) = false := by simp; omega
  go_wp2_with fail
  refine (HF.out w2 HB2.out).mono ?_
  rintro e w3 ⟨⟨rfl, hf⟩ | rfl, hb3⟩
  rotate_left
  · have HB3 := Lib.hid (HB2.out.trans (hb3.mono HB2.out.size))
    clear hb3 HB2
    go_wp2
    go_ret
    exact ⟨rfl, HB3.out⟩
  have HB3 := Lib.hid (HB2.out.trans (hb3.mono HB2.out.size))
  have HFit := Lib.hid hf
  clear hb3 HB2 HF hf
  go_wp2_with fail
  refine (HBH.out w3 HB3.out HFit.out (by omega)).mono ?_
  rintro e w4 ⟨b, rfl, hA⟩
  have HA := Lib.hid (hA.old HB3.out)
  have HM := Lib.hid (HBig.out HFit.out)
  have hpl : (behindM 20000 (newM ps cells) l).progs = ps := behindM_progs _ _ _
  have HPL := Lib.hid (show (behindM 20000 (newM ps cells) l).progs.length = n by rw [hpl]; exact HLN.out)
  have hn16 : n ≤ 16 := by have := HFit.out.1; rw [HLN.out] at this; exact this
  clear hA HBH HBig HFit hpl
  generalize behindM 20000 (newM ps cells) l = m at *
  have HO := Lib.hid (HA.out.noRow 27)
  go_wp2
  generalize w4.heap.size = p at *
  go_loopw [10, 44] (fun v j wr => ∃ (k : Nat), k ≤ n ∧ j = .int .i64 k ∧ Hid (AtO w b m p v (endedL m k).length (endedL m k) wr)) (fun _ j _ => n - (intOf j).toNat)
  case atStart => exact ⟨0, Nat.zero_le _, rfl, HO⟩
  case round =>
    obtain ⟨k, hk, rfl, hO⟩ := hrel
    have hvar := hO.out.var
    by_cases hlt : k < n
    · have hkn : (k : Int) < (n : Int) := by omega
      have hel := atM_ended (m := m) (k := k) (by rw [HPL.out]; exact hlt)
      have HAT := Lib.hid (at_at hO.out.at_ k)
      generalize (atM m k).1 = z1 at *
      generalize (atM m k).2.1 = z2 at *
      by_cases hee : m.ended.getD k false = true
      · rw [if_pos hee] at hel
        rw [hel] at HAT
        have HO2 := Lib.hid hO.out
        clear hO hel
        rw [errV_pos (by decide)] at HAT
        go_wp2_with fail
        refine HAT.out.mono ?_
        rintro e w6 ⟨rfl, hg6⟩
        have HO6 := Lib.hid (HO2.out.grow hg6)
        have hvar6 := HO6.out.var
        obtain ⟨A0, c0, rfl⟩ := slice_of_own2 HO2.out.own
        obtain ⟨i0, hi, hz0, hz1, hz2⟩ := info_parts infoInt
        have hlen := endedL_len m k
        generalize hEL : endedL m k = xs at *
        clear hg6 HAT HO2 hvar
        go_wp2_with (at_builtin; refine wpList_append_own_at _ rfl (.tmp 56) (.tmp 58) 49 rfl w.heap.size 3 i0 (.int .i64 0) 1 8 Tryz.underlying49 hi hz0 hz1 hz2 rfl (by decide) _ xs.length (xs.map (Value.int .i64)) rfl ?hown ⟨w6.heap.size, 0, none⟩ 1 1 [.int .i64 (k : Int)] rfl rfl ?c1 ?c2 ?c3 ?c4 ?c5 ?_)
        case hown => exact HO6.out.own.alloc _
        case c1 => exact World.news_of_block (cs := #[.int .i64 (k : Int)]) (heap_alloc_new w6 _)
        case c2 => simp [Value.oneCell']
        case c3 => unfold maxLen; omega
        case c4 => omega
        case c5 => have := HO6.out.at_.size; simp; omega
        intro v' w7 hown7 hg7 _ hat7
        have hys : xs.map (Value.int .i64) ++ [.int .i64 (k : Int)] = (endedL m (k + 1)).map (Value.int .i64) := by rw [endedL_succ, if_pos hee, hEL, List.map_append]; rfl
        have hyl : xs.length + 1 = (endedL m (k + 1)).length := by rw [endedL_succ, if_pos hee, hEL, List.length_append]; rfl
        rw [hys, hyl] at hown7
        have HO7 := Lib.hid ((HO6.out.grow (grown_a (World.grownBy.refl _ none) _)).appended hown7 hg7 (by rcases hat7 with h | h; exact .inl h; exact .inr (h.trans (by simp))))
        clear hown7 hg7 hat7 HO6 hys hyl hvar6 hi hz0 hz1 hz2
        go_wp2
        go_roundw
        case rel => exact ⟨k + 1, by omega, by go_num, HO7⟩
        case measure => simp [intOf]; omega
      · rw [if_neg hee] at hel
        rw [hel] at HAT
        have HO2 := Lib.hid hO.out
        clear hO hel
        have hE0 : errV 0 = .nilIface := rfl
        rw [hE0] at HAT
        go_wp2_with fail
        refine HAT.out.mono ?_
        rintro e w6 ⟨rfl, hg6⟩
        have HO6 := Lib.hid (HO2.out.grow hg6)
        have hEL : endedL m (k + 1) = endedL m k := by rw [endedL_succ, if_neg hee, List.append_nil]
        clear hg6 HAT HO2 hvar
        go_wp2
        go_roundw
        case rel => exact ⟨k + 1, by omega, by go_num, by rw [hEL]; exact HO6⟩
        case measure => simp [intOf]; omega
    · have hkn : ¬ (k : Int) < (n : Int) := by omega
      obtain rfl : k = n := by omega
      have HO2 := Lib.hid hO.out
      clear hO
      obtain ⟨A0, c0, rfl⟩ := slice_of_own2 HO2.out.own
      have hxn := endedL_len m k
      have hxm : ∀ (i : Nat) (t : Int), t ∈ endedL m k → stepM 20000 (behindM 20000 m (r.take i)) t = (6, behindM 20000 m (r.take i)) := by
        intro i t ht
        obtain ⟨q, rfl, hq, he⟩ := mem_endedL.1 ht
        exact stepM_of_ended 20000 _ _ (by omega) (by rw [behindM_progs, HPL.out]; omega) (by rw [Int.toNat_natCast]; exact behindM_ended 20000 (r.take i) m q he)
      have hxr : ∀ (i : Nat), ∀ t ∈ endedL m k, (readyE (behindM 20000 m (r.take i)) t == 0) = false := by
        intro i t ht
        obtain ⟨q, rfl, hq, he⟩ := mem_endedL.1 ht
        unfold readyE
        rw [if_neg (by rw [behindM_progs, HPL.out]; omega), if_pos (by rw [Int.toNat_natCast]; exact behindM_ended 20000 (r.take i) m q he)]
        rfl
      have HXM := Lib.hid hxm
      have HXR := Lib.hid hxr
      clear hxm hxr
      generalize endedL m k = xs at *
      go_wp2
      go_loopw [63] (fun j wr => ∃ (i : Nat), i ≤ ne ∧ j = .int .i64 i ∧ Hid (AtO w b (behindM 20000 m (r.take i)) p (.slice A0 xs.length c0) xs.length xs wr)) (fun j _ => ne - (intOf j).toNat)
      case atStart => exact ⟨0, Nat.zero_le _, rfl, HO2⟩
      case round =>
        obtain ⟨i, hi, rfl, hO⟩ := hrel
        have hvar := hO.out.var
        have hpl : p < wr.heap.size := World.block_lt_of_cell? wr _ hvar
        have hpn : p ≠ wr.heap.size := by omega
        by_cases hlt : i < ne
        · have hkn2 : (i : Int) < (ne : Int) := by omega
          obtain ⟨g, off, hD, hcell⟩ := moves_at HR.out hO.out.at_ hlt
          subst hD
          have HT := Lib.hid (behind_take r m i (by rw [HRL.out]; exact hlt))
          have HX := Lib.hid (HXM.out i)
          have HT2 := HT.out
          obtain ⟨hc0, hc1⟩ := hcell
          generalize r.getD i default = v at *
          obtain ⟨t, pk⟩ := v
          dsimp only at hc0 hc1
          have HS := Lib.hid (hO.out.step_new (MBig.behind (r.take i) HM.out) t #[.int .i64 t, .bool false] 59)
          have HP := Lib.hid (fun w' (hg : wr.grownBy w' none) => (hO.out.grow hg).poke (MBig.behind (r.take i) HM.out) t)
          cases pk
          · have HTT := Lib.hid (show behindM 20000 m (r.take (i + 1)) = (stepM 20000 (behindM 20000 m (r.take i)) t).2 from HT2)
            clear HP HT HT2 hO
            go_wp2_with fail
            refine HS.out.mono ?_
            rintro e w5 ⟨rfl, hO5, hmv⟩
            have hm0 : w5.cell? ⟨wr.heap.size, 0, none⟩ = some (.int .i64 t) := hmv 0
            clear hmv
            have HO5 := Lib.hid hO5
            clear hO5 HS hvar hpl hpn hc0 hc1
            have HCO := Lib.hid (containsI_any A0 xs.length c0 xs (Ints.of_own HO5.out.own) (by omega) t)
            by_cases hct : xs.contains t = true
            · have hst := HX.out t (by simpa using hct)
              rw [hst] at HTT HO5 ⊢
              rw [hct] at HCO
              have HEV := Lib.hid (errVar_old2 hg HO5.out.at_.bel)
              have HTE := Lib.hid (tell_any 6 w5 HEV.out)
              dsimp only at HO5 ⊢
              generalize errV 6 = q6 at *
              clear HEV hct hst
              go_wp2_with fail
              refine HCO.out.mono ?_
              rintro e w6 ⟨rfl, rfl⟩
              go_wp2_with fail
              refine HTE.out.mono ?_
              rintro e w6 ⟨rfl, hg6⟩
              have HO6 := Lib.hid (HO5.out.grow hg6)
              clear hg6 HTE HCO HO5 HX
              go_wp2
              go_roundw
              case rel => exact ⟨i + 1, by omega, by go_num, by rw [HTT.out]; exact HO6⟩
              case measure => simp [intOf]; omega
            · have hct2 : xs.contains t = false := by simpa using hct
              rw [hct2] at HCO
              rw [← HTT.out] at HO5
              generalize (errV (stepM 20000 (behindM 20000 m (List.take i r)) t).1) = RV
              clear HX hct hct2 HTT
              go_wp2_with fail
              refine HCO.out.mono ?_
              rintro e w6 ⟨rfl, rfl⟩
              clear HCO
              go_wp2
              go_roundw
              case rel => exact ⟨i + 1, by omega, by go_num, HO5⟩
              case measure => simp [intOf]; omega
          · have HTT := Lib.hid (show behindM 20000 m (r.take (i + 1)) = (pokeM (behindM 20000 m (r.take i)) t).2 from HT2)
            rw [← HTT.out] at HP
            clear HS HT HT2 hO
            go_wp2_with fail
            refine (HP.out _ (grown_a (World.grownBy.refl _ none) _)).mono ?_
            rintro e w5 ⟨rfl, hO5⟩
            have HO5 := Lib.hid hO5
            generalize (errV (pokeM (behindM 20000 m (List.take i r)) t).1) = RV
            clear hO5 HP hvar HTT hc0 hc1 hpl hpn
            go_wp2
            go_roundw
            case rel => exact ⟨i + 1, by omega, by go_num, HO5⟩
            case measure => simp [intOf]; omega
        · have hkn2 : ¬ (i : Int) < (ne : Int) := by omega
          have HO3 := Lib.hid hO.out
          have HXI := Lib.hid (HXR.out i)
          clear hO hvar hpl hpn HXR HXM
          generalize behindM 20000 m (List.take i r) = m2 at *
          go_wp2_with fail
          have hown := HO3.out.own
          refine (containsFuncI_none A0 xs.length c0 xs (Ints.of_own hown) (by omega) (fun t => readyE m2 t == 0) 30 #[.pointer (some ⟨p, 0, none⟩)] (fun args w => rfl) (fun W t hg => coreEndsc_any (HO3.out.grow hg) t) (fun t ht => HXI.out t ht)).mono ?_
          rintro e w6 ⟨rfl, hg6⟩
          have HB6 := Lib.hid (HO3.out.grow hg6).at_.bel
          clear hown hg6 HO3 HXI
          go_wp2
          go_ret
          exact ⟨rfl, HB6.out⟩
end Go.Proofs.YtbcbahoplfgimaaGreatDoor
