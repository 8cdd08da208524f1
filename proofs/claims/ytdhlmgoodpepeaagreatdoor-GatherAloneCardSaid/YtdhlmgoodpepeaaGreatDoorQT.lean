/-
  made, for calls of which each may be. The laws' helpers on threads that ask a phaser: a machine of them; a fact: two who pass. The laws' helpers on threads that ask a phaser: gathered. slices.Repeat of rows of calls. The laws' helpers on threads that ask a phaser: when none can go on; rows of one call.
-/
import Derived.Test.YtdhlmgoodpepeaaGreatDoorQL
import Derived.Test.YtdhlmgoodpepeaaGreatDoorQL4
import Derived.Test.YtdhlmgoodpepeaaGreatDoorQS4
import Derived.Test.YtdhlmgoodpepeaaGreatDoorQR5
import Derived.Test.YtdhlmgoodpepeaaGreatDoorQP
import Derived.Test.YtdhlmgoodpepeaaGreatDoorQM
import Derived.Test.YtdhlmgoodpepeaaGreatDoorQI
namespace Go.Proofs.YtdhlmgoodpepeaaGreatDoor
set_option maxRecDepth 100000
open Go.RowKit Go.Shelf Go.Sort
set_option linter.unusedVariables false
set_option linter.unusedSimpArgs false

set_option maxHeartbeats 2000000 in
theorem madeR_any {κ : Type} (F : Fam κ) (enc : κ → Int × Int) (f : Nat) (eg : ∀ args W, (callFunc f args).run Tryz.prog W = .ok (.enter f args) W) {w : World} (hw : CW w) (Q : Nat → List κ → Prop) (HC : CodesQ F enc f w Q) (hR : ∀ (i : Nat) (L : List κ), Q i L → L.length ≤ 12 → RightL (wholeK F L) F.nc) (h300 : F.nc ≤ 300) (h100 : F.nc ≤ 100)
    (Ls : List (List κ)) (h16 : Ls.length ≤ 16) (h12 : ∀ L ∈ Ls, L.length ≤ 12) (hQ : ∀ k, k < Ls.length → Q k (Ls.getD k [])) (A C D : Option Addr) (n cap nc cc nm cm : Nat) (hA : CRows w w.heap.size A n (Ls.map (List.map enc))) (cells : List Int) (hc : Ints .u64 w w.heap.size C nc cells) (hnc : nc = F.nc) (l : List (Int × Bool)) (hl : Moves w w.heap.size D nm l) (hcU : ∀ v ∈ cells, okU v) (hnm : nm ≤ 1000000) :
    Calls Tryz.prog 15 #[.slice A n cap, .func (.func f) #[] #[], .slice C nc cc, .slice D nm cm] w fun e w' => ∃ c, e = .returned (.pointer (some ⟨c, 0, none⟩)) ∧ At w c (behindM 20000 (newM (wholesK F Ls) cells) l) w' := by
  have hn : Ls.length = n := by have := hA.len; rwa [List.length_map] at this
  have HAc := Lib.hid hA
  have HCo := Lib.hid HC
  have HN := Lib.hid hn
  have H12 := Lib.hid h12
  have HQ := Lib.hid hQ
  have hN0 : Nest 82 88 5 w none 0 0 (((wholesK F Ls).take 0).map fun p => (p.length, cells5 p)) w := Nest.nil _ _ _ w
  have HN0 := Lib.hid hN0
  have HNC := Lib.hid hnc
  clear hA HC hN0 h12 hn hnc hQ
  go_enter Tryz.func15, Tryz.ntmps15
  go_wp2
  go_loopw [9, 20] (fun v j wr => ∃ k : Nat, k ≤ n ∧ j = .int .i64 k ∧ ∃ Ap cp, v = .slice Ap k cp ∧ Nest 82 88 5 w Ap k cp (((wholesK F Ls).take k).map fun p => (p.length, cells5 p)) wr) (fun _ j _ => n - (intOf j).toNat)
  case atStart => exact ⟨0, Nat.zero_le _, rfl, none, 0, rfl, HN0.out⟩
  case round =>
    obtain ⟨k, hk, rfl, Ap, cp, rfl, hm⟩ := hrel
    by_cases hlt : k < n
    · have hkn : (k : Int) < (n : Int) := by omega
      obtain ⟨b, off, hA, hb, hx⟩ := (HAc.out.below hm.bel).row (by omega)
      subst hA
      obtain ⟨Ai, ci, hcell, hcr⟩ := hx k hlt
      have hkl : k < Ls.length := by rw [HN.out]; exact hlt
      have hd : (Ls.map (List.map enc)).getD k [] = (Ls.getD k []).map enc := by rw [List.getD_eq_getElem?_getD, List.getElem?_map, List.getElem?_eq_getElem hkl, List.getD_eq_getElem?_getD, List.getElem?_eq_getElem hkl]; rfl
      rw [hd] at hcell hcr
      have hLm : Ls.getD k [] ∈ Ls := by rw [List.getD_eq_getElem?_getD, List.getElem?_eq_getElem hkl]; exact List.getElem_mem hkl
      have HCk := Lib.hid (HCo.out wr hm.bel (Ls.getD k []) (H12.out _ hLm) Ai _ ci k (HQ.out k hkl) (hcr.wide hm.bel.size))
      have htk : ((wholesK F Ls).take (k + 1)).map (fun p => (p.length, cells5 p)) = ((wholesK F Ls).take k).map (fun p => (p.length, cells5 p)) ++ [((wholeK F (Ls.getD k [])).length, cells5 (wholeK F (Ls.getD k [])))] := by
        have : (wholesK F Ls)[k]? = some (wholeK F (Ls.getD k [])) := by unfold wholesK; rw [List.getElem?_map, List.getElem?_eq_getElem hkl, List.getD_eq_getElem?_getD, List.getElem?_eq_getElem hkl]; rfl
        rw [List.take_add_one, this, List.map_append]
        rfl
      have HT := Lib.hid htk
      have HM := Lib.hid hm
      clear hm hx hd hb hcr hLm htk HN0
      generalize hLk : Ls.getD k [] = Lk at *
      generalize hlk : (Lk.map enc).length = lk at *
      clear hLk hlk
      go_wp2_with fail
      --MC
      refine HCk.out.mono ?_
      rintro e w1 ⟨A1, c1, rfl, ho1, hb1⟩
      obtain ⟨A2, c2, w2, hr2, hN2⟩ := (HM.out.grow hb1).add (tS := 101) Tryz.underlying101 infoSInsM (by decide) ho1 HM.out.bel.size (by omega)
      rw [← HT.out] at hN2
      have HN2 := Lib.hid hN2
      have HR2 := Lib.hid hr2
      clear hr2 hN2 ho1 hb1 HM HCk HT
      go_wp2_with (at_builtin; refine Lib.wpList_append_run _ rfl _ _ _ _ rfl _ _ rfl rfl _ _ HR2.out ?_; clear HR2)
      go_roundw
      case rel => exact ⟨k + 1, by omega, by go_num, A2, c2, rfl, HN2.out⟩
      case measure => simp [intOf]; omega
    · have hkn : ¬ (k : Int) < (n : Int) := by omega
      obtain rfl : k = n := by omega
      have hps : (wholesK F Ls).length = k := by unfold wholesK; rw [List.length_map, HN.out]
      have htk : (wholesK F Ls).take k = wholesK F Ls := List.take_of_length_le (by omega)
      rw [htk] at hm
      have hIc := hc.below hm.bel
      have hI2 : Ints .u64 wr wr.heap.size C nc cells := hc.old hm.bel
      have hri : ∀ i, i < k → RightL ((wholesK F Ls).getD i []) nc := fun i hi => by
        have e : (wholesK F Ls).getD i [] = wholeK F (Ls.getD i []) := by unfold wholesK; rw [List.getD_eq_getElem?_getD, List.getElem?_map, List.getElem?_eq_getElem (by rw [HN.out]; exact hi), List.getD_eq_getElem?_getD, List.getElem?_eq_getElem (by rw [HN.out]; exact hi)]; rfl
        rw [e, HNC.out]
        exact hR i _ (HQ.out i (by rw [HN.out]; exact hi)) (H12.out _ (by rw [List.getD_eq_getElem?_getD, List.getElem?_eq_getElem (by rw [HN.out]; exact hi)]; exact List.getElem_mem _))
      have HNw := Lib.hid (new_at (c := cp) (cc := cc) hw hm.bel Ap C k nc (wholesK F Ls) cells hm.progs hI2 (by rw [← HN.out]; exact h16) (by rw [HNC.out]; exact h300) hri)
      have hbig : MBig cells (newM (wholesK F Ls) cells) := newM_big ⟨by rw [hps, ← HN.out]; exact h16, by rw [hc.len, HNC.out]; exact h100, fun i hi => by rw [hc.len]; exact hri i (by omega)⟩ hcU
      have HBig := Lib.hid (fun j => MBig.behind (l.take j) hbig)
      have HPs := Lib.hid hps
      have HLen := Lib.hid hl.len
      have HL := Lib.hid hl
      clear hm hIc hI2 hri hbig hps htk hl HN0 HAc HCo H12
      generalize hPS : wholesK F Ls = ps at *
      have HPS := Lib.hid hPS
      clear hPS
      go_wp2_with fail
      refine HNw.out.mono ?_
      rintro e w1 ⟨q, rfl, hA1⟩
      have HA1 := Lib.hid (show At w q (behindM 20000 (newM ps cells) (l.take 0)) w1 from hA1)
      have HTh := Lib.hid (at_threads hA1)
      rw [show (newM ps cells).progs.length = k from HPs.out] at HTh
      clear hA1 HNw
      go_wp2_with fail
      refine HTh.out.mono ?_
      rintro e w2 ⟨rfl, rfl⟩
      have hnn : ((k : Int) != (k : Int)) = false := by simp
      clear HTh
      go_wp2
      go_loopw [60] (fun j wr => ∃ i : Nat, i ≤ nm ∧ j = .int .i64 i ∧ At w q (behindM 20000 (newM ps cells) (l.take i)) wr) (fun j _ => nm - (intOf j).toNat)
      case atStart => exact ⟨0, Nat.zero_le _, rfl, HA1.out⟩
      case round =>
        obtain ⟨i, hi, rfl, hm⟩ := hrel
        by_cases hlt : i < nm
        · have hkn : (i : Int) < (nm : Int) := by omega
          obtain ⟨g, off, hD, hcell⟩ := moves_at HL.out hm hlt
          subst hD
          have HTk := Lib.hid (behind_take l (newM ps cells) i (by rw [HLen.out]; exact hlt))
          have HM := Lib.hid (fun w' (hg : wr.grownBy w' none) => kmove_any (hm.grow hg) (HBig.out i) (l.getD i default))
          rw [← HTk.out] at HM
          clear HTk hm HA1
          obtain ⟨hc0, hc1⟩ := hcell
          generalize l.getD i default = v at *
          obtain ⟨t, p⟩ := v
          dsimp only at hc0 hc1 HM
          cases p
          · simp only [Bool.false_eq_true, ↓reduceIte] at HM
            go_wp2_with fail
            refine (HM.out _ (grown_a (World.grownBy.refl _ none) _)).mono ?_
            rintro e w2 ⟨rfl, hm2⟩
            have H2 := Lib.hid hm2
            generalize (errV (stepM 20000 (behindM 20000 (newM ps cells) (List.take i l)) t).1) = RV
            clear hm2 HM hc0 hc1
            go_wp2
            go_roundw
            case rel => exact ⟨i + 1, by omega, by go_num, H2.out⟩
            case measure => simp [intOf]; omega
          · simp only [↓reduceIte] at HM
            go_wp2_with fail
            refine (HM.out _ (grown_a (World.grownBy.refl _ none) _)).mono ?_
            rintro e w2 ⟨rfl, hm2⟩
            have H2 := Lib.hid hm2
            generalize (errV (pokeM (behindM 20000 (newM ps cells) (List.take i l)) t).1) = RV
            clear hm2 HM hc0 hc1
            go_wp2
            go_roundw
            case rel => exact ⟨i + 1, by omega, by go_num, H2.out⟩
            case measure => simp [intOf]; omega
        · have hkn : ¬ (i : Int) < (nm : Int) := by omega
          obtain rfl : i = nm := by omega
          have hall : l.take i = l := List.take_of_length_le (by rw [HLen.out]; exact Nat.le_refl _)
          rw [hall] at hm
          have HM := Lib.hid hm
          clear hm hall HA1
          go_wp2
          go_ret
          rw [HPS.out]
          exact ⟨q, rfl, HM.out⟩
end Go.Proofs.YtdhlmgoodpepeaaGreatDoor

namespace Go.Proofs.YtdhlmgoodpepeaaGreatDoor
set_option maxRecDepth 100000
open Go.RowKit Go.Shelf Go.Sort
set_option linter.unusedVariables false
set_option linter.unusedSimpArgs false

def callsG (Ls : List (List GC)) (t : Nat) : List GC := Ls.getD t []
/-- Threads that may be, and the state at first. -/
structure GaOk (Ls : List (List GC)) (x : PhS) (K : Nat) : Prop where
  n16 : Ls.length ≤ 16
  lenK : ∀ L ∈ Ls, L.length ≤ K
  k12 : K ≤ 12
  fit : ∀ L ∈ Ls, FitL L
  ok : x.ok
  few : Ls.length * ((39 + 28 * Ls.length) * K + 1) + 4000 < 20000
section
variable {Ls : List (List GC)} {x : PhS} {K : Nat}
theorem GaOk.mem (h : GaOk Ls x K) {t : Nat} (ht : t < Ls.length) : callsG Ls t ∈ Ls := by
  unfold callsG
  rw [List.getD_eq_getElem?_getD, List.getElem?_eq_getElem ht]
  exact List.getElem_mem ht
theorem GaOk.fits (h : GaOk Ls x K) : ∀ t, t < Ls.length → ∀ c ∈ callsG Ls t, fitsC (c.w : Int) c.n := fun t ht c hc => h.fit _ (h.mem ht) c hc
theorem GaOk.calls (h : GaOk Ls x K) {t : Nat} (ht : t < Ls.length) : (callsG Ls t).length ≤ K := h.lenK _ (h.mem ht)
/-- What the cell holds at first. -/
def ga0 (x : PhS) : List Int := [x.word]
def gaK (h : GaOk Ls x K) : KindW gatherF Ls.length (callsG Ls) (fun c => (ga0 x).getD c 0) := gatherN h.n16 h.fits h.ok rfl
/-- Threads that ask a phaser behind some steps and p pokes. -/
def GaM (h : GaOk Ls x K) (p : Nat) (m : Mach) : Prop := ∃ S, RanW (gaK h) p S m
variable {h : GaOk Ls x K} {p : Nat} {m m' : Mach}
theorem gaK_pot (h : GaOk Ls x K) : (gaK h).pot (newK fun c => (ga0 x).getD c 0) + 4000 < 20000 := by
  have := potG_new (n := Ls.length) (calls := callsG Ls) (k := K) (fun c => (ga0 x).getD c 0) fun t ht => h.calls ht
  have h2 := h.few
  show potG Ls.length (callsG Ls) (newK fun c => (ga0 x).getD c 0) + 4000 < 20000
  omega
theorem gaK_pk (h : GaOk Ls x K) : (gaK h).pk = 8 := rfl
theorem ga_word (hx : x.ok) : ∀ v ∈ ga0 x, okU v := fun v hv => by
  rw [List.mem_singleton.1 hv]
  exact word_u64 hx
theorem ga_new (h : GaOk Ls x K) : GaM h 0 (newM (wholesK gatherF Ls) (ga0 x)) := by
  rw [wholesK_at]
  exact ⟨_, ranW_new (K := gaK h) rfl fun v hv => by
    rw [List.mem_singleton.1 hv]
    exact word_u64 h.ok⟩
theorem ga_moves (hm : GaM h p m) (l : List (Int × Bool)) (hp : p + pokesM l ≤ 500) : GaM h (p + pokesM l) (behindM 20000 m l) := by
  obtain ⟨S, hS⟩ := hm
  exact ranW_moves l p S m hS (by have := gaK_pot h; rw [gaK_pk]; omega)
theorem ga_fin (hm : GaM h p m) (hp : p ≤ 500) (hf : Fin m m') : ∃ S', RanW (gaK h) p S' m' ∧ ∀ t, t < Ls.length → stillK S' t := by
  obtain ⟨S, hS⟩ := hm
  exact ranW_fin (by have := gaK_pot h; rw [gaK_pk]; omega) hS hf
theorem gaM_inv {S : CS} (hS : RanW (gaK h) p S m) : GInv Ls.length (callsG Ls) x.word S m.acts m.events ∧ NInv Ls.length (callsG Ls) S := hS.inv
theorem gaM_cells {S : CS} (hS : RanW (gaK h) p S m) : m.cells = [S.cell 0] := by
  have hl : m.cells.length = 1 := hS.sim.lc
  have hc := hS.sim.cell
  match hm : m.cells, hl with
  | [v], _ =>
    rw [hm] at hc
    have := congrFun hc 0
    rw [this]
    rfl
theorem gaM_ended {S : CS} (hS : RanW (gaK h) p S m) {t : Nat} (ht : t < Ls.length) : m.ended.getD t false = (S.th t).en := hS.ended ht
end
theorem ga_right (L : List GC) (hF : FitL L) (hL : L.length ≤ 12) : RightL (wholeK gatherF L) gatherF.nc := whole_rightL gatherF gather_len (by decide) L (fun c hc p N h x hx => gather_ok c (hF c hc) p N h x hx) hL
theorem ga_codes (w : World) : CodesQ gatherF encG 16 w fun i L => FitL L := fun w1 hb L hL A n cap i hQ hR => gacode_any L hL hQ A n cap hR i
theorem ga_big {Ls : List (List GC)} {x : PhS} {K : Nat} (h : GaOk Ls x K) : MBig (ga0 x) (newM (wholesK gatherF Ls) (ga0 x)) := by
  have hl : (wholesK gatherF Ls).length = Ls.length := by unfold wholesK; rw [List.length_map]
  refine newM_big ⟨by rw [hl]; exact h.n16, (show (1 : Nat) ≤ 100 by decide), fun i hi => ?_⟩ (ga_word h.ok)
  have hi' : i < Ls.length := by rw [← hl]; exact hi
  have e : (wholesK gatherF Ls).getD i [] = wholeK gatherF (Ls.getD i []) := by unfold wholesK; rw [List.getD_eq_getElem?_getD, List.getElem?_map, List.getElem?_eq_getElem hi', List.getD_eq_getElem?_getD, List.getElem?_eq_getElem hi']; rfl
  rw [e]
  exact ga_right _ (h.fit _ (h.mem hi')) (by have := h.calls hi'; have := h.k12; unfold callsG at *; omega)
/-- Threads that ask a phaser, at a place. -/
structure GaAt (w : World) (c : Nat) {Ls : List (List GC)} {x : PhS} {K : Nat} (h : GaOk Ls x K) (p : Nat) (m : Mach) (wr : World) : Prop where
  at_ : At w c m wr
  big : MBig (ga0 x) m
  la : GaM h p m
theorem GaAt.grow {w wr w' : World} {c : Nat} {Ls : List (List GC)} {x : PhS} {K : Nat} {h : GaOk Ls x K} {p : Nat} {m : Mach} (hA : GaAt w c h p m wr) (hg : wr.grownBy w' none) : GaAt w c h p m w' := ⟨hA.at_.grow hg, hA.big, hA.la⟩
theorem gamade_any {w : World} (hw : CW w) {Ls : List (List GC)} {x : PhS} {K : Nat} (h : GaOk Ls x K) (A C D : Option Addr) (n cap cc nm cm : Nat) (hA : CRows w w.heap.size A n (Ls.map (List.map encG))) (hc : Ints .u64 w w.heap.size C 1 (ga0 x)) (l : List (Int × Bool)) (hl : Moves w w.heap.size D nm l) (hnm : nm ≤ 500) :
    Calls Tryz.prog 15 #[.slice A n cap, .func (.func 16) #[] #[], .slice C 1 cc, .slice D nm cm] w fun e w' => ∃ c m, e = .returned (.pointer (some ⟨c, 0, none⟩)) ∧ GaAt w c h (pokesM l) m w' ∧ m = behindM 20000 (newM (wholesK gatherF Ls) (ga0 x)) l := by
  refine (madeR_any gatherF encG 16 (enter_ask Tryz.func16 (by kernel_rfl) (by kernel_rfl)) hw _ (ga_codes w) (fun _ L hQ hL => ga_right L hQ hL) (by decide) (by decide) Ls h.n16 (fun L hL => by have := h.lenK L hL; have := h.k12; omega) (fun k hk => h.fit _ (h.mem hk)) A C D n cap 1 cc nm cm hA (ga0 x) hc rfl l hl (ga_word h.ok) (by omega)).mono ?_
  rintro e w' ⟨c, rfl, hAt⟩
  have hp := pokesM_le l
  have hl' := hl.len
  have := ga_moves (ga_new h) l (by omega)
  rw [Nat.zero_add] at this
  exact ⟨c, _, rfl, ⟨hAt, (ga_big h).behind l, this⟩, rfl⟩
theorem ints_one (w : World) (v : Int) : Ints .u64 (w.alloc (.cells #[.int .u64 v] 29)) (w.alloc (.cells #[.int .u64 v] 29)).heap.size (some ⟨w.heap.size, 0, none⟩) 1 [v] := ⟨rfl, fun _ => ⟨_, 0, rfl, by simp, fun i hi => by
  match i, hi with
  | 0, _ => exact (cell_of_row _ _ 0 _ _ _ (heap_alloc_new w (.cells #[.int .u64 v] 29))).trans rfl⟩⟩
theorem gamade3 {w w2 : World} (hw : CW w) (hb : Below w.heap.size w w2) {Ls : List (List GC)} {x : PhS} {K : Nat} (h : GaOk Ls x K) (A D : Option Addr) (n cap nm cm : Nat) (hA : CRows w2 w2.heap.size A n (Ls.map (List.map encG))) (l : List (Int × Bool)) (hl : Moves w w.heap.size D nm l) (hnm : nm ≤ 500) (v : Int) (hv : v = x.word) :
    Calls Tryz.prog 15 #[.slice A n cap, .func (.func 16) #[] #[], .slice (some ⟨w2.heap.size, 0, none⟩) 1 1, .slice D nm cm] (w2.alloc (.cells #[.int .u64 v] 29)) fun e w' => ∃ c m, e = .returned (.pointer (some ⟨c, 0, none⟩)) ∧ GaAt w2 c h (pokesM l) m w' ∧ m = behindM 20000 (newM (wholesK gatherF Ls) (ga0 x)) l := by
  subst hv
  have hb2 := (Below.refl w2.heap.size w2).alloc (Nat.le_refl _) (.cells #[.int .u64 x.word] 29)
  have hb3 := hb.alloc hb.size (.cells #[.int .u64 x.word] 29)
  refine (gamade_any (hw.old hb3) h A _ D n cap 1 nm cm (hA.old hb2) (ints_one w2 x.word) l (hl.old hb3) hnm).mono ?_
  rintro e w' ⟨c, m, he, hAt, hm⟩
  exact ⟨c, m, he, ⟨hAt.at_.old hb2, hAt.big, hAt.la⟩, hm⟩

/-! A fact: two who pass. -/
def gaL2 : List (List GC) := [[⟨9, 0⟩], [⟨9, 0⟩]]
def gaX2 : PhS := ⟨false, 0, 2, 2⟩
theorem gaX2_ok : gaX2.ok := ⟨⟨by decide, by decide⟩, ⟨by decide, by decide⟩, by decide, by decide⟩
theorem gaL2_ok : GaOk gaL2 gaX2 1 := ⟨by decide, fun L hL => by simp only [gaL2, List.mem_cons, List.not_mem_nil, or_false] at hL; rcases hL with rfl | rfl <;> decide, by decide, fun L hL => by
  simp only [gaL2, List.mem_cons, List.not_mem_nil, or_false] at hL
  rcases hL with rfl | rfl
  all_goals
    intro c hc
    rw [List.mem_singleton.1 hc]
    exact .inr (.inr ⟨.inr (.inr (.inl rfl)), rfl⟩), gaX2_ok, by decide⟩
/-- What was told, by thread. -/
theorem ans_log (t : Nat) : ∀ log : List LE, ansOf (evsL log) t = saidL t log
  | [] => rfl
  | .act u s op o v :: r => ans_log t r
  | .say u s v :: r => by
    have ih := ans_log t r
    have e1 : evsL (.say u s v :: r) = (s, 3, (u : Int), v) :: evsL r := rfl
    have e2 : saidL t (.say u s v :: r) = (if u = t then [v] else []) ++ saidL t r := rfl
    rw [e1, e2, ← ih]
    unfold ansOf
    rw [List.filter_cons]
    by_cases h : u = t
    · subst h
      simp
    · have : ¬ (u : Int) = (t : Int) := by omega
      simp [h, this]
theorem log_evs {n : Nat} {calls : Nat → List GC} {w0 v : Int} {log : List LE} (h : LogOK n calls w0 log v) : ∀ x ∈ evsL log, ∃ s v : Int, ∃ u : Nat, u < n ∧ x = (s, 3, (u : Int), v) := by
  induction h with
  | nil => intro x hx; cases hx
  | act h ht hk hs h0 hn ih =>
    intro x hx
    rw [evsL_snoc] at hx
    rcases List.mem_append.1 hx with hx | hx
    · exact ih x hx
    · cases hx
  | say h ht hk hs h0 hn ih =>
    intro x hx
    rw [evsL_snoc] at hx
    rcases List.mem_append.1 hx with hx | hx
    · exact ih x hx
    · exact ⟨_, _, _, ht, List.mem_singleton.1 hx⟩
theorem still_end {n t : Nat} {calls : Nat → List GC} {S : CS} (hN : NInv n calls S) (hs : stillK S t) (ht : t < n) (hk : (S.th t).k = (calls t).length) : (S.th t).en = true := by
  rcases hs with h | h
  · exact h
  · obtain ⟨⟨c, hc, _⟩, _⟩ := hN.nap t ht h
    rw [hk, List.getElem?_eq_none (Nat.le_refl _)] at hc
    cases hc
theorem ga2_fact {m m' : Mach} (hm : GaM gaL2_ok 0 m) (hf : Fin m m') : endsM m' = (true, false) ∧ (∀ x ∈ m'.events, ∃ s v : Int, ∃ u : Nat, u < 2 ∧ x = (s, 3, (u : Int), v)) ∧ ansOf m'.events 0 = [1] ∧ ansOf m'.events 1 = [1] := by
  obtain ⟨S, hS, hq⟩ := ga_fin hm (by decide) hf
  obtain ⟨hG, hN⟩ := gaM_inv hS
  have hcalls : ∀ t, t < 2 → callsG gaL2 t = List.replicate 1 ⟨9, 0⟩ := fun t ht => by
    match t, ht with
    | 0, _ => rfl
    | 1, _ => rfl
  obtain ⟨log, v, e1, e2, hL, _, hT⟩ := pass_still (n := 2) (times := 1) (f0 := 0) (by decide) (by decide) hcalls ⟨by decide, by decide⟩ hS.sim.wf hG hN hq
  have hans : ∀ t, t < 2 → ansOf m'.events t = [1] := fun t ht => by
    rw [← e2, ans_log, (hT t ht).2.2.2]
    rfl
  refine ⟨ends_done fun t ht => ?_, ?_, hans 0 (by decide), hans 1 (by decide)⟩
  · have ht' : t < gaL2.length := by rw [← hS.sim.plen]; exact ht
    rw [gaM_ended hS ht']
    refine still_end hN (hq t ht') ht' ?_
    rw [(hT t ht').1, hcalls t ht', List.length_replicate]
  · rw [← e2]
    exact log_evs hL
end Go.Proofs.YtdhlmgoodpepeaaGreatDoor

namespace Go.Proofs.YtdhlmgoodpepeaaGreatDoor
set_option maxRecDepth 100000
open Go.RowKit Go.Shelf Go.Sort
set_option linter.unusedVariables false
set_option linter.unusedSimpArgs false

theorem ga_equal1 {w : World} (A : Option Addr) (c : Nat) (v : Int) (h : Ints .i64 w w.heap.size A 1 [v]) : Calls Tryz.prog 32 #[.slice A 1 c, .slice (some ⟨w.heap.size, 0, none⟩) 1 1] (w.alloc (.cells #[.int .i64 v] 3)) fun e w' => e = .returned (.bool true) ∧ w.grownBy w' none := by
  have hb := (Below.refl w.heap.size w).alloc (Nat.le_refl _) (.cells #[.int .i64 v] 3)
  have hI : Ints .i64 (w.alloc (.cells #[.int .i64 v] 3)) (w.alloc (.cells #[.int .i64 v] 3)).heap.size (some ⟨w.heap.size, 0, none⟩) 1 [v] := ⟨rfl, fun _ => ⟨_, 0, rfl, by simp, fun i hi => by
    match i, hi with
    | 0, _ => exact (cell_of_row _ _ 0 _ _ _ (heap_alloc_new w (.cells #[.int .i64 v] 3))).trans rfl⟩⟩
  refine (equalI_same A _ 1 c 1 [v] _ (by omega) _ (h.old hb) hI).mono ?_
  rintro e w' ⟨rfl, q, rfl⟩
  exact ⟨rfl, (World.grownBy_alloc w _ none).andThen (grown_drewN _ q) (fun k hk => by cases hk)⟩
theorem ga_three (w : World) (o1 o2 o3 : Obj) :
    (((w.alloc o1).alloc o2).alloc o3).heap.size = w.heap.size + 1 + 1 + 1 ∧
    (((w.alloc o1).alloc o2).alloc o3).heap[w.heap.size]? = some o1 ∧ (((w.alloc o1).alloc o2).alloc o3).heap[w.heap.size + 1]? = some o2 ∧
    (((w.alloc o1).alloc o2).alloc o3).heap[w.heap.size + 1 + 1]? = some o3 ∧
    Below w.heap.size w (((w.alloc o1).alloc o2).alloc o3) := by
  have hs : ∀ (w : World) (o : Obj), (w.alloc o).heap.size = w.heap.size + 1 := fun w o => by simp
  have hn : ∀ (w : World) (o : Obj), (w.alloc o).heap[w.heap.size]? = some o := fun w o => by
    show (w.heap.push o)[w.heap.size]? = _
    simp
  refine ⟨by rw [hs, hs, hs], ?_, ?_, ?_, (((Below.refl _ _).alloc (Nat.le_refl _) _).alloc (by rw [hs]; omega) _).alloc (by rw [hs, hs]; omega) _⟩
  · rw [Below.heap_alloc _ _ _ (by rw [hs, hs]; omega), Below.heap_alloc _ _ _ (by rw [hs]; omega)]
    exact hn w o1
  · rw [Below.heap_alloc _ _ _ (by rw [hs, hs]; omega)]
    have := hn (w.alloc o1) o2
    rwa [hs] at this
  · have := hn ((w.alloc o1).alloc o2) o3
    rwa [hs, hs] at this
def gaW (w : World) : World := ((w.alloc (.cells #[.int .i64 9, .int .i64 0] 63)).alloc (.cells #[.int .i64 9, .int .i64 0] 63)).alloc (.cells #[.slice (some ⟨w.heap.size, 0, none⟩) 1 1, .slice (some ⟨w.heap.size + 1, 0, none⟩) 1 1] 60)
theorem ga_calls (w : World) : CRows (gaW w) (gaW w).heap.size (some ⟨w.heap.size + 1 + 1, 0, none⟩) 2 (gaL2.map (List.map encG)) ∧ Below w.heap.size w (gaW w) ∧ (gaW w).heap.size = w.heap.size + 1 + 1 + 1 := by
  obtain ⟨hs, s0, s1, s2, hb⟩ := ga_three w (.cells #[.int .i64 9, .int .i64 0] 63) (.cells #[.int .i64 9, .int .i64 0] 63) (.cells #[.slice (some ⟨w.heap.size, 0, none⟩) 1 1, .slice (some ⟨w.heap.size + 1, 0, none⟩) 1 1] 60)
  have hW : ((w.alloc (.cells #[.int .i64 9, .int .i64 0] 63)).alloc (.cells #[.int .i64 9, .int .i64 0] 63)).alloc (.cells #[.slice (some ⟨w.heap.size, 0, none⟩) 1 1, .slice (some ⟨w.heap.size + 1, 0, none⟩) 1 1] 60) = gaW w := rfl
  rw [hW] at hs s0 s1 s2 hb
  generalize gaW w = W at *
  have c0 := cell_in s0
  have c1 := cell_in s1
  have c2 := cell_in s2
  refine ⟨⟨rfl, fun _ => ⟨_, 0, rfl, by omega, fun i hi => ?_⟩⟩, hb, hs⟩
  match i, hi with
  | 0, _ =>
    refine ⟨some ⟨w.heap.size, 0, none⟩, 1, c2 0, rfl, fun _ => ⟨_, 0, rfl, by omega, fun j hj => ?_⟩⟩
    match j, hj with
    | 0, _ => exact ⟨c0 0, c0 1⟩
  | 1, _ =>
    refine ⟨some ⟨w.heap.size + 1, 0, none⟩, 1, c2 1, rfl, fun _ => ⟨_, 0, rfl, by omega, fun j hj => ?_⟩⟩
    match j, hj with
    | 0, _ => exact ⟨c1 0, c1 1⟩
set_option maxHeartbeats 2000000 in
theorem gathered_any {w : World} (hw : CW w) : Calls Tryz.prog 12 #[] w fun e w' => e = .returned (.bool true) ∧ Below w.heap.size w w' := by
  have HP := Lib.hid (pkWord_yes false 0 2 2 w gaX2_ok)
  have HW := Lib.hid hw
  obtain ⟨wd, hwd⟩ : ∃ wd, PhS.word ⟨false, 0, 2, 2⟩ = wd := ⟨_, rfl⟩
  rw [hwd] at HP
  have HWd := Lib.hid (show wd = gaX2.word from hwd.symm)
  clear hwd hw
  go_enter Tryz.func12, Tryz.ntmps12
  go_wp2_with fail
  refine HP.out.mono ?_
  rintro e w1 ⟨rfl, hb1⟩
  obtain ⟨t1, t2, t3⟩ := ga_calls w1
  have hbb := hb1.trans (t2.mono hb1.size)
  have HM := Lib.hid (gamade3 HW.out hbb gaL2_ok (some ⟨w1.heap.size + 1 + 1, 0, none⟩) none 2 2 0 0 t1 [] ⟨rfl, fun h => absurd h (by omega)⟩ (by omega) wd HWd.out)
  rw [t3] at HM
  have HB := Lib.hid hbb
  clear t1 t2 t3 hb1 hbb HP
  unfold gaW at HM HB
  go_wp2_with fail
  --M1
  refine HM.out.mono ?_
  rintro e w2 ⟨c, m, rfl, hA, -⟩
  have HF := Lib.hid (at_finish (hA.at_.old HB.out) hA.big)
  have HL := Lib.hid (show GaM gaL2_ok 0 m from hA.la)
  clear hA HM
  go_wp2_with fail
  refine HF.out.mono ?_
  rintro e w3 ⟨m', hf, rfl, hA2, hb2⟩
  obtain ⟨f1, f2, f3, f4⟩ := ga2_fact HL.out hf
  have f5 : m'.events.length ≤ 20000 := by have := hb2.events; have := hb2.most; omega
  have HE := Lib.hid (at_ends hA2 (hb2.few))
  rw [f1] at HE
  have HA2 := Lib.hid hA2
  have HAn := Lib.hid (fun w4 (hg : w3.grownBy w4 none) => answers_any (n := 2) (hA2.grow hg) f5 f2 (by decide))
  have HT := Lib.hid (And.intro f3 f4)
  generalize ((m'.steps : Int) - (m.steps : Int)) = dd
  clear hf hA2 hb2 f1 f2 f3 f4 f5 HF HL
  go_wp2_with fail
  refine HE.out.mono ?_
  rintro e w4 ⟨rfl, hg3⟩
  have HA3 := Lib.hid (HA2.out.grow hg3)
  have HAn3 := Lib.hid (HAn.out w4 hg3)
  clear hg3 HE HA2 HAn
  go_wp2_with fail
  refine HAn3.out.mono ?_
  rintro e w5 ⟨g, rfl, hAn⟩
  have HB4 := Lib.hid (HA3.out.keepB hAn.bel).bel
  obtain ⟨bi, offi, hAi, _, hxi⟩ := hAn.rows.row (by decide)
  have hgi : bi = g ∧ offi = 0 := by injection hAi with h; injection h with h1 h2; exact ⟨h1.symm, h2.symm⟩
  obtain ⟨rfl, rfl⟩ := hgi
  obtain ⟨A0, c0, hcell0, _, hrow0⟩ := hxi 0 (by decide)
  obtain ⟨A1, c1, hcell1, _, hrow1⟩ := hxi 1 (by decide)
  have he0 : ((List.range 2).map (ansOf m'.events)).getD 0 [] = [1] := HT.out.1
  have he1 : ((List.range 2).map (ansOf m'.events)).getD 1 [] = [1] := HT.out.2
  rw [he0] at hcell0 hrow0
  rw [he1] at hcell1 hrow1
  have hcell0' : w5.cell? ⟨bi, 0, none⟩ = some (.slice A0 1 c0) := hcell0
  have hcell1' : w5.cell? ⟨bi, 1, none⟩ = some (.slice A1 1 c1) := hcell1
  have HC1 := Lib.hid hcell1'
  have HR1 := Lib.hid hrow1
  have HE0 := Lib.hid (ga_equal1 A0 c0 1 hrow0)
  have HBi := Lib.hid (World.block_lt_of_cell? w5 _ hcell1')
  clear hAn hxi hrow0 hrow1 he0 he1 hAi hcell0 hcell1 hcell1' HAn3 HA3 HT
  go_wp2_with fail
  --MA
  refine HE0.out.mono ?_
  rintro e w6 ⟨rfl, hg5⟩
  have hb5 : Below w5.heap.size w5 w6 := ⟨hg5.os, hg5.tape, hg5.output, hg5.size, fun k hk => hg5.block k hk (by simp)⟩
  have hcell1 := (World.cell?_of_block (a := ⟨bi, 1, none⟩) (hb5.block bi HBi.out)).trans HC1.out
  have HE1 := Lib.hid (ga_equal1 A1 c1 1 (HR1.out.old hb5))
  have HB5 := Lib.hid (HB4.out.trans (hb5.mono HB4.out.size))
  clear hg5 hb5 HE0 HC1 HR1 hcell0'
  go_wp2_with fail
  --MB
  refine HE1.out.mono ?_
  rintro e w7 ⟨rfl, hg6⟩
  have HB6 := Lib.hid (HB5.out.trans ((show Below w6.heap.size w6 w7 from ⟨hg6.os, hg6.tape, hg6.output, hg6.size, fun k hk => hg6.block k hk (by simp)⟩).mono HB5.out.size))
  clear hg6 HE1 hcell1
  go_wp2
  go_ret
  exact ⟨rfl, HB6.out⟩
end Go.Proofs.YtdhlmgoodpepeaaGreatDoor

namespace Go.Proofs.YtdhlmgoodpepeaaGreatDoor
set_option maxRecDepth 100000
open Go.RowKit Go.Shelf Go.Sort
set_option linter.unusedVariables false
set_option linter.unusedSimpArgs false

theorem infoSCallR : (Tryz.prog.info? 60).map (fun i => (i.zero, i.size, i.bytes)) = some (some (.slice none 0 0), 1, 24) := by kernel_rfl
/-- k of n cells are v, so far. -/
def fillC (v : Value) (n k : Nat) : Array Value := (List.replicate k v ++ List.replicate (n - k) (Value.slice none 0 0)).toArray
structure FillC (w : World) (g n : Nat) (v : Value) (k : Nat) (wr : World) : Prop where
  bel : Below w.heap.size w wr
  lo : w.heap.size ≤ g
  row : wr.heap[g]? = some (.cells (fillC v n k) 60 (0, 0))
theorem FillC.copy {w wr : World} {g n k : Nat} {A : Option Addr} {m c : Nat} (h : FillC w g n (.slice A m c) k wr) (k1 : 1 ≤ k) (hk : k < n) (ty : TypeId) :
    ∃ w', (Builtin.copy_ #[25, 25] ty #[.slice (some ⟨g, k, none⟩) (n - k) (n - k), .slice (some ⟨g, 0, none⟩) k n]).run Tryz.prog wr = .ok (goInt ((min k (n - k) : Nat) : Int)) w' ∧ FillC w g n (.slice A m c) (k + min k (n - k)) w' := by
  obtain ⟨i0, hi0, hz0, hz1, hz2⟩ := info_parts infoSCallR
  have hs : (Tryz.prog.info? 60).map (·.size) = some 1 := by rw [hi0]; simp [hz1]
  have hsz : (fillC (.slice A m c) n k).size = n := by simp [fillC]; omega
  have hat : ∀ j, j < k → wr.cell? ⟨g, j, none⟩ = some (.slice A m c) := fun j hj => by
    rw [cell_in h.row j, ← Array.getElem?_toList]
    show (List.replicate k (Value.slice A m c) ++ List.replicate (n - k) (Value.slice none 0 0))[j]? = _
    rw [List.getElem?_append_left (by simpa using hj), List.getElem?_replicate, if_pos hj]
  have hr := run_copy_row (P := Tryz.prog) wr 25 25 ty 60 g k (n - k) (n - k) ⟨g, 0, none⟩ k n (fillC (.slice A m c) n k) 60 (List.replicate (min k (n - k)) (.slice A m c)) Tryz.underlying25 hs h.row (by rw [List.length_replicate]) (fun j v hj => by
    rw [List.getElem?_replicate] at hj
    split at hj
    · injection hj with hj
      subst hj
      have : (⟨g, 0, none⟩ : Addr).add j = ⟨g, j, none⟩ := by simp [Addr.add]; omega
      rw [this]
      exact hat j (by omega)
    · cases hj) (by rw [List.length_replicate, hsz]; omega) (fun v hv => by rw [(List.mem_replicate.1 hv).2]; rfl)
  rw [List.length_replicate] at hr
  refine ⟨_, hr, ?_⟩
  have he : (((fillC (.slice A m c) n k).toList.take k ++ List.replicate (min k (n - k)) (Value.slice A m c) ++ (fillC (.slice A m c) n k).toList.drop (k + min k (n - k))).toArray) = fillC (.slice A m c) n (k + min k (n - k)) := by
    unfold fillC
    congr 1
    have e1 : (List.replicate k (Value.slice A m c) ++ List.replicate (n - k) (Value.slice none 0 0)).take k = List.replicate k (Value.slice A m c) := by rw [List.take_append_of_le_length (by simp)]; simp
    have e2 : (List.replicate k (Value.slice A m c) ++ List.replicate (n - k) (Value.slice none 0 0)).drop (k + min k (n - k)) = List.replicate (n - (k + min k (n - k))) (Value.slice none 0 0) := by
      rw [List.drop_append, List.length_replicate, List.drop_eq_nil_of_le (by simp), List.nil_append, List.drop_replicate]
      congr 1
      omega
    rw [show ((List.replicate k (Value.slice A m c) ++ List.replicate (n - k) (Value.slice none 0 0)).toArray.toList) = List.replicate k (Value.slice A m c) ++ List.replicate (n - k) (Value.slice none 0 0) from rfl, e1, e2, List.replicate_append_replicate]
  rw [he]
  exact ⟨below_setRow h.bel h.lo _, h.lo, setRow_heap wr g _ _ 60 _ h.row⟩

theorem FillC.first {w wr : World} {g n xb : Nat} {A : Option Addr} {m c : Nat} (h : FillC w g n (.slice A m c) 0 wr) (n1 : 1 ≤ n) (hx : wr.cell? ⟨xb, 0, none⟩ = some (.slice A m c)) (ty : TypeId) :
    ∃ w', (Builtin.copy_ #[25, 25] ty #[.slice (some ⟨g, 0, none⟩) n n, .slice (some ⟨xb, 0, none⟩) 1 1]).run Tryz.prog wr = .ok (.int .i64 1) w' ∧ FillC w g n (.slice A m c) 1 w' := by
  obtain ⟨i0, hi0, hz0, hz1, hz2⟩ := info_parts infoSCallR
  have hs : (Tryz.prog.info? 60).map (·.size) = some 1 := by rw [hi0]; simp [hz1]
  have hsz : (fillC (.slice A m c) n 0).size = n := by simp [fillC]
  have hr := run_copy_row (P := Tryz.prog) wr 25 25 ty 60 g 0 n n ⟨xb, 0, none⟩ 1 1 (fillC (.slice A m c) n 0) 60 [.slice A m c] Tryz.underlying25 hs h.row (by show 1 = min 1 n; omega) (fun j v hj => by
    match j, hj with
    | 0, hj =>
      injection hj with hj
      subst hj
      have : (⟨xb, 0, none⟩ : Addr).add 0 = ⟨xb, 0, none⟩ := by simp [Addr.add]
      rw [this]
      exact hx) (by rw [hsz]; simp; omega) (fun v hv => by rw [List.mem_singleton.1 hv]; rfl)
  refine ⟨_, hr, below_setRow h.bel h.lo _, h.lo, ?_⟩
  have he : (((fillC (.slice A m c) n 0).toList.take 0 ++ [Value.slice A m c] ++ (fillC (.slice A m c) n 0).toList.drop (0 + [Value.slice A m c].length)).toArray) = fillC (.slice A m c) n 1 := by
    apply Array.ext'
    simp [fillC]
  rw [he]
  exact setRow_heap wr g _ _ 60 _ h.row
theorem FillC.drew {w wr : World} {g n k : Nat} {v : Value} (h : FillC w g n v k wr) : FillC w g n v k wr.drew := ⟨h.bel.trans ((Below.refl _ _).grown (grown_d (World.grownBy.refl wr none)) h.bel.size (by intro q hq; cases hq)), h.lo, h.row⟩
set_option maxHeartbeats 4000000 in
theorem repeatSC_any {w : World} {n xb m c : Nat} {A : Option Addr} (n1 : 1 ≤ n) (n16 : n ≤ 16) (hx : w.cell? ⟨xb, 0, none⟩ = some (.slice A m c)) :
    Calls Tryz.prog 35 #[.slice (some ⟨xb, 0, none⟩) 1 1, .int .i64 (n : Nat)] w fun e w' => ∃ g, e = .returned (.slice (some ⟨g, 0, none⟩) n n) ∧ FillC w g n (.slice A m c) n w' := by
  have HX := Lib.hid hx
  obtain ⟨i0, hi, hz0, hz1, hz2⟩ := info_parts infoSCallR
  have hneg : ¬ (n : Int) < 0 := by omega
  have HMul := Lib.hid (fun W => Tryz.bits_Mul 1 n (by decide) (by omega) W)
  have HH := Lib.hid (show (((1 * n / 18446744073709551616 : Nat) : Int) = 0 ∧ ((1 * n % 18446744073709551616 : Nat) : Int) = (n : Int)) by omega)
  clear hx
  go_enter Tryz.func35, Tryz.ntmps35
  go_wp2_with fail
  refine (HMul.out _).mono ?_
  rintro e w1 ⟨rfl, rfl⟩
  rw [HH.out.1, HH.out.2]
  have hbig : ¬ (9223372036854775807 : Int) < (n : Int) := by omega
  have hw1 : wrap64 (n : Int) = (n : Int) := by unfold wrap64; omega
  go_wp2_with (at_make; refine wpList_make_full _ rfl _ _ 25 rfl w1.heap.size 60 i0 (.slice none 0 0) 1 Tryz.underlying25 hi hz0 hz1 _ _ _ _ n rfl rfl rfl rfl ?b1 ?b2 ?b3 ?_)
  case b1 => rw [hz2]; omega
  case b2 => simp [maxLen]; omega
  case b3 => exact Nat.le_refl _
  intro w2 hown hg2
  have hF0 : FillC w1 w1.heap.size n (.slice A m c) 0 w2 := by
    refine ⟨(Below.refl _ _).grown hg2 (Nat.le_refl _) (by intro k hk; cases hk), Nat.le_refl _, ?_⟩
    rcases hown.2 with ⟨e, _⟩ | ⟨g', cap, cur, e, _, hh, hn, _, hcs, ht⟩
    · cases e
    · injection e with e1 e2 e3
      injection e1 with e1
      injection e1 with e1
      subst e1 e3
      rw [hh]
      have h1 := toList_madeCells_one (Value.slice none 0 0) (n * 1)
      rw [Nat.mul_one] at h1
      have h2 : cur.toList = List.replicate n (Value.slice none 0 0) := by
        have h3 : cur.toList.take (n * 1) = cur.toList := List.take_of_length_le (by rw [Array.length_toList, hcs]; exact Nat.le_refl _)
        rw [h3] at ht
        rw [ht]
        exact h1
      have h3 : cur = fillC (.slice A m c) n 0 := by
        apply Array.ext'
        rw [h2]
        simp [fillC]
      rw [h3]
  have HF0 := Lib.hid hF0
  have hxl : xb < w1.heap.size := World.block_lt_of_cell? w1 _ HX.out
  have HX2 := Lib.hid ((World.cell?_of_block (a := ⟨xb, 0, none⟩) (hF0.bel.block xb hxl)).trans HX.out)
  clear hown hg2 hi hz0 hz1 hz2 hF0 hbig hneg
  obtain ⟨g, hg⟩ : ∃ g, w1.heap.size = g := ⟨_, rfl⟩
  rw [hg] at HF0 ⊢
  have HG := Lib.hid hg
  clear hg hxl
  --MC
  have hcp1 : ∃ w3, (Builtin.copy_ #[25, 25] 3 #[.slice (some ⟨g, 0, none⟩) n n, .slice (some ⟨xb, 0, none⟩) 1 1]).run Tryz.prog w2 = .ok (.int .i64 1) w3 ∧ FillC w1 g n (.slice A m c) 1 w3 := HF0.out.first n1 HX2.out _
  obtain ⟨w3, hc1, hF1⟩ := hcp1
  have HF1 := Lib.hid hF1
  clear hF1 HF0
  go_wp2
  clear hc1
  go_loopw [8] (fun j wr => ∃ k : Nat, 1 ≤ k ∧ k ≤ n ∧ j = .int .i64 k ∧ FillC w1 g n (.slice A m c) k wr) (fun j _ => n - (intOf j).toNat)
  case atStart => exact ⟨1, Nat.le_refl _, n1, rfl, HF1.out⟩
  case round =>
    obtain ⟨k, k1, hk, rfl, hm⟩ := hrel
    by_cases hlt : k < n
    · have hkn : (k : Int) < (n : Int) := by omega
      have hk2 : (k : Int) ≤ (n : Int) := by omega
      obtain ⟨w4, hc, hF⟩ := hm.drew.copy k1 hlt 3
      have hne : ¬ n = k := by omega
      obtain ⟨q, hq⟩ : ∃ q, min k (n - k) = q := ⟨_, rfl⟩
      rw [hq] at hc hF
      have hq2 : 1 ≤ q ∧ k + q ≤ n := by omega
      have hqk : (k : Int) + (q : Int) ≤ 16 := by omega
      have hwr : IntKind.i64.wrap ((k : Int) + (q : Int)) = ((k + q : Nat) : Int) := by
        simp [IntKind.wrap, IntKind.signed, IntKind.bits]
        omega
      have HWr := Lib.hid hwr
      clear hq hwr
      have HC := Lib.hid hc
      have HF := Lib.hid hF
      clear hm hc hF
      go_wp2_with fail
      --MD
      refine region_heldL (L := 9) (S := fun u => True) 10 rfl (by kernel_rfl) trivial (fun hHeld => ?_)
      refine heldL_take (n := 9) (i := 0) (oi := _) (v := ?v0) (dst := some 38) rfl rfl rfl (by kernel_rfl) (by kernel_rfl) (by kernel_rfl) (by kernel_rfl) (by kernel_rfl) (fun _ _ _ h => h) (Or.inl ⟨by rfl, ?hy0⟩) (by assumption) ?rest0
      case hy0 => intro u hSu; (try dsimp only at hSu); go_simp; try (with_reducible rfl)
      simp only [Act.put, List.setIfInBounds_toArray, List.set_cons_zero, List.set_cons_succ]
      refine heldL_take (n := 8) (i := 1) (oi := _) (v := ?v1) (dst := some 39) rfl rfl rfl (by kernel_rfl) (by kernel_rfl) (by kernel_rfl) (by kernel_rfl) (by kernel_rfl) (fun _ _ _ h => h) (Or.inl ⟨by rfl, ?hy1⟩) (by assumption) ?rest1
      case hy1 => intro u hSu; (try dsimp only at hSu); go_simp; try (with_reducible rfl)
      simp only [Act.put, List.setIfInBounds_toArray, List.set_cons_zero, List.set_cons_succ]
      refine heldL_take (n := 7) (i := 2) (oi := _) (v := ?v2) (dst := some 40) rfl rfl rfl (by kernel_rfl) (by kernel_rfl) (by kernel_rfl) (by kernel_rfl) (by kernel_rfl) (fun _ _ _ h => h) (Or.inl ⟨by rfl, ?hy2⟩) (by assumption) ?rest2
      case hy2 => intro u hSu; (try dsimp only at hSu); go_simp; try (with_reducible rfl)
      simp only [Act.put, List.setIfInBounds_toArray, List.set_cons_zero, List.set_cons_succ]
      refine heldL_take (n := 6) (i := 3) (oi := _) (v := ?v3) (dst := some 41) rfl rfl rfl (by kernel_rfl) (by kernel_rfl) (by kernel_rfl) (by kernel_rfl) (by kernel_rfl) (fun _ _ _ h => h) (Or.inl ⟨by rfl, ?hy3⟩) (by assumption) ?rest3
      case hy3 => intro u hSu; (try dsimp only at hSu); go_simp; try (with_reducible rfl)
      simp only [Act.put, List.setIfInBounds_toArray, List.set_cons_zero, List.set_cons_succ]
      refine heldL_take (n := 5) (i := 4) (oi := _) (v := ?v4) (dst := some 42) rfl rfl rfl (by kernel_rfl) (by kernel_rfl) (by kernel_rfl) (by kernel_rfl) (by kernel_rfl) (fun _ _ _ h => h) (Or.inl ⟨by rfl, ?hy4⟩) (by assumption) ?rest4
      case hy4 => intro u hSu; (try dsimp only at hSu); go_simp; try (with_reducible rfl)
      simp only [Act.put, List.setIfInBounds_toArray, List.set_cons_zero, List.set_cons_succ]
      refine heldL_take (n := 4) (i := 5) (oi := _) (v := ?v5) (dst := some 43) rfl rfl rfl (by kernel_rfl) (by kernel_rfl) (by kernel_rfl) (by kernel_rfl) (by kernel_rfl) (fun _ _ _ h => h) (Or.inl ⟨by rfl, ?hy5⟩) (by assumption) ?rest5
      case hy5 => intro u hSu; (try dsimp only at hSu); go_simp; try (with_reducible rfl)
      simp only [Act.put, List.setIfInBounds_toArray, List.set_cons_zero, List.set_cons_succ]
      refine heldL_take (n := 3) (i := 6) (oi := _) (v := ?v6) (dst := some 44) rfl rfl rfl (by kernel_rfl) (by kernel_rfl) (by kernel_rfl) (by kernel_rfl) (by kernel_rfl) (fun _ _ _ h => h) (Or.inl ⟨by rfl, ?hy6⟩) (by assumption) ?rest6
      case hy6 => intro u hSu; (try dsimp only at hSu); go_simp; try (with_reducible rfl)
      simp only [Act.put, List.setIfInBounds_toArray, List.set_cons_zero, List.set_cons_succ]
      --ME
      refine heldL_step (n := 2) (i := 7) (o := _) rfl (by kernel_rfl) rfl (fun K hK => ?_)
      have HK2 := Lib.hid hK
      clear hK
      refine step_copy_run rfl _ _ _ _ rfl (by simp [Act.eval]) (by simp [Act.eval]) HC.out ?_
      refine HK2.out _ _ trivial (fun hHeld => ?_)
      clear HK2 K
      simp only [Act.put, List.setIfInBounds_toArray, List.set_cons_zero, List.set_cons_succ]
      refine heldL_step (n := 1) (i := 8) (o := _) rfl (by kernel_rfl) rfl (fun K hK => ?_)
      have HK2 := Lib.hid hK
      clear hK
      go_simp
      refine HK2.out _ _ trivial (fun hHeld => ?_)
      clear HK2 K
      refine heldL_last (n := 0) (o := _) rfl (by kernel_rfl) (by kernel_rfl) (by decide) rfl (fun K hK => ?_)
      have HK2 := Lib.hid hK
      clear hK
      go_simp
      rw [HWr.out]
      refine HK2.out _ _ ?_
      clear HK2
      --MF
      go_wp2
      go_roundw
      case rel => exact ⟨k + q, by omega, by omega, by go_num, HF.out⟩
      case measure => simp [intOf]; omega
    · have hkn : ¬ (k : Int) < (n : Int) := by omega
      obtain rfl : k = n := by omega
      have HM := Lib.hid hm
      clear hm
      go_wp2
      go_ret
      exact ⟨g, rfl, HM.out⟩
end Go.Proofs.YtdhlmgoodpepeaaGreatDoor

namespace Go.Proofs.YtdhlmgoodpepeaaGreatDoor
set_option maxRecDepth 100000
open Go.RowKit Go.Shelf Go.Sort
set_option linter.unusedVariables false
set_option linter.unusedSimpArgs false

section
variable {Ls : List (List GC)} {x : PhS} {K p : Nat} {h : GaOk Ls x K} {m : Mach}
theorem ga_stuck {S : CS} (hS : RanW (gaK h) p S m) (hq : ∀ t, t < Ls.length → stillK S t) : stuckTo m m.progs.length = true := by
  rw [stuckTo_iff, hS.sim.plen]
  intro t ht
  unfold readyE
  rw [if_neg (by rw [hS.sim.plen]; omega)]
  by_cases he : m.ended.getD (t : Int).toNat false = true
  · rw [if_pos he]; decide
  · rw [if_neg he, if_pos]
    · decide
    · rw [Int.toNat_natCast, gaM_ended hS ht] at he
      have hs : slK S t = true := (hq t ht).resolve_left he
      have ha := hS.sim.asleep t
      rw [hs] at ha
      unfold asleepM at ha
      obtain ⟨s, hs1, hs2⟩ := List.any_eq_true.1 ha
      unfold cellM
      cases hfd : m.lot.find? (fun s => s.1 == (t : Int)) with
      | none =>
        rw [List.find?_eq_none] at hfd
        exact absurd hs2 (hfd s hs1)
      | some q =>
        have hq1 := List.mem_of_find?_eq_some hfd
        rw [hS.sim.lot] at hq1
        obtain ⟨r, _, rfl⟩ := List.mem_map.1 hq1
        show (0 : Int) ≤ ((r.2 : Nat) : Int)
        omega
theorem ga_alls {S : CS} (hS : RanW (gaK h) p S m) : allTo m m.progs.length = true ↔ ∀ t, t < Ls.length → (S.th t).en = true := by
  rw [allTo_iff, hS.sim.plen]
  exact ⟨fun q t ht => by rw [← gaM_ended hS ht]; exact q t ht, fun q t ht => by rw [gaM_ended hS ht]; exact q t ht⟩
/-- All are at their ends. -/
theorem ga_all_ends {S : CS} (hS : RanW (gaK h) p S m) (hq : ∀ t, t < Ls.length → (S.th t).en = true) : endsM m = (true, false) :=
  ends_done fun t ht => by
    have ht' : t < Ls.length := by rw [← hS.sim.plen]; exact ht
    rw [gaM_ended hS ht']
    exact hq t ht'
/-- Somebody is not at its end, and none can go on. -/
theorem ga_stuck_ends {S : CS} (hS : RanW (gaK h) p S m) (hq : ∀ t, t < Ls.length → stillK S t) {t : Nat} (ht : t < Ls.length) (he : (S.th t).en = false) : endsM m = (false, true) := by
  have ha : allTo m m.progs.length = false := by
    cases hc : allTo m m.progs.length with
    | false => rfl
    | true =>
      have := (ga_alls hS).1 hc t ht
      rw [he] at this
      cases this
  unfold endsM
  rw [ga_stuck hS hq, ha]
  rfl
end
theorem below_gr {w w' : World} (hg : w.grownBy w' none) : Below w.heap.size w w' := ⟨hg.os, hg.tape, hg.output, hg.size, fun k hk => hg.block k hk (by simp)⟩
theorem ga_pick (a : Int) (n : Nat) (n1 : 0 < n) (hn : n ≤ 1000) : ∃ u : Nat, u < n ∧ ∀ w, Calls Tryz.prog 23 #[.int .i64 a, .int .i64 (n : Nat)] w fun e w' => e = .returned (.int .i64 (u : Nat)) ∧ w = w' := by
  have h1 := pickI_lo a n
  have h2 := pickI_hi a n n1
  refine ⟨(pickI a n).toNat, by omega, fun w => ?_⟩
  have h3 := pick_det a n n w rfl n1 hn
  rwa [show (((pickI a n).toNat : Nat) : Int) = pickI a n by omega]
theorem w64n (k : Nat) (h : k ≤ 1000000) : wrap64 (k : Int) = (k : Int) := by unfold wrap64; omega
theorem w64add (a b : Nat) (h : a + b ≤ 1000000) : wrap64 ((a : Int) + (b : Int)) = ((a + b : Nat) : Int) := by
  rw [show (a : Int) + (b : Int) = ((a + b : Nat) : Int) by omega]
  exact w64n _ h
theorem w64one (a : Nat) (h : a ≤ 1000) : wrap64 (1 + (a : Int)) = ((a + 1 : Nat) : Int) := by
  rw [show 1 + (a : Int) = ((a + 1 : Nat) : Int) by omega]
  exact w64n _ (by omega)
/-- Rows of calls that are all the same. -/
theorem fill_calls {W w4 : World} {g n b m : Nat} (hF : FillC W g n (.slice (some ⟨b, 0, none⟩) m m) n w4) (hb : b < W.heap.size) {l : List (Int × Int)} (hl : CRow W W.heap.size (some ⟨b, 0, none⟩) m l) : CRows w4 w4.heap.size (some ⟨g, 0, none⟩) n (List.replicate n l) := by
  have hlen := hl.len
  refine ⟨List.length_replicate, fun h0 => ⟨g, 0, rfl, (Array.getElem?_eq_some_iff.1 hF.row).1, fun i hi => ?_⟩⟩
  have he : (List.replicate n l).getD i [] = l := by rw [List.getD_eq_getElem?_getD, List.getElem?_replicate, if_pos hi]; rfl
  rw [he, hlen]
  refine ⟨some ⟨b, 0, none⟩, m, ?_, by rw [hlen] at *; exact (hl.wide (Nat.le_refl _)).below (hF.bel) |>.wide hF.bel.size⟩
  rw [Nat.zero_add, cell_in hF.row i, ← Array.getElem?_toList]
  show (List.replicate n _ ++ List.replicate (n - n) _)[i]? = _
  rw [List.getElem?_append_left (by rw [List.length_replicate]; exact hi), List.getElem?_replicate, if_pos hi]
end Go.Proofs.YtdhlmgoodpepeaaGreatDoor
