/-
  When it is over all go: whatever is asked, once somebody has closed it, all are at their ends at last, and who asks then is told that it is over: GatherCloses returns true, and panics at no argument.
-/
import Derived.Test.YtdhlmgoodpepeaaGreatDoorQT3
import Derived.Test.YtdhlmgoodpepeaaGreatDoorRows
import Derived.Test.YtdhlmgoodpepeaaGreatDoorCards
import Derived.Test.YtdhlmgoodpepeaaGreatDoorTie
import Derived.WalkKit
import Derived.ProofKit
import Derived.OpenShut
import Derived.ChangeOld
import Derived.Below
import Derived.ChangeSame
import Derived.ChangeVars
import Derived.JoinedOf
import Derived.RowKitTokens
import Derived.LaidLaws
import Derived.LaidHandle
import Derived.Stop.Joined
import Derived.SevenTiedAt
import Derived.Lib.LaidTab
import Derived.Lib.LaidIn
import Derived.ChangeMaps5
import Derived.Test.YtdhlmgoodpepeaaGreatDoorQE2
import Derived.Test.YtdhlmgoodpepeaaGreatDoorQE
import Derived.Test.YtdhlmgoodpepeaaGreatDoorQL2
namespace Go.Proofs.YtdhlmgoodpepeaaGreatDoor
open Go.ChangeShapes Go.WideShapes Go.Deep Go.RowKit
set_option maxRecDepth 100000
set_option linter.unusedVariables false
set_option linter.unusedSimpArgs false
section
variable {H : Type} {enc : TypeId × Value → H} {w : World} {base : Nat} {spare : Nat → Bool} {held : Bool}
theorem isInt_wf {n : Int} (h : (Lit.int .i64 n).wf = true) : isInt n := by
  simp [Lit.wf, IntKind.min, IntKind.max, IntKind.signed, IntKind.bits] at h
  unfold isInt
  omega
end
section
variable {H : Type} {enc : TypeId × Value → H} {w : World} {base : Nat} {spare : Nat → Bool} {held : Bool} {fuel : Nat} {a : Option Addr} {len cap : Nat} {x : DataW H × List MemPlace}
theorem ints_of (h : DataW.trod enc Tryz.prog w base spare held fuel 57 [.slice a len cap] = some x) : ∃ xs, Ints .i64 w w.heap.size a len xs ∧ ∀ x ∈ xs, isInt x := by
  rcases open_ints Tryz.underlying57 Tryz.underlying3 (by kernel_rfl) h with ⟨h0, _⟩ | ⟨ad, l, c, zs, hcs, _, hlc, _, hzl, _, hc, hwf⟩
  · simp only [List.cons.injEq, Value.slice.injEq, and_true] at h0
    obtain ⟨rfl, rfl, _⟩ := h0
    exact ⟨[], ⟨rfl, fun h => absurd h (Nat.lt_irrefl 0)⟩, fun x hx => by cases hx⟩
  · simp only [List.cons.injEq, Value.slice.injEq, and_true] at hcs
    obtain ⟨rfl, rfl, _⟩ := hcs
    have hle : len ≤ zs.length := by split at hzl <;> omega
    refine ⟨zs.take len, ⟨by rw [List.length_take]; omega, fun h0 => ?_⟩, fun x hx => isInt_wf (hwf x (List.mem_of_mem_take hx))⟩
    obtain ⟨b, off, spot⟩ := ad
    have c0 := hc 0 (by omega)
    have hspot : spot = none := by simpa [Addr.add] using World.cell?_spot c0
    subst hspot
    have hlt : b < w.heap.size := by
      have := World.block_lt_of_cell? w _ c0
      simpa [Addr.add] using this
    refine ⟨b, off, rfl, hlt, fun i hi => ?_⟩
    have h1 := hc i (by omega)
    have ha : (⟨b, off, none⟩ : Addr).add i = ⟨b, off + i, none⟩ := by unfold Addr.add; split <;> simp_all
    rw [ha] at h1
    rw [h1, List.getD_eq_getElem?_getD, List.getD_eq_getElem?_getD, List.getElem?_take, if_pos hi]
end
section
theorem cap_slice {H : Type} {enc : TypeId × Value → H} {w : World} {base : Nat} {spare : Nat → Bool} {held : Bool} {fuel : Nat} {a : Option Addr} {len cap : Nat} {x : DataW H × List MemPlace} {t e : TypeId} (ht : Tryz.prog.underlying t = some (.slice e)) (h : DataW.trod enc Tryz.prog w base spare held fuel t [.slice a len cap] = some x) : len ≤ cap := by
  rcases open_slice ht h with ⟨h0, _⟩ | ⟨a', l, c, m, n, D, Pl, hcs, _, hl, hm, _⟩
  · simp only [List.cons.injEq, Value.slice.injEq, and_true] at h0
    omega
  · simp only [List.cons.injEq, Value.slice.injEq, and_true] at hcs
    obtain ⟨_, rfl, rfl⟩ := hcs
    omega
end
section
theorem intss_of {H : Type} {enc : TypeId × Value → H} {w : World} {base : Nat} {spare : Nat → Bool} {held : Bool} {fuel : Nat} {a : Option Addr} {len cap : Nat} {x : DataW H × List MemPlace}
    (h : DataW.trod enc Tryz.prog w base spare held fuel 22 [.slice a len cap] = some x) : ∃ ps, IRows w w.heap.size a len ps := by
  rcases open_slice Tryz.underlying22 h with ⟨h0, _⟩ | ⟨ad, l, c, m, n, D, Pl, hcs, _, hl, hm, hmm, _, hi⟩
  · simp only [List.cons.injEq, Value.slice.injEq, and_true] at h0
    obtain ⟨rfl, rfl, _⟩ := h0
    exact ⟨[], rfl, fun h => absurd h (Nat.lt_irrefl 0)⟩
  · simp only [List.cons.injEq, Value.slice.injEq, and_true] at hcs
    obtain ⟨rfl, rfl, _⟩ := hcs
    have hall : ∀ i, i < len → ∃ p : List Int, ∃ Ai ci, w.cell? (ad.add i) = some (.slice Ai p.length ci) ∧ p.length ≤ ci ∧ Ints .i64 w w.heap.size Ai p.length p := by
      intro i hlt
      have him : i < m := by
        rw [hmm]
        split <;> omega
      obtain ⟨cs', hc, ht'⟩ := hi i him
      rw [show Tryz.prog.cellsOf 57 = 1 by kernel_rfl, Nat.mul_one] at hc
      obtain ⟨_, hcl, hat⟩ := World.cells?_some hc
      have h0 := hat 0 (by decide)
      have ha0 : (ad.add i).add 0 = ad.add i := by simp [Addr.add]
      rw [ha0] at h0
      obtain ⟨Ai, ni, ci, rfl⟩ : ∃ Ai ni ci, cs' = [.slice Ai ni ci] := by
        rcases open_slice Tryz.underlying57 ht' with ⟨e, _⟩ | ⟨ad', l', c', _, _, _, _, e, _⟩
        · exact ⟨none, 0, 0, e⟩
        · exact ⟨some ad', l', c', e⟩
      have hcp := cap_slice Tryz.underlying57 ht'
      obtain ⟨p, hp, _⟩ := ints_of (a := Ai) (len := ni) (cap := ci) ht'
      have hpl := hp.len
      subst hpl
      exact ⟨p, Ai, ci, h0.trans rfl, hcp, hp⟩
    obtain ⟨ps, hl2, hx⟩ := choose_list len hall
    refine ⟨ps, hl2, fun h0 => ?_⟩
    · obtain ⟨b, off, spot⟩ := ad
      obtain ⟨A0, c0, hc0, _⟩ := hx 0 h0
      have hspot : spot = none := by simpa [Addr.add] using World.cell?_spot hc0
      subst hspot
      have hlt : b < w.heap.size := by
        have := World.block_lt_of_cell? w _ hc0
        simpa [Addr.add] using this
      refine ⟨b, off, rfl, hlt, fun i hi2 => ?_⟩
      obtain ⟨Ai, ci, h1, h3, h2⟩ := hx i hi2
      have ha : (⟨b, off, none⟩ : Addr).add i = ⟨b, off + i, none⟩ := by unfold Addr.add; split <;> simp_all
      rw [ha] at h1
      exact ⟨Ai, ci, h1, h3, h2⟩
end
end Go.Proofs.YtdhlmgoodpepeaaGreatDoor

namespace Go.Proofs.YtdhlmgoodpepeaaGreatDoor
set_option maxRecDepth 100000
open Go.RowKit Go.Shelf Go.Sort
set_option linter.unusedVariables false
set_option linter.unusedSimpArgs false

def closeL : List GC := [⟨11, 0⟩, ⟨7, 0⟩, ⟨9, 0⟩, ⟨6, 1⟩]
theorem closeL_fit : FitL closeL := by
  intro c hc
  simp only [closeL, List.mem_cons, List.not_mem_nil, or_false] at hc
  rcases hc with rfl | rfl | rfl | rfl
  · exact .inr (.inr ⟨.inr (.inr (.inr rfl)), rfl⟩)
  · exact .inr (.inr ⟨.inl rfl, rfl⟩)
  · exact .inr (.inr ⟨.inr (.inr (.inl rfl)), rfl⟩)
  · exact .inl ⟨rfl, by decide, by decide⟩
theorem guests_ok {Ls : List (List GC)} {k : Nat} (hk : Ls.length = k) (h7 : k ≤ 7) (h6 : ∀ L ∈ Ls, L.length ≤ 6 ∧ FitL L) {x : PhS} (hx : x.ok) : GaOk Ls x 6 := by
  refine ⟨by omega, fun L hL => (h6 L hL).1, by decide, fun L hL => (h6 L hL).2, hx, ?_⟩
  rw [hk]
  have h2 : k * ((39 + 28 * k) * 6 + 1) ≤ 7 * 1411 := Nat.mul_le_mul h7 (by omega)
  omega
theorem closes_ok {Ls : List (List GC)} {k : Nat} (hk : Ls.length = k) (h7 : k ≤ 6) (h6 : ∀ L ∈ Ls, L.length ≤ 6 ∧ FitL L) {x : PhS} (hx : x.ok) : GaOk (Ls ++ [closeL]) x 6 :=
  guests_ok (k := k + 1) (by rw [List.length_append, hk]; rfl) (by omega) (fun L hL => by
    rcases List.mem_append.1 hL with h | h
    · exact h6 L h
    · rw [List.mem_singleton.1 h]; exact ⟨by decide, closeL_fit⟩) hx
theorem closes_at (Ls : List (List GC)) : callsG (Ls ++ [closeL]) Ls.length = closeL := by
  unfold callsG
  rw [List.getD_eq_getElem?_getD, List.getElem?_append_right (Nat.le_refl _), Nat.sub_self]
  rfl
theorem four_list {l : List Int} (h : l.length = 4) {b : Int} (h0 : l[0]? = some b) (h1 : l[1]? = some (-1)) (h2 : l[2]? = some (-1)) (h3 : l[3]? = some (-1)) : l = [b, -1, -1, -1] := by
  match l, h with
  | [x0, x1, x2, x3], _ =>
    simp at h0 h1 h2 h3
    rw [h0, h1, h2, h3]
theorem close_fact {Ls : List (List GC)} {x : PhS} {h : GaOk (Ls ++ [closeL]) x 6} {p : Nat} {m m' : Mach} (hm : GaM h p m) (hp : p ≤ 500) (hf : Fin m m') :
    endsM m' = (true, false) ∧ (∃ v : Int, m'.cells = [v] ∧ v / 9223372036854775808 = 1 ∧ 0 ≤ v ∧ v < 18446744073709551616) ∧ (∀ y ∈ m'.events, ∃ s v : Int, ∃ u : Nat, u < Ls.length + 1 ∧ y = (s, 3, (u : Int), v)) ∧ ∃ b : Int, (b = 0 ∨ b = -1) ∧ ansOf m'.events Ls.length = [b, -1, -1, -1] := by
  obtain ⟨S, hS, hq⟩ := ga_fin hm hp hf
  obtain ⟨hG, hN⟩ := gaM_inv hS
  have hwf := hS.sim.wf
  have hn : (Ls ++ [closeL]).length = Ls.length + 1 := by rw [List.length_append]; rfl
  obtain ⟨log, e1, e2, hL, ⟨z, hz, hzw⟩, hT⟩ := hG
  have ht : Ls.length < (Ls ++ [closeL]).length := by rw [hn]; omega
  have hcl := closes_at Ls
  obtain ⟨hk, _⟩ := hT Ls.length ht
  have hk1 : 0 < (S.th Ls.length).k := by
    rcases still_calm hwf hN hq ht with q | ⟨_, ⟨c, hc, hna⟩, _⟩
    · rw [hcl] at q
      have : closeL.length = 4 := rfl
      omega
    · rcases Nat.eq_zero_or_pos (S.th Ls.length).k with e | e
      · rw [e, hcl] at hc
        have hc : (⟨11, 0⟩ : GC) = c := by injection hc
        subst hc
        exfalso
        rcases hna with ⟨h1, _⟩ | ⟨h1, _⟩
        · exact absurd (show (11 : Nat) = 9 from h1) (by decide)
        · exact absurd (show (11 : Nat) = 10 from h1) (by decide)
      · exact e
  have hc0 : (callsG (Ls ++ [closeL]) Ls.length)[0]? = some ⟨11, 0⟩ := by rw [hcl]; rfl
  have hs0 : 0 < saysT Ls.length log := by unfold saysT; omega
  obtain ⟨y, hy, hyo, hyv⟩ := close_over hL (a := 0) hc0 hs0
  have hall : ∀ t, t < (Ls ++ [closeL]).length → (S.th t).k = (callsG (Ls ++ [closeL]) t).length := fun t ht => over_all hwf hN hq hy hyo hyv ht
  have h4 : (saidL Ls.length log).length = 4 := by rw [← hk, hall _ ht, hcl]; rfl
  have hs4 : saysT Ls.length log = 4 := h4
  refine ⟨ga_all_ends hS fun t ht => still_end hN (hq t ht) ht (hall t ht), ⟨S.cell 0, gaM_cells hS, ?_⟩, ?_, ?_⟩
  · have h1 := word_over hy
    have h2 := word_u64 hy
    rw [hyo, if_pos rfl, ← hyv] at h1
    rw [← hyv] at h2
    obtain ⟨a, b⟩ := h2
    have b : S.cell 0 < 18446744073709551616 := b
    have h1 : S.cell 0 / 9223372036854775808 % 2 = 1 := h1
    exact ⟨by omega, a, b⟩
  · rw [← e2]
    have := log_evs hL
    rwa [hn] at this
  · have hd : (saidL Ls.length log)[0]? = some 0 ∨ (saidL Ls.length log)[0]? = some (-1) := close_own_ans hL hc0 hs0
    have a1 := after_close hL hc0 (k := 1) (by decide) (by omega)
    have a2 := after_close hL hc0 (k := 2) (by decide) (by omega)
    have a3 := after_close hL hc0 (k := 3) (by decide) (by omega)
    rw [← e2, ans_log]
    rcases hd with hd | hd
    · exact ⟨0, .inl rfl, four_list h4 hd a1 a2 a3⟩
    · exact ⟨-1, .inr rfl, four_list h4 hd a1 a2 a3⟩
theorem own_four (W : World) : ((W.alloc (.cells #[.int .i64 11, .int .i64 0, .int .i64 7, .int .i64 0, .int .i64 9, .int .i64 0, .int .i64 6, .int .i64 1] 63))).ownsRow W.heap.size 63 2 (.slice (some ⟨W.heap.size, 0, none⟩) 4 4) 4 (cellsC (closeL.map encG)) :=
  World.ownsRow_lit (base := W.heap.size) (e := 63) (size := 2) W #[.int .i64 11, .int .i64 0, .int .i64 7, .int .i64 0, .int .i64 9, .int .i64 0, .int .i64 6, .int .i64 1] 4 (Nat.le_refl _) (by unfold maxLen; omega) rfl
theorem own_cells {w : World} {A : Option Addr} {c : Nat} {b : Int} (h : Ints .i64 w w.heap.size A 4 [b, -1, -1, -1]) : ∃ g off, A = some ⟨g, off, none⟩ ∧ g < w.heap.size ∧ w.cell? ⟨g, off, none⟩ = some (.int .i64 b) ∧ Ints .i64 w w.heap.size (some ⟨g, off + 1, none⟩) 3 [-1, -1, -1] := by
  obtain ⟨g, off, hA, hg, hx⟩ := h.row (by decide)
  refine ⟨g, off, hA, hg, hx 0 (by decide), rfl, fun _ => ⟨g, off + 1, rfl, hg, fun i hi => ?_⟩⟩
  match i, hi with
  | 0, _ => exact hx 1 (by decide)
  | 1, _ => exact hx 2 (by decide)
  | 2, _ => exact hx 3 (by decide)
theorem ints_three (w : World) : Ints .i64 (w.alloc (.cells #[.int .i64 (-1), .int .i64 (-1), .int .i64 (-1)] 3)) (w.alloc (.cells #[.int .i64 (-1), .int .i64 (-1), .int .i64 (-1)] 3)).heap.size (some ⟨w.heap.size, 0, none⟩) 3 [-1, -1, -1] := ⟨rfl, fun _ => ⟨_, 0, rfl, by simp, fun i hi => by
  have hat := heap_alloc_new w (.cells #[.int .i64 (-1), .int .i64 (-1), .int .i64 (-1)] 3)
  match i, hi with
  | 0, _ => exact (cell_of_row _ _ 0 _ _ _ hat).trans rfl
  | 1, _ => exact (cell_of_row _ _ 1 _ _ _ hat).trans rfl
  | 2, _ => exact (cell_of_row _ _ 2 _ _ _ hat).trans rfl⟩⟩
set_option maxHeartbeats 4000000 in
theorem gatherCloses_any {w : World} (hw : CW w) (A : Option Addr) (n cap : Nat) (ls : List (List Int)) (hR : IRows w w.heap.size A n ls) (hcap : n ≤ cap) (phase parties : Int) (D : Option Addr) (nm cm : Nat) (l : List (Int × Bool)) (hl : Moves w w.heap.size D nm l) :
    Calls Tryz.prog 5 #[.slice A n cap, .int .i64 phase, .int .i64 parties, .slice D nm cm] w fun e w' => e = .returned (.bool true) ∧ Below w.heap.size w w' := by
  have HGt := Lib.hid (gathered_any hw)
  obtain ⟨f, p, hok, hbg⟩ := begins_any phase parties
  have HBg := Lib.hid hbg
  have HOk := Lib.hid hok
  have HR := Lib.hid hR
  have HMv := Lib.hid hl
  have HW := Lib.hid hw
  have HCap := Lib.hid hcap
  clear hR hl hw hcap hok hbg
  go_enter Tryz.func5, Tryz.ntmps5
  go_wp2_with fail
  refine HGt.out.mono ?_
  rintro e w1 ⟨rfl, hb1⟩
  have HB1 := Lib.hid hb1
  clear hb1 HGt
  by_cases h9 : 500 < nm
  · have h9' : (500 : Int) < (nm : Int) := by omega
    go_wp2
    go_ret
    exact ⟨rfl, HB1.out⟩
  have h9' : ¬ (500 : Int) < (nm : Int) := by omega
  have HN5 := Lib.hid (show nm ≤ 500 by omega)
  go_wp2_with fail
  refine (guests_any A n cap ls (HR.out.old HB1.out) HCap.out).mono ?_
  rintro e w2 ⟨v2, rfl, ⟨A2, c2, Ls, rfl, hN, hLs, hL6⟩⟩
  obtain ⟨k, hk⟩ : ∃ k, min n 6 = k := ⟨_, rfl⟩
  rw [hk] at hN hLs ⊢
  have hk6 : k ≤ 6 := by omega
  have hNg := hN.grow ((Below.refl w2.heap.size w2).alloc (Nat.le_refl _) (.cells #[.int .i64 11, .int .i64 0, .int .i64 7, .int .i64 0, .int .i64 9, .int .i64 0, .int .i64 6, .int .i64 1] 63))
  obtain ⟨A3, c3, w3, hr3, hN3⟩ := hNg.add (tS := 25) Tryz.underlying25 infoSCallM (by decide) (own_four w2) hN.bel.size (by omega)
  have hN3' : GaNest w1 A3 (k + 1) c3 (Ls ++ [closeL]) w3 := by
    unfold GaNest
    rw [List.map_append, List.map_append]
    exact hN3
  have HN3 := Lib.hid (And.intro hN3' (And.intro hLs (And.intro hk6 hL6)))
  have HB3 := Lib.hid (HB1.out.trans (hN3'.bel.mono HB1.out.size))
  rw [World.size_alloc] at hr3
  have HRun := Lib.hid hr3
  clear hN hNg hr3 hN3 hN3' hLs hL6 hk hk6 HB1 HR HCap
  go_wp2_with (at_builtin; refine Lib.wpList_append_run _ rfl _ _ _ _ rfl _ _ rfl rfl _ _ HRun.out ?_; clear HRun)
  --MB
  refine (HBg.out _).mono ?_
  rintro e w4 ⟨rfl, hb4⟩
  obtain ⟨wd, hwd⟩ : ∃ wd, PhS.word ⟨false, f, p, p⟩ = wd := ⟨_, rfl⟩
  have hbP := (Below.refl w4.heap.size w4).alloc (Nat.le_refl _) (.cells #[.bool false, .int .i64 f, .int .i64 p, .int .i64 p] 28)
  have hbb := hb4.trans (hbP.mono hb4.size)
  have hB5 := HB3.out.trans (hbb.mono HB3.out.size)
  have hok2 := closes_ok (k := k) HN3.out.2.1 HN3.out.2.2.1 HN3.out.2.2.2 HOk.out
  have HMd := Lib.hid (gamade3 HW.out hB5 hok2 A3 D (k + 1) c3 nm cm (HN3.out.1.calls.old hbb) l HMv.out HN5.out wd hwd.symm)
  rw [World.size_alloc] at HMd
  have HB5 := Lib.hid hB5
  have HLp := Lib.hid HMv.out.len
  have HLs := Lib.hid (And.intro HN3.out.2.1 HN3.out.2.2.1)
  rw [hwd]
  clear hb4 hbP hbb hB5 hwd HN3 HB3 HMv HW HBg HOk
  go_wp2_with fail
  --MC
  refine HMd.out.mono ?_
  rintro e w5 ⟨c, m, rfl, hA, -⟩
  have HF := Lib.hid (at_finish (hA.at_.old HB5.out) hA.big)
  have HL := Lib.hid hA.la
  clear hA HMd
  go_wp2_with fail
  refine HF.out.mono ?_
  rintro e w6 ⟨m', hf, rfl, hA2, hb2⟩
  obtain ⟨f1, ⟨v, f2, f3, f4, f5⟩, f6, b, f7, f8⟩ := close_fact HL.out (by have := pokesM_le l; have := HLp.out; have := HN5.out; omega) hf
  have hev : m'.events.length ≤ 20000 := by have := hb2.events; have := hb2.most; omega
  have HE := Lib.hid (at_ends hA2 (hb2.few))
  rw [f1] at HE
  have HCl := Lib.hid (fun w7 (hg : w6.grownBy w7 none) => at_cells (hA2.grow hg) (by rw [f2]; exact (by decide : (1 : Nat) ≤ 300)))
  rw [f2] at HCl
  rw [HLs.out.1] at f6 f8
  have HAn := Lib.hid (fun w7 (hg : w6.grownBy w7 none) => answers_any (n := k + 1) (hA2.grow hg) hev f6 (by have := HLs.out; omega))
  have HA2 := Lib.hid hA2
  have HFv := Lib.hid (And.intro f3 (And.intro f4 f5))
  have HAs := Lib.hid f8
  generalize ((m'.steps : Int) - (m.steps : Int)) = dd
  clear hf hA2 hb2 f1 f2 f3 f4 f5 f6 f8 hev HF HL HB5
  go_wp2_with fail
  --MD
  refine HE.out.mono ?_
  rintro e w7 ⟨rfl, hg7⟩
  have HCl7 := Lib.hid (HCl.out w7 hg7)
  have HG7 := Lib.hid hg7
  clear hg7 HE HCl
  go_wp2_with fail
  --ME
  refine HCl7.out.mono ?_
  rintro e w8 ⟨Ac, cc, rfl, hoc, hg8⟩
  have hg8' := HG7.out.andThen hg8 (fun k hk => by cases hk)
  have HAn8 := Lib.hid (HAn.out w8 hg8')
  have hIc := Ints.of_own (k := .u64) (xs := [v]) hoc
  have HIc := Lib.hid hIc
  have HA8 := Lib.hid (HA2.out.grow hg8')
  clear hg8 hg8' hoc hIc HCl7 HG7 HAn HA2
  go_wp2_with fail
  --MF
  refine HAn8.out.mono ?_
  rintro e w9 ⟨g, rfl, hAn⟩
  have HB9 := Lib.hid (HA8.out.keepB hAn.bel).bel
  have hIc9 := HIc.out.old hAn.bel
  obtain ⟨bi, offi, hAi, hbi, hxi⟩ := hAn.rows.row (by omega)
  have hgi : bi = g ∧ offi = 0 := by injection hAi with h; injection h with h1 h2; exact ⟨h1.symm, h2.symm⟩
  obtain ⟨rfl, rfl⟩ := hgi
  obtain ⟨A0, c0, hcell0, hc0, hrow0⟩ := hxi k (by omega)
  have he0 : ((List.range (k + 1)).map (ansOf m'.events)).getD k [] = [b, -1, -1, -1] := by
    rw [List.getD_eq_getElem?_getD, List.getElem?_map, List.getElem?_range (by omega)]
    exact HAs.out
  rw [he0] at hcell0 hc0 hrow0
  have hcell0' : w9.cell? ⟨bi, k, none⟩ = some (.slice A0 4 c0) := by rw [Nat.zero_add] at hcell0; exact hcell0
  obtain ⟨g0, off0, rfl, hg0, hb0, hI3⟩ := own_cells (c := c0) hrow0
  obtain ⟨gc, offc, rfl, hgc, hxc⟩ := hIc9.row Nat.zero_lt_one
  have hcc := hxc 0 Nat.zero_lt_one
  have hcc' : w9.cell? ⟨gc, offc, none⟩ = some (.int .u64 v) := hcc
  have hc4 : 4 ≤ c0 := hc0
  have hc1 : ¬ c0 = 1 := by omega
  have HE3 := Lib.hid (equalI_same (some ⟨g0, off0 + 1, none⟩) (some ⟨w9.heap.size, 0, none⟩) 3 (c0 - 1) 3 [-1, -1, -1] (w9.alloc (.cells #[.int .i64 (-1), .int .i64 (-1), .int .i64 (-1)] 3)) (by omega) _ (hI3.old ((Below.refl w9.heap.size w9).alloc (Nat.le_refl _) _)) (ints_three w9))
  have hv3 := HFv.out.1
  have hv4 := HFv.out.2.1
  have hv5 := HFv.out.2.2
  clear hAn hxi hAi hcell0 hc0 hrow0 he0 hIc9 hxc hcc hI3 HAs HAn8 HIc HA8
  --MG
  have hb9 : ∀ w' : World, w9.grownBy w' none → Below w9.heap.size w9 w' := fun w' h => below_gr h
  have hgr9 : ∀ q, w9.grownBy ((w9.alloc (.cells #[.int .i64 (-1), .int .i64 (-1), .int .i64 (-1)] 3)).drewN q) none := fun q => gr_then (World.grownBy_alloc w9 _ none) (grown_drewN _ q)
  have HFin := Lib.hid (fun q => HB9.out.trans ((below_gr (hgr9 q)).mono HB9.out.size))
  have HC1 := Lib.hid hc1
  clear hb9 hgr9 HB9
  have hwk := w64n k (by have := HLs.out; omega)
  rcases f7 with rfl | rfl
  · go_wp2_with fail
    --MH
    refine HE3.out.mono ?_
    rintro e w10 ⟨rfl, q, rfl⟩
    go_wp2
    go_ret
    exact ⟨rfl, HFin.out q⟩
  · go_wp2_with fail
    --MI
    refine HE3.out.mono ?_
    rintro e w10 ⟨rfl, q, rfl⟩
    go_wp2
    go_ret
    exact ⟨rfl, HFin.out q⟩
end Go.Proofs.YtdhlmgoodpepeaaGreatDoor

namespace Go.Proofs.YtdhlmgoodpepeaaGreatDoor.gatherCloses
open Go.ChangeShapes Go.WideShapes Go.ChangeAt Go.RowKit
set_option linter.unusedVariables false

theorem own : ownKnob Tryz.prog.godebug = none := by kernel_rfl
theorem laidOut : laidOutB Tryz.prog = true := by kernel_rfl
theorem tsize : Tryz.prog.types.size = 276 := by kernel_rfl

/-- What the listed variables give the walk. -/
theorem cw_of {W : World} (h : laidMetH Tryz.prog Rows.gatherClosesRow.laid W) : CW W := by
  have h' : laidMet Tryz.prog (Rows.gatherClosesRow.laid.filter fun x => x.2.handleName?.isNone) W ∧ handlesMet Tryz.prog (Rows.gatherClosesRow.laid.filter fun x => x.2.handleName?.isSome) W := h
  exact cw_of_laid h'.1 (List.mem_filter.2 ⟨.tail _ (.head _), rfl⟩)

/-- So many blocks has the settled world. -/
noncomputable def low : Nat := (World.holding Tryz.prog default ⟨#[], #[], []⟩).heap.size
def put (o : Obj) (cs : Array Value) : Obj := match o with
  | .cells _ t frozen => .cells cs t frozen
  | o => o
def tab (k : IntKind) (zs : List Int) : Array Value := (zs.map fun z => Value.int k z).toArray
/-- A world that meets the condition. -/
noncomputable def laidWorld (os : Os) : World :=
  let w0 := World.holding Tryz.prog os ⟨#[], #[], []⟩
  { w0 with heap := ((w0.heap.modify 0 (put · #[.iface 231 (.agg #[.pointer (some ⟨2, 38, none⟩)])])).modify 1 (put · formCells)) }
theorem laidWorld_met (os : Os) (args : Array Value) : laidMetH Tryz.prog Rows.gatherClosesRow.laid ((laidWorld os).forCall (fun _ _ => 0) ⟨#[], args, []⟩).memory :=
  laidMetH_of_parts (LaidIn.of_run [1] 8 (by kernel_rfl) (by kernel_rfl) (by kernel_rfl) (by kernel_rfl)).met (by kernel_rfl)

/-- The walk. -/
theorem walk (a0 : Option Addr) (len0 cap0 : Nat) (nods0 : List (List Int)) (a1 : Int) (a2 : Int) (a3 : Option Addr) (len3 cap3 : Nat) (nods3 : List (Int × Bool)) (w : World) (hw : CW w) (N0 : IRows w w.heap.size a0 len0 nods0) (I0 : len0 ≤ cap0) (N3 : Moves w w.heap.size a3 len3 nods3) (I3 : True) :
    Calls Tryz.prog 5 #[.slice a0 len0 cap0, .int .i64 a1, .int .i64 a2, .slice a3 len3 cap3] w fun e w' => e = .returned (.bool true) ∧ Below w.heap.size w w' := by
  exact gatherCloses_any hw a0 len0 cap0 nods0 N0 I0 a1 a2 a3 len3 cap3 nods3 N3

set_option maxRecDepth 100000 in
theorem lifted (os : Os) (started : os.Started) (H : Type) (enc : TypeId × Value → H) :
    ReturnsInHanded {} Tryz.checked os 5 .any (fun w args => (Rows.gatherClosesSpec.pre enc Tryz.prog Tryz.f5 [] false w args ∧ laidMetH Tryz.prog Rows.gatherClosesRow.laid w) ∧ sizedMet enc Tryz.prog Tryz.f5 (OpenSpec.ofChange Rows.gatherClosesSpec) false w args)
      (Rows.gatherClosesSpec.post enc Tryz.prog Tryz.f5 false true false false) := by
  refine returnsInHanded_of_change_and (C := Tryz.checked) (X := fun w _ => laidMetH Tryz.prog Rows.gatherClosesRow.laid w) (fun _ _ _ hh h => h.of_heap hh) own started (by kernel_rfl) Tryz.func5
    (ChangeSpec.witness_at (enc := enc) (C := Tryz.checked) (os := os) (X := fun w _ => laidMetH Tryz.prog Rows.gatherClosesRow.laid w) false (laidWorld os) #[.slice none 0 0, .int .i64 0, .int .i64 0, .slice none 0 0] 8 rfl (by kernel_rfl) (by kernel_rfl) (by kernel_rfl) (by kernel_rfl) (by kernel_rfl) (laidWorld_met os _)) ?_
  intro W base args ds gs before hval0 hW _ _ hL _
  have hval : ∀ (j : Nat) t v, Tryz.f5.params[j]? = some t → args[j]? = some v → Value.okWide Tryz.prog W .any base t v := hval0
  have hW' := hW
  obtain ⟨p, q, hA0, hV0, rfl, hfz, hnd⟩ := hW
  have hA : DataW.TrodAll enc Tryz.prog W 0 (fun _ => true) true Tryz.f5.params.toList args.toList ds p := hA0
  have hV : DataW.TrodVars enc Tryz.prog W (fun _ => true) [] gs q := hV0
  rw [Tryz.params5] at hA hval
  obtain ⟨v0, vs0, d0, ds0, p0, q0, hargs, rfl, rfl, h0, r0⟩ := trodAll_cons hA
  obtain ⟨v1, vs1, d1, ds1, p1, q1, rfl, rfl, rfl, h1, r1⟩ := trodAll_cons r0
  obtain ⟨v2, vs2, d2, ds2, p2, q2, rfl, rfl, rfl, h2, r2⟩ := trodAll_cons r1
  obtain ⟨v3, vs3, d3, ds3, p3, q3, rfl, rfl, rfl, h3, r3⟩ := trodAll_cons r2
  obtain ⟨rfl, rfl, rfl⟩ := trodAll_nil r3
  obtain rfl : args = #[v0, v1, v2, v3] := by cases args; simp_all
  obtain ⟨rfl, rfl⟩ : gs = [] ∧ q = [] := by
    cases gs with
    | nil => exact ⟨rfl, hV⟩
    | cons g r => exact absurd hV (by intro h; cases h)
  obtain ⟨a0, len0, cap0, rfl⟩ := okWide_slice Tryz.underlying22 (hval 0 22 v0 rfl rfl)
  have k0 := h0
  have lt0 : ∀ x ∈ p0, x.block < W.heap.size := by obtain ⟨m, hm⟩ := k0; exact DataW.trod_lt m _ _ _ hm
  obtain ⟨nods0, N0, I0⟩ : ∃ nods, IRows W W.heap.size a0 len0 nods ∧ len0 ≤ cap0 := by
    obtain ⟨fuel, hf⟩ := h0
    obtain ⟨ls, hl⟩ := intss_of (a := a0) (len := len0) (cap := cap0) hf; exact ⟨ls, hl, cap_slice Tryz.underlying22 hf⟩
  obtain ⟨a1, rfl, rfl, rfl, w1⟩ := open_int Tryz.underlying3 (hval 1 3 v1 rfl rfl) h1
  obtain ⟨a2, rfl, rfl, rfl, w2⟩ := open_int Tryz.underlying3 (hval 2 3 v2 rfl rfl) h2
  obtain ⟨a3, len3, cap3, rfl⟩ := okWide_slice Tryz.underlying23 (hval 3 23 v3 rfl rfl)
  have k3 := h3
  have lt3 : ∀ x ∈ p3, x.block < W.heap.size := by obtain ⟨m, hm⟩ := k3; exact DataW.trod_lt m _ _ _ hm
  obtain ⟨nods3, N3, I3⟩ : ∃ nods, Moves W W.heap.size a3 len3 nods ∧ True := by
    obtain ⟨fuel, hf⟩ := h3
    obtain ⟨l, hl⟩ := moves_of (a := a3) (len := len3) (cap := cap3) hf; exact ⟨l, hl, trivial⟩
  have hw := cw_of hL
  clear hA0 hval0
  refine (walk a0 len0 cap0 nods0 a1 a2 a3 len3 cap3 nods3 W hw N0 I0 N3 I3).mono fun e W' ⟨he, bel⟩ => ?_
  subst he
  exact ⟨_, rfl, _, _, _, [], _, [], hW', trodAll_mk1 (shut_bool Tryz.underlying4 _), (trodAll_cons_mk (Below.trod laidOut (by kernel_rfl) (of_decide_eq_true (by kernel_rfl)) k0 bel lt0) (trodAll_cons_mk (shut_int Tryz.underlying3 w1) (trodAll_cons_mk (shut_int Tryz.underlying3 w2) (trodAll_cons_mk (Below.trod laidOut (by kernel_rfl) (of_decide_eq_true (by kernel_rfl)) k3 bel lt3) trodAll_mk0)))), rfl, bel.frame _, fun h => by cases h⟩

theorem over : Rows.GatherClosesSaid :=
  OpenClaim.holds_of_wide 5 Tryz.f5 rfl rfl rfl rfl rfl rfl rfl ⟨rfl, rfl, rfl, rfl, rfl⟩ rfl rfl rfl rfl rfl (by kernel_rfl) Tryz.func5 (by kernel_rfl)
    (of_decide_eq_true (by kernel_rfl)) (by unfold Func.isWrapper; first | (rw [if_pos (by decide +kernel)]; kernel_rfl) | (rw [if_neg (by decide +kernel)]; exact ⟨rfl, rfl⟩))
    (fun os started H enc _ => lifted os started H enc)

/-- The given statement: the tied card. -/
theorem proved : Rows.GatherClosesCardSaid :=
  Claim7.holds_tied_plain_at .later [] [.handle, .data] true (true, "3d7ea49130377776e72833ccacadedce40a93c84fe3b7e6b1a772b24d63da96a") true
    over (fun _ h => by cases h) (by kernel_rfl) (fun _ h => by cases h) gatherCloses_row_tie rfl ⟨rfl, rfl⟩ (by kernel_rfl) rfl
    (fun f fn hf hfn => by
      obtain rfl : f = 5 := Option.some.inj ((show Tryz.prog.funcNamed "quadrille/quadrillekeep.GatherCloses" = some 5 by kernel_rfl).symm.trans hf) |>.symm
      obtain rfl : fn = Tryz.f5 := (Option.some.inj (Tryz.func5.symm.trans hfn)).symm
      refine ⟨by kernel_rfl, fun j t ht => ?_⟩
      rw [Tryz.params5] at ht
      have hm : t ∈ [22, 3, 3, 23] := by
        have := Array.mem_of_getElem? ht
        simpa using this
      have hall : ([22, 3, 3, 23].all fun u => !Tryz.prog.wantsStandIn u) = true := by kernel_rfl
      exact (show Tryz.prog.wantsStandIn t = false by simpa using List.all_eq_true.1 hall t hm))
    (by kernel_rfl)
#print axioms proved
end Go.Proofs.YtdhlmgoodpepeaaGreatDoor.gatherCloses
