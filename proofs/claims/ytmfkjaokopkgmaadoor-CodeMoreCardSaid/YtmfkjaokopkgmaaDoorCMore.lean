/-
  The walk of CodeMore.
-/
import Derived.Test.YtmfkjaokopkgmaaDoorCWritten
import Derived.Test.YtmfkjaokopkgmaaDoorPickI
namespace Go.Proofs.YtmfkjaokopkgmaaDoor
set_option maxRecDepth 100000
open Go.RowKit Go.Sort

theorem boundsL_more (k : Nat) (n n' c c' : Int) (hn : n ≤ n') (hc : c ≤ c') : (boundsL k n c).1 = (boundsL k n' c').1 ∧ (boundsL k n c).2 ≤ (boundsL k n' c').2 := by
  unfold boundsL
  split <;> exact ⟨rfl, by dsimp only; omega⟩

theorem fitsL_more (n n' c c' : Int) (hn : n ≤ n') (hc : c ≤ c') : ∀ (ks : List Nat) (vs : List Int), fitsL n c ks vs = true → fitsL n' c' ks vs = true
  | [], _, _ => by simp [fitsL]
  | _ :: _, [], _ => by simp [fitsL]
  | k :: ks, v :: vs, h => by
    obtain ⟨e1, e2⟩ := boundsL_more k n n' c c' hn hc
    rw [fitsL] at h ⊢
    simp only [Bool.and_eq_true, Bool.not_eq_true', decide_eq_false_iff_not] at h ⊢
    exact ⟨⟨by omega, by omega⟩, fitsL_more n n' c c' hn hc ks vs h.2⟩

theorem goodX_more {n n' c c' : Int} {x : In5} (hn : n ≤ n') (hc : c ≤ c') (h : goodX n c x) : goodX n' c' x := ⟨h.1, h.2.1, fitsL_more n n' c c' hn hc _ _ h.2.2⟩

/-- More cells do no harm. -/
theorem RightL.cells {l : List In5} {c c' : Int} (h : RightL l c) (hc : c ≤ c') (h3 : c' ≤ 300) : RightL l c' :=
  ⟨by have := h.1; omega, h3, h.2.2.1, h.2.2.2.1, fun i hi => goodX_more (Int.le_refl _) hc (h.2.2.2.2.1 i hi), h.2.2.2.2.2⟩

/-- With a Halt behind it. -/
theorem RightL.halt {l : List In5} {c : Int} (h : RightL l c) (hl : l.length < 600) : RightL (l ++ [(0, 0, 0, 0, 0)]) c := by
  have hL : (l ++ [((0, 0, 0, 0, 0) : In5)]).length = l.length + 1 := by simp
  have hlast : (l ++ [((0, 0, 0, 0, 0) : In5)]).getD l.length default = (0, 0, 0, 0, 0) := by
    rw [List.getD_eq_getElem?_getD, List.getElem?_append_right (Nat.le_refl _)]
    simp
  refine ⟨h.1, h.2.1, by rw [hL]; omega, by rw [hL]; omega, fun i hi => ?_, .inl (by rw [hL, Nat.add_sub_cancel, hlast])⟩
  rw [hL] at hi
  by_cases hi2 : i < l.length
  · have : (l ++ [((0, 0, 0, 0, 0) : In5)]).getD i default = l.getD i default := by
      rw [List.getD_eq_getElem?_getD, List.getElem?_append_left hi2, ← List.getD_eq_getElem?_getD]
    rw [this, hL]
    exact goodX_more (by omega) (Int.le_refl _) (h.2.2.2.2.1 i hi2)
  · obtain rfl : i = l.length := by omega
    rw [hlast]
    refine ⟨by decide, by decide, ?_⟩
    show fitsL _ c [0, 0, 0, 0] [0, 0, 0, 0] = true
    rfl

set_option maxHeartbeats 4000000 in
theorem codeMore_any {w : World} (hC : CW w) (A : Option Addr) (n c : Nat) (l : List In5) (hl : Inss w w.heap.size A n l) (a1 a2 : Int) :
    Calls Tryd.prog 6 #[.slice A n c, .int .i64 a1, .int .i64 a2] w fun e w' => e = .returned (.bool true) ∧ Below w.heap.size w w' := by
  have HC := Lib.hid hC
  have HL := Lib.hid hl
  have HW := Lib.hid (written_true w hC)
  have hlen := hl.len
  clear hC hl
  go_enter Tryd.func6, Tryd.ntmps6
  go_wp2_with fail
  refine HW.out.mono ?_
  rintro e w1 ⟨rfl, hb1⟩
  have HR := Lib.hid (right_any l A n c a1 w1 (HC.out.old hb1) (HL.out.old hb1))
  have HB1 := Lib.hid hb1
  clear hb1 HW
  by_cases hn : n < 600
  · have hni : ¬ (600 : Int) ≤ (n : Int) := by omega
    go_wp2_with fail
    refine HR.out.mono ?_
    rintro e w2 ⟨hb2, ⟨rfl, hyes⟩ | ⟨t, p, rfl, hno⟩⟩
    · obtain ⟨m, hm⟩ : ∃ m : Nat, 300 - a1 + 1 = (m : Int) := ⟨(300 - a1 + 1).toNat, by have := hyes.2.1; omega⟩
      have h0 := hyes.1
      have h1 := hyes.2.1
      obtain ⟨v, hv⟩ : ∃ v, pickI a2 m = v := ⟨_, rfl⟩
      have hv0 : 0 ≤ v := by rw [← hv]; exact pickI_lo _ _
      have hv1 : v < m := by rw [← hv]; exact pickI_hi _ _ (by omega)
      have hw1 : wrap64 (300 - a1) = 300 - a1 := by unfold wrap64; omega
      have hw2 : wrap64 (300 - a1 + 1) = 300 - a1 + 1 := by unfold wrap64; omega
      have hw3 : wrap64 (a1 + v) = a1 + v := by unfold wrap64; omega
      have HPK := Lib.hid (fun w => (by have := pick_det a2 (300 - a1 + 1) m w hm (by omega) (by omega); rw [hv] at this; exact this : Calls Tryd.prog 14 #[.int .i64 a2, .int .i64 (300 - a1 + 1)] w fun e w' => e = .returned (.int .i64 v) ∧ w = w'))
      have hb2' := HB1.out.trans (hb2.mono HB1.out.size)
      have HI2 := Lib.hid (HL.out.old hb2')
      have HR2 := Lib.hid (right_any l A n c (a1 + v) w2 (HC.out.old hb2') HI2.out)
      have HY := Lib.hid hyes
      have HVB := Lib.hid (show a1 ≤ a1 + v ∧ a1 + v ≤ 300 from ⟨by omega, by omega⟩)
      have HB2 := Lib.hid hb2'
      clear hb2 hb2' hyes hm hv HR
      go_wp2_with fail
      refine (HPK.out _).mono ?_
      rintro e w3 ⟨rfl, rfl⟩
      go_wp2_with fail
      refine HR2.out.mono ?_
      rintro e w3 ⟨hb3, ⟨rfl, _⟩ | ⟨t, p, rfl, hno⟩⟩
      · have hb3' := HB2.out.trans (hb3.mono HB2.out.size)
        have HI3 := Lib.hid (HI2.out.old hb3)
        have HCL := Lib.hid (cloneN_any A n c l HI3.out (by omega))
        have HB3 := Lib.hid hb3'
        clear hb3 hb3' HR2 HB2 HI2 HPK
        go_wp2_with fail
        refine HCL.out.mono ?_
        rintro e w4 ⟨v4, rfl, hown4, hg4⟩
        have hb4 := HB3.out.grown hg4 HB3.out.size (by intro k hk; cases hk)
        obtain ⟨A4, c4, rfl⟩ := own_form hown4
        have hown5 := hown4.alloc (.cells #[.int .i64 0, .int .i64 0, .int .i64 0, .int .i64 0, .int .i64 0] 33)
        have hnews := World.news_of_block (cs := #[.int .i64 0, .int .i64 0, .int .i64 0, .int .i64 0, .int .i64 0]) (heap_alloc_new w4 (.cells #[.int .i64 0, .int .i64 0, .int .i64 0, .int .i64 0, .int .i64 0] 33))
        have hoc : ∀ u ∈ [Value.int .i64 0, .int .i64 0, .int .i64 0, .int .i64 0, .int .i64 0], u.oneCell' = true := by
          intro u hu
          simp at hu
          rw [hu]
          rfl
        obtain ⟨i0, hi, hz0, hz1, hz2⟩ := info_parts infoIns
        have HO5 := Lib.hid hown5
        have HNW := Lib.hid hnews
        have HOC := Lib.hid hoc
        have hs34 := hg4.size
        have HB3z := Lib.hid HB3.out.size
        have HBA := Lib.hid (hb4.alloc hb4.size (.cells #[.int .i64 0, .int .i64 0, .int .i64 0, .int .i64 0, .int .i64 0] 33))
        clear hown4 hown5 hnews hoc hg4 hb4 HCL HB3
        go_wp2_with (at_builtin; refine wpList_append_own_g (by rfl) (.tmp 30) (.tmp 32) 22 rfl w3.heap.size 33 i0 (.agg #[.int .i64 0, .int .i64 0, .int .i64 0, .int .i64 0, .int .i64 0]) 5 40 Tryd.underlying22 hi hz0 hz1 hz2 rfl (by decide) _ n (cells5 l) rfl HO5.out ⟨w4.heap.size, 0, none⟩ 1 1 [.int .i64 0, .int .i64 0, .int .i64 0, .int .i64 0, .int .i64 0] rfl rfl ?c1 HOC.out ?c3 ?c4 ?c5 ?_)
        case c1 => exact HNW.out
        case c3 => unfold maxLen; omega
        case c4 => omega
        case c5 => simp; omega
        intro v6 w6 hown6 hg6 _
        obtain ⟨A6, c6, rfl⟩ := own_form hown6
        have hown6' : w6.ownsRow w3.heap.size 33 5 (.slice A6 (n + 1) c6) (n + 1) (cells5 (l ++ [(0, 0, 0, 0, 0)])) := by
          rw [cells5_append, cells5_one]
          exact hown6
        have hI6 := Inss.of_own hown6' (by rw [List.length_append, hlen]; rfl)
        have hb6 : Below w.heap.size w w6 := HBA.out.grown hg6 HBA.out.size (fun k hk => by
          have := (HO5.out.lt k hk).1
          have h3 := HI3.out
          have := HB3z.out
          omega)
        have HR6 := Lib.hid (right_any (l ++ [(0, 0, 0, 0, 0)]) A6 (n + 1) c6 a1 w6 (HC.out.old hb6) hI6)
        have HB6 := Lib.hid hb6
        clear hown6 hown6' hg6 hI6 hb6 HO5 HNW HOC HBA
        go_wp2_with fail
        refine HR6.out.mono ?_
        rintro e w7 ⟨hb7, ⟨rfl, _⟩ | ⟨t, p, rfl, hno⟩⟩
        · have HB7 := Lib.hid (HB6.out.trans (hb7.mono HB6.out.size))
          clear hb7 HR6
          go_wp2
          go_ret
          exact ⟨rfl, HB7.out⟩
        · exact absurd (HY.out.halt (by omega)) hno
      · exact absurd (HY.out.cells HVB.out.1 HVB.out.2) hno
    · have HB2 := Lib.hid (HB1.out.trans (hb2.mono HB1.out.size))
      clear hb2 hno HR
      go_wp2
      go_ret
      exact ⟨rfl, HB2.out⟩
  · have hni : (600 : Int) ≤ (n : Int) := by omega
    clear HR
    go_wp2
    go_ret
    exact ⟨rfl, HB1.out⟩
end Go.Proofs.YtmfkjaokopkgmaaDoor
