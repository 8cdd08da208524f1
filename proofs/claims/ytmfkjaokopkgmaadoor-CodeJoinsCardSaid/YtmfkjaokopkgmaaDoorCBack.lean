/-
  The walk of CodeBack.
-/
import Derived.Test.YtmfkjaokopkgmaaDoorCOnly
namespace Go.Proofs.YtmfkjaokopkgmaaDoor
set_option maxRecDepth 100000
open Go.RowKit Go.Sort

theorem fitsL_zeros (n cells : Int) : ∀ (ks : List Nat) (vs : List Int), fitsL n cells ks vs = true → zeros ks vs
  | [], _, _ => by simp [zeros]
  | _ :: _, [], _ => by simp [zeros]
  | k :: ks, v :: vs, h => by
    rw [fitsL] at h
    simp only [Bool.and_eq_true, Bool.not_eq_true', decide_eq_false_iff_not] at h
    refine ⟨fun hk => ?_, fitsL_zeros n cells ks vs h.2⟩
    subst hk
    have h1 := h.1.1
    have h2 := h.1.2
    simp only [boundsL] at h1 h2
    omega

theorem goodX_ok {n cells : Int} {x : In5} (h : goodX n cells x) (hi : ints5 x) : okX x := by
  refine ⟨h.1, h.2.1, fun z hz => ?_, fitsL_zeros n cells _ _ h.2.2⟩
  obtain ⟨_, g1, g2, g3, g4⟩ := hi
  unfold nums at hz
  simp only [List.mem_cons, List.not_mem_nil, or_false] at hz
  rcases hz with rfl | rfl | rfl | rfl
  · exact g1
  · exact g2
  · exact g3
  · exact g4

theorem mem_ints {l : List In5} {n : Nat} (hlen : l.length = n) (h : ∀ i, i < n → ints5 (l.getD i default)) : ∀ x ∈ l, ints5 x := fun x hx => by
  obtain ⟨k, hk, rfl⟩ := List.mem_iff_getElem.1 hx
  have := h k (by omega)
  rw [List.getD_eq_getElem?_getD, List.getElem?_eq_getElem hk] at this
  exact this

theorem count_print (l : List In5) (h : ∀ x ∈ l, okX x) : (printL l).count 10 = l.length := by
  induction l with
  | nil => rfl
  | cons x l ih =>
    rw [printL_cons, List.count_append, List.count_cons, ih (fun y hy => h y (by simp [hy])), List.count_eq_zero.2 (bodyL_no (h x (by simp)))]
    simp

set_option maxHeartbeats 4000000 in
theorem codeBack_any {w : World} (hC : CW w) (A : Option Addr) (n c : Nat) (l : List In5) (hl : Inss w w.heap.size A n l) (hi : ∀ i, i < n → ints5 (l.getD i default)) (a1 : Int) :
    Calls Tryd.prog 3 #[.slice A n c, .int .i64 a1] w fun e w' => e = .returned (.bool true) ∧ Below w.heap.size w w' := by
  have HC := Lib.hid hC
  have HL := Lib.hid hl
  have HW := Lib.hid (written_true w hC)
  have hlen := hl.len
  have hint := mem_ints hlen hi
  clear hC hl hi
  go_enter Tryd.func3, Tryd.ntmps3
  go_wp2_with fail
  refine HW.out.mono ?_
  rintro e w1 ⟨rfl, hb1⟩
  have HB1 := Lib.hid hb1
  clear hb1 HW
  by_cases hn : 600 < n
  · have hni : (600 : Int) < (n : Int) := by omega
    go_wp2
    go_ret
    exact ⟨rfl, HB1.out⟩
  have hni : ¬ (600 : Int) < (n : Int) := by omega
  have HR := Lib.hid (right_any l A n c a1 w1 (HC.out.old HB1.out) (HL.out.old HB1.out))
  go_wp2_with fail
  refine HR.out.mono ?_
  rintro e w2 ⟨hb2, ⟨rfl, hyes⟩ | ⟨t, p, rfl, hno⟩⟩
  · have hok : ∀ x ∈ l, okX x := fun x hx => by
      obtain ⟨k, hk, rfl⟩ := List.mem_iff_getElem.1 hx
      have := hyes.2.2.2.2.1 k hk
      rw [List.getD_eq_getElem?_getD, List.getElem?_eq_getElem hk] at this
      exact goodX_ok this (hint _ (List.getElem_mem hk))
    have hhas : ∀ x ∈ l, hasOp x := fun x hx => (okX_has (hok x hx)).1
    have hple := printL_le l hhas hint
    have hcnt := count_print l hok
    have hb12 := HB1.out.trans (hb2.mono HB1.out.size)
    have HPR := Lib.hid (print_any l A n c w2 (HC.out.old hb12) (HL.out.old hb12) hint (by omega))
    have HB2 := Lib.hid hb12
    have HOK := Lib.hid hok
    clear hb2 hb12 hyes hok HR
    go_wp2_with fail
    refine HPR.out.mono ?_
    rintro e w3 ⟨hb3, ⟨rfl, _⟩ | ⟨t, p, rfl, hno⟩⟩
    · have hb23 := HB2.out.trans (hb3.mono HB2.out.size)
      have HPA := Lib.hid (parse_any (printL l) (by omega) w3 (HC.out.old hb23))
      have HB3 := Lib.hid hb23
      have HCT := Lib.hid (fun w => Tryd.strings_Count_one ⟨(printL l).toArray⟩ 10 w)
      clear hb3 hb23 HPR
      unfold strV at HPA ⊢
      go_wp2_with fail
      refine HPA.out.mono ?_
      rintro e w4 ⟨hb4, ⟨l2, A2, c2, rfl, hown, hok2, hpr, hle⟩ | ⟨t, p, rfl, hno⟩⟩
      · obtain rfl : l2 = l := printL_inj HOK.out hok2 hpr
        have hb34 := HB3.out.trans (hb4.mono HB3.out.size)
        have hI2 := Inss.of_own hown rfl
        rw [hlen] at hI2 ⊢
        have HE := Lib.hid (equalN_same A A2 n c c2 l2 w4 (by omega) _ _ (HL.out.old hb34) hI2)
        have HB4 := Lib.hid hb34
        have hctn : (Lib.countByte (⟨(printL l2).toArray⟩ : ByteArray).data.toList 10 : Int) = (n : Int) := by
          unfold Lib.countByte
          have : (⟨(printL l2).toArray⟩ : ByteArray).data.toList = printL l2 := by simp
          rw [this, hcnt, hlen]
        have HCT2 := Lib.hid (fun w => (by have := HCT.out w; rw [hctn] at this; exact this : Calls Tryd.prog 12 #[.string ⟨(printL l2).toArray⟩, .string ⟨#[10]⟩] w fun e w' => e = .returned (.int .i64 (n : Int)) ∧ w' = w))
        clear hb4 hb34 hown hI2 hok2 hpr hle HPA HCT hctn hcnt
        generalize (⟨(printL l2).toArray⟩ : ByteArray) = SB at *
        go_wp2_with fail
        refine HE.out.mono ?_
        rintro e w5 ⟨rfl, q, hq⟩
        have HB5 := Lib.hid (show Below w.heap.size w w5 by rw [hq]; exact below_drewN HB4.out q)
        clear hq HE
        go_wp2_with fail
        refine (HCT2.out _).mono ?_
        rintro e w6 ⟨rfl, rfl⟩
        go_wp2
        go_ret
        exact ⟨rfl, HB5.out⟩
      · exact absurd (hno l HOK.out rfl) (by omega)
    · exact absurd hhas hno
  · have HB2 := Lib.hid (HB1.out.trans (hb2.mono HB1.out.size))
    clear hb2 hno HR
    go_wp2
    go_ret
    exact ⟨rfl, HB2.out⟩
end Go.Proofs.YtmfkjaokopkgmaaDoor
