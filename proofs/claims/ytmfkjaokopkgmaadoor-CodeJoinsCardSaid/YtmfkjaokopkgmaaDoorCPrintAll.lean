/-
  Print: a program as text.
-/
import Derived.Test.YtmfkjaokopkgmaaDoorCPrint
import Derived.Test.YtmfkjaokopkgmaaDoorCLaid
namespace Go.Proofs.YtmfkjaokopkgmaaDoor
set_option maxRecDepth 100000
open Go.RowKit Go.Sort

def hasOp (x : In5) : Prop := 0 ≤ x.1 ∧ x.1 < 17

/-- What a program is told to be as text. -/
def ToldPrint (l : List In5) (w : World) (e : Ending) (w' : World) : Prop := Below w.heap.size w w' ∧
  ((e = .returned (.tuple #[strV (printL l), .nilIface]) ∧ ∀ x ∈ l, hasOp x) ∨ (∃ t p, e = .returned (.tuple #[strV [], .iface t p]) ∧ ¬ ∀ x ∈ l, hasOp x))

theorem printL_take (l : List In5) (i : Nat) (h : i < l.length) : printL (l.take (i + 1)) = printL (l.take i) ++ lineL (l.getD i default) := by
  rw [List.take_succ_eq_append_getElem h, printL_append]
  have : l.getD i default = l[i] := by rw [List.getD_eq_getElem?_getD, List.getElem?_eq_getElem h]; rfl
  rw [this]
  simp [printL]

theorem printL_le (l : List In5) (h : ∀ x ∈ l, hasOp x) (hi : ∀ x ∈ l, ints5 x) : (printL l).length ≤ 94 * l.length := by
  induction l with
  | nil => simp [printL]
  | cons x l ih =>
    have h1 := h x (by simp)
    have h2 := hi x (by simp)
    have h3 := lineL_le x h1.1 h1.2 (by
      intro n hn
      obtain ⟨_, g1, g2, g3, g4⟩ := h2
      unfold nums at hn
      simp only [List.mem_cons, List.not_mem_nil, or_false] at hn
      rcases hn with rfl | rfl | rfl | rfl
      · exact g1
      · exact g2
      · exact g3
      · exact g4)
    have h4 := ih (fun y hy => h y (by simp [hy])) (fun y hy => hi y (by simp [hy]))
    show (lineL x ++ printL l).length ≤ _
    rw [List.length_append, List.length_cons]
    omega

theorem getD_mem {l : List In5} {i : Nat} (h : i < l.length) : l.getD i default ∈ l := by
  rw [List.getD_eq_getElem?_getD, List.getElem?_eq_getElem h]
  exact List.getElem_mem h

set_option maxHeartbeats 4000000 in
theorem print_any (l : List In5) (A : Option Addr) (n c : Nat) (w : World) (hC : CW w) (hl : Inss w w.heap.size A n l) (hi : ∀ x ∈ l, ints5 x) (hn : n ≤ 1000) :
    Calls Tryd.prog 9 #[.slice A n c] w (ToldPrint l w) := by
  have hlen := hl.len
  have hB5 := hC.big
  have hb1 := (Below.refl w.heap.size w).alloc (Nat.le_refl _) (.cells #[.pointer none, .slice none 0 0] 50)
  have hT0 : TB w.heap.size w.heap.size [] (w.alloc (.cells #[.pointer none, .slice none 0 0] 50)) := Lib.fresh_isBuilder _ _ w
  have HC := Lib.hid hC
  have HL := Lib.hid hl
  have H1 := Lib.hid hb1
  have HT0 := Lib.hid hT0
  clear hC hl hb1 hT0
  go_enter Tryd.func9, Tryd.ntmps9
  go_wp2
  go_loopw [9] (fun j wr => ∃ i : Nat, i ≤ n ∧ j = .int .i64 i ∧ (∀ k, k < i → hasOp (l.getD k default)) ∧ TB w.heap.size w.heap.size (printL (l.take i)) wr ∧ Below w.heap.size w wr) (fun j _ => n - (intOf j).toNat)
  case atStart => exact ⟨0, Nat.zero_le _, rfl, (fun k hk => absurd hk (Nat.not_lt_zero _)), HT0.out, H1.out⟩
  case round =>
    obtain ⟨i, hin, rfl, hop, hT, hb⟩ := hrel
    clear HT0 H1
    by_cases hlt : i < n
    · have hii : (i : Int) < (n : Int) := by omega
      obtain ⟨ab, off, rfl, hbl, hc⟩ := (HL.out.below hb).row (by omega)
      obtain ⟨c1, c2, c3, c4, c5⟩ := hc i hlt
      have hbw : ab < wr.heap.size := Nat.lt_of_lt_of_le hbl hb.size
      have hbne : ab ≠ wr.heap.size := by omega
      have hmem := getD_mem (l := l) (i := i) (by omega)
      have hx5 := hi _ hmem
      have hpt := printL_take l i (by omega)
      have hple := printL_le (l.take i) (fun x hx => by
        obtain ⟨k, hk, rfl⟩ := List.mem_iff_getElem.1 hx
        rw [List.length_take] at hk
        have := hop k (by omega)
        rw [List.getD_eq_getElem?_getD, List.getElem?_eq_getElem (by omega)] at this
        rw [List.getElem_take]
        exact this) (fun x hx => hi x (List.mem_of_mem_take hx))
      rw [List.length_take] at hple
      obtain ⟨x, hx⟩ : ∃ x, l.getD i default = x := ⟨_, rfl⟩
      rw [hx] at c1 c2 c3 c4 c5 hx5 hpt hmem
      obtain ⟨x1, x2, x3, x4, x5⟩ := x
      dsimp only at c1 c2 c3 c4 c5
      have hbs := hb.size
      have HX := Lib.hid hx
      have HOP := Lib.hid hop
      have HT := Lib.hid hT
      have HB := Lib.hid hb
      have HPT := Lib.hid hpt
      clear hc hx hop hT hb hpt
      by_cases hk : x1 < 0 ∨ 17 ≤ x1
      · have hR : ¬ ∀ x ∈ l, hasOp x := fun h => by
          have := h _ hmem
          unfold hasOp at this
          dsimp only at this
          omega
        have HKN := Lib.hid (fun w => known_no x1 hk w)
        have HBX := Lib.hid (fun o1 o2 => (HB.out.alloc hbs o1).alloc (o := o2) (HB.out.alloc hbs o1).size)
        clear hk
        go_wp2_with fail
        refine (HKN.out _).mono ?_
        rintro e w3 ⟨rfl, rfl⟩
        go_wp2
        go_ret2
        exact ⟨HBX.out _ _, .inr ⟨_, _, rfl, hR⟩⟩
      · obtain ⟨op, rfl⟩ : ∃ op : Nat, x1 = (op : Int) := ⟨x1.toNat, by omega⟩
        have hop17 : op < 17 := by omega
        have HKN := Lib.hid (fun w => known_yes op hop17 w)
        have hbx := (Below.refl wr.heap.size wr).alloc (Nat.le_refl _) (.cells #[.int .i64 op, .int .i64 x2, .int .i64 x3, .int .i64 x4, .int .i64 x5] 33)
        have hTx := HT.out.old hbx
        have hBx := HB.out.alloc hbs (.cells #[.int .i64 op, .int .i64 x2, .int .i64 x3, .int .i64 x4, .int .i64 x5] 33)
        have HPL := Lib.hid (printLine_any w.heap.size w.heap.size hB5 (printL (l.take i)) op hop17 x2 x3 x4 x5 (by
          intro z hz
          obtain ⟨_, g1, g2, g3, g4⟩ := hx5
          simp only [List.mem_cons, List.not_mem_nil, or_false] at hz
          rcases hz with rfl | rfl | rfl | rfl
          · exact g1
          · exact g2
          · exact g3
          · exact g4) _ (HC.out.old hBx) hTx (by omega) hBx.size)
        have HBX := Lib.hid hBx
        clear hk hbx hTx hBx hple
        unfold insV at HPL
        go_wp2_with fail
        refine (HKN.out _).mono ?_
        rintro e w3 ⟨rfl, rfl⟩
        go_wp2_with fail
        refine HPL.out.mono ?_
        rintro e w4 ⟨rfl, htb4, hwr4⟩
        have HB4 := Lib.hid (HBX.out.trans hwr4.1)
        have HT4 := Lib.hid (show TB w.heap.size w.heap.size (printL (l.take (i + 1))) w4 by rw [HPT.out]; exact htb4)
        have HOP4 := Lib.hid (show ∀ k, k < i + 1 → hasOp (l.getD k default) from fun k hk => by
          rcases Nat.lt_or_ge k i with h | h
          · exact HOP.out k h
          · obtain rfl : k = i := by omega
            rw [HX.out]
            exact ⟨by dsimp only; omega, by dsimp only; omega⟩)
        clear htb4 hwr4 HPL HKN
        go_wp2
        go_roundw
        case rel => exact ⟨i + 1, by omega, by go_num, HOP4.out, HT4.out, HB4.out⟩
        case measure => simp [intOf]; omega
    · obtain rfl : i = n := by omega
      have htl : l.take i = l := List.take_of_length_le (by omega)
      rw [htl] at hT
      have hall : ∀ x ∈ l, hasOp x := fun x hx => by
        obtain ⟨k, hk, rfl⟩ := List.mem_iff_getElem.1 hx
        have := hop k (by omega)
        rw [List.getD_eq_getElem?_getD, List.getElem?_eq_getElem hk] at this
        exact this
      have HS := Lib.hid (Tryd.Builder_String_any w.heap.size w.heap.size (printL l) wr hT hb.size)
      have HB := Lib.hid hb
      clear hT hb hop
      have hii : ¬ (i : Int) < (i : Int) := by omega
      go_wp2_with fail
      refine HS.out.mono ?_
      rintro e w4 ⟨rfl, hb4⟩
      have HB4 := Lib.hid (HB.out.trans hb4)
      clear hb4 HS
      go_wp2
      go_ret2
      exact ⟨HB4.out, .inl ⟨rfl, hall⟩⟩
end Go.Proofs.YtmfkjaokopkgmaaDoor
