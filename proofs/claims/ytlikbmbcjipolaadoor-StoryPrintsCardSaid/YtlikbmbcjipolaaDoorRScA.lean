/-
  The reference's ScriptRight.
-/
import Derived.Test.YtlikbmbcjipolaaDoorScA
namespace Go.Proofs.YtlikbmbcjipolaaDoor
set_option maxRecDepth 100000
open Go.RowKit Go.Sort
set_option linter.unusedVariables false
set_option linter.unusedSimpArgs false

theorem scWithin_any (x a b : Int) (w : World) : Calls Tryd.prog 26 #[.int .i64 x, .int .i64 a, .int .i64 b] w fun e w' => e = .returned (.bool (decide (a ≤ x ∧ x ≤ b))) ∧ w' = w := by
  by_cases h : a ≤ x
  · by_cases h2 : x ≤ b
    · have e : decide (a ≤ x ∧ x ≤ b) = true := decide_eq_true ⟨h, h2⟩
      rw [e]
      go_enter Tryd.func26, Tryd.ntmps26
      go_wp2
      go_ret
      exact ⟨rfl, rfl⟩
    · have e : decide (a ≤ x ∧ x ≤ b) = false := decide_eq_false fun h => h2 h.2
      rw [e]
      go_enter Tryd.func26, Tryd.ntmps26
      go_wp2
      go_ret
      exact ⟨rfl, rfl⟩
  · have e : decide (a ≤ x ∧ x ≤ b) = false := decide_eq_false fun h' => h h'.1
    rw [e]
    go_enter Tryd.func26, Tryd.ntmps26
    go_wp2
    go_ret
    exact ⟨rfl, rfl⟩

def headSc (k n r : Int) : Prop := 1 ≤ k ∧ k ≤ 6 ∧ 1 ≤ n ∧ n ≤ 8 ∧ 0 ≤ r ∧ r ≤ 5
theorem rightSc_head (k n r : Int) (l : List (Int × Bool)) : headSc k n r ∧ rightMv n l ↔ rightSc k n r l :=
  ⟨fun ⟨⟨a, b, c, d, e, f⟩, g⟩ => ⟨a, b, c, d, e, f, g⟩, fun ⟨a, b, c, d, e, f, g⟩ => ⟨⟨a, b, c, d, e, f⟩, g⟩⟩

set_option maxHeartbeats 4000000 in
theorem rScRight_any (k n r : Int) (l : List (Int × Bool)) (A : Option Addr) (len c : Nat) (w : World) (hM : Moves w w.heap.size A len l) (hlen : len ≤ 1000000) :
    Calls Tryd.prog 10 #[scriptV k n r A len c] w (ToldRightSc k n r l w) := by
  have hl := hM.len
  have hb0 := (Below.refl w.heap.size w).alloc (Nat.le_refl _) (.cells #[.int .i64 k, .int .i64 n, .int .i64 r, .slice A len c] 24)
  have hx0 := heap_alloc_new w (.cells #[.int .i64 k, .int .i64 n, .int .i64 r, .slice A len c] 24)
  obtain ⟨xb, hxb⟩ : ∃ xb, w.heap.size = xb := ⟨_, rfl⟩
  obtain ⟨w1, hw1⟩ : ∃ w1, w.alloc (.cells #[.int .i64 k, .int .i64 n, .int .i64 r, .slice A len c] 24) = w1 := ⟨_, rfl⟩
  rw [hw1, hxb] at hx0
  rw [hw1] at hb0
  have c0 : w1.cell? ⟨xb, 0, none⟩ = some (.int .i64 k) := by rw [cell_of_row w1 xb 0 _ _ _ hx0]; rfl
  have c1 : w1.cell? ⟨xb, 1, none⟩ = some (.int .i64 n) := by rw [cell_of_row w1 xb 1 _ _ _ hx0]; rfl
  have c2 : w1.cell? ⟨xb, 2, none⟩ = some (.int .i64 r) := by rw [cell_of_row w1 xb 2 _ _ _ hx0]; rfl
  have c3 : w1.cell? ⟨xb, 3, none⟩ = some (.slice A len c) := by rw [cell_of_row w1 xb 3 _ _ _ hx0]; rfl
  have HM := Lib.hid hM
  have HB0 := Lib.hid (show Below w.heap.size w w1 from hb0)
  have HX := Lib.hid hx0
  have HK := Lib.hid (scWithin_any k 1 6 w1)
  have HN2 := Lib.hid (scWithin_any n 1 8 w1)
  have HR2 := Lib.hid (scWithin_any r 0 5 w1)
  have HRS := Lib.hid (rightSc_head k n r l)
  clear hM hb0 hx0
  unfold scriptV
  go_enter Tryd.func10, Tryd.ntmps10
  by_cases h1 : 1 ≤ k ∧ k ≤ 6
  · rw [decide_eq_true h1] at HK
    go_wp2_with fail
    refine HK.out.mono ?_
    rintro e w2 ⟨rfl, rfl⟩
    by_cases h2 : 1 ≤ n ∧ n ≤ 8
    · rw [decide_eq_true h2] at HN2
      go_wp2_with fail
      refine HN2.out.mono ?_
      rintro e w2 ⟨rfl, rfl⟩
      by_cases h3 : 0 ≤ r ∧ r ≤ 5
      · rw [decide_eq_true h3] at HR2
        have HHD := Lib.hid (show headSc k n r from ⟨h1.1, h1.2, h2.1, h2.2, h3.1, h3.2⟩)
        clear h1 h2 h3
        go_wp2_with fail
        refine HR2.out.mono ?_
        rintro e w2 ⟨rfl, rfl⟩
        clear HK HN2 HR2
        go_wp2
        go_loopw [3, 22] (fun v j wr => ∃ (i : Nat) (b : Bool), i ≤ len ∧ j = .int .i64 i ∧ v = .bool b ∧ (b = true ↔ headSc k n r ∧ rightMv n (l.take i)) ∧ Below w.heap.size w wr ∧ wr.heap[xb]? = some (.cells #[.int .i64 k, .int .i64 n, .int .i64 r, .slice A len c] 24 (0, 0))) (fun _ j _ => len - (intOf j).toNat)
        case atStart => exact ⟨0, true, Nat.zero_le _, rfl, rfl, ⟨fun _ => ⟨HHD.out, (fun v hv => by cases hv)⟩, fun _ => rfl⟩, HB0.out, HX.out⟩
        case round =>
          obtain ⟨i, b, hi, rfl, rfl, hb1, hb, hx⟩ := hrel
          clear c0 c1 c2 c3
          by_cases hlt : i < len
          · have hii : (i : Int) < (len : Int) := by omega
            obtain ⟨ab, off, rfl, hab, hc⟩ := (HM.out.below hb).row (by omega)
            obtain ⟨m0, m1⟩ := hc i hlt
            have habw : ab < wr.heap.size := Nat.lt_of_lt_of_le hab hb.size
            have habn : ab ≠ wr.heap.size := by omega
            have hst := rightMv_step (n := n) (l := l) (i := i) (by omega)
            have hxw := lt_of_block hx
            have hxn : xb ≠ wr.heap.size := by omega
            have c1 : wr.cell? ⟨xb, 1, none⟩ = some (.int .i64 n) := by rw [cell_of_row wr xb 1 _ _ _ hx]; rfl
            have HBA := Lib.hid (fun o => hb.alloc hb.size o)
            have HXA := Lib.hid (fun o => (Below.heap_alloc wr o xb hxw).trans hx)
            have HST := Lib.hid hst
            have HB := Lib.hid hb1
            generalize (l.getD i default).1 = t at *
            generalize (l.getD i default).2 = p at *
            clear hc hb hx hst hb1 hab
            obtain rfl | rfl := (by cases b <;> simp : b = false ∨ b = true)
            · have hno : ¬ (headSc k n r ∧ rightMv n (l.take (i + 1))) := fun h => by have := HB.out.2 ⟨h.1, (HST.out.1 h.2).1⟩; cases this
              have HNO := Lib.hid hno
              clear hno
              go_wp2
              go_roundw
              case rel => exact ⟨i + 1, false, by omega, by go_num, rfl, ⟨(fun h => by cases h), fun h => absurd h HNO.out⟩, HBA.out _, HXA.out _⟩
              case measure => simp [intOf]; omega
            · have hh := HB.out.1 rfl
              have hw : wrap64 (n - 1) = n - 1 := by have := hh.1.2.2.1; have := hh.1.2.2.2.1; unfold wrap64; omega
              have HW := Lib.hid (fun w => scWithin_any t 0 (n - 1) w)
              have HHH := Lib.hid hh
              clear hh
              go_wp2_with fail
              refine (HW.out _).mono ?_
              rintro e w3 ⟨rfl, rfl⟩
              have HF := Lib.hid (show (decide (0 ≤ t ∧ t ≤ n - 1) = true ↔ headSc k n r ∧ rightMv n (l.take (i + 1))) from by
                rw [decide_eq_true_iff]
                constructor
                · intro g; exact ⟨HHH.out.1, HST.out.2 ⟨HHH.out.2, g.1, by omega⟩⟩
                · intro g; have := HST.out.1 g.2; omega)
              generalize decide (0 ≤ t ∧ t ≤ n - 1) = bb at *
              clear hw HW
              go_wp2
              go_roundw
              case rel => exact ⟨i + 1, bb, by omega, by go_num, rfl, HF.out, HBA.out _, HXA.out _⟩
              case measure => simp [intOf]; omega
          · obtain rfl : i = len := by omega
            rw [List.take_of_length_le (by omega)] at hb1
            have hii : ¬ (i : Int) < (i : Int) := by omega
            go_wp2
            go_ret
            exact ⟨b, rfl, hb1.trans HRS.out, hb⟩
      · have HNO := Lib.hid (show ¬ headSc k n r from fun h => h3 ⟨h.2.2.2.2.1, h.2.2.2.2.2⟩)
        rw [decide_eq_false h3] at HR2
        clear h1 h2 h3
        go_wp2_with fail
        refine HR2.out.mono ?_
        rintro e w2 ⟨rfl, rfl⟩
        clear HK HN2 HR2
        go_wp2
        go_loopw [3, 22] (fun v j wr => ∃ (i : Nat) (b : Bool), i ≤ len ∧ j = .int .i64 i ∧ v = .bool b ∧ (b = true ↔ headSc k n r ∧ rightMv n (l.take i)) ∧ Below w.heap.size w wr ∧ wr.heap[xb]? = some (.cells #[.int .i64 k, .int .i64 n, .int .i64 r, .slice A len c] 24 (0, 0))) (fun _ j _ => len - (intOf j).toNat)
        case atStart => exact ⟨0, false, Nat.zero_le _, rfl, rfl, ⟨(fun h => by cases h), fun h => absurd h.1 HNO.out⟩, HB0.out, HX.out⟩
        case round =>
          obtain ⟨i, b, hi, rfl, rfl, hb1, hb, hx⟩ := hrel
          clear c0 c1 c2 c3
          by_cases hlt : i < len
          · have hii : (i : Int) < (len : Int) := by omega
            obtain ⟨ab, off, rfl, hab, hc⟩ := (HM.out.below hb).row (by omega)
            obtain ⟨m0, m1⟩ := hc i hlt
            have habw : ab < wr.heap.size := Nat.lt_of_lt_of_le hab hb.size
            have habn : ab ≠ wr.heap.size := by omega
            have hst := rightMv_step (n := n) (l := l) (i := i) (by omega)
            have hxw := lt_of_block hx
            have hxn : xb ≠ wr.heap.size := by omega
            have c1 : wr.cell? ⟨xb, 1, none⟩ = some (.int .i64 n) := by rw [cell_of_row wr xb 1 _ _ _ hx]; rfl
            have HBA := Lib.hid (fun o => hb.alloc hb.size o)
            have HXA := Lib.hid (fun o => (Below.heap_alloc wr o xb hxw).trans hx)
            have HST := Lib.hid hst
            have HB := Lib.hid hb1
            generalize (l.getD i default).1 = t at *
            generalize (l.getD i default).2 = p at *
            clear hc hb hx hst hb1 hab
            obtain rfl | rfl := (by cases b <;> simp : b = false ∨ b = true)
            · have hno : ¬ (headSc k n r ∧ rightMv n (l.take (i + 1))) := fun h => by have := HB.out.2 ⟨h.1, (HST.out.1 h.2).1⟩; cases this
              have HNO := Lib.hid hno
              clear hno
              go_wp2
              go_roundw
              case rel => exact ⟨i + 1, false, by omega, by go_num, rfl, ⟨(fun h => by cases h), fun h => absurd h HNO.out⟩, HBA.out _, HXA.out _⟩
              case measure => simp [intOf]; omega
            · have hh := HB.out.1 rfl
              have hw : wrap64 (n - 1) = n - 1 := by have := hh.1.2.2.1; have := hh.1.2.2.2.1; unfold wrap64; omega
              have HW := Lib.hid (fun w => scWithin_any t 0 (n - 1) w)
              have HHH := Lib.hid hh
              clear hh
              go_wp2_with fail
              refine (HW.out _).mono ?_
              rintro e w3 ⟨rfl, rfl⟩
              have HF := Lib.hid (show (decide (0 ≤ t ∧ t ≤ n - 1) = true ↔ headSc k n r ∧ rightMv n (l.take (i + 1))) from by
                rw [decide_eq_true_iff]
                constructor
                · intro g; exact ⟨HHH.out.1, HST.out.2 ⟨HHH.out.2, g.1, by omega⟩⟩
                · intro g; have := HST.out.1 g.2; omega)
              generalize decide (0 ≤ t ∧ t ≤ n - 1) = bb at *
              clear hw HW
              go_wp2
              go_roundw
              case rel => exact ⟨i + 1, bb, by omega, by go_num, rfl, HF.out, HBA.out _, HXA.out _⟩
              case measure => simp [intOf]; omega
          · obtain rfl : i = len := by omega
            rw [List.take_of_length_le (by omega)] at hb1
            have hii : ¬ (i : Int) < (i : Int) := by omega
            go_wp2
            go_ret
            exact ⟨b, rfl, hb1.trans HRS.out, hb⟩
    · have HNO := Lib.hid (show ¬ headSc k n r from fun h => h2 ⟨h.2.2.1, h.2.2.2.1⟩)
      rw [decide_eq_false h2] at HN2
      clear h1 h2
      go_wp2_with fail
      refine HN2.out.mono ?_
      rintro e w2 ⟨rfl, rfl⟩
      clear HK HN2 HR2
      go_wp2
      go_loopw [3, 22] (fun v j wr => ∃ (i : Nat) (b : Bool), i ≤ len ∧ j = .int .i64 i ∧ v = .bool b ∧ (b = true ↔ headSc k n r ∧ rightMv n (l.take i)) ∧ Below w.heap.size w wr ∧ wr.heap[xb]? = some (.cells #[.int .i64 k, .int .i64 n, .int .i64 r, .slice A len c] 24 (0, 0))) (fun _ j _ => len - (intOf j).toNat)
      case atStart => exact ⟨0, false, Nat.zero_le _, rfl, rfl, ⟨(fun h => by cases h), fun h => absurd h.1 HNO.out⟩, HB0.out, HX.out⟩
      case round =>
        obtain ⟨i, b, hi, rfl, rfl, hb1, hb, hx⟩ := hrel
        clear c0 c1 c2 c3
        by_cases hlt : i < len
        · have hii : (i : Int) < (len : Int) := by omega
          obtain ⟨ab, off, rfl, hab, hc⟩ := (HM.out.below hb).row (by omega)
          obtain ⟨m0, m1⟩ := hc i hlt
          have habw : ab < wr.heap.size := Nat.lt_of_lt_of_le hab hb.size
          have habn : ab ≠ wr.heap.size := by omega
          have hst := rightMv_step (n := n) (l := l) (i := i) (by omega)
          have hxw := lt_of_block hx
          have hxn : xb ≠ wr.heap.size := by omega
          have c1 : wr.cell? ⟨xb, 1, none⟩ = some (.int .i64 n) := by rw [cell_of_row wr xb 1 _ _ _ hx]; rfl
          have HBA := Lib.hid (fun o => hb.alloc hb.size o)
          have HXA := Lib.hid (fun o => (Below.heap_alloc wr o xb hxw).trans hx)
          have HST := Lib.hid hst
          have HB := Lib.hid hb1
          generalize (l.getD i default).1 = t at *
          generalize (l.getD i default).2 = p at *
          clear hc hb hx hst hb1 hab
          obtain rfl | rfl := (by cases b <;> simp : b = false ∨ b = true)
          · have hno : ¬ (headSc k n r ∧ rightMv n (l.take (i + 1))) := fun h => by have := HB.out.2 ⟨h.1, (HST.out.1 h.2).1⟩; cases this
            have HNO := Lib.hid hno
            clear hno
            go_wp2
            go_roundw
            case rel => exact ⟨i + 1, false, by omega, by go_num, rfl, ⟨(fun h => by cases h), fun h => absurd h HNO.out⟩, HBA.out _, HXA.out _⟩
            case measure => simp [intOf]; omega
          · have hh := HB.out.1 rfl
            have hw : wrap64 (n - 1) = n - 1 := by have := hh.1.2.2.1; have := hh.1.2.2.2.1; unfold wrap64; omega
            have HW := Lib.hid (fun w => scWithin_any t 0 (n - 1) w)
            have HHH := Lib.hid hh
            clear hh
            go_wp2_with fail
            refine (HW.out _).mono ?_
            rintro e w3 ⟨rfl, rfl⟩
            have HF := Lib.hid (show (decide (0 ≤ t ∧ t ≤ n - 1) = true ↔ headSc k n r ∧ rightMv n (l.take (i + 1))) from by
              rw [decide_eq_true_iff]
              constructor
              · intro g; exact ⟨HHH.out.1, HST.out.2 ⟨HHH.out.2, g.1, by omega⟩⟩
              · intro g; have := HST.out.1 g.2; omega)
            generalize decide (0 ≤ t ∧ t ≤ n - 1) = bb at *
            clear hw HW
            go_wp2
            go_roundw
            case rel => exact ⟨i + 1, bb, by omega, by go_num, rfl, HF.out, HBA.out _, HXA.out _⟩
            case measure => simp [intOf]; omega
        · obtain rfl : i = len := by omega
          rw [List.take_of_length_le (by omega)] at hb1
          have hii : ¬ (i : Int) < (i : Int) := by omega
          go_wp2
          go_ret
          exact ⟨b, rfl, hb1.trans HRS.out, hb⟩
  · have HNO := Lib.hid (show ¬ headSc k n r from fun h => h1 ⟨h.1, h.2.1⟩)
    rw [decide_eq_false h1] at HK
    clear h1
    go_wp2_with fail
    refine HK.out.mono ?_
    rintro e w2 ⟨rfl, rfl⟩
    clear HK HN2 HR2
    go_wp2
    go_loopw [3, 22] (fun v j wr => ∃ (i : Nat) (b : Bool), i ≤ len ∧ j = .int .i64 i ∧ v = .bool b ∧ (b = true ↔ headSc k n r ∧ rightMv n (l.take i)) ∧ Below w.heap.size w wr ∧ wr.heap[xb]? = some (.cells #[.int .i64 k, .int .i64 n, .int .i64 r, .slice A len c] 24 (0, 0))) (fun _ j _ => len - (intOf j).toNat)
    case atStart => exact ⟨0, false, Nat.zero_le _, rfl, rfl, ⟨(fun h => by cases h), fun h => absurd h.1 HNO.out⟩, HB0.out, HX.out⟩
    case round =>
      obtain ⟨i, b, hi, rfl, rfl, hb1, hb, hx⟩ := hrel
      clear c0 c1 c2 c3
      by_cases hlt : i < len
      · have hii : (i : Int) < (len : Int) := by omega
        obtain ⟨ab, off, rfl, hab, hc⟩ := (HM.out.below hb).row (by omega)
        obtain ⟨m0, m1⟩ := hc i hlt
        have habw : ab < wr.heap.size := Nat.lt_of_lt_of_le hab hb.size
        have habn : ab ≠ wr.heap.size := by omega
        have hst := rightMv_step (n := n) (l := l) (i := i) (by omega)
        have hxw := lt_of_block hx
        have hxn : xb ≠ wr.heap.size := by omega
        have c1 : wr.cell? ⟨xb, 1, none⟩ = some (.int .i64 n) := by rw [cell_of_row wr xb 1 _ _ _ hx]; rfl
        have HBA := Lib.hid (fun o => hb.alloc hb.size o)
        have HXA := Lib.hid (fun o => (Below.heap_alloc wr o xb hxw).trans hx)
        have HST := Lib.hid hst
        have HB := Lib.hid hb1
        generalize (l.getD i default).1 = t at *
        generalize (l.getD i default).2 = p at *
        clear hc hb hx hst hb1 hab
        obtain rfl | rfl := (by cases b <;> simp : b = false ∨ b = true)
        · have hno : ¬ (headSc k n r ∧ rightMv n (l.take (i + 1))) := fun h => by have := HB.out.2 ⟨h.1, (HST.out.1 h.2).1⟩; cases this
          have HNO := Lib.hid hno
          clear hno
          go_wp2
          go_roundw
          case rel => exact ⟨i + 1, false, by omega, by go_num, rfl, ⟨(fun h => by cases h), fun h => absurd h HNO.out⟩, HBA.out _, HXA.out _⟩
          case measure => simp [intOf]; omega
        · have hh := HB.out.1 rfl
          have hw : wrap64 (n - 1) = n - 1 := by have := hh.1.2.2.1; have := hh.1.2.2.2.1; unfold wrap64; omega
          have HW := Lib.hid (fun w => scWithin_any t 0 (n - 1) w)
          have HHH := Lib.hid hh
          clear hh
          go_wp2_with fail
          refine (HW.out _).mono ?_
          rintro e w3 ⟨rfl, rfl⟩
          have HF := Lib.hid (show (decide (0 ≤ t ∧ t ≤ n - 1) = true ↔ headSc k n r ∧ rightMv n (l.take (i + 1))) from by
            rw [decide_eq_true_iff]
            constructor
            · intro g; exact ⟨HHH.out.1, HST.out.2 ⟨HHH.out.2, g.1, by omega⟩⟩
            · intro g; have := HST.out.1 g.2; omega)
          generalize decide (0 ≤ t ∧ t ≤ n - 1) = bb at *
          clear hw HW
          go_wp2
          go_roundw
          case rel => exact ⟨i + 1, bb, by omega, by go_num, rfl, HF.out, HBA.out _, HXA.out _⟩
          case measure => simp [intOf]; omega
      · obtain rfl : i = len := by omega
        rw [List.take_of_length_le (by omega)] at hb1
        have hii : ¬ (i : Int) < (i : Int) := by omega
        go_wp2
        go_ret
        exact ⟨b, rfl, hb1.trans HRS.out, hb⟩
end Go.Proofs.YtlikbmbcjipolaaDoor
