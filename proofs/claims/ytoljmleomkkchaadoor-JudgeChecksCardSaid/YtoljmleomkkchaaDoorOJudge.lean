/-
  judge.hear, Check, Rounds: what is wrong with whatever was said, and how many rounds it was.
-/
import Derived.Test.YtoljmleomkkchaaDoorOHear
import Derived.Test.YtoljmleomkkchaaDoorEvRow
import Derived.Test.YtoljmleomkkchaaDoorORowI
namespace Go.Proofs.YtoljmleomkkchaaDoor
set_option maxRecDepth 100000
open Go.RowKit
set_option linter.unusedVariables false
set_option linter.unusedSimpArgs false

/-- What hear comes to. -/
def HeardR (n : Nat) (l : List Ev4) (w : World) (R : Option (Nat × Nat)) (e : Ending) (w' : World) : Prop := Below w.heap.size w w' ∧ match R with
  | none => ∃ g, e = .returned (.tuple #[.slice (some ⟨g, 0, none⟩) n n, .nilIface]) ∧ w.heap.size ≤ g ∧ RowI w' g (timesL n l)
  | some (c, i) => ∃ p, e = .returned (.tuple #[.slice none 0 0, .iface 65 (.pointer (some ⟨p, 0, none⟩))]) ∧ w.heap.size ≤ p ∧ w'.heap[p]? = some (.cells #[.int .i64 (c : Nat), .int .i64 (i : Nat)] 67 (0, 0))

def Heard (n : Nat) (l : List Ev4) (w : World) : Ending → World → Prop := HeardR n l w (judgeP n [] l)

set_option maxHeartbeats 4000000 in
theorem hear_any {w : World} (A : Option Addr) (cap n : Nat) (l : List Ev4) (hl : l.length ≤ 20000) (hE : EvRow w A l.length l) (n1 : 1 ≤ n) (hn : n ≤ 16) :
    Calls Tryd.prog 24 #[.slice A l.length cap, .int .i64 (n : Nat)] w (Heard n l w) := by
  obtain ⟨C, hC, hmk⟩ := make_ints n (by omega)
  have H0 : RowI (w.alloc (.cells C 3)) w.heap.size (timesL n (l.take 0)) := ⟨C, heap_alloc_new w _, by rw [List.take_zero, timesL_nil]; exact hC⟩
  have HH0 := Lib.hid H0
  have HB0 := Lib.hid ((Below.refl w.heap.size w).alloc (Nat.le_refl _) (.cells C 3))
  have hj0 : judgeP n [] l = judgeP n (l.take 0) (l.drop 0) := by simp
  have HJ0 := Lib.hid hj0
  have HE := Lib.hid hE
  have hn1 : ¬ (n : Int) < 1 := by omega
  have hn2 : ¬ (16 : Int) < (n : Int) := by omega
  have HEnd := Lib.hid (judge_end (n := n) l)
  have HTk := Lib.hid (List.take_length (l := l))
  have HStep := Lib.hid (fun i hi x hx => judge_step (n := n) i l hi x hx)
  have HLen := Lib.hid (fun i => show (l.take i).length ≤ 20000 by rw [List.length_take]; omega)
  have HMore := Lib.hid (fun i (hi : i < l.length) => (by
    have e : l.getD i default = l[i] := by rw [List.getD_eq_getElem?_getD, List.getElem?_eq_getElem hi]; rfl
    rw [e, List.take_append_getElem] : l.take (i + 1) = l.take i ++ [l.getD i default]))
  unfold Heard
  obtain ⟨R, hR⟩ : ∃ R, judgeP n [] l = R := ⟨_, rfl⟩
  rw [hR] at HJ0 ⊢
  obtain ⟨m, hm⟩ : ∃ m, l.length = m := ⟨_, rfl⟩
  rw [hm] at HE HEnd HTk HStep HMore hl ⊢
  clear hC H0 hj0 hE hR hm
  go_enter Tryd.func24, Tryd.ntmps24
  go_wp2
  clear hmk
  go_loopw [21] (fun j wr => ∃ i : Nat, i ≤ m ∧ j = .int .i64 i ∧ Hid (Below w.heap.size w wr ∧ RowI wr w.heap.size (timesL n (l.take i)) ∧ R = judgeP n (l.take i) (l.drop i))) (fun j _ => m - (intOf j).toNat)
  case atStart => exact ⟨0, Nat.zero_le _, rfl, ⟨HB0.out, HH0.out, HJ0.out⟩⟩
  case round =>
    obtain ⟨i, hi, rfl, hx⟩ := hrel
    by_cases hlt : i < m
    · have hkn : (i : Int) < (m : Int) := by omega
      have HX := Lib.hid hx.out
      clear hx
      obtain ⟨b, off, rfl, x1, x2, x3, x4⟩ := (HE.out.of HX.out.1) i hlt
      have HS := Lib.hid (HStep.out i hlt _ rfl)
      have HM := Lib.hid (HMore.out i hlt)
      generalize l.getD i default = x at *
      have HG := Lib.hid (World.grownBy_alloc wr (.cells #[.int .i64 x.1, .int .i64 x.2.1, .int .i64 x.2.2.1, .int .i64 x.2.2.2] 42) none)
      have HB1 := Lib.hid (HX.out.1.alloc HX.out.1.size (.cells #[.int .i64 x.1, .int .i64 x.2.1, .int .i64 x.2.2.1, .int .i64 x.2.2.2] 42))
      have hR1 : RowI (wr.alloc (.cells #[.int .i64 x.1, .int .i64 x.2.1, .int .i64 x.2.2.1, .int .i64 x.2.2.2] 42)) w.heap.size (timesL n (l.take i)) := by
        obtain ⟨C1, c1, c2⟩ := HX.out.2.1
        exact ⟨C1, (HG.out.block _ HX.out.2.1.lt (by simp)).trans c1, c2⟩
      have HR1 := Lib.hid hR1
      have HJ := Lib.hid (jjudge_any (some ⟨w.heap.size, 0, none⟩) n n (l.take i) (by have := HLen.out i; omega) (hR1.ints (timesL_len _ _)) n1 hn x)
      have hat := heap_alloc_new wr (.cells #[.int .i64 x.1, .int .i64 x.2.1, .int .i64 x.2.2.1, .int .i64 x.2.2.2] 42)
      have HAt := Lib.hid hat
      have hs1 : (wr.alloc (.cells #[.int .i64 x.1, .int .i64 x.2.1, .int .i64 x.2.2.1, .int .i64 x.2.2.2] 42)).heap.size = wr.heap.size + 1 := by simp
      have HS1 := Lib.hid hs1
      clear hat hs1 hR1
      go_wp2_with fail
      refine HJ.out.mono ?_
      rintro e w2 ⟨rfl, hg2⟩
      have HB2 := Lib.hid (HB1.out.grown hg2 HB1.out.size (by intro k hk; cases hk))
      have hR2 : RowI w2 w.heap.size (timesL n (l.take i)) := by
        obtain ⟨C1, c1, c2⟩ := HR1.out
        exact ⟨C1, (hg2.block _ HR1.out.lt (by simp)).trans c1, c2⟩
      have hthr : w2.cell? ⟨wr.heap.size, 2, none⟩ = some (.int .i64 x.2.2.1) := by
        have h1 := (World.cell?_of_block (a := ⟨wr.heap.size, 2, none⟩) (hg2.block wr.heap.size (by rw [HS1.out]; omega) (by simp)))
        exact h1.trans ((cell_of_row _ _ 2 _ _ _ HAt.out).trans rfl)
      have HR2 := Lib.hid hR2
      have HThr := Lib.hid hthr
      have HRq := Lib.hid HX.out.2.2
      clear hg2 HJ HB1 HR1 HAt HG HX hR2 hthr
      by_cases h0 : jErr n (l.take i) x = 0
      · obtain ⟨t, ht, het⟩ := jErr_zero_thread h0
        rw [h0]
        have hS := HS.out
        rw [if_pos h0] at hS
        have hcell := HR2.out.cell (i := t) (by rw [timesL_len]; exact ht)
        rw [timesL_at _ ht] at hcell
        obtain ⟨hc1, hc2⟩ := hcell
        have hcl := cntEv_len (l.take i) t
        have hcl2 := HLen.out i
        have hthr2 := HThr.out
        rw [het] at hthr2
        have hsn := timesL_snoc (n := n) (l.take i) x ht het
        rw [← HM.out] at hsn
        have HN := Lib.hid (HR2.out.set t ((cntEv (l.take i) t : Int) + 1))
        rw [← hsn] at HN
        have HNB := Lib.hid (below_setI (i := t) (v := .int .i64 ((cntEv (l.take i) t : Int) + 1)) HB2.out (Nat.le_refl _))
        have HRN := Lib.hid (HRq.out.trans (HS.out.trans (if_pos h0)))
        generalize cntEv (l.take i) t = k at *
        clear hS hsn HS HM HB2 HThr HRq h0
        go_wp2
        go_roundw
        case rel => exact ⟨i + 1, by omega, by go_num, ⟨HNB.out, HN.out, HRN.out⟩⟩
        case measure => simp [intOf]; omega
      · have HRN := Lib.hid (HRq.out.trans (HS.out.trans (if_neg h0)))
        have hne : (((jErr n (l.take i) x : Nat) : Int) != 0) = true := by
          have : ((jErr n (l.take i) x : Nat) : Int) ≠ 0 := by omega
          simpa using this
        have hat2 := heap_alloc_new w2 (.cells #[.int .i64 (jErr n (l.take i) x : Nat), .int .i64 (i : Nat)] 67)
        have HAt2 := Lib.hid hat2
        have HB3 := Lib.hid (HB2.out.alloc HB2.out.size (.cells #[.int .i64 (jErr n (l.take i) x : Nat), .int .i64 (i : Nat)] 67))
        have HLo := Lib.hid HB2.out.size
        clear HS HM HB2 HThr HRq h0 hat2 HR2
        generalize jErr n (l.take i) x = ec at *
        go_wp2
        go_ret2
        rw [HRN.out]
        exact ⟨HB3.out, _, rfl, HLo.out, HAt2.out⟩
    · have hkn : ¬ (i : Int) < (m : Int) := by omega
      obtain rfl : i = m := by omega
      have hx := hx.out
      rw [HEnd.out, HTk.out] at hx
      obtain ⟨y1, y2, y3⟩ := hx
      have HY := Lib.hid (And.intro y1 y2)
      have HR3 := Lib.hid y3
      clear y1 y2 y3
      go_wp2
      go_ret2
      rw [HR3.out]
      exact ⟨HY.out.1, _, rfl, Nat.le_refl _, HY.out.2⟩

/-- What Check and Rounds hand back of what hear heard. -/
theorem hear_parts {n : Nat} {l : List Ev4} {w : World} {e : Ending} {w' : World} (h : Heard n l w e w') : Below w.heap.size w w' ∧ ((judgeP n [] l = none ∧ ∃ g, e = .returned (.tuple #[.slice (some ⟨g, 0, none⟩) n n, .nilIface]) ∧ w.heap.size ≤ g ∧ RowI w' g (timesL n l)) ∨
    ∃ c i p, judgeP n [] l = some (c, i) ∧ e = .returned (.tuple #[.slice none 0 0, .iface 65 (.pointer (some ⟨p, 0, none⟩))]) ∧ w.heap.size ≤ p ∧ w'.heap[p]? = some (.cells #[.int .i64 (c : Nat), .int .i64 (i : Nat)] 67 (0, 0))) := by
  unfold Heard HeardR at h
  obtain ⟨h1, h2⟩ := h
  refine ⟨h1, ?_⟩
  cases hj : judgeP n [] l with
  | none =>
    rw [hj] at h2
    obtain ⟨g, e1, e2, e3⟩ := h2
    exact .inl ⟨rfl, g, e1, e2, e3⟩
  | some q =>
    obtain ⟨c, i⟩ := q
    rw [hj] at h2
    obtain ⟨p, e1, e2, e3⟩ := h2
    exact .inr ⟨c, i, p, rfl, e1, e2, e3⟩
end Go.Proofs.YtoljmleomkkchaaDoor
