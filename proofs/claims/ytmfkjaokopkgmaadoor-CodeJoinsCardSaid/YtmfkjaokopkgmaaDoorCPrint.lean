/-
  printLine and Print: a program as text.
-/
import Derived.Test.YtmfkjaokopkgmaaDoorCBuild
namespace Go.Proofs.YtmfkjaokopkgmaaDoor
set_option maxRecDepth 100000
open Go.RowKit Go.Sort

theorem pieces_step (ks : List Nat) (vs : List Int) (i : Nat) (h1 : i < ks.length) (h2 : i < vs.length) :
    pieces (ks.drop i) (vs.drop i) = piece (ks.getD i 0) (vs.getD i 0) ++ pieces (ks.drop (i + 1)) (vs.drop (i + 1)) := by
  rw [List.drop_eq_getElem_cons h1, List.drop_eq_getElem_cons h2, pieces]
  have e1 : ks.getD i 0 = ks[i] := by rw [List.getD_eq_getElem?_getD, List.getElem?_eq_getElem h1]; rfl
  have e2 : vs.getD i 0 = vs[i] := by rw [List.getD_eq_getElem?_getD, List.getElem?_eq_getElem h2]; rfl
  rw [e1, e2]

theorem nDigits_le : ∀ (k u : Nat), u < 10 ^ (k + 1) → Lib.nDigits u ≤ k + 1
  | 0, u, h => by rw [Lib.nDigits_small (by simpa using h)]; exact Nat.le_refl _
  | k + 1, u, h => by
    by_cases hu : u < 10
    · rw [Lib.nDigits_small hu]; omega
    · rw [Lib.nDigits_big hu]
      have := nDigits_le k (u / 10) (by rw [Nat.pow_succ] at h; omega)
      omega

theorem itoa_le (n : Int) (h : isInt n) : (Lib.itoa n).length ≤ 21 := by
  unfold isInt at h
  have key : ∀ u : Nat, u < 10 ^ 20 → (Lib.decDigits u).length ≤ 20 := fun u hu => by
    rw [Lib.decDigits_length]
    exact nDigits_le 19 u hu
  unfold Lib.itoa
  split
  · have := key n.natAbs (by omega)
    rw [List.length_cons]
    omega
  · have := key n.toNat (by omega)
    omega

theorem piece_le (k : Nat) (n : Int) (h : isInt n) : (piece k n).length ≤ 22 := by
  unfold piece
  split
  · simp
  · have := itoa_le n h
    rw [List.length_cons]
    omega

theorem pieces_le : ∀ (ks : List Nat) (vs : List Int), (∀ n ∈ vs, isInt n) → (pieces ks vs).length ≤ 22 * vs.length
  | [], _, _ => by simp [pieces]
  | _ :: _, [], _ => by simp [pieces]
  | k :: ks, v :: vs, h => by
    rw [pieces, List.length_append, List.length_cons]
    have := piece_le k v (h v (by simp))
    have := pieces_le ks vs (fun n hn => h n (by simp [hn]))
    omega

theorem nameOf_le : ∀ op, op < 17 → (nameOf op).length ≤ 5 := by decide

theorem lineL_le (x : In5) (h0 : 0 ≤ x.1) (h1 : x.1 < 17) (hi : ∀ n ∈ nums x, isInt n) : (lineL x).length ≤ 94 := by
  have := nameOf_le x.1.toNat (by omega)
  have := pieces_le (kindsOf x.1.toNat) (nums x) hi
  unfold lineL bodyL
  rw [List.length_append, List.length_append]
  have : (nums x).length = 4 := rfl
  simp
  omega

theorem TB.old {B b : Nat} {l : List UInt8} {w w' : World} (h : TB B b l w) (hb : Below w.heap.size w w') : TB B b l w' := by
  have key : ∀ p, Lib.BuilderAt 50 5 B b p (Lib.byteCells l) w → Lib.BuilderAt 50 5 B b p (Lib.byteCells l) w' := fun p hp => by
    have hlt := hp.lt
    obtain ⟨hB, v, hh, hown, hne⟩ := hp
    exact ⟨hB, v, (hb.block b hlt).trans hh, hown.kept (grown_of_old hb) (Classical.em _), hne⟩
  rcases h with h | h
  · exact .inl (key _ h)
  · exact .inr (key _ h)

theorem Wrote.old {B b : Nat} {w0 w w' : World} (h : Wrote B b w0 w) (hB : B ≤ w.heap.size) (hb : Below w.heap.size w w') : Wrote B b w0 w' :=
  ⟨h.1.trans (hb.mono hB), fun k o hk hkb hko => by
    have h1 := h.2 k o hk hkb hko
    exact (hb.block k (Array.getElem?_eq_some_iff.1 h1).1).trans h1⟩

/-- A block of an instruction stands. -/
theorem Wrote.ins {B b xb : Nat} {w w' : World} {cs : Array Value} (h : Wrote B b w w') (hx : w.heap[xb]? = some (.cells cs 33 (0, 0))) (hne : xb ≠ b) : w'.heap[xb]? = some (.cells cs 33 (0, 0)) :=
  h.2 xb _ hx (by simpa using hne) (fun c fz e => by injection e with _ e; exact absurd e (by decide))

structure PrintInv (B b xb : Nat) (w wr : World) (x : In5) (L : List UInt8) : Prop where
  tb : TB B b L wr
  wrote : Wrote B b w wr
  xs : wr.heap[xb]? = some (.cells #[.int .i64 x.1, .int .i64 x.2.1, .int .i64 x.2.2.1, .int .i64 x.2.2.2.1, .int .i64 x.2.2.2.2] 33 (0, 0))
  cw : CW wr
  size : B ≤ wr.heap.size

theorem PrintInv.put {B b xb : Nat} {w wr wr' : World} {x : In5} {L L' : List UInt8} (h : PrintInv B b xb w wr x L) (hB5 : 5 ≤ B) (hne : xb ≠ b) (ht : TB B b L' wr') (hw : Wrote B b wr wr') : PrintInv B b xb w wr' x L' :=
  ⟨ht, h.wrote.trans hw, hw.ins h.xs hne, h.cw.below hw.1 hB5, Nat.le_trans h.size hw.1.size⟩

theorem PrintInv.old {B b xb : Nat} {w wr wr' : World} {x : In5} {L : List UInt8} (h : PrintInv B b xb w wr x L) (hb : Below wr.heap.size wr wr') : PrintInv B b xb w wr' x L :=
  ⟨h.tb.old hb, h.wrote.old h.size hb, (hb.block xb (lt_of_block h.xs)).trans h.xs, h.cw.old hb, Nat.le_trans h.size hb.size⟩

theorem PrintInv.cells {B b xb : Nat} {w wr : World} {x1 x2 x3 x4 x5 : Int} {L : List UInt8} (h : PrintInv B b xb w wr (x1, x2, x3, x4, x5) L) :
    wr.cell? ⟨xb, 0, none⟩ = some (.int .i64 x1) ∧ wr.cell? ⟨xb, 1, none⟩ = some (.int .i64 x2) ∧ wr.cell? ⟨xb, 2, none⟩ = some (.int .i64 x3) ∧ wr.cell? ⟨xb, 3, none⟩ = some (.int .i64 x4) ∧ wr.cell? ⟨xb, 4, none⟩ = some (.int .i64 x5) :=
  ⟨by rw [cell_of_row wr xb 0 _ _ _ h.xs]; rfl, by rw [cell_of_row wr xb 1 _ _ _ h.xs]; rfl, by rw [cell_of_row wr xb 2 _ _ _ h.xs]; rfl, by rw [cell_of_row wr xb 3 _ _ _ h.xs]; rfl, by rw [cell_of_row wr xb 4 _ _ _ h.xs]; rfl⟩

set_option maxHeartbeats 4000000 in
theorem printLine_any (B b : Nat) (hB5 : 5 ≤ B) (l : List UInt8) (op : Nat) (hop : op < 17) (a1 a2 a3 a4 : Int) (hi : ∀ n ∈ [a1, a2, a3, a4], isInt n) (w : World) (hC : CW w) (h : TB B b l w) (hl : l.length ≤ 900000) (hBw : B ≤ w.heap.size) :
    Calls Tryd.prog 18 #[.pointer (some ⟨b, 0, none⟩), insV (op, a1, a2, a3, a4)] w (Written B b (l ++ lineL (op, a1, a2, a3, a4)) w (.tuple #[])) := by
  have hblt : b < w.heap.size := by
    rcases h with h | h
    · exact h.lt
    · exact h.lt
  obtain ⟨T, hT⟩ : ∃ T, l ++ (nameOf op ++ pieces (kindsOf op) [a1, a2, a3, a4]) = T := ⟨_, rfl⟩
  have hTl : T.length ≤ l.length + 93 := by
    have h1 := nameOf_le op hop
    have h2 := pieces_le (kindsOf op) [a1, a2, a3, a4] hi
    rw [← hT, List.length_append, List.length_append]
    simp only [List.length_cons, List.length_nil] at h2
    omega
  have hfin : l ++ lineL ((op : Int), a1, a2, a3, a4) = T ++ [10] := by
    rw [← hT]
    show l ++ ((nameOf op ++ pieces (kindsOf op) [a1, a2, a3, a4]) ++ [10]) = _
    simp [List.append_assoc]
  rw [hfin]
  clear hfin
  have hb1 := (Below.refl w.heap.size w).alloc (Nat.le_refl _) (.cells #[.int .i64 op, .int .i64 a1, .int .i64 a2, .int .i64 a3, .int .i64 a4] 33)
  have hJ : PrintInv B b w.heap.size w (w.alloc (.cells #[.int .i64 op, .int .i64 a1, .int .i64 a2, .int .i64 a3, .int .i64 a4] 33)) (op, a1, a2, a3, a4) l :=
    ⟨h.old hb1, (Wrote.refl B b w).old hBw hb1, heap_alloc_new w _, hC.old hb1, Nat.le_trans hBw hb1.size⟩
  obtain ⟨xb, hxb⟩ : ∃ xb, w.heap.size = xb := ⟨_, rfl⟩
  obtain ⟨w1, hw1⟩ : ∃ w1, w.alloc (.cells #[.int .i64 op, .int .i64 a1, .int .i64 a2, .int .i64 a3, .int .i64 a4] 33) = w1 := ⟨_, rfl⟩
  rw [hw1, hxb] at hJ
  have hxne : xb ≠ b := by omega
  have hnm := hJ.cw.name op hop
  have hx0 : w1.cell? ⟨xb, 0, none⟩ = some (.int .i64 op) := by rw [cell_of_row w1 xb 0 _ _ _ hJ.xs]; rfl
  have hop17 : (op : Int) < 17 := by omega
  have hop0 : (0 : Int) ≤ (op : Int) := by omega
  have hbox : ∀ K : Value → World → Prop, K (.pointer (some ⟨xb, 0, none⟩)) w1 → K (.pointer (some ⟨w.heap.size, 0, none⟩)) (w.alloc (.cells #[.int .i64 op, .int .i64 a1, .int .i64 a2, .int .i64 a3, .int .i64 a4] 33)) := fun K hK => by rw [hw1, hxb]; exact hK
  have HWS := Lib.hid (writeString_any B b l (nameOf op) w1 hJ.tb (by have := nameOf_le op hop; omega) hJ.size)
  have HJ := Lib.hid hJ
  have HT := Lib.hid hT
  clear h hC hJ hT hb1
  unfold insV
  go_enter Tryd.func18, Tryd.ntmps18
  go_wp2_with fail
  refine HWS.out.mono ?_
  rintro e w2 ⟨rfl, htb2, hwr2⟩
  have hJ2 := HJ.out.put hB5 hxne htb2 hwr2
  obtain ⟨x0, x1, x2, x3, x4⟩ := hJ2.cells
  have HJ2 := Lib.hid hJ2
  have HN := Lib.hid (numbers_any ((op : Int), a1, a2, a3, a4) w2)
  unfold insV at HN
  clear htb2 hwr2 hJ2 HWS HJ hnm hx0 hbox hw1 hxb
  go_wp2_with fail
  refine HN.out.mono ?_
  rintro e w3 ⟨rfl, hg⟩
  have hJ3 := HJ2.out.old (wr' := w3) ⟨hg.os, hg.tape, hg.output, hg.size, fun k hk => hg.block k hk (by simp)⟩
  have hT3 : l ++ nameOf op ++ pieces (kindsOf op) [a1, a2, a3, a4] = T := by rw [← HT.out, List.append_assoc]
  have hks := kinds_len op hop
  have HJ3 := Lib.hid hJ3
  have HT3 := Lib.hid hT3
  have HIX := Lib.hid (index_int4 a1 a2 a3 a4)
  have HK := Lib.hid (fun (w : World) (h : CW w) => fun i hi => (h.kind op i hop hi : w.cell? ⟨0, op * 5 + 1 + i, none⟩ = some (.int .i64 ((kindsOf op).getD i 0 : Nat))))
  have HI := Lib.hid hi
  clear hg hJ3 HJ2 hT3 HT HN x0 x1 x2 x3 x4 hi
  generalize kindsOf op = ks at *
  go_wp2
  go_loopw [15] (fun j wr => ∃ i : Nat, ∃ L, i ≤ 4 ∧ j = .int .i64 i ∧ PrintInv B b xb w wr (op, a1, a2, a3, a4) L ∧ L ++ pieces (ks.drop i) ([a1, a2, a3, a4].drop i) = T) (fun j _ => 4 - (intOf j).toNat)
  case atStart => exact ⟨0, _, by omega, rfl, HJ3.out, HT3.out⟩
  case round =>
    obtain ⟨i, L, hi, rfl, hJ, hL⟩ := hrel
    clear HJ3 HT3
    by_cases hlt : i < 4
    · have hii : (i : Int) < 4 := by omega
      have hix := HIX.out i hlt
      have hki := HK.out wr hJ.cw i hlt
      obtain ⟨x0, _⟩ := hJ.cells
      have hst := pieces_step ks [a1, a2, a3, a4] i (by omega) (by simpa using hlt)
      rw [hst] at hL
      have hvi : isInt ([a1, a2, a3, a4].getD i 0) := by
        rw [List.getD_eq_getElem?_getD, List.getElem?_eq_getElem (by simpa using hlt)]
        exact HI.out _ (List.getElem_mem _)
      have hLl : L.length ≤ T.length := by rw [← hL, List.length_append]; omega
      have hLp := congrArg List.length hL
      simp only [List.length_append] at hLp
      have hJs := hJ.size
      have HJ := Lib.hid hJ
      generalize ks.getD i 0 = k at *
      generalize [a1, a2, a3, a4].getD i 0 = v at *
      by_cases hk0 : k = 0
      · subst hk0
        have HL := Lib.hid (show L ++ pieces (ks.drop (i + 1)) ([a1, a2, a3, a4].drop (i + 1)) = T by rw [← hL]; simp [piece])
        clear hL hst hJ hLp
        go_wp2
        go_roundw
        case rel => exact ⟨i + 1, L, by omega, by go_num, HJ.out, HL.out⟩
        case measure => simp [intOf]; omega
      · have hkb : ((k : Int) != 0) = true := by simpa using hk0
        have hkc : ((k : Int) == 0) = false := by simpa using hk0
        have hpl : (piece k v).length = (Lib.itoa v).length + 1 := by unfold piece; rw [if_neg hk0]; simp
        have HL := Lib.hid (show ((L ++ [32]) ++ Lib.itoa v) ++ pieces (ks.drop (i + 1)) ([a1, a2, a3, a4].drop (i + 1)) = T by rw [← hL]; simp [piece, hk0])
        have HWB := Lib.hid (writeByte_any B b L 32 wr hJ.tb (by omega) hJ.size)
        clear hL hst hJ
        go_wp2_with fail
        refine HWB.out.mono ?_
        rintro e w4 ⟨rfl, htb4, hwr4⟩
        have hJ4 := HJ.out.put hB5 hxne htb4 hwr4
        have HIT := Lib.hid (itoa_any v hvi w4 hJ4.cw)
        have HJ4 := Lib.hid hJ4
        clear htb4 hwr4 hJ4 HWB HJ
        go_wp2_with fail
        refine HIT.out.mono ?_
        rintro e w5 ⟨rfl, hb5⟩
        have hJ5 := HJ4.out.old hb5
        have HWS := Lib.hid (writeString_any B b (L ++ [32]) (Lib.itoa v) w5 hJ5.tb (by rw [List.length_append, List.length_singleton]; omega) hJ5.size)
        have HJ5 := Lib.hid hJ5
        clear hb5 hJ5 HIT HJ4
        unfold strV at HWS ⊢
        go_wp2_with fail
        refine HWS.out.mono ?_
        rintro e w6 ⟨rfl, htb6, hwr6⟩
        have HJ6 := Lib.hid (HJ5.out.put hB5 hxne htb6 hwr6)
        clear htb6 hwr6 HWS HJ5
        go_wp2
        go_roundw
        case rel => exact ⟨i + 1, _, by omega, by go_num, HJ6.out, HL.out⟩
        case measure => simp [intOf]; omega
    · obtain rfl : i = 4 := by omega
      have hLT : L = T := by
        rw [← hL]
        have : ks.drop 4 = [] := List.drop_eq_nil_of_le (by omega)
        rw [this]
        simp [pieces]
      subst hLT
      have HWB := Lib.hid (writeByte_any B b L 10 wr hJ.tb (by omega) hJ.size)
      have HJ := Lib.hid hJ
      clear hJ hL
      go_wp2_with fail
      refine HWB.out.mono ?_
      rintro e w4 ⟨rfl, htb4, hwr4⟩
      have HF := Lib.hid (show TB B b (L ++ [10]) w4 ∧ Wrote B b w w4 from ⟨htb4, HJ.out.wrote.trans hwr4⟩)
      clear htb4 hwr4 HWB HJ
      go_wp2
      go_end0
      exact ⟨rfl, HF.out.1, HF.out.2⟩
end Go.Proofs.YtmfkjaokopkgmaaDoor
