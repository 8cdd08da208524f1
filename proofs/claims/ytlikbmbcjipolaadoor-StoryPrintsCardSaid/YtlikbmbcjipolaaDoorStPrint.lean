/-
  story: printLine and Print: events as text.
-/
import Derived.Test.YtlikbmbcjipolaaDoorStWorld
import Derived.Test.YtlikbmbcjipolaaDoorCBuild
namespace Go.Proofs.YtlikbmbcjipolaaDoor
set_option maxRecDepth 100000
open Go.RowKit Go.Sort
set_option linter.unusedVariables false
set_option linter.unusedSimpArgs false

theorem e_nDigits_le : ∀ (k u : Nat), u < 10 ^ (k + 1) → Lib.nDigits u ≤ k + 1
  | 0, u, h => by rw [Lib.nDigits_small (by simpa using h)]; exact Nat.le_refl _
  | k + 1, u, h => by
    by_cases hu : u < 10
    · rw [Lib.nDigits_small hu]; omega
    · rw [Lib.nDigits_big hu]
      have := e_nDigits_le k (u / 10) (by rw [Nat.pow_succ] at h; omega)
      omega
theorem e_itoa_le (n : Int) (h : isInt n) : (Lib.itoa n).length ≤ 21 := by
  unfold isInt at h
  have key : ∀ u : Nat, u < 10 ^ 20 → (Lib.decDigits u).length ≤ 20 := fun u hu => by
    rw [Lib.decDigits_length]
    exact e_nDigits_le 19 u hu
  unfold Lib.itoa
  split
  · have := key n.natAbs (by omega)
    rw [List.length_cons]
    omega
  · have := key n.toNat (by omega)
    omega

/-- Numbers, each behind a blank. -/
def blanks (l : List Int) : List UInt8 := l.flatMap fun n => 32 :: Lib.itoa n
theorem blanks_cons (n : Int) (l : List Int) : blanks (n :: l) = 32 :: (Lib.itoa n ++ blanks l) := rfl
theorem bodyE_eq (e : Ev4) : bodyE e = ((Lib.itoa e.1 ++ [32]) ++ sayW e.2.1) ++ blanks [e.2.2.1, e.2.2.2] := by
  unfold bodyE
  simp [blanks]
theorem bodyE_le (e : Ev4) (h : intE e) : (bodyE e).length ≤ 72 := by
  have h1 := e_itoa_le _ h.1
  have h2 := (sayW_no e.2.1).2.2
  have h3 := e_itoa_le _ h.2.2.1
  have h4 := e_itoa_le _ h.2.2.2
  unfold bodyE
  simp only [List.length_append, List.length_cons]
  omega
theorem lineE_le (e : Ev4) (h : intE e) : (lineE e).length ≤ 73 := by
  have := bodyE_le e h
  unfold lineE
  rw [List.length_append, List.length_singleton]
  omega
theorem storyL_le : ∀ (l : List Ev4), (∀ e ∈ l, intE e) → (storyL l).length ≤ 73 * l.length
  | [], _ => by simp [storyL]
  | e :: l, h => by
    have h1 := lineE_le e (h e (by simp))
    have h2 := storyL_le l fun x hx => h x (by simp [hx])
    show (lineE e ++ storyL l).length ≤ _
    rw [List.length_append, List.length_cons]
    omega
theorem storyL_take (l : List Ev4) (i : Nat) (h : i < l.length) : storyL (l.take (i + 1)) = storyL (l.take i) ++ lineE (l.getD i default) := by
  rw [List.take_succ_eq_append_getElem h, storyL_append, getE h, storyL_one]

theorem TB.old {B b : Nat} {l : List UInt8} {w w' : World} (h : TB B b l w) (hb : Below w.heap.size w w') : TB B b l w' := by
  have key : ∀ p, Lib.BuilderAt 50 5 B b p (Lib.byteCells l) w → Lib.BuilderAt 50 5 B b p (Lib.byteCells l) w' := fun p hp => by
    have hlt := hp.lt
    obtain ⟨hB, v, hh, hown, hne⟩ := hp
    exact ⟨hB, v, (hb.block b hlt).trans hh, hown.kept (grown_of_old hb) (Classical.em _), hne⟩
  rcases h with h | h
  · exact .inl (key _ h)
  · exact .inr (key _ h)
theorem TB.lt {B b : Nat} {l : List UInt8} {w : World} (h : TB B b l w) : b < w.heap.size := by
  rcases h with h | h
  · exact h.lt
  · exact h.lt
theorem Wrote.old {B b : Nat} {w0 w w' : World} (h : Wrote B b w0 w) (hB : B ≤ w.heap.size) (hb : Below w.heap.size w w') : Wrote B b w0 w' :=
  ⟨h.1.trans (hb.mono hB), fun k o hk hkb hko => by
    have h1 := h.2 k o hk hkb hko
    exact (hb.block k (Array.getElem?_eq_some_iff.1 h1).1).trans h1⟩
/-- A block of an event stands. -/
theorem Wrote.event {B b xb : Nat} {w w' : World} {cs : Array Value} (h : Wrote B b w w') (hx : w.heap[xb]? = some (.cells cs 62 (0, 0))) (hne : xb ≠ b) : w'.heap[xb]? = some (.cells cs 62 (0, 0)) :=
  h.2 xb _ hx (by simpa using hne) (fun c fz e => by injection e with _ e; exact absurd e (by decide))

/-- What holds while an event is printed. -/
structure SayInv (B b xb : Nat) (w wr : World) (x : Ev4) (L : List UInt8) : Prop where
  tb : TB B b L wr
  wrote : Wrote B b w wr
  xs : wr.heap[xb]? = some (.cells #[.int .i64 x.1, .int .i64 x.2.1, .int .i64 x.2.2.1, .int .i64 x.2.2.2] 62 (0, 0))
  sp : SP wr
  size : B ≤ wr.heap.size
theorem SayInv.put {B b xb : Nat} {w wr wr' : World} {x : Ev4} {L L' : List UInt8} (h : SayInv B b xb w wr x L) (hB5 : 3 ≤ B) (hne : xb ≠ b) (ht : TB B b L' wr') (hw : Wrote B b wr wr') : SayInv B b xb w wr' x L' :=
  ⟨ht, h.wrote.trans hw, hw.event h.xs hne, h.sp.below hw.1 hB5, Nat.le_trans h.size hw.1.size⟩
theorem SayInv.old {B b xb : Nat} {w wr wr' : World} {x : Ev4} {L : List UInt8} (h : SayInv B b xb w wr x L) (hb : Below wr.heap.size wr wr') : SayInv B b xb w wr' x L :=
  ⟨h.tb.old hb, h.wrote.old h.size hb, (hb.block xb (lt_of_block h.xs)).trans h.xs, h.sp.old hb, Nat.le_trans h.size hb.size⟩
theorem SayInv.cells {B b xb : Nat} {w wr : World} {x1 x2 x3 x4 : Int} {L : List UInt8} (h : SayInv B b xb w wr (x1, x2, x3, x4) L) :
    wr.cell? ⟨xb, 0, none⟩ = some (.int .i64 x1) ∧ wr.cell? ⟨xb, 1, none⟩ = some (.int .i64 x2) ∧ wr.cell? ⟨xb, 2, none⟩ = some (.int .i64 x3) ∧ wr.cell? ⟨xb, 3, none⟩ = some (.int .i64 x4) :=
  ⟨by rw [cell_of_row wr xb 0 _ _ _ h.xs]; rfl, by rw [cell_of_row wr xb 1 _ _ _ h.xs]; rfl, by rw [cell_of_row wr xb 2 _ _ _ h.xs]; rfl, by rw [cell_of_row wr xb 3 _ _ _ h.xs]; rfl⟩

theorem index_int2 (a b : Int) : ∀ (i : Nat), i < 2 → ∀ w : World, (Instr.index 85 (.agg #[.int .i64 a, .int .i64 b]) (.int .i64 (i : Int))).run Tryd.prog w = .ok (.int .i64 ([a, b].getD i 0)) w
  | 0, _ => fun _ => by kernel_rfl
  | 1, _ => fun _ => by kernel_rfl
  | n + 2, h => absurd h (by omega)

set_option maxHeartbeats 4000000 in
theorem st_printLine (B b : Nat) (hB5 : 3 ≤ B) (l : List UInt8) (x1 x2 x3 x4 : Int) (k1 : 1 ≤ x2) (k3 : x2 ≤ 3) (hi : intE (x1, x2, x3, x4)) (w : World) (hC : SP w) (h : TB B b l w) (hl : l.length ≤ 900000) (hBw : B ≤ w.heap.size) :
    Calls Tryd.prog 29 #[.pointer (some ⟨b, 0, none⟩), evSV (x1, x2, x3, x4)] w (Written B b (l ++ lineE (x1, x2, x3, x4)) w (.tuple #[])) := by
  have hblt := h.lt
  have hle := bodyE_le _ hi
  obtain ⟨T, hT⟩ : ∃ T, l ++ bodyE (x1, x2, x3, x4) = T := ⟨_, rfl⟩
  have hTl : T.length ≤ l.length + 72 := by rw [← hT, List.length_append]; omega
  have hfin : l ++ lineE (x1, x2, x3, x4) = T ++ [10] := by rw [← hT, lineE, List.append_assoc]
  rw [hfin]
  have hT2 : l ++ (((Lib.itoa x1 ++ [32]) ++ sayW x2) ++ blanks [x3, x4]) = T := by rw [← hT, bodyE_eq]
  clear hfin hT
  have hb1 := (Below.refl w.heap.size w).alloc (Nat.le_refl _) (.cells #[.int .i64 x1, .int .i64 x2, .int .i64 x3, .int .i64 x4] 62)
  have hJ : SayInv B b w.heap.size w (w.alloc (.cells #[.int .i64 x1, .int .i64 x2, .int .i64 x3, .int .i64 x4] 62)) (x1, x2, x3, x4) l :=
    ⟨h.old hb1, (Wrote.refl B b w).old hBw hb1, heap_alloc_new w _, hC.old hb1, Nat.le_trans hBw hb1.size⟩
  obtain ⟨xb, hxb⟩ : ∃ xb, w.heap.size = xb := ⟨_, rfl⟩
  obtain ⟨w1, hw1⟩ : ∃ w1, w.alloc (.cells #[.int .i64 x1, .int .i64 x2, .int .i64 x3, .int .i64 x4] 62) = w1 := ⟨_, rfl⟩
  rw [hw1, hxb] at hJ
  have hxne : xb ≠ b := by omega
  have hI1 := e_itoa_le _ hi.1
  have hIT := st_itoa x1 hi.1 w1 hJ.sp
  obtain ⟨y0, y1, y2, y3⟩ := hJ.cells
  have HJ := Lib.hid hJ
  have HT := Lib.hid hT2
  have HI := Lib.hid hi
  have HIT := Lib.hid hIT
  obtain ⟨j, hj, hj3⟩ : ∃ j : Nat, x2 = (j : Int) + 1 ∧ j < 3 := ⟨(x2 - 1).toNat, by omega, by omega⟩
  have HW := Lib.hid (show wrap64 (x2 - 1) = (j : Int) by unfold wrap64; omega)
  have HX2 := Lib.hid hj
  have hsl := (sayW_no x2).2.2
  have hbox : ∀ K : Value → World → Prop, K (.pointer (some ⟨xb, 0, none⟩)) w1 → K (.pointer (some ⟨w.heap.size, 0, none⟩)) (w.alloc (.cells #[.int .i64 x1, .int .i64 x2, .int .i64 x3, .int .i64 x4] 62)) := fun K hK => by rw [hw1, hxb]; exact hK
  clear h hC hJ hT2 hb1 hi hIT hj k1 k3
  unfold evSV
  unfold strV at HIT
  go_enter Tryd.func29, Tryd.ntmps29
  go_wp2_with fail
  refine HIT.out.mono ?_
  rintro e w2 ⟨rfl, hb2⟩
  have hJ2 := HJ.out.old hb2
  have HWS := Lib.hid (writeString_any B b l (Lib.itoa x1) w2 hJ2.tb (by omega) hJ2.size)
  have HJ2 := Lib.hid hJ2
  clear hb2 hJ2 HJ HIT y0 y1 y2 y3 hbox hw1 hxb
  unfold strV at HWS
  go_wp2_with fail
  refine HWS.out.mono ?_
  rintro e w3 ⟨rfl, ht, hw⟩
  have hJ3 := HJ2.out.put hB5 hxne ht hw
  have HWB := Lib.hid (writeByte_any B b (l ++ Lib.itoa x1) 32 w3 hJ3.tb (by rw [List.length_append]; omega) hJ3.size)
  have HJ3 := Lib.hid hJ3
  clear ht hw hJ3 HJ2 HWS
  go_wp2_with fail
  refine HWB.out.mono ?_
  rintro e w4 ⟨rfl, ht, hw⟩
  have hJ4 := HJ3.out.put hB5 hxne ht hw
  have hnm := hJ4.sp.name j hj3
  rw [← HX2.out] at hnm
  obtain ⟨y0, y1, y2, y3⟩ := hJ4.cells
  have HWS := Lib.hid (writeString_any B b ((l ++ Lib.itoa x1) ++ [32]) (sayW x2) w4 hJ4.tb (by rw [List.length_append, List.length_append, List.length_singleton]; omega) hJ4.size)
  have HJ4 := Lib.hid hJ4
  have hj0 : (0 : Int) ≤ (j : Int) := by omega
  have hjj : (j : Int) < 3 := by omega
  have hw2 := HW.out
  unfold strV at HWS hnm
  clear ht hw hJ4 HJ3 HWB
  go_wp2_with fail
  refine HWS.out.mono ?_
  rintro e w5 ⟨rfl, ht, hw⟩
  have hJ5 := HJ4.out.put hB5 hxne ht hw
  obtain ⟨z0, z1, z2, z3⟩ := hJ5.cells
  have hJ6 := hJ5
  have hT6 : (((l ++ Lib.itoa x1) ++ [32]) ++ sayW x2) ++ blanks [x3, x4] = T := by rw [← HT.out]; simp [List.append_assoc]
  have HJ6 := Lib.hid hJ6
  have HT6 := Lib.hid hT6
  have HIX := Lib.hid (index_int2 x3 x4)
  have hx5 := lt_of_block hJ5.xs
  clear ht hw hJ5 HJ4 HWS hnm y0 y1 y2 y3 hw2 hJ6 hT6 HT
  go_wp2
  go_loopw [25] (fun j wr => ∃ i : Nat, ∃ L, i ≤ 2 ∧ j = .int .i64 i ∧ SayInv B b xb w wr (x1, x2, x3, x4) L ∧ L ++ blanks ([x3, x4].drop i) = T) (fun j _ => 2 - (intOf j).toNat)
  case atStart => exact ⟨0, _, by omega, rfl, HJ6.out, HT6.out⟩
  case round =>
    obtain ⟨i, L, hi2, rfl, hJ, hL⟩ := hrel
    clear HJ6 HT6
    by_cases hlt : i < 2
    · have hii : (i : Int) < 2 := by omega
      have hix := HIX.out i hlt
      have hvi : isInt ([x3, x4].getD i 0) := by
        rcases (by omega : i = 0 ∨ i = 1) with rfl | rfl
        · exact HI.out.2.2.1
        · exact HI.out.2.2.2
      have hst : blanks ([x3, x4].drop i) = 32 :: (Lib.itoa ([x3, x4].getD i 0) ++ blanks ([x3, x4].drop (i + 1))) := by
        rcases (by omega : i = 0 ∨ i = 1) with rfl | rfl
        · rfl
        · rfl
      rw [hst] at hL
      have hLp := congrArg List.length hL
      simp only [List.length_append, List.length_cons] at hLp
      generalize [x3, x4].getD i 0 = v at *
      have HL := Lib.hid (show ((L ++ [32]) ++ Lib.itoa v) ++ blanks ([x3, x4].drop (i + 1)) = T by rw [← hL]; simp)
      have HWB := Lib.hid (writeByte_any B b L 32 wr hJ.tb (by omega) hJ.size)
      have HJ := Lib.hid hJ
      clear hL hst hJ
      go_wp2_with fail
      refine HWB.out.mono ?_
      rintro e w7 ⟨rfl, ht, hw⟩
      have hJ7 := HJ.out.put hB5 hxne ht hw
      have HIT := Lib.hid (st_itoa v hvi w7 hJ7.sp)
      have HJ7 := Lib.hid hJ7
      clear ht hw hJ7 HWB HJ
      unfold strV at HIT
      go_wp2_with fail
      refine HIT.out.mono ?_
      rintro e w8 ⟨rfl, hb8⟩
      have hJ8 := HJ7.out.old hb8
      have HWS := Lib.hid (writeString_any B b (L ++ [32]) (Lib.itoa v) w8 hJ8.tb (by rw [List.length_append, List.length_singleton]; omega) hJ8.size)
      have HJ8 := Lib.hid hJ8
      clear hb8 hJ8 HIT HJ7
      unfold strV at HWS
      go_wp2_with fail
      refine HWS.out.mono ?_
      rintro e w9 ⟨rfl, ht, hw⟩
      have HJ9 := Lib.hid (HJ8.out.put hB5 hxne ht hw)
      clear ht hw HWS HJ8
      go_wp2
      go_roundw
      case rel => exact ⟨i + 1, _, by omega, by go_num, HJ9.out, HL.out⟩
      case measure => simp [intOf]; omega
    · obtain rfl : i = 2 := by omega
      have hLT : L = T := by
        rw [← hL]
        simp [blanks]
      subst hLT
      have HWB := Lib.hid (writeByte_any B b L 10 wr hJ.tb (by omega) hJ.size)
      have HJ := Lib.hid hJ
      clear hJ hL
      go_wp2_with fail
      refine HWB.out.mono ?_
      rintro e w7 ⟨rfl, ht, hw⟩
      have HF := Lib.hid (show TB B b (L ++ [10]) w7 ∧ Wrote B b w w7 from ⟨ht, HJ.out.wrote.trans hw⟩)
      clear ht hw HWB HJ
      go_wp2
      go_end0
      exact ⟨rfl, HF.out.1, HF.out.2⟩

/-- What events are told to be as text. -/
def ToldStory (l : List Ev4) (w : World) (e : Ending) (w' : World) : Prop := Below w.heap.size w w' ∧
  ((e = .returned (.tuple #[strV (storyL l), .nilIface]) ∧ rightS 0 l) ∨ (e = .returned (.tuple #[strV [], .iface 25 (.int .i64 1)]) ∧ ¬ rightS 0 l))

set_option maxHeartbeats 4000000 in
theorem st_print (l : List Ev4) (A : Option Addr) (n c : Nat) (w : World) (hC : SP w) (hE : EvRow w A n l) (hlen : l.length = n) (hi : ∀ e ∈ l, intE e) (hn : n ≤ 10000) :
    Calls Tryd.prog 18 #[.slice A n c] w (ToldStory l w) := by
  have HR := Lib.hid (stRight_any l A n c w hE hlen (by omega))
  have HC := Lib.hid hC
  have HE := Lib.hid hE
  have hbig := hC.big
  clear hC hE
  go_enter Tryd.func18, Tryd.ntmps18
  go_wp2_with fail
  refine HR.out.mono ?_
  rintro e w1 ⟨b, rfl, hb, hb1⟩
  have HB1 := Lib.hid hb1
  clear HR
  cases b with
  | false =>
    have hno : ¬ rightS 0 l := fun h => by have := hb.2 h; cases this
    clear hb hb1
    go_wp2
    go_ret2
    exact ⟨HB1.out, .inr ⟨rfl, hno⟩⟩
  | true =>
    have hr : rightS 0 l := hb.1 rfl
    have hs1 := hb1.size
    have hT0 : TB w1.heap.size w1.heap.size [] (w1.alloc (.cells #[.pointer none, .slice none 0 0] 50)) := Lib.fresh_isBuilder _ _ w1
    have hb2 := (Below.refl w1.heap.size w1).alloc (Nat.le_refl _) (.cells #[.pointer none, .slice none 0 0] 50)
    have HH := Lib.hid (And.intro hT0 hb2)
    have HR := Lib.hid hr
    have hbig1 : 3 ≤ w1.heap.size := by omega
    have HC1 := Lib.hid (HC.out.old HB1.out)
    have HE1 := Lib.hid (HE.out.of HB1.out)
    clear hb hb1 hT0 hb2 hr HC HE
    go_wp2
    go_loopw [13] (fun j wr => ∃ i : Nat, i ≤ n ∧ j = .int .i64 i ∧ TB w1.heap.size w1.heap.size (storyL (l.take i)) wr ∧ Below w1.heap.size w1 wr) (fun j _ => n - (intOf j).toNat)
    case atStart => exact ⟨0, Nat.zero_le _, rfl, HH.out.1, HH.out.2⟩
    case round =>
      obtain ⟨i, hin, rfl, hT, hb⟩ := hrel
      clear HH
      by_cases hlt : i < n
      · have hii : (i : Int) < (n : Int) := by omega
        obtain ⟨ab, off, rfl, c1, c2, c3, c4⟩ := (HE1.out.of hb) i hlt
        have hbw : ab < wr.heap.size := World.block_lt_of_cell? wr ⟨ab, off + i * 4, none⟩ c1
        have hbne : ab ≠ wr.heap.size := by omega
        have hpt := storyL_take l i (by omega)
        have hmem : l.getD i default ∈ l := by rw [← getE (by omega : i < l.length)]; exact List.getElem_mem _
        have hie := hi _ hmem
        have hk := rightS_mem HR.out _ hmem
        have hple := storyL_le (l.take i) (fun e he => hi e (List.mem_of_mem_take he))
        rw [List.length_take] at hple
        obtain ⟨x, hx⟩ : ∃ x, l.getD i default = x := ⟨_, rfl⟩
        rw [hx] at c1 c2 c3 c4 hpt hie hk
        obtain ⟨x1, x2, x3, x4⟩ := x
        dsimp only at c1 c2 c3 c4 hk
        have hsz := hb.size
        have hbx := (Below.refl wr.heap.size wr).alloc (Nat.le_refl _) (.cells #[.int .i64 x1, .int .i64 x2, .int .i64 x3, .int .i64 x4] 62)
        have hBx := hb.alloc hsz (.cells #[.int .i64 x1, .int .i64 x2, .int .i64 x3, .int .i64 x4] 62)
        have HPL := Lib.hid (st_printLine w1.heap.size w1.heap.size hbig1 (storyL (l.take i)) x1 x2 x3 x4 hk.1 hk.2.1 hie _ ((HC1.out.old hb).old hbx) (hT.old hbx) (by omega) hBx.size)
        have HBX := Lib.hid hBx
        have HPT := Lib.hid hpt
        clear hb hT hpt hie hk hx hple hmem hbx hBx
        unfold evSV at HPL
        go_wp2_with fail
        refine HPL.out.mono ?_
        rintro e w4 ⟨rfl, ht, hw⟩
        have HF := Lib.hid (show TB w1.heap.size w1.heap.size (storyL (l.take (i + 1))) w4 ∧ Below w1.heap.size w1 w4 by rw [HPT.out]; exact ⟨ht, HBX.out.trans hw.1⟩)
        clear ht hw HPL
        go_wp2
        go_roundw
        case rel => exact ⟨i + 1, by omega, by go_num, HF.out.1, HF.out.2⟩
        case measure => simp [intOf]; omega
      · obtain rfl : i = n := by omega
        have htl : l.take i = l := List.take_of_length_le (by omega)
        rw [htl] at hT
        have HS := Lib.hid (Tryd.Builder_String_any w1.heap.size w1.heap.size (storyL l) wr hT hb.size)
        have HB := Lib.hid (HB1.out.trans (hb.mono hs1))
        have HBB := Lib.hid hb
        clear hT hb
        have hii : ¬ (i : Int) < (i : Int) := by omega
        go_wp2_with fail
        refine HS.out.mono ?_
        rintro e w4 ⟨rfl, hb4⟩
        have HB4 := Lib.hid (HB1.out.trans ((HBB.out.trans hb4).mono hs1))
        clear hb4 HS
        go_wp2
        go_ret2
        exact ⟨HB4.out, .inl ⟨rfl, HR.out⟩⟩
end Go.Proofs.YtlikbmbcjipolaaDoor
