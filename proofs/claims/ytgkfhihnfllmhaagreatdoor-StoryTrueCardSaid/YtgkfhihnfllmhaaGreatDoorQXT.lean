/-
  story: follows, Right: whether events may be. The worlds in which package story runs: its names, and the library's variables that Itoa and Atoi read; what is carried on. What a word is as a number. story: printLine and Print: events as text.
-/
import Derived.Test.YtgkfhihnfllmhaaGreatDoorQXS
import Derived.Test.YtgkfhihnfllmhaaGreatDoorQXE2
import Derived.Test.YtgkfhihnfllmhaaGreatDoorQXB
import Derived.BigRegion
import Derived.Test.YtgkfhihnfllmhaaGreatDoorQXT0
namespace Go.Proofs.YtgkfhihnfllmhaaGreatDoor
set_option maxRecDepth 100000
open Go.RowKit Go.Sort
set_option linter.unusedVariables false
set_option linter.unusedSimpArgs false

/-- An event as a value. -/
def evSV (e : Ev4) : Value := .agg #[.int .i64 e.1, .int .i64 e.2.1, .int .i64 e.2.2.1, .int .i64 e.2.2.2]

theorem getE {l : List Ev4} {i : Nat} (h : i < l.length) : l[i] = l.getD i default := by
  rw [List.getD_eq_getElem?_getD, List.getElem?_eq_getElem h]; rfl
theorem rightS_step {ah : Int} {l : List Ev4} {i : Nat} (h : i < l.length) : rightS ah (l.take (i + 1)) ↔ rightS ah (l.take i) ∧ rightE (lastW ah (l.take i)) (l.getD i default) := by
  rw [List.take_succ_eq_append_getElem h, rightS_snoc, getE h]
theorem lastW_step {ah : Int} {l : List Ev4} {i : Nat} (h : i < l.length) : lastW ah (l.take (i + 1)) = (l.getD i default).1 := by
  rw [List.take_succ_eq_append_getElem h, lastW_snoc, getE h]
theorem rightS_no {ah : Int} {l : List Ev4} {i : Nat} (h : ¬ rightS ah (l.take i)) : ¬ rightS ah l := fun hr => by
  rw [← List.take_append_drop i l, rightS_append] at hr
  exact h hr.1

set_option maxHeartbeats 1000000 in
theorem follows_any (e : Ev4) (ah : Int) (w : World) : Calls Tryz.prog 67 #[evSV e, .int .i64 ah] w fun r w' => r = .returned (.bool (decide (rightE ah e))) ∧ Below w.heap.size w w' := by
  obtain ⟨a, b, c, d⟩ := e
  unfold evSV
  have hg := (Below.refl w.heap.size w).alloc (Nat.le_refl _) (.cells #[.int .i64 a, .int .i64 b, .int .i64 c, .int .i64 d] 48)
  have HG := Lib.hid hg
  clear hg
  by_cases h1 : ah < a
  · by_cases h2 : 1 ≤ b
    · by_cases h3 : b ≤ 3
      · by_cases h4 : 0 ≤ c
        · by_cases h5 : c < 16
          · rw [decide_eq_true (show rightE ah (a, b, c, d) from ⟨h1, h2, h3, h4, h5⟩)]
            go_enter Tryz.func67, Tryz.ntmps67
            go_wp2
            go_ret
            exact ⟨rfl, HG.out⟩
          · rw [decide_eq_false (show ¬ rightE ah (a, b, c, d) from fun h => h5 h.2.2.2.2)]
            go_enter Tryz.func67, Tryz.ntmps67
            go_wp2
            go_ret
            exact ⟨rfl, HG.out⟩
        · rw [decide_eq_false (show ¬ rightE ah (a, b, c, d) from fun h => h4 h.2.2.2.1)]
          go_enter Tryz.func67, Tryz.ntmps67
          go_wp2
          go_ret
          exact ⟨rfl, HG.out⟩
      · rw [decide_eq_false (show ¬ rightE ah (a, b, c, d) from fun h => h3 h.2.2.1)]
        go_enter Tryz.func67, Tryz.ntmps67
        go_wp2
        go_ret
        exact ⟨rfl, HG.out⟩
    · rw [decide_eq_false (show ¬ rightE ah (a, b, c, d) from fun h => h2 h.2.1)]
      go_enter Tryz.func67, Tryz.ntmps67
      go_wp2
      go_ret
      exact ⟨rfl, HG.out⟩
  · rw [decide_eq_false (show ¬ rightE ah (a, b, c, d) from fun h => h1 h.1)]
    go_enter Tryz.func67, Tryz.ntmps67
    go_wp2
    go_ret
    exact ⟨rfl, HG.out⟩

/-- Whether events may be. -/
def ToldRightE (l : List Ev4) (w : World) (e : Ending) (w' : World) : Prop := ∃ b : Bool, e = .returned (.bool b) ∧ (b = true ↔ rightS 0 l) ∧ Below w.heap.size w w'

set_option maxHeartbeats 1000000 in
theorem stRight_any (l : List Ev4) (A : Option Addr) (n c : Nat) (w : World) (hE : EvRow w A n l) (hlen : l.length = n) (hn : n ≤ 1000000) :
    Calls Tryz.prog 62 #[.slice A n c] w (ToldRightE l w) := by
  have HE := Lib.hid hE
  clear hE
  go_enter Tryz.func62, Tryz.ntmps62
  go_wp2
  go_loopw [3, 8] (fun av j wr => ∃ i : Nat, i ≤ n ∧ j = .int .i64 i ∧ av = .int .i64 (lastW 0 (l.take i)) ∧ rightS 0 (l.take i) ∧ Below w.heap.size w wr) (fun _ j _ => n - (intOf j).toNat)
  case atStart => exact ⟨0, Nat.zero_le _, rfl, rfl, trivial, Below.refl _ _⟩
  case round =>
    obtain ⟨i, hin, rfl, rfl, hr, hb⟩ := hrel
    by_cases hlt : i < n
    · have hii : (i : Int) < (n : Int) := by omega
      obtain ⟨ab, off, rfl, c1, c2, c3, c4⟩ := (HE.out.of hb) i hlt
      have hbw : ab < wr.heap.size := World.block_lt_of_cell? wr ⟨ab, off + i * 4, none⟩ c1
      have hbne : ab ≠ wr.heap.size := by omega
      have hst := rightS_step (ah := 0) (l := l) (i := i) (by omega)
      have hls := lastW_step (ah := 0) (l := l) (i := i) (by omega)
      obtain ⟨x, hx⟩ : ∃ x, l.getD i default = x := ⟨_, rfl⟩
      rw [hx] at c1 c2 c3 c4 hst hls
      obtain ⟨x1, x2, x3, x4⟩ := x
      dsimp only at c1 c2 c3 c4 hls
      have HF := Lib.hid (fun w => follows_any (x1, x2, x3, x4) (lastW 0 (l.take i)) w)
      have HB := Lib.hid hb
      have HR := Lib.hid hr
      have HST := Lib.hid hst
      have HLS := Lib.hid hls
      have hsz := hb.size
      have HN := Lib.hid (fun h => rightS_no (ah := 0) (l := l) (i := i + 1) h)
      unfold evSV at HF
      dsimp only at HF
      clear hb hr hst hls hx
      generalize lastW 0 (l.take i) = ah at *
      by_cases hE : rightE ah (x1, x2, x3, x4)
      · rw [decide_eq_true hE] at HF
        clear HN
        go_wp2_with fail
        refine (HF.out _).mono ?_
        rintro e w2 ⟨rfl, hg⟩
        have HB2 := Lib.hid ((HB.out.alloc hsz (.cells #[.int .i64 x1, .int .i64 x2, .int .i64 x3, .int .i64 x4] 48)).trans (hg.mono (HB.out.alloc hsz (.cells #[.int .i64 x1, .int .i64 x2, .int .i64 x3, .int .i64 x4] 48)).size))
        have hc0 : w2.cell? ⟨wr.heap.size, 0, none⟩ = some (.int .i64 x1) := by
          rw [cell_of_row w2 wr.heap.size 0 _ _ _ ((hg.block wr.heap.size (by simp)).trans (heap_alloc_new wr _))]; rfl
        clear hg
        go_wp2
        go_roundw
        case rel => exact ⟨i + 1, by omega, by go_num, by rw [HLS.out], HST.out.2 ⟨HR.out, hE⟩, HB2.out⟩
        case measure => simp [intOf]; omega
      · rw [decide_eq_false hE] at HF
        have HNN := Lib.hid (HN.out fun h => hE (HST.out.1 h).2)
        clear HN
        go_wp2_with fail
        refine (HF.out _).mono ?_
        rintro e w2 ⟨rfl, hg⟩
        have HB2 := Lib.hid ((HB.out.alloc hsz (.cells #[.int .i64 x1, .int .i64 x2, .int .i64 x3, .int .i64 x4] 48)).trans (hg.mono (HB.out.alloc hsz (.cells #[.int .i64 x1, .int .i64 x2, .int .i64 x3, .int .i64 x4] 48)).size))
        go_wp2
        go_ret
        exact ⟨false, rfl, ⟨(fun h => by cases h), fun h => absurd h HNN.out⟩, HB2.out⟩
    · obtain rfl : i = n := by omega
      rw [List.take_of_length_le (by omega)] at hr
      have hii : ¬ (i : Int) < (i : Int) := by omega
      go_wp2
      go_ret
      exact ⟨true, rfl, ⟨fun _ => hr, fun _ => rfl⟩, hb⟩
end Go.Proofs.YtgkfhihnfllmhaaGreatDoor

namespace Go.Proofs.YtgkfhihnfllmhaaGreatDoor
set_option maxRecDepth 100000
open Go.RowKit Go.Sort
set_option linter.unusedVariables false
set_option linter.unusedSimpArgs false

theorem g_sayn : Tryz.prog.globalNamed "quadrille/story.names" = some 0 := by kernel_rfl
theorem g_spow : Tryz.prog.globalNamed "internal/strconv.uint64pow10" = some 4 := by kernel_rfl

def sayCells : Array Value := #[.string ⟨#[99, 97, 109, 101]⟩, .string ⟨#[103, 111, 110, 101]⟩, .string ⟨#[116, 111, 108, 100]⟩]

/-- What is wanted to print. -/
structure SP (w : World) : Prop where
  names : w.var? Tryz.prog "quadrille/story.names" = some sayCells
  pow : Lib.TabIs Tryz.prog w "internal/strconv.uint64pow10" .u64 Lib.pow10Tab
  big : 5 ≤ w.heap.size

theorem SP.below {w w' : World} {B : Nat} (h : SP w) (hb : Below B w w') (hB : 5 ≤ B) : SP w' :=
  ⟨var?_below hb g_sayn (by omega) h.names, var?_below hb g_spow (by omega) h.pow, Nat.le_trans h.big hb.size⟩
theorem SP.old {w w' : World} (h : SP w) (hb : Below w.heap.size w w') : SP w' := h.below hb h.big

/-- What is wanted to parse. -/
structure SR (w : World) : Prop where
  sp : SP w
  es : ∃ te pe, w.cell? ⟨5, 0, none⟩ = some (.iface te pe)
  er : ∃ te pe, w.cell? ⟨6, 0, none⟩ = some (.iface te pe)

theorem SR.old {w w' : World} (h : SR w) (hb : Below w.heap.size w w') : SR w' := by
  refine ⟨h.sp.old hb, ?_, ?_⟩
  · obtain ⟨te, pe, he⟩ := h.es
    exact ⟨te, pe, (hb.cell (p := ⟨5, 0, none⟩) (World.block_lt_of_cell? w ⟨5, 0, none⟩ he)).trans he⟩
  · obtain ⟨te, pe, he⟩ := h.er
    exact ⟨te, pe, (hb.cell (p := ⟨6, 0, none⟩) (World.block_lt_of_cell? w ⟨6, 0, none⟩ he)).trans he⟩

theorem SP.name {w : World} (h : SP w) : ∀ j, j < 3 → w.cell? ⟨0, j, none⟩ = some (strV (sayW ((j : Nat) + 1 : Int)))
  | 0, _ => by rw [World.var?_cell g_sayn h.names]; rfl
  | 1, _ => by rw [World.var?_cell g_sayn h.names]; rfl
  | 2, _ => by rw [World.var?_cell g_sayn h.names]; rfl
  | n + 3, h => absurd h (by omega)

theorem st_itoa (n : Int) (hn : isInt n) (w : World) (h : SP w) : Calls Tryz.prog 92 #[.int .i64 n] w fun e w' => e = .returned (strV (Lib.itoa n)) ∧ Below w.heap.size w w' :=
  (Tryz.strconv_Itoa n hn.1 hn.2 w h.pow).mono fun _ _ ⟨he, hg⟩ => ⟨he, old_grow hg⟩

/-- What Atoi tells: a number and no error, or an error. -/
def StNum (s : List UInt8) (w : World) (e : Ending) (w' : World) : Prop := Below w.heap.size w w' ∧
  ((∃ n, Lib.atoiAll s = .ok n ∧ e = .returned (.tuple #[.int .i64 n, .nilIface])) ∨ ((∀ n, Lib.atoiAll s ≠ .ok n) ∧ ∃ n N, e = .returned (.tuple #[.int .i64 n, .iface 300 (.pointer (some ⟨N, 0, none⟩))])))

theorem st_atoi (s : List UInt8) (hs : s.length ≤ 4294967280) (w : World) (h : SR w) : Calls Tryz.prog 135 #[strV s] w (StNum s w) := by
  have hd : (⟨s.toArray⟩ : ByteArray).data.toList = s := by simp
  have hz : (⟨s.toArray⟩ : ByteArray).size = s.length := by simp [ByteArray.size]
  obtain ⟨t1, p1, hes⟩ := h.es
  obtain ⟨t2, p2, her⟩ := h.er
  rcases hr : Lib.atoiAll s with v | _ | _
  · exact (Tryz.strconv_Atoi_ok ⟨s.toArray⟩ (by omega) v (by rw [hd]; exact hr) w).mono fun _ _ ⟨he, hw⟩ => ⟨old_bytes hw, .inl ⟨v, hr, he⟩⟩
  · exact (Tryz.strconv_Atoi_syntax ⟨s.toArray⟩ (by omega) (by rw [hd, hr]; intro v hv; cases hv) (by rw [hd, hr]; intro hv; cases hv) _ w hes (.inr ⟨_, _, rfl⟩)).mono fun _ _ ⟨N, he, _, _, hb⟩ => ⟨hb, .inr ⟨(fun n hn => by rw [hr] at hn; cases hn), _, N, he⟩⟩
  · exact (Tryz.strconv_Atoi_range ⟨s.toArray⟩ (by omega) (by rw [hd]; exact hr) _ w her (.inr ⟨_, _, rfl⟩)).mono fun _ _ ⟨N, he, _, _, hb⟩ => ⟨hb, .inr ⟨(fun n hn => by rw [hr] at hn; cases hn), _, N, he⟩⟩

/-- What a word is told to be. -/
def StWord (s : List UInt8) (w : World) (e : Ending) (w' : World) : Prop := Below w.heap.size w w' ∧ ∃ m b, e = .returned (.tuple #[.int .i64 m, .bool b]) ∧ ((b = true ∧ numL s = some m) ∨ (b = false ∧ numL s = none))

set_option maxHeartbeats 1000000 in
theorem st_number (s : List UInt8) (hs : s.length ≤ 4294967280) (w : World) (h : SR w) : Calls Tryz.prog 95 #[strV s] w (StWord s w) := by
  have HA := Lib.hid (st_atoi s hs w h)
  have HC := Lib.hid h
  clear h
  unfold strV at HA ⊢
  go_enter Tryz.func95, Tryz.ntmps95
  go_wp2_with fail
  refine HA.out.mono ?_
  rintro e w1 ⟨hb, ⟨n, hn, rfl⟩ | ⟨hn, n, N, rfl⟩⟩
  · have HI := Lib.hid (st_itoa n (atoiAll_int hn) w1 (HC.out.old hb).sp)
    by_cases he : Lib.itoa n = s
    · have hN : numL s = some n := by unfold numL; rw [hn]; simp [he]
      go_wp2_with fail
      refine HI.out.mono ?_
      rintro e w2 ⟨rfl, hb2⟩
      unfold strV
      rw [he]
      go_wp2
      go_ret2
      exact ⟨hb.trans (hb2.mono hb.size), n, true, rfl, .inl ⟨rfl, hN⟩⟩
    · have hN : numL s = none := by unfold numL; rw [hn]; simp [he]
      have hnb : ((⟨(Lib.itoa n).toArray⟩ : ByteArray).toList == (⟨s.toArray⟩ : ByteArray).toList) = false := by
        rw [Lib.toList_data, Lib.toList_data]
        simpa using he
      go_wp2_with fail
      refine HI.out.mono ?_
      rintro e w2 ⟨rfl, hb2⟩
      unfold strV
      generalize (⟨(Lib.itoa n).toArray⟩ : ByteArray) = S at *
      generalize (⟨s.toArray⟩ : ByteArray) = T at *
      go_wp2
      go_ret2
      exact ⟨hb.trans (hb2.mono hb.size), 0, false, rfl, .inr ⟨rfl, hN⟩⟩
  · have hN : numL s = none := by
      unfold numL
      rcases hr : Lib.atoiAll s with v | _ | _
      · exact absurd hr (hn v)
      all_goals rfl
    go_wp2
    go_ret2
    exact ⟨hb, 0, false, rfl, .inr ⟨rfl, hN⟩⟩
end Go.Proofs.YtgkfhihnfllmhaaGreatDoor

namespace Go.Proofs.YtgkfhihnfllmhaaGreatDoor
set_option maxRecDepth 100000
open Go.RowKit Go.Sort
set_option linter.unusedVariables false
set_option linter.unusedSimpArgs false

theorem e_nDigits_le : ∀ (k u : Nat), u < 10 ^ (k + 1) → Lib.nDigits u ≤ k + 1
  | 0, u, h => by rw [Lib.nDigits_small (by simpa using h)]; exact Nat.le_refl _
  | k + 1, u, h => by
    by_cases hu : u < 10
    · rw [Lib.nDigits_small hu]; omega
    · rw [Lib.nDigits_big hu]
      have := e_nDigits_le k (u / 10) (by rw [Nat.pow_succ] at h; omega)
      omega
theorem e_itoa_le (n : Int) (h : isInt n) : (Lib.itoa n).length ≤ 21 := by
  unfold isInt at h
  have key : ∀ u : Nat, u < 10 ^ 20 → (Lib.decDigits u).length ≤ 20 := fun u hu => by
    rw [Lib.decDigits_length]
    exact e_nDigits_le 19 u hu
  unfold Lib.itoa
  split
  · have := key n.natAbs (by omega)
    rw [List.length_cons]
    omega
  · have := key n.toNat (by omega)
    omega

/-- Numbers, each behind a blank. -/
def blanks (l : List Int) : List UInt8 := l.flatMap fun n => 32 :: Lib.itoa n
theorem bodyE_eq (e : Ev4) : bodyE e = ((Lib.itoa e.1 ++ [32]) ++ sayW e.2.1) ++ blanks [e.2.2.1, e.2.2.2] := by
  unfold bodyE
  simp [blanks]
theorem bodyE_le (e : Ev4) (h : intE e) : (bodyE e).length ≤ 72 := by
  have h1 := e_itoa_le _ h.1
  have h2 := (sayW_no e.2.1).2.2
  have h3 := e_itoa_le _ h.2.2.1
  have h4 := e_itoa_le _ h.2.2.2
  unfold bodyE
  simp only [List.length_append, List.length_cons]
  omega
theorem lineE_le (e : Ev4) (h : intE e) : (lineE e).length ≤ 73 := by
  have := bodyE_le e h
  unfold lineE
  rw [List.length_append, List.length_singleton]
  omega
theorem storyL_le : ∀ (l : List Ev4), (∀ e ∈ l, intE e) → (storyL l).length ≤ 73 * l.length
  | [], _ => by simp [storyL]
  | e :: l, h => by
    have h1 := lineE_le e (h e (by simp))
    have h2 := storyL_le l fun x hx => h x (by simp [hx])
    show (lineE e ++ storyL l).length ≤ _
    rw [List.length_append, List.length_cons]
    omega
theorem storyL_take (l : List Ev4) (i : Nat) (h : i < l.length) : storyL (l.take (i + 1)) = storyL (l.take i) ++ lineE (l.getD i default) := by
  rw [List.take_succ_eq_append_getElem h, storyL_append, getE h, storyL_one]

theorem TB.old {B b : Nat} {l : List UInt8} {w w' : World} (h : TB B b l w) (hb : Below w.heap.size w w') : TB B b l w' := by
  have key : ∀ p, Lib.BuilderAt 130 5 B b p (Lib.byteCells l) w → Lib.BuilderAt 130 5 B b p (Lib.byteCells l) w' := fun p hp => by
    have hlt := hp.lt
    obtain ⟨hB, v, hh, hown, hne⟩ := hp
    exact ⟨hB, v, (hb.block b hlt).trans hh, hown.kept (grown_of_old hb) (Classical.em _), hne⟩
  rcases h with h | h
  · exact .inl (key _ h)
  · exact .inr (key _ h)
theorem TB.lt {B b : Nat} {l : List UInt8} {w : World} (h : TB B b l w) : b < w.heap.size := by
  rcases h with h | h
  · exact h.lt
  · exact h.lt
theorem Wrote.old {B b : Nat} {w0 w w' : World} (h : Wrote B b w0 w) (hB : B ≤ w.heap.size) (hb : Below w.heap.size w w') : Wrote B b w0 w' :=
  ⟨h.1.trans (hb.mono hB), fun k o hk hkb hko => by
    have h1 := h.2 k o hk hkb hko
    exact (hb.block k (Array.getElem?_eq_some_iff.1 h1).1).trans h1⟩
/-- A block of an event stands. -/
theorem Wrote.event {B b xb : Nat} {w w' : World} {cs : Array Value} (h : Wrote B b w w') (hx : w.heap[xb]? = some (.cells cs 48 (0, 0))) (hne : xb ≠ b) : w'.heap[xb]? = some (.cells cs 48 (0, 0)) :=
  h.2 xb _ hx (by simpa using hne) (fun c fz e => by injection e with _ e; exact absurd e (by decide))

/-- What holds while an event is printed. -/
structure SayInv (B b xb : Nat) (w wr : World) (x : Ev4) (L : List UInt8) : Prop where
  tb : TB B b L wr
  wrote : Wrote B b w wr
  xs : wr.heap[xb]? = some (.cells #[.int .i64 x.1, .int .i64 x.2.1, .int .i64 x.2.2.1, .int .i64 x.2.2.2] 48 (0, 0))
  sp : SP wr
  size : B ≤ wr.heap.size
theorem SayInv.put {B b xb : Nat} {w wr wr' : World} {x : Ev4} {L L' : List UInt8} (h : SayInv B b xb w wr x L) (hB5 : 5 ≤ B) (hne : xb ≠ b) (ht : TB B b L' wr') (hw : Wrote B b wr wr') : SayInv B b xb w wr' x L' :=
  ⟨ht, h.wrote.trans hw, hw.event h.xs hne, h.sp.below hw.1 hB5, Nat.le_trans h.size hw.1.size⟩
theorem SayInv.old {B b xb : Nat} {w wr wr' : World} {x : Ev4} {L : List UInt8} (h : SayInv B b xb w wr x L) (hb : Below wr.heap.size wr wr') : SayInv B b xb w wr' x L :=
  ⟨h.tb.old hb, h.wrote.old h.size hb, (hb.block xb (lt_of_block h.xs)).trans h.xs, h.sp.old hb, Nat.le_trans h.size hb.size⟩
theorem SayInv.cells {B b xb : Nat} {w wr : World} {x1 x2 x3 x4 : Int} {L : List UInt8} (h : SayInv B b xb w wr (x1, x2, x3, x4) L) :
    wr.cell? ⟨xb, 0, none⟩ = some (.int .i64 x1) ∧ wr.cell? ⟨xb, 1, none⟩ = some (.int .i64 x2) ∧ wr.cell? ⟨xb, 2, none⟩ = some (.int .i64 x3) ∧ wr.cell? ⟨xb, 3, none⟩ = some (.int .i64 x4) :=
  ⟨by rw [cell_of_row wr xb 0 _ _ _ h.xs]; rfl, by rw [cell_of_row wr xb 1 _ _ _ h.xs]; rfl, by rw [cell_of_row wr xb 2 _ _ _ h.xs]; rfl, by rw [cell_of_row wr xb 3 _ _ _ h.xs]; rfl⟩

theorem index_int2 (a b : Int) : ∀ (i : Nat), i < 2 → ∀ w : World, (Instr.index 74 (.agg #[.int .i64 a, .int .i64 b]) (.int .i64 (i : Int))).run Tryz.prog w = .ok (.int .i64 ([a, b].getD i 0)) w
  | 0, _ => fun _ => by kernel_rfl
  | 1, _ => fun _ => by kernel_rfl
  | n + 2, h => absurd h (by omega)

set_option maxHeartbeats 4000000 in
theorem st_printLine (B b : Nat) (hB5 : 5 ≤ B) (l : List UInt8) (x1 x2 x3 x4 : Int) (k1 : 1 ≤ x2) (k3 : x2 ≤ 3) (hi : intE (x1, x2, x3, x4)) (w : World) (hC : SP w) (h : TB B b l w) (hl : l.length ≤ 900000) (hBw : B ≤ w.heap.size) :
    Calls Tryz.prog 63 #[.pointer (some ⟨b, 0, none⟩), evSV (x1, x2, x3, x4)] w (Written B b (l ++ lineE (x1, x2, x3, x4)) w (.tuple #[])) := by
  have hblt := h.lt
  have hle := bodyE_le _ hi
  obtain ⟨T, hT⟩ : ∃ T, l ++ bodyE (x1, x2, x3, x4) = T := ⟨_, rfl⟩
  have hTl : T.length ≤ l.length + 72 := by rw [← hT, List.length_append]; omega
  have hfin : l ++ lineE (x1, x2, x3, x4) = T ++ [10] := by rw [← hT, lineE, List.append_assoc]
  rw [hfin]
  have hT2 : l ++ (((Lib.itoa x1 ++ [32]) ++ sayW x2) ++ blanks [x3, x4]) = T := by rw [← hT, bodyE_eq]
  clear hfin hT
  have hb1 := (Below.refl w.heap.size w).alloc (Nat.le_refl _) (.cells #[.int .i64 x1, .int .i64 x2, .int .i64 x3, .int .i64 x4] 48)
  have hJ : SayInv B b w.heap.size w (w.alloc (.cells #[.int .i64 x1, .int .i64 x2, .int .i64 x3, .int .i64 x4] 48)) (x1, x2, x3, x4) l :=
    ⟨h.old hb1, (Wrote.refl B b w).old hBw hb1, heap_alloc_new w _, hC.old hb1, Nat.le_trans hBw hb1.size⟩
  obtain ⟨xb, hxb⟩ : ∃ xb, w.heap.size = xb := ⟨_, rfl⟩
  obtain ⟨w1, hw1⟩ : ∃ w1, w.alloc (.cells #[.int .i64 x1, .int .i64 x2, .int .i64 x3, .int .i64 x4] 48) = w1 := ⟨_, rfl⟩
  rw [hw1, hxb] at hJ
  have hxne : xb ≠ b := by omega
  have hI1 := e_itoa_le _ hi.1
  have hIT := st_itoa x1 hi.1 w1 hJ.sp
  obtain ⟨y0, y1, y2, y3⟩ := hJ.cells
  have HJ := Lib.hid hJ
  have HT := Lib.hid hT2
  have HI := Lib.hid hi
  have HIT := Lib.hid hIT
  obtain ⟨j, hj, hj3⟩ : ∃ j : Nat, x2 = (j : Int) + 1 ∧ j < 3 := ⟨(x2 - 1).toNat, by omega, by omega⟩
  have HW := Lib.hid (show wrap64 (x2 - 1) = (j : Int) by unfold wrap64; omega)
  have HX2 := Lib.hid hj
  have hsl := (sayW_no x2).2.2
  have hbox : ∀ K : Value → World → Prop, K (.pointer (some ⟨xb, 0, none⟩)) w1 → K (.pointer (some ⟨w.heap.size, 0, none⟩)) (w.alloc (.cells #[.int .i64 x1, .int .i64 x2, .int .i64 x3, .int .i64 x4] 48)) := fun K hK => by rw [hw1, hxb]; exact hK
  clear h hC hJ hT2 hb1 hi hIT hj k1 k3
  unfold evSV
  unfold strV at HIT
  go_enter Tryz.func63, Tryz.ntmps63
  go_wp2_with fail
  refine HIT.out.mono ?_
  rintro e w2 ⟨rfl, hb2⟩
  have hJ2 := HJ.out.old hb2
  have HWS := Lib.hid (writeString_any B b l (Lib.itoa x1) w2 hJ2.tb (by omega) hJ2.size)
  have HJ2 := Lib.hid hJ2
  clear hb2 hJ2 HJ HIT y0 y1 y2 y3 hbox hw1 hxb
  unfold strV at HWS
  go_wp2_with fail
  refine HWS.out.mono ?_
  rintro e w3 ⟨rfl, ht, hw⟩
  have hJ3 := HJ2.out.put hB5 hxne ht hw
  have HWB := Lib.hid (writeByte_any B b (l ++ Lib.itoa x1) 32 w3 hJ3.tb (by rw [List.length_append]; omega) hJ3.size)
  have HJ3 := Lib.hid hJ3
  clear ht hw hJ3 HJ2 HWS
  go_wp2_with fail
  refine HWB.out.mono ?_
  rintro e w4 ⟨rfl, ht, hw⟩
  have hJ4 := HJ3.out.put hB5 hxne ht hw
  have hnm := hJ4.sp.name j hj3
  rw [← HX2.out] at hnm
  obtain ⟨y0, y1, y2, y3⟩ := hJ4.cells
  have HWS := Lib.hid (writeString_any B b ((l ++ Lib.itoa x1) ++ [32]) (sayW x2) w4 hJ4.tb (by rw [List.length_append, List.length_append, List.length_singleton]; omega) hJ4.size)
  have HJ4 := Lib.hid hJ4
  have hj0 : (0 : Int) ≤ (j : Int) := by omega
  have hjj : (j : Int) < 3 := by omega
  have hw2 := HW.out
  unfold strV at HWS hnm
  clear ht hw hJ4 HJ3 HWB
  go_wp2_with fail
  refine HWS.out.mono ?_
  rintro e w5 ⟨rfl, ht, hw⟩
  have hJ5 := HJ4.out.put hB5 hxne ht hw
  obtain ⟨z0, z1, z2, z3⟩ := hJ5.cells
  have hJ6 := hJ5
  have hT6 : (((l ++ Lib.itoa x1) ++ [32]) ++ sayW x2) ++ blanks [x3, x4] = T := by rw [← HT.out]; simp [List.append_assoc]
  have HJ6 := Lib.hid hJ6
  have HT6 := Lib.hid hT6
  have HIX := Lib.hid (index_int2 x3 x4)
  have hx5 := lt_of_block hJ5.xs
  clear ht hw hJ5 HJ4 HWS hnm y0 y1 y2 y3 hw2 hJ6 hT6 HT
  go_wp2
  go_loopw [25] (fun j wr => ∃ i : Nat, ∃ L, i ≤ 2 ∧ j = .int .i64 i ∧ SayInv B b xb w wr (x1, x2, x3, x4) L ∧ L ++ blanks ([x3, x4].drop i) = T) (fun j _ => 2 - (intOf j).toNat)
  case atStart => exact ⟨0, _, by omega, rfl, HJ6.out, HT6.out⟩
  case round =>
    obtain ⟨i, L, hi2, rfl, hJ, hL⟩ := hrel
    clear HJ6 HT6
    by_cases hlt : i < 2
    · have hii : (i : Int) < 2 := by omega
      have hix := HIX.out i hlt
      have hvi : isInt ([x3, x4].getD i 0) := by
        rcases (by omega : i = 0 ∨ i = 1) with rfl | rfl
        · exact HI.out.2.2.1
        · exact HI.out.2.2.2
      have hst : blanks ([x3, x4].drop i) = 32 :: (Lib.itoa ([x3, x4].getD i 0) ++ blanks ([x3, x4].drop (i + 1))) := by
        rcases (by omega : i = 0 ∨ i = 1) with rfl | rfl
        · rfl
        · rfl
      rw [hst] at hL
      have hLp := congrArg List.length hL
      simp only [List.length_append, List.length_cons] at hLp
      generalize [x3, x4].getD i 0 = v at *
      have HL := Lib.hid (show ((L ++ [32]) ++ Lib.itoa v) ++ blanks ([x3, x4].drop (i + 1)) = T by rw [← hL]; simp)
      have HWB := Lib.hid (writeByte_any B b L 32 wr hJ.tb (by omega) hJ.size)
      have HJ := Lib.hid hJ
      clear hL hst hJ
      go_wp2_with fail
      refine HWB.out.mono ?_
      rintro e w7 ⟨rfl, ht, hw⟩
      have hJ7 := HJ.out.put hB5 hxne ht hw
      have HIT := Lib.hid (st_itoa v hvi w7 hJ7.sp)
      have HJ7 := Lib.hid hJ7
      clear ht hw hJ7 HWB HJ
      unfold strV at HIT
      go_wp2_with fail
      refine HIT.out.mono ?_
      rintro e w8 ⟨rfl, hb8⟩
      have hJ8 := HJ7.out.old hb8
      have HWS := Lib.hid (writeString_any B b (L ++ [32]) (Lib.itoa v) w8 hJ8.tb (by rw [List.length_append, List.length_singleton]; omega) hJ8.size)
      have HJ8 := Lib.hid hJ8
      clear hb8 hJ8 HIT HJ7
      unfold strV at HWS
      go_wp2_with fail
      refine HWS.out.mono ?_
      rintro e w9 ⟨rfl, ht, hw⟩
      have HJ9 := Lib.hid (HJ8.out.put hB5 hxne ht hw)
      clear ht hw HWS HJ8
      go_wp2
      go_roundw
      case rel => exact ⟨i + 1, _, by omega, by go_num, HJ9.out, HL.out⟩
      case measure => simp [intOf]; omega
    · obtain rfl : i = 2 := by omega
      have hLT : L = T := by
        rw [← hL]
        simp [blanks]
      subst hLT
      have HWB := Lib.hid (writeByte_any B b L 10 wr hJ.tb (by omega) hJ.size)
      have HJ := Lib.hid hJ
      clear hJ hL
      go_wp2_with fail
      refine HWB.out.mono ?_
      rintro e w7 ⟨rfl, ht, hw⟩
      have HF := Lib.hid (show TB B b (L ++ [10]) w7 ∧ Wrote B b w w7 from ⟨ht, HJ.out.wrote.trans hw⟩)
      clear ht hw HWB HJ
      go_wp2
      go_end0
      exact ⟨rfl, HF.out.1, HF.out.2⟩

/-- What events are told to be as text. -/
def ToldStory (l : List Ev4) (w : World) (e : Ending) (w' : World) : Prop := Below w.heap.size w w' ∧
  ((e = .returned (.tuple #[strV (storyL l), .nilIface]) ∧ rightS 0 l) ∨ (e = .returned (.tuple #[strV [], .iface 101 (.int .i64 1)]) ∧ ¬ rightS 0 l))

set_option maxHeartbeats 4000000 in
theorem st_print (l : List Ev4) (A : Option Addr) (n c : Nat) (w : World) (hC : SP w) (hE : EvRow w A n l) (hlen : l.length = n) (hi : ∀ e ∈ l, intE e) (hn : n ≤ 10000) :
    Calls Tryz.prog 25 #[.slice A n c] w (ToldStory l w) := by
  have HR := Lib.hid (stRight_any l A n c w hE hlen (by omega))
  have HC := Lib.hid hC
  have HE := Lib.hid hE
  have hbig := hC.big
  clear hC hE
  go_enter Tryz.func25, Tryz.ntmps25
  go_wp2_with fail
  refine HR.out.mono ?_
  rintro e w1 ⟨b, rfl, hb, hb1⟩
  have HB1 := Lib.hid hb1
  clear HR
  cases b with
  | false =>
    have hno : ¬ rightS 0 l := fun h => by have := hb.2 h; cases this
    clear hb hb1
    go_wp2
    go_ret2
    exact ⟨HB1.out, .inr ⟨rfl, hno⟩⟩
  | true =>
    have hr : rightS 0 l := hb.1 rfl
    have hs1 := hb1.size
    have hT0 : TB w1.heap.size w1.heap.size [] (w1.alloc (.cells #[.pointer none, .slice none 0 0] 130)) := Lib.fresh_isBuilder _ _ w1
    have hb2 := (Below.refl w1.heap.size w1).alloc (Nat.le_refl _) (.cells #[.pointer none, .slice none 0 0] 130)
    have HH := Lib.hid (And.intro hT0 hb2)
    have HR := Lib.hid hr
    have hbig1 : 5 ≤ w1.heap.size := by omega
    have HC1 := Lib.hid (HC.out.old HB1.out)
    have HE1 := Lib.hid (HE.out.of HB1.out)
    clear hb hb1 hT0 hb2 hr HC HE
    go_wp2
    go_loopw [13] (fun j wr => ∃ i : Nat, i ≤ n ∧ j = .int .i64 i ∧ TB w1.heap.size w1.heap.size (storyL (l.take i)) wr ∧ Below w1.heap.size w1 wr) (fun j _ => n - (intOf j).toNat)
    case atStart => exact ⟨0, Nat.zero_le _, rfl, HH.out.1, HH.out.2⟩
    case round =>
      obtain ⟨i, hin, rfl, hT, hb⟩ := hrel
      clear HH
      by_cases hlt : i < n
      · have hii : (i : Int) < (n : Int) := by omega
        obtain ⟨ab, off, rfl, c1, c2, c3, c4⟩ := (HE1.out.of hb) i hlt
        have hbw : ab < wr.heap.size := World.block_lt_of_cell? wr ⟨ab, off + i * 4, none⟩ c1
        have hbne : ab ≠ wr.heap.size := by omega
        have hpt := storyL_take l i (by omega)
        have hmem : l.getD i default ∈ l := by rw [← getE (by omega : i < l.length)]; exact List.getElem_mem _
        have hie := hi _ hmem
        have hk := rightS_mem HR.out _ hmem
        have hple := storyL_le (l.take i) (fun e he => hi e (List.mem_of_mem_take he))
        rw [List.length_take] at hple
        obtain ⟨x, hx⟩ : ∃ x, l.getD i default = x := ⟨_, rfl⟩
        rw [hx] at c1 c2 c3 c4 hpt hie hk
        obtain ⟨x1, x2, x3, x4⟩ := x
        dsimp only at c1 c2 c3 c4 hk
        have hsz := hb.size
        have hbx := (Below.refl wr.heap.size wr).alloc (Nat.le_refl _) (.cells #[.int .i64 x1, .int .i64 x2, .int .i64 x3, .int .i64 x4] 48)
        have hBx := hb.alloc hsz (.cells #[.int .i64 x1, .int .i64 x2, .int .i64 x3, .int .i64 x4] 48)
        have HPL := Lib.hid (st_printLine w1.heap.size w1.heap.size hbig1 (storyL (l.take i)) x1 x2 x3 x4 hk.1 hk.2.1 hie _ ((HC1.out.old hb).old hbx) (hT.old hbx) (by omega) hBx.size)
        have HBX := Lib.hid hBx
        have HPT := Lib.hid hpt
        clear hb hT hpt hie hk hx hple hmem hbx hBx
        unfold evSV at HPL
        go_wp2_with fail
        refine HPL.out.mono ?_
        rintro e w4 ⟨rfl, ht, hw⟩
        have HF := Lib.hid (show TB w1.heap.size w1.heap.size (storyL (l.take (i + 1))) w4 ∧ Below w1.heap.size w1 w4 by rw [HPT.out]; exact ⟨ht, HBX.out.trans hw.1⟩)
        clear ht hw HPL
        go_wp2
        go_roundw
        case rel => exact ⟨i + 1, by omega, by go_num, HF.out.1, HF.out.2⟩
        case measure => simp [intOf]; omega
      · obtain rfl : i = n := by omega
        have htl : l.take i = l := List.take_of_length_le (by omega)
        rw [htl] at hT
        have HS := Lib.hid (Tryz.Builder_String_any w1.heap.size w1.heap.size (storyL l) wr hT hb.size)
        have HB := Lib.hid (HB1.out.trans (hb.mono hs1))
        have HBB := Lib.hid hb
        clear hT hb
        have hii : ¬ (i : Int) < (i : Int) := by omega
        go_wp2_with fail
        refine HS.out.mono ?_
        rintro e w4 ⟨rfl, hb4⟩
        have HB4 := Lib.hid (HB1.out.trans ((HBB.out.trans hb4).mono hs1))
        clear hb4 HS
        go_wp2
        go_ret2
        exact ⟨HB4.out, .inl ⟨rfl, HR.out⟩⟩
end Go.Proofs.YtgkfhihnfllmhaaGreatDoor
