/-
  parseLine: the instruction that a line is.
-/
import Derived.Test.YtbcbahoplfgimaaGreatDoorCNamed
import Derived.Test.YtbcbahoplfgimaaGreatDoorCSmall
namespace Go.Proofs.YtbcbahoplfgimaaGreatDoor
set_option maxRecDepth 100000
open Go.RowKit Go.Sort

theorem argsL_step (ks : List Nat) (i : Nat) (hi : i < ks.length) (r : List UInt8) (m : Bool) : argsL (ks.drop i) r m = (if ks.getD i 0 = 0 then (argsL (ks.drop (i + 1)) r m).map fun y => (0 :: y.1, y.2) else if m = false then none else match numL (cutL 32 r).1 with
    | none => none
    | some n => (argsL (ks.drop (i + 1)) (cutL 32 r).2.1 (cutL 32 r).2.2).map fun y => (n :: y.1, y.2)) := by
  rw [List.drop_eq_getElem_cons hi, argsL]
  have : ks.getD i 0 = ks[i] := by rw [List.getD_eq_getElem?_getD, List.getElem?_eq_getElem hi]; rfl
  rw [this]
  rfl

theorem cutL_le (c : UInt8) (s : List UInt8) : (cutL c s).1.length ≤ s.length ∧ (cutL c s).2.1.length ≤ s.length := by
  rcases cutL_cases c s with ⟨_, e⟩ | ⟨a, b, e, _, ec⟩
  · rw [e]; simp
  · rw [ec, e]; simp; omega

/-- The four numbers' cells, i of them told. -/
def fourL (pre : List Int) : List Int := pre ++ List.replicate (4 - pre.length) 0
def fourC (pre : List Int) : Array Value := ((fourL pre).map (Value.int .i64)).toArray

theorem fourL_len {pre : List Int} (h : pre.length ≤ 4) : (fourL pre).length = 4 := by
  unfold fourL
  simp
  omega

theorem fourC_set {pre : List Int} (h : pre.length < 4) (n : Int) : (fourC pre).setIfInBounds pre.length (.int .i64 n) = fourC (pre ++ [n]) := by
  have e : 4 - pre.length = (4 - (pre.length + 1)) + 1 := by omega
  unfold fourC fourL
  rw [List.setIfInBounds_toArray]
  congr 1
  rw [e, List.replicate_succ, List.map_append, List.map_cons, List.set_append_right _ _ (by simp)]
  simp

theorem fourC_at {pre : List Int} (h : pre.length ≤ 4) (i : Nat) (hi : i < 4) : (fourC pre)[i]? = some (.int .i64 ((fourL pre).getD i 0)) := by
  have hl := fourL_len h
  unfold fourC
  rw [List.getElem?_toArray, List.getElem?_map, List.getD_eq_getElem?_getD, List.getElem?_eq_getElem (by omega)]
  rfl

theorem fourC_zero {pre : List Int} (h : pre.length < 4) : fourC (pre ++ [0]) = fourC pre := by
  have e : 4 - pre.length = (4 - (pre.length + 1)) + 1 := by omega
  unfold fourC fourL
  rw [e, List.replicate_succ]
  simp

/-- What holds at each head of parseLine's loop. -/
structure LineInv (w wr : World) (rb lb : Nat) (ks : List Nat) (r0 : List UInt8) (m0 : Bool) (pre : List Int) (r : List UInt8) (m : Bool) : Prop where
  len : pre.length ≤ 4
  args : argsL ks r0 m0 = (argsL (ks.drop pre.length) r m).map fun y => (pre ++ y.1, y.2)
  l : wr.heap[lb]? = some (.cells (fourC pre) 131 (0, 0))
  x : wr.heap[rb]? = some (.cells #[.int .i64 0, .int .i64 0, .int .i64 0, .int .i64 0, .int .i64 0] 65 (0, 0))
  old : Below w.heap.size w wr
  lo : w.heap.size ≤ rb ∧ w.heap.size ≤ lb
  small : r.length ≤ 4294967280

/-- What a line is told to be. -/
def ToldLine (s : List UInt8) (w : World) (e : Ending) (w' : World) : Prop := Below w.heap.size w w' ∧
  ∃ y b, e = .returned (.tuple #[insV y, .bool b]) ∧ ((b = true ∧ parseX s = some y) ∨ (b = false ∧ parseX s = none))

theorem index_kinds (a b c d : Nat) : ∀ (i : Nat), i < 4 → ∀ w : World, (Instr.index 133 (.agg #[.int .i64 a, .int .i64 b, .int .i64 c, .int .i64 d]) (.int .i64 (i : Int))).run Tryz.prog w = .ok (.int .i64 (([a, b, c, d].getD i 0 : Nat) : Int)) w
  | 0, _ => fun _ => by kernel_rfl
  | 1, _ => fun _ => by kernel_rfl
  | 2, _ => fun _ => by kernel_rfl
  | 3, _ => fun _ => by kernel_rfl
  | n + 4, h => absurd h (by omega)

/-- A whole instruction, stored cell by cell. -/
def set5 (w : World) (rb : Nat) (y : In5) : World :=
  ((((w.setCell ⟨rb, 0, none⟩ (.int .i64 y.1)).setCell ⟨rb, 1, none⟩ (.int .i64 y.2.1)).setCell ⟨rb, 2, none⟩ (.int .i64 y.2.2.1)).setCell ⟨rb, 3, none⟩ (.int .i64 y.2.2.2.1)).setCell ⟨rb, 4, none⟩ (.int .i64 y.2.2.2.2)

theorem set5_row {w : World} {rb : Nat} (y : In5) (h : w.heap[rb]? = some (.cells #[.int .i64 0, .int .i64 0, .int .i64 0, .int .i64 0, .int .i64 0] 65 (0, 0))) :
    (set5 w rb y).heap[rb]? = some (.cells #[.int .i64 y.1, .int .i64 y.2.1, .int .i64 y.2.2.1, .int .i64 y.2.2.2.1, .int .i64 y.2.2.2.2] 65 (0, 0)) :=
  heap_setCell_same _ rb 4 _ _ _ (heap_setCell_same _ rb 3 _ _ _ (heap_setCell_same _ rb 2 _ _ _ (heap_setCell_same _ rb 1 _ _ _ (heap_setCell_same _ rb 0 _ _ _ h))))

theorem set5_below {w0 w : World} {B rb : Nat} (y : In5) (h : Below B w0 w) (hB : B ≤ rb) : Below B w0 (set5 w rb y) :=
  ((((h.setCell (p := ⟨rb, 0, none⟩) hB _).setCell (p := ⟨rb, 1, none⟩) hB _).setCell (p := ⟨rb, 2, none⟩) hB _).setCell (p := ⟨rb, 3, none⟩) hB _).setCell (p := ⟨rb, 4, none⟩) hB _

theorem line_result {tmps : Array Value} {w : World} {rb : Nat} {y : In5} {b : Bool} (h2 : tmps.getD 2 undef = .pointer (some ⟨rb, 0, none⟩)) (h3 : tmps.getD 3 undef = .bool b)
    (hr : w.heap[rb]? = some (.cells #[.int .i64 y.1, .int .i64 y.2.1, .int .i64 y.2.2.1, .int .i64 y.2.2.2.1, .int .i64 y.2.2.2.2] 65 (0, 0))) :
    (results Tryz.f51 tmps).run Tryz.prog w = .ok (.tuple #[insV y, .bool b]) w := by
  have c0 : w.cell? ⟨rb, 0, none⟩ = some (.int .i64 y.1) := by rw [cell_of_row w rb 0 _ _ _ hr]; rfl
  have c1 : w.cell? ⟨rb, 1, none⟩ = some (.int .i64 y.2.1) := by rw [cell_of_row w rb 1 _ _ _ hr]; rfl
  have c2 : w.cell? ⟨rb, 2, none⟩ = some (.int .i64 y.2.2.1) := by rw [cell_of_row w rb 2 _ _ _ hr]; rfl
  have c3 : w.cell? ⟨rb, 3, none⟩ = some (.int .i64 y.2.2.2.1) := by rw [cell_of_row w rb 3 _ _ _ hr]; rfl
  have c4 : w.cell? ⟨rb, 4, none⟩ = some (.int .i64 y.2.2.2.2) := by rw [cell_of_row w rb 4 _ _ _ hr]; rfl
  simp only [Array.getD_eq_getD_getElem?] at h2 h3
  simp [results, Tryz.results51, go_sem, h2, h3, c0, c1, c2, c3, c4, insV]

set_option maxHeartbeats 2000000 in
theorem parseLine_any (s : List UInt8) (hs : s.length ≤ 4294967280) (w : World) (h : CW w) : Calls Tryz.prog 51 #[strV s] w (ToldLine s w) := by
  have HC := Lib.hid h
  have hcl := cutL_le 32 s
  have HCut := Lib.hid (fun w => cut_any s 32 w hs)
  have hPX : parseX s = parseX s := rfl
  conv at hPX => rhs; unfold parseX
  obtain ⟨nm, hnm⟩ : ∃ a, (cutL 32 s).1 = a := ⟨_, rfl⟩
  obtain ⟨r0, hr0⟩ : ∃ a, (cutL 32 s).2.1 = a := ⟨_, rfl⟩
  obtain ⟨m0, hm0⟩ : ∃ a, (cutL 32 s).2.2 = a := ⟨_, rfl⟩
  rw [hnm, hr0] at hcl
  rw [hnm, hr0, hm0] at hPX
  have HCut' := Lib.hid (fun w => (by have := HCut.out w; rw [hnm, hr0, hm0] at this; exact this : Calls Tryz.prog 50 #[strV s, .string ⟨#[32]⟩] w fun e w' => e = .returned (.tuple #[strV nm, strV r0, .bool m0]) ∧ ∃ n, w' = w.drewN n))
  have HP := Lib.hid hPX
  clear h hnm hr0 hm0 HCut hPX
  unfold strV at HCut' ⊢
  go_enter Tryz.func51, Tryz.ntmps51
  go_wp2_with fail
  refine (HCut'.out _).mono ?_
  rintro e w1 ⟨rfl, hq⟩
  have hx1 : w1.heap[w.heap.size]? = some (.cells #[.int .i64 0, .int .i64 0, .int .i64 0, .int .i64 0, .int .i64 0] 65 (0, 0)) := by
    obtain ⟨q, rfl⟩ := hq
    exact heap_alloc_new w _
  have hb1 : Below w.heap.size w w1 := by
    obtain ⟨q, rfl⟩ := hq
    exact below_drewN ((Below.refl w.heap.size w).alloc (Nat.le_refl _) _) q
  clear hq
  obtain ⟨rb, hrb⟩ : ∃ rb, w.heap.size = rb := ⟨_, rfl⟩
  have hlo : w.heap.size ≤ rb := by omega
  rw [hrb] at hx1
  have HN := Lib.hid (named_any nm w1 (HC.out.old hb1))
  unfold strV at HN
  rw [hrb]
  clear hrb
  go_wp2_with fail
  refine HN.out.mono ?_
  rintro e w2 ⟨hb2, ⟨op, hop, rfl⟩ | ⟨hop, rfl⟩⟩
  · obtain ⟨ho, hnm⟩ := namedL_some hop
    have hx2 := (hb2.block rb (lt_of_block hx1)).trans hx1
    have hbb := hb1.trans (hb2.mono hb1.size)
    have hC2 := HC.out.old hbb
    have hrb2 := lt_of_block hx2
    have k0 : w2.cell? ⟨1, op * 5 + 1, none⟩ = _ := hC2.kind op 0 ho (by omega)
    have hne0 : 1 ≠ w2.heap.size := by have := hC2.big; omega
    have hpos0 : 1 < w2.heap.size := by have := hC2.big; omega
    have hne1 : rb ≠ w2.heap.size := by omega
    have k1 := hC2.kind op 1 ho (by omega)
    have k2 := hC2.kind op 2 ho (by omega)
    have k3 := hC2.kind op 3 ho (by omega)
    have hkl := kinds_len op ho
    have hop17 : (op : Int) < 17 := by omega
    have hop0 : (0 : Int) ≤ (op : Int) := by omega
    have hP : parseX s = match argsL (kindsOf op) r0 m0 with | none => none | some y => if y.2 then none else some (toX op y.1) := by
      rw [HP.out, hop]
      rfl
    have HX := Lib.hid hx2
    have HBB := Lib.hid hbb
    have HP2 := Lib.hid hP
    clear hx2 hbb hP hb1 hb2 hx1 HN HP HCut' hC2
    generalize kindsOf op = ks at *
    obtain ⟨ka, kb, kc, kd, rfl⟩ : ∃ a b c d, ks = [a, b, c, d] := by
      match ks, hkl with
      | [a, b, c, d], _ => exact ⟨a, b, c, d, rfl⟩
    have HK := Lib.hid (index_kinds ka kb kc kd)
    go_wp2
    have hI : LineInv w (w2.alloc (.cells #[.int .i64 0, .int .i64 0, .int .i64 0, .int .i64 0] 131)) rb w2.heap.size [ka, kb, kc, kd] r0 m0 [] r0 m0 := by
      refine ⟨Nat.zero_le _, ?_, heap_alloc_new w2 _, (heap_alloc_old w2 _ hrb2).trans HX.out, HBB.out.alloc HBB.out.size _, ⟨hlo, HBB.out.size⟩, by omega⟩
      cases h : argsL ([ka, kb, kc, kd].drop ([] : List Int).length) r0 m0 with
      | none => exact h
      | some y => exact h
    obtain ⟨lb, hlb⟩ : ∃ lb, w2.heap.size = lb := ⟨_, rfl⟩
    have HI := Lib.hid hI
    rw [hlb] at HI
    clear hI k0 k1 k2 k3 HX HBB hne0 hpos0 hrb2 hcl
    rw [hlb] at hne1 ⊢
    clear hlb
    go_loopw [5, 6, 31] (fun rv mv j wr => ∃ pre r m, LineInv w wr rb lb [ka, kb, kc, kd] r0 m0 pre r m ∧ rv = .string ⟨r.toArray⟩ ∧ mv = .bool m ∧ j = .int .i64 (pre.length : Int)) (fun _ _ j _ => 4 - (intOf j).toNat)
    case atStart => exact ⟨[], r0, m0, HI.out, rfl, rfl, rfl⟩
    case round =>
      obtain ⟨pre, r, m, hJ, rfl, rfl, rfl⟩ := hrel
      clear HI
      have hJl := hJ.len
      by_cases hlt : pre.length < 4
      · have hii : (pre.length : Int) < 4 := by omega
        have hix := HK.out pre.length hlt
        have hst := argsL_step [ka, kb, kc, kd] pre.length (by simpa using hlt) r m
        obtain ⟨k, hk⟩ : ∃ k, [ka, kb, kc, kd].getD pre.length 0 = k := ⟨_, rfl⟩
        rw [hk] at hix hst
        have HST := Lib.hid hst
        clear hst hk
        by_cases hk0 : k = 0
        · subst hk0
          have HJ := Lib.hid (show LineInv w wr rb lb [ka, kb, kc, kd] r0 m0 (pre ++ [0]) r m from ⟨by rw [List.length_append, List.length_singleton]; omega, by
            rw [hJ.args, HST.out, if_pos rfl, Option.map_map]
            simp only [List.length_append, List.length_singleton]
            congr 1
            funext y
            simp, by rw [fourC_zero hlt]; exact hJ.l, hJ.x, hJ.old, hJ.lo, hJ.small⟩)
          clear hJ HST
          go_wp2
          go_roundw
          case rel => exact ⟨pre ++ [0], r, m, HJ.out, rfl, rfl, by simp⟩
          case measure => simp [intOf]; omega
        · have hkb : ((k : Int) == 0) = false := by
            have : (k : Int) ≠ 0 := by omega
            simpa using hk0
          rw [if_neg hk0] at HST
          cases m with
          | false =>
            rw [if_pos rfl] at HST
            have hrow := hJ.x
            have hA : argsL [ka, kb, kc, kd] r0 m0 = none := by rw [hJ.args, HST.out]; rfl
            have hPn : parseX s = none := by rw [HP2.out, hA]
            have HF := Lib.hid (set5_row (0, 0, 0, 0, 0) hrow)
            have HB := Lib.hid (set5_below (0, 0, 0, 0, 0) hJ.old hlo)
            have f0 := frozen_of_row wr rb 0 _ _ hrow
            have f1 := frozen_of_row wr rb 1 _ _ hrow
            have f2 := frozen_of_row wr rb 2 _ _ hrow
            have f3 := frozen_of_row wr rb 3 _ _ hrow
            have f4 := frozen_of_row wr rb 4 _ _ hrow
            have c0 : wr.cell? ⟨rb, 0, none⟩ = some (.int .i64 0) := by rw [cell_of_row _ rb 0 _ _ _ hrow]; rfl
            have c1 : wr.cell? ⟨rb, 1, none⟩ = some (.int .i64 0) := by rw [cell_of_row _ rb 1 _ _ _ hrow]; rfl
            have c2 : wr.cell? ⟨rb, 2, none⟩ = some (.int .i64 0) := by rw [cell_of_row _ rb 2 _ _ _ hrow]; rfl
            have c3 : wr.cell? ⟨rb, 3, none⟩ = some (.int .i64 0) := by rw [cell_of_row _ rb 3 _ _ _ hrow]; rfl
            have c4 : wr.cell? ⟨rb, 4, none⟩ = some (.int .i64 0) := by rw [cell_of_row _ rb 4 _ _ _ hrow]; rfl
            clear hJ HST hrow
            go_wp2
            exact bodyPost_ret (line_result (y := (0, 0, 0, 0, 0)) (b := false) rfl rfl HF.out) rfl ⟨HB.out, (0, 0, 0, 0, 0), false, rfl, .inr ⟨rfl, hPn⟩⟩
          | true =>
            rw [if_neg (by simp)] at HST
            have hle := cutL_le 32 r
            have hsm := hJ.small
            have HC1 := Lib.hid (fun w => cut_any r 32 w hsm)
            obtain ⟨wd, hwd⟩ : ∃ a, (cutL 32 r).1 = a := ⟨_, rfl⟩
            obtain ⟨r', hr'⟩ : ∃ a, (cutL 32 r).2.1 = a := ⟨_, rfl⟩
            obtain ⟨m', hm'⟩ : ∃ a, (cutL 32 r).2.2 = a := ⟨_, rfl⟩
            rw [hwd, hr'] at hle
            rw [hwd, hr', hm'] at HST
            have HC2 := Lib.hid (fun w => (by have := HC1.out w; rw [hwd, hr', hm'] at this; exact this : Calls Tryz.prog 50 #[strV r, .string ⟨#[32]⟩] w fun e w' => e = .returned (.tuple #[strV wd, strV r', .bool m']) ∧ ∃ n, w' = w.drewN n))
            have HN := Lib.hid (fun w h => parseNumber_any wd (by omega) w h)
            have HJ := Lib.hid hJ
            clear hwd hr' hm' HC1 hJ
            unfold strV at HC2 HN
            go_wp2_with fail
            refine (HC2.out _).mono ?_
            rintro e w3 ⟨rfl, hq⟩
            have hb3 : Below wr.heap.size wr w3 := by
              obtain ⟨q, rfl⟩ := hq
              exact below_drewN (Below.refl _ _) q
            clear hq
            go_wp2_with fail
            refine (HN.out _ ((HC.out.old HJ.out.old).old hb3)).mono ?_
            rintro e w4 ⟨hb4, n, bn, rfl, hn⟩
            have hb34 := hb3.trans (hb4.mono hb3.size)
            have hl4 := (hb34.block lb (lt_of_block HJ.out.l)).trans HJ.out.l
            have hx4 := (hb34.block rb (lt_of_block HJ.out.x)).trans HJ.out.x
            have ho4 : Below w.heap.size w w4 := HJ.out.old.trans (hb34.mono HJ.out.old.size)
            have cl : w4.cell? ⟨lb, pre.length, none⟩ = _ := (cell_of_row _ lb pre.length _ _ _ hl4).trans (fourC_at hJl _ hlt)
            have fl : w4.frozen? ⟨lb, pre.length, none⟩ = false := frozen_of_row _ lb _ _ _ hl4
            have hl5 := heap_setCell_same w4 lb pre.length _ _ (.int .i64 n) hl4
            rw [fourC_set hlt] at hl5
            have hx5 : (w4.setCell ⟨lb, pre.length, none⟩ (.int .i64 n)).heap[rb]? = _ := (heap_setCell_other w4 ⟨lb, pre.length, none⟩ rb (.int .i64 n) hne1).trans hx4
            have ho5 : Below w.heap.size w (w4.setCell ⟨lb, pre.length, none⟩ (.int .i64 n)) := ho4.setCell (p := ⟨lb, pre.length, none⟩) HJ.out.lo.2 _
            rcases hn with ⟨rfl, hn⟩ | ⟨rfl, hn⟩
            · have HJ2 := Lib.hid (show LineInv w (w4.setCell ⟨lb, pre.length, none⟩ (.int .i64 n)) rb lb [ka, kb, kc, kd] r0 m0 (pre ++ [n]) r' m' from ⟨by rw [List.length_append, List.length_singleton]; omega, by
                rw [HJ.out.args, HST.out, hn]
                simp only [Option.map_map, List.length_append, List.length_singleton]
                congr 1
                funext y
                simp, hl5, hx5, ho5, HJ.out.lo, by omega⟩)
              clear HJ HST HC2 HN hl4 hx4 ho4 hl5 hx5 ho5 hb3 hb4 hb34 hn
              go_wp2
              go_roundw
              case rel => exact ⟨pre ++ [n], r', m', HJ2.out, rfl, rfl, by simp⟩
              case measure => simp [intOf]; omega
            · have hA : argsL [ka, kb, kc, kd] r0 m0 = none := by
                rw [HJ.out.args, HST.out, hn]
                rfl
              clear hl4 hx4 ho4 hl5
              have hPn : parseX s = none := by rw [HP2.out, hA]
              have HF := Lib.hid (set5_row (0, 0, 0, 0, 0) hx5)
              have HB := Lib.hid (set5_below (0, 0, 0, 0, 0) ho5 hlo)
              have f0 := frozen_of_row (w4.setCell ⟨lb, pre.length, none⟩ (.int .i64 n)) rb 0 _ _ hx5
              have f1 := frozen_of_row (w4.setCell ⟨lb, pre.length, none⟩ (.int .i64 n)) rb 1 _ _ hx5
              have f2 := frozen_of_row (w4.setCell ⟨lb, pre.length, none⟩ (.int .i64 n)) rb 2 _ _ hx5
              have f3 := frozen_of_row (w4.setCell ⟨lb, pre.length, none⟩ (.int .i64 n)) rb 3 _ _ hx5
              have f4 := frozen_of_row (w4.setCell ⟨lb, pre.length, none⟩ (.int .i64 n)) rb 4 _ _ hx5
              have c0 : (w4.setCell ⟨lb, pre.length, none⟩ (.int .i64 n)).cell? ⟨rb, 0, none⟩ = some (.int .i64 0) := by rw [cell_of_row _ rb 0 _ _ _ hx5]; rfl
              have c1 : (w4.setCell ⟨lb, pre.length, none⟩ (.int .i64 n)).cell? ⟨rb, 1, none⟩ = some (.int .i64 0) := by rw [cell_of_row _ rb 1 _ _ _ hx5]; rfl
              have c2 : (w4.setCell ⟨lb, pre.length, none⟩ (.int .i64 n)).cell? ⟨rb, 2, none⟩ = some (.int .i64 0) := by rw [cell_of_row _ rb 2 _ _ _ hx5]; rfl
              have c3 : (w4.setCell ⟨lb, pre.length, none⟩ (.int .i64 n)).cell? ⟨rb, 3, none⟩ = some (.int .i64 0) := by rw [cell_of_row _ rb 3 _ _ _ hx5]; rfl
              have c4 : (w4.setCell ⟨lb, pre.length, none⟩ (.int .i64 n)).cell? ⟨rb, 4, none⟩ = some (.int .i64 0) := by rw [cell_of_row _ rb 4 _ _ _ hx5]; rfl
              clear HJ HST HC2 HN hx5 ho5 hb3 hb4 hb34 hn
              go_wp2
              exact bodyPost_ret (line_result (y := (0, 0, 0, 0, 0)) (b := false) rfl rfl HF.out) rfl ⟨HB.out, (0, 0, 0, 0, 0), false, rfl, .inr ⟨rfl, hPn⟩⟩
      · have h4 : pre.length = 4 := by omega
        have hii : ¬ (pre.length : Int) < 4 := by omega
        have hrow := hJ.x
        have hl := hJ.l
        have hA : argsL [ka, kb, kc, kd] r0 m0 = some (pre, m) := by
          rw [hJ.args, h4]
          simp [argsL]
        have hF : fourL pre = pre := by unfold fourL; rw [h4]; simp
        have l0 : wr.cell? ⟨lb, 0, none⟩ = some (.int .i64 (pre.getD 0 0)) := by rw [cell_of_row _ lb 0 _ _ _ hl, fourC_at hJl 0 (by omega), hF]
        have l1 : wr.cell? ⟨lb, 1, none⟩ = some (.int .i64 (pre.getD 1 0)) := by rw [cell_of_row _ lb 1 _ _ _ hl, fourC_at hJl 1 (by omega), hF]
        have l2 : wr.cell? ⟨lb, 2, none⟩ = some (.int .i64 (pre.getD 2 0)) := by rw [cell_of_row _ lb 2 _ _ _ hl, fourC_at hJl 2 (by omega), hF]
        have l3 : wr.cell? ⟨lb, 3, none⟩ = some (.int .i64 (pre.getD 3 0)) := by rw [cell_of_row _ lb 3 _ _ _ hl, fourC_at hJl 3 (by omega), hF]
        have hPn : parseX s = if m then none else some (toX op pre) := by rw [HP2.out, hA]
        have HF := Lib.hid (set5_row (toX op pre) hrow)
        have HB := Lib.hid (set5_below (toX op pre) hJ.old hlo)
        unfold toX at HF HB hPn
        generalize pre.getD 0 0 = n0 at *
        generalize pre.getD 1 0 = n1 at *
        generalize pre.getD 2 0 = n2 at *
        generalize pre.getD 3 0 = n3 at *
        have f0 := frozen_of_row wr rb 0 _ _ hrow
        have f1 := frozen_of_row wr rb 1 _ _ hrow
        have f2 := frozen_of_row wr rb 2 _ _ hrow
        have f3 := frozen_of_row wr rb 3 _ _ hrow
        have f4 := frozen_of_row wr rb 4 _ _ hrow
        have c0 : wr.cell? ⟨rb, 0, none⟩ = some (.int .i64 0) := by rw [cell_of_row _ rb 0 _ _ _ hrow]; rfl
        have c1 : wr.cell? ⟨rb, 1, none⟩ = some (.int .i64 0) := by rw [cell_of_row _ rb 1 _ _ _ hrow]; rfl
        have c2 : wr.cell? ⟨rb, 2, none⟩ = some (.int .i64 0) := by rw [cell_of_row _ rb 2 _ _ _ hrow]; rfl
        have c3 : wr.cell? ⟨rb, 3, none⟩ = some (.int .i64 0) := by rw [cell_of_row _ rb 3 _ _ _ hrow]; rfl
        have c4 : wr.cell? ⟨rb, 4, none⟩ = some (.int .i64 0) := by rw [cell_of_row _ rb 4 _ _ _ hrow]; rfl
        clear hJ hl hrow hA hF
        go_wp2
        refine bodyPost_ret (line_result (y := ((op : Int), n0, n1, n2, n3)) (b := !m) rfl rfl HF.out) rfl ⟨HB.out, _, !m, rfl, ?_⟩
        cases m with
        | true => exact .inr ⟨rfl, hPn⟩
        | false => exact .inl ⟨rfl, hPn⟩
  · have hx2 := (hb2.block rb (lt_of_block hx1)).trans hx1
    have hbb := hb1.trans (hb2.mono hb1.size)
    have hP : parseX s = none := by rw [HP.out, hop]
    have f0 := frozen_of_row w2 rb 0 _ _ hx2
    have f1 := frozen_of_row w2 rb 1 _ _ hx2
    have f2 := frozen_of_row w2 rb 2 _ _ hx2
    have f3 := frozen_of_row w2 rb 3 _ _ hx2
    have f4 := frozen_of_row w2 rb 4 _ _ hx2
    have c0 : w2.cell? ⟨rb, 0, none⟩ = some (.int .i64 0) := by rw [cell_of_row w2 rb 0 _ _ _ hx2]; rfl
    have c1 : w2.cell? ⟨rb, 1, none⟩ = some (.int .i64 0) := by rw [cell_of_row w2 rb 1 _ _ _ hx2]; rfl
    have c2 : w2.cell? ⟨rb, 2, none⟩ = some (.int .i64 0) := by rw [cell_of_row w2 rb 2 _ _ _ hx2]; rfl
    have c3 : w2.cell? ⟨rb, 3, none⟩ = some (.int .i64 0) := by rw [cell_of_row w2 rb 3 _ _ _ hx2]; rfl
    have c4 : w2.cell? ⟨rb, 4, none⟩ = some (.int .i64 0) := by rw [cell_of_row w2 rb 4 _ _ _ hx2]; rfl
    have HR := Lib.hid (set5_row (0, 0, 0, 0, 0) hx2)
    have HB := Lib.hid (set5_below (0, 0, 0, 0, 0) hbb hlo)
    clear hx2 hbb hb1 hb2 hx1 HN
    go_wp2
    exact bodyPost_ret (line_result (y := (0, 0, 0, 0, 0)) (b := false) rfl rfl HR.out) rfl ⟨HB.out, (0, 0, 0, 0, 0), false, rfl, .inr ⟨rfl, hP⟩⟩
end Go.Proofs.YtbcbahoplfgimaaGreatDoor
