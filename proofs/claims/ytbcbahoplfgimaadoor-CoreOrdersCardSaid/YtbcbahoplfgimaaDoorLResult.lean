/-
  What a program of registers says at last.
-/
import Derived.Test.YtbcbahoplfgimaaDoorMGoneW
import Derived.Test.YtbcbahoplfgimaaDoorRegF
namespace Go.Proofs.YtbcbahoplfgimaaDoor
set_option maxRecDepth 100000
open Go.RowKit Go.Shelf Go.Sort
set_option linter.unusedVariables false
set_option linter.unusedSimpArgs false

theorem own_grown0 {w w' : World} {B e sz n : Nat} {v : Value} {xs : List Value} (h : w.ownsRow B e sz v n xs) (hg : w.grownBy w' none) : w'.ownsRow B e sz v n xs := h.kept hg (Classical.em _)
theorem MBig.iter {cells0 : List Int} : ∀ (n : Nat) {m : Mach}, MBig cells0 m → MBig cells0 (iterM 20000 n m)
  | 0, m, h => h
  | n + 1, m, h => MBig.iter n (h.step 0)
theorem iter_succ (k : Nat) (m : Mach) : iterM 20000 (k + 1) m = (stepM 20000 (iterM 20000 k m) 0).2 := by
  rw [iterM_add]
  rfl

/-- A machine of one program, made of two blocks. -/
theorem one_new {w W : World} (hw : CW w) {b1 b2 b3 n cap : Nat} {p : List Ins5} (hl : b1 < W.heap.size ∧ b2 < W.heap.size ∧ b3 < W.heap.size) (hI : Inss W W.heap.size (some ⟨b1, 0, none⟩) n p) (hn : p.length = n)
    (h2 : W.heap[b2]? = some (.cells #[.slice (some ⟨b1, 0, none⟩) n cap] 36)) (h3 : W.heap[b3]? = some (.cells #[.int .u64 0] 23)) (hb : Below w.heap.size w W) (hR : RightL p 1) :
    Calls Tryd.prog 10 #[.slice (some ⟨b2, 0, none⟩) 1 1, .slice (some ⟨b3, 0, none⟩) 1 1] W fun e w' => ∃ c, e = .returned (.tuple #[.pointer (some ⟨c, 0, none⟩), .nilIface]) ∧ At w c (newM [p] [0]) w' := by
  subst hn
  have hP : Progs W W.heap.size (some ⟨b2, 0, none⟩) 1 [p] := by
    refine ⟨rfl, fun _ => ⟨_, _, rfl, hl.2.1, fun i hi => ?_⟩⟩
    match i, hi with
    | 0, _ => exact ⟨some ⟨b1, 0, none⟩, cap, (cell_in h2 0).trans rfl, hI⟩
  have hI0 : Ints .u64 W W.heap.size (some ⟨b3, 0, none⟩) 1 [0] := by
    refine ⟨rfl, fun _ => ⟨_, _, rfl, hl.2.2, fun i hi => ?_⟩⟩
    match i, hi with
    | 0, _ => exact (cell_in h3 0).trans rfl
  refine (knew_ok (hw.old hb) _ _ 1 1 1 1 [p] [0] hP hI0 (by decide) (by decide) (fun i hi => ?_)).mono ?_
  · match i, hi with
    | 0, _ => exact hR
  rintro e w' ⟨S, X, he, hC, hB⟩
  exact ⟨X.c, he, S, X, rfl, hC.lower hb.size, hb.trans (hB.mono hb.size)⟩

set_option maxHeartbeats 4000000 in
theorem result_any {w W : World} (hw : CW w) (hbel : Below w.heap.size w W) (b n : Nat) (l : List Ins5) (hrow : W.ownsRow w.heap.size 27 5 (.slice (some ⟨b, 0, none⟩) n n) n (cells5 l)) (hl : l.length = n) (hn : n ≤ 100) (hR : RightL (tailP l) 1) (v : Int) (hT : Tells l v) :
    Calls Tryd.prog 7 #[.slice (some ⟨b, 0, none⟩) n n] W fun e w' => e = .returned (.tuple #[.int .u64 v, .bool true]) ∧ Below w.heap.size w w' := by
  obtain ⟨i0, hi, hz0, hz1, hz2⟩ := info_parts infoIns
  have HOW := Lib.hid (hrow.alloc (.cells #[.int .i64 7, .int .i64 0, .int .i64 3, .int .i64 (-1), .int .i64 0, .int .i64 0, .int .i64 0, .int .i64 0, .int .i64 0, .int .i64 0] 27))
  have HNW := Lib.hid (heap_alloc_new W (.cells #[.int .i64 7, .int .i64 0, .int .i64 3, .int .i64 (-1), .int .i64 0, .int .i64 0, .int .i64 0, .int .i64 0, .int .i64 0, .int .i64 0] 27))
  have HBA := Lib.hid (hbel.alloc hbel.size (.cells #[.int .i64 7, .int .i64 0, .int .i64 3, .int .i64 (-1), .int .i64 0, .int .i64 0, .int .i64 0, .int .i64 0, .int .i64 0, .int .i64 0] 27))
  have HSZ := Lib.hid hbel.size
  have HL := Lib.hid hl
  have HR := Lib.hid hR
  have HT := Lib.hid hT
  have HW := Lib.hid hw
  clear hrow hbel hl hR hT hw
  go_enter Tryd.func7, Tryd.ntmps7
  go_wp2_with (at_builtin; refine wpList_append_own _ rfl (.tmp 10) (.tmp 13) 36 rfl w.heap.size 27 i0 (.agg #[.int .i64 0, .int .i64 0, .int .i64 0, .int .i64 0, .int .i64 0]) 5 40 Tryd.underlying36 hi hz0 hz1 hz2 rfl (by decide) _ n (cells5 l) rfl HOW.out ⟨W.heap.size, 0, none⟩ 2 2 [.int .i64 7, .int .i64 0, .int .i64 3, .int .i64 (-1), .int .i64 0, .int .i64 0, .int .i64 0, .int .i64 0, .int .i64 0, .int .i64 0] rfl rfl ?c1 ?c2 ?c3 ?c4 ?c5 ?_)
  case c1 =>
    intro j u hj
    rw [show (⟨W.heap.size, 0, none⟩ : Addr).add j = ⟨W.heap.size, j, none⟩ by unfold Addr.add; by_cases h : j = 0 <;> simp [h]]
    rw [cell_in HNW.out j]
    simpa using hj
  case c2 => decide
  case c3 => unfold maxLen; omega
  case c4 => omega
  case c5 => have := HSZ.out; simp; omega
  intro v' w1 hown hg hiff
  have hcells : cells5 l ++ [.int .i64 7, .int .i64 0, .int .i64 3, .int .i64 (-1), .int .i64 0, .int .i64 0, .int .i64 0, .int .i64 0, .int .i64 0, .int .i64 0] = cells5 (tailP l) := by
    unfold tailP
    rw [cells5_append]
    rfl
  rw [hcells] at hown
  have hb1 : Below w.heap.size w w1 := HBA.out.grown hg (by have := HBA.out.size; exact this) (fun k hk => (HOW.out.lt k hk).1)
  obtain ⟨g, cap, rfl, hgb, hglt⟩ := hown.form (by omega)
  have hIn := Lib.hid (fun (o1 o2 : Obj) => Inss.of_own ((hown.alloc o1).alloc o2) (show (tailP l).length = n + 2 by unfold tailP; rw [List.length_append, HL.out]; rfl))
  have HB1 := Lib.hid (fun (o1 o2 : Obj) => (hb1.alloc hb1.size o1).alloc (show w.heap.size ≤ (w1.alloc o1).heap.size by have := hb1.size; simp; omega) o2)
  have HF1 := Lib.hid (fun (o1 o2 : Obj) => (Below.heap_alloc (w1.alloc o1) o2 w1.heap.size (by simp)).trans (heap_alloc_new w1 o1))
  have HF2 := Lib.hid (fun (o1 o2 : Obj) => heap_alloc_new (w1.alloc o1) o2)
  have hlen : (tailP l).length = n + 2 := by unfold tailP; rw [List.length_append, HL.out]; rfl
  have HLE := Lib.hid hlen
  have HGL := Lib.hid hglt
  clear hown hg hiff hcells hb1 HOW HNW HBA HSZ hgb hglt hlen hi hz0 hz1 hz2
  go_wp2_with fail
  refine (one_new (w := w) HW.out (b1 := g) ⟨by have := HGL.out; simp; omega, by simp; omega, by simp⟩ (hIn.out _ _) HLE.out (HF1.out _ _) (by have := HF2.out (.cells #[.slice (some ⟨g, 0, none⟩) (n + 2) cap] 36) (.cells #[.int .u64 0] 23); simpa using this) (HB1.out _ _) HR.out).mono ?_
  rintro e w2 ⟨c, rfl, hA⟩
  have HA := Lib.hid hA
  have HBig := Lib.hid (newM_big (ps := [tailP l]) (cells := [0]) ⟨by simp, by decide, fun i hi => by
    match i, hi with
    | 0, _ => exact HR.out⟩ (by intro v hv; simp at hv; subst hv; exact ⟨by decide, by decide⟩))
  have HT2 := Lib.hid (show (iterM 20000 100 (newM [tailP l] [0])).cells = [v] ∧ (iterM 20000 100 (newM [tailP l] [0])).ended = [true] from HT.out)
  have HPG := Lib.hid (fun k => show (iterM 20000 k (newM [tailP l] [0])).progs.length = 1 by
    have : ∀ k m, (iterM 20000 k m).progs = m.progs := by
      intro k
      induction k with
      | zero => intro m; rfl
      | succ k ih => intro m; show (iterM 20000 k (stepM 20000 m 0).2).progs = _; rw [ih, stepM_progs]
    rw [this]
    rfl)
  generalize newM [tailP l] [0] = m at *
  clear hA hIn HB1 HF1 HF2 HLE HGL HR HT HL HW
  go_wp2
  go_loopw [28] (fun j wr => ∃ k : Nat, k ≤ 100 ∧ j = .int .i64 k ∧ At w c (iterM 20000 k m) wr) (fun j _ => 100 - (intOf j).toNat)
  case atStart => exact ⟨0, by decide, rfl, HA.out⟩
  case round =>
    obtain ⟨k, hk, rfl, hA⟩ := hrel
    by_cases hlt : k < 100
    · have hkn : (k : Int) < 100 := by omega
      have HS := Lib.hid (at_step hA (HBig.out.iter k) 0)
      rw [← iter_succ] at HS
      clear hA
      generalize errV (stepM 20000 (iterM 20000 k m) 0).1 = q at *
      go_wp2_with fail
      refine HS.out.mono ?_
      rintro e w3 ⟨rfl, hA3⟩
      have HA3 := Lib.hid hA3
      clear hA3 HS
      go_wp2
      go_roundw
      case rel => exact ⟨k + 1, by omega, by go_num, HA3.out⟩
      case measure => simp [intOf]; omega
    · have hkn : ¬ (k : Int) < 100 := by omega
      obtain rfl : k = 100 := by omega
      have HA3 := Lib.hid hA
      have hc1 : (iterM 20000 100 m).cells.length ≤ 300 := by rw [HT2.out.1]; simp
      have hp1 : (iterM 20000 100 m).progs.length ≤ 16 := by rw [HPG.out]; decide
      have hen : (endsM (iterM 20000 100 m)).1 = true := by
        unfold endsM
        rw [HPG.out]
        simp [allTo, HT2.out.2]
      clear hA HA HPG
      go_wp2_with fail
      have HCE := Lib.hid (at_cells HA3.out hc1)
      have HEN := Lib.hid (fun x (hx : At w c (iterM 20000 100 m) x) => at_ends hx hp1)
      rw [HT2.out.1] at HCE
      rw [hen] at HEN
      refine HCE.out.mono ?_
      rintro e w4 ⟨A4, c4, rfl, ho4, hg4⟩
      have HA4 := Lib.hid (HA3.out.grow hg4)
      have HO4 := Lib.hid ho4
      clear hg4 ho4 HA3 HCE
      go_wp2_with fail
      refine (HEN.out _ HA4.out).mono ?_
      rintro e w5 ⟨rfl, hg5⟩
      have HB5 := Lib.hid (HA4.out.grow hg5).bel
      obtain ⟨ga, ca, e4, hgb4, hgl4⟩ := HO4.out.form (by simp)
      have hcell : w5.cell? ⟨ga, 0, none⟩ = some (.int .u64 v) := by
        have h := own_grown0 HO4.out hg5
        rw [e4] at h
        have := h.cellAt 0 (by simp)
        simpa using this
      injection e4 with e5 e6 e7
      subst e5
      clear hg5 HA4 HEN HO4 hgb4 hgl4 HT2 HBig
      generalize (endsM (iterM 20000 100 m)).2 = qq at *
      go_wp2
      go_ret2
      exact ⟨rfl, HB5.out⟩
end Go.Proofs.YtbcbahoplfgimaaDoor
