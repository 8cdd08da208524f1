/-
  The reference's Touches: what comes of touches, told in text, and the cells behind them.
-/
import Derived.Test.YtnooegfhkeddnaaDoorTMap
import Derived.Test.YtnooegfhkeddnaaDoorMakeO
import Derived.Deep.RegionHeld3
namespace Go.Proofs.YtnooegfhkeddnaaDoor
set_option maxRecDepth 100000
open Go.RowKit Go.Sort Go.Shelf
open Go.WideShapes

/-- A slice of touches. -/
structure Tchs (w : World) (B : Nat) (A : Option Addr) (n : Nat) (xs : List Tch) : Prop where
  len : xs.length = n
  row : 0 < n → ∃ b off, A = some ⟨b, off, none⟩ ∧ b < B ∧ ∀ i, i < n → w.cell? ⟨b, off + i * 4, none⟩ = some (.int .i64 (xs.getD i default).1) ∧ w.cell? ⟨b, off + i * 4 + 1, none⟩ = some (.int .i64 (xs.getD i default).2.1) ∧ w.cell? ⟨b, off + i * 4 + 2, none⟩ = some (.int .u64 (xs.getD i default).2.2.1) ∧ w.cell? ⟨b, off + i * 4 + 3, none⟩ = some (.int .u64 (xs.getD i default).2.2.2)

theorem Tchs.below {w w' : World} {B n : Nat} {A : Option Addr} {xs : List Tch} (h : Tchs w B A n xs) (hb : Below B w w') : Tchs w' B A n xs :=
  ⟨h.len, fun h0 => by
    obtain ⟨b, off, e, hlt, hc⟩ := h.row h0
    refine ⟨b, off, e, hlt, fun i hi => ?_⟩
    obtain ⟨h1, h2, h3, h4⟩ := hc i hi
    exact ⟨(hb.cell (p := ⟨b, _, none⟩) hlt).trans h1, (hb.cell (p := ⟨b, _, none⟩) hlt).trans h2, (hb.cell (p := ⟨b, _, none⟩) hlt).trans h3, (hb.cell (p := ⟨b, _, none⟩) hlt).trans h4⟩⟩

theorem infoStr : (Tryd.prog.info? 9).map (fun i => (i.zero, i.size, i.bytes)) = some (some (.string ⟨#[]⟩), 1, 16) := by kernel_rfl
theorem wf_u64 {x : Int} (h : isU64 x) : (Lit.int .u64 x).wf = true := by
  unfold isU64 at h
  simp [Lit.wf, IntKind.min, IntKind.max, IntKind.signed, IntKind.bits]
  omega
theorem wf_i64 {n : Nat} (h : n ≤ 100000) : (Lit.int .i64 (n : Int)).wf = true := by
  simp [Lit.wf, IntKind.min, IntKind.max, IntKind.signed, IntKind.bits]
  omega
theorem own_form {w : World} {B e sz : Nat} {v : Value} {n : Nat} {xs : List Value} (h : w.ownsRow B e sz v n xs) : ∃ A c, v = .slice A n c := by
  rcases h.2 with ⟨rfl, rfl⟩ | ⟨g, cap, _, rfl, _⟩
  · exact ⟨none, 0, rfl⟩
  · exact ⟨_, _, rfl⟩
theorem grown_of_old {w w' : World} (hb : Below w.heap.size w w') : w.grownBy w' none := ⟨hb.os, hb.tape, hb.output, hb.size, fun k hk _ => hb.block k hk⟩

/-- A map and a row lie apart; so do rows of two kinds. -/
theorem row_map {w : World} {B e sz : Nat} {v : Value} {n : Nat} {xs : List Value} (h : w.ownsRow B e sz v n xs) {q : IntKind} {te : TypeId} {b m : Nat} {f : Int → Option Int} (hm : IM q te w b m f) : v.ownBlock ≠ some b := by
  obtain ⟨D, ⟨es, clock, h1, _⟩, _⟩ := hm
  rcases h.2 with ⟨rfl, _⟩ | ⟨g, cap, cur, rfl, _, hg, _⟩
  · simp [Value.ownBlock]
  · intro e
    obtain rfl : g = b := by simpa [Value.ownBlock] using e
    rw [hg] at h1
    cases h1
theorem row_row {w : World} {B B' e e' sz sz' : Nat} {v v' : Value} {n n' : Nat} {xs xs' : List Value} (h : w.ownsRow B e sz v n xs) (h' : w.ownsRow B' e' sz' v' n' xs') (hne : e ≠ e') : v.ownBlock = none ∨ v.ownBlock ≠ v'.ownBlock := by
  rcases h.2 with ⟨rfl, _⟩ | ⟨g, cap, cur, rfl, _, hg, _⟩
  · exact .inl rfl
  · refine .inr fun e => ?_
    rcases h'.2 with ⟨rfl, _⟩ | ⟨g', cap', cur', rfl, _, hg', _⟩
    · simp [Value.ownBlock] at e
    · obtain rfl : g = g' := by simpa [Value.ownBlock] using e
      rw [hg] at hg'
      injection hg' with hg'
      injection hg' with _ hg'
      exact hne hg'

structure RefInv (w wr : World) (mb : Nat) (xs : List Int) (l : List Tch) (m k : Nat) (v : Value) : Prop where
  map : IM .u64 34 wr mb m (cellsF (afterT xs (l.take k)))
  own : wr.ownsRow w.heap.size 9 1 v k ((outsT xs (l.take k)).map strV)
  old : Below w.heap.size w wr
  lo : w.heap.size ≤ mb

theorem RefInv.grow {w wr wr' : World} {mb m k : Nat} {xs : List Int} {l : List Tch} {v : Value} (h : RefInv w wr mb xs l m k v) (hb : Below wr.heap.size wr wr') : RefInv w wr' mb xs l m k v :=
  ⟨h.map.kept (grown_of_old hb) (by simp), h.own.kept (grown_of_old hb) (Classical.em _), h.old.trans (hb.mono h.old.size), h.lo⟩

theorem take_next {α : Type} [Inhabited α] (l : List α) (k : Nat) (h : k < l.length) : l.take (k + 1) = l.take k ++ [l.getD k default] := by
  rw [List.take_succ_eq_append_getElem h, List.getD_eq_getElem?_getD, List.getElem?_eq_getElem h]
  rfl

/-- One touch more is told. -/
theorem RefInv.next {w wr wm wr' : World} {mb m k : Nat} {xs : List Int} {l : List Tch} {v v' : Value} {out : List UInt8} {cur : List Int} (h : RefInv w wr mb xs l m k v) (hk : k < l.length) (hs : stepT (afterT xs (l.take k)) (l.getD k default) = (out, cur))
    (hm : IM .u64 34 wm mb (m + 1) (cellsF cur)) (hg : wm.grownBy wr' v.ownBlock) (hv : some mb ≠ v.ownBlock) (ho : wr'.ownsRow w.heap.size 9 1 v' (k + 1) ((outsT xs (l.take k)).map strV ++ [strV out])) (hold : Below w.heap.size w wr') : RefInv w wr' mb xs l (m + 1) (k + 1) v' := by
  have hc : afterT xs (l.take (k + 1)) = cur := by
    rw [take_next l k hk, afterT_append]
    show (stepT (afterT xs (l.take k)) (l.getD k default)).2 = cur
    rw [hs]
  have hn : outsT xs (l.take (k + 1)) = outsT xs (l.take k) ++ [out] := by
    rw [take_next l k hk, outsT_append]
    show _ ++ [(stepT (afterT xs (l.take k)) (l.getD k default)).1] = _
    rw [hs]
  exact ⟨by rw [hc]; exact hm.kept hg hv, by rw [hn, List.map_append]; exact ho, hold, h.lo⟩

def ToldTouches (xs : List Int) (l : List Tch) (w : World) (e : Ending) (w' : World) : Prop := Below w.heap.size w w' ∧
  ∃ A c A2 c2, e = .returned (.tuple #[.slice A l.length c, .slice A2 xs.length c2]) ∧ w'.ownsRow w.heap.size 9 1 (.slice A l.length c) l.length ((outsT xs l).map strV) ∧ w'.ownsRow w.heap.size 34 1 (.slice A2 xs.length c2) xs.length ((afterT xs l).map (Value.int .u64))

theorem zeroU64 (w : World) : (zeroValue 34).run Tryd.prog w = .ok (.int .u64 0) w := by kernel_rfl

set_option maxHeartbeats 4000000 in
theorem touches_any (xs : List Int) (hxs : ∀ x ∈ xs, isU64 x) (A1 : Option Addr) (n1 c1 : Nat) (l : List Tch) (hl : ∀ t ∈ l, okT t) (A2 : Option Addr) (n2 c2 : Nat) (w : World) (htab : Tab w) (hbig : 1 < w.heap.size)
    (h1 : Ints .u64 w w.heap.size A1 n1 xs) (h2 : Tchs w w.heap.size A2 n2 l) (hn1 : n1 ≤ 1000) (hn2 : n2 ≤ 1000) :
    Calls Tryd.prog 7 #[.slice A1 n1 c1, .slice A2 n2 c2] w (ToldTouches xs l w) := by
  have hlen1 := h1.len
  have hlen2 := h2.len
  have hmk : ∀ W : World, (Instr.makeMap 73 none).run Tryd.prog W = .ok (.map (some W.heap.size)) (W.alloc (.map #[] 0)) := fun W => run_makeMap 73 W
  have hM0 := IM.made .u64 34 w
  have hB0 := (Below.refl w.heap.size w).alloc (Nat.le_refl _) (.map #[] 0)
  obtain ⟨mb, hmb⟩ : ∃ mb, w.heap.size = mb := ⟨_, rfl⟩
  obtain ⟨w0, hw0⟩ : ∃ w0, w.alloc (.map #[] 0) = w0 := ⟨_, rfl⟩
  have hmk0 : (Instr.makeMap 73 none).run Tryd.prog w = .ok (.map (some mb)) w0 := by rw [hmk w, hmb, hw0]
  rw [hw0] at hM0 hB0
  rw [hmb] at hM0
  have hlo : w.heap.size ≤ mb := by omega
  have H1 := Lib.hid h1
  have H2 := Lib.hid h2
  have HXS := Lib.hid hxs
  have HLS := Lib.hid hl
  have HTAB := Lib.hid htab
  have HM0 := Lib.hid hM0
  have HB0 := Lib.hid hB0
  clear h1 h2 hxs hl htab hM0 hB0 hmk hw0 hmb
  go_enter Tryd.func7, Tryd.ntmps7
  go_wp2
  go_loopw [21] (fun j wr => ∃ i : Nat, i ≤ n1 ∧ j = .int .i64 i ∧ IM .u64 34 wr mb i (cellsF (xs.take i)) ∧ Below w.heap.size w wr) (fun j _ => n1 - (intOf j).toNat)
  case atStart => exact ⟨0, Nat.zero_le _, rfl, by have h0 : cellsF (xs.take 0) = fun _ => none := by { funext a; exact cellsF_out [] a (by simp; omega) }; rw [h0]; exact HM0.out, HB0.out⟩
  case round =>
    obtain ⟨i, hi, rfl, hM, hb⟩ := hrel
    clear HM0 HB0 hmk0
    by_cases hlt : i < n1
    · have hii : (i : Int) < (n1 : Int) := by omega
      obtain ⟨b, off, rfl, hbl, hc⟩ := (H1.out.below hb).row (by omega)
      have k1 := hc i hlt
      have hmem : isU64 (xs.getD i 0) := by
        rw [List.getD_eq_getElem?_getD, List.getElem?_eq_getElem (by omega)]
        exact HXS.out _ (List.getElem_mem _)
      obtain ⟨w', hrun, hM', hg⟩ := hM.put Tryd.underlying73 Tryd.underlying34 (by unfold maxLen; omega) (i : Int) (xs.getD i 0) (wf_i64 (by omega)) (wf_u64 hmem)
      rw [putAt_next xs i (by omega)] at hM'
      have hb' := hb.grown hg hb.size (by intro k hk; injection hk with hk; omega)
      have HM := Lib.hid hM'
      have HB := Lib.hid hb'
      clear hc hM hM' hg hb' hb hmem
      generalize xs.getD i 0 = x at *
      go_wp2
      go_roundw
      case rel => exact ⟨i + 1, by omega, by go_num, HM.out, HB.out⟩
      case measure => simp [intOf]; omega
    · obtain rfl : i = n1 := by omega
      have htk : xs.take i = xs := List.take_of_length_le (by omega)
      rw [htk] at hM
      have hI : RefInv w wr mb xs l i 0 (.slice none 0 0) := ⟨hM, World.ownsRow_nil _ _ _ _, hb, hlo⟩
      have HI := Lib.hid hI
      clear hM hb hI
      go_wp2
      go_loopw [9, 32] (fun v j wr => ∃ k : Nat, ∃ A c, k ≤ n2 ∧ j = .int .i64 k ∧ v = .slice A k c ∧ RefInv w wr mb xs l (i + k) k v) (fun _ j _ => n2 - (intOf j).toNat)
      case atStart => exact ⟨0, none, 0, Nat.zero_le _, rfl, rfl, HI.out⟩
      case round =>
        obtain ⟨k, A, c, hk, rfl, rfl, hJ⟩ := hrel
        clear HI
        by_cases hlt : k < n2
        · have hii : (k : Int) < (n2 : Int) := by omega
          obtain ⟨tb0, off, rfl, hbl, hc⟩ := (H2.out.below hJ.old).row (by omega)
          obtain ⟨e1, e2, e3, e4⟩ := hc k hlt
          have htok := HLS.out (l.getD k default) (by rw [List.getD_eq_getElem?_getD, List.getElem?_eq_getElem (by omega)]; exact List.getElem_mem _)
          obtain ⟨t, ht⟩ : ∃ t, l.getD k default = t := ⟨_, rfl⟩
          rw [ht] at e1 e2 e3 e4 htok
          obtain ⟨x1, x2, x3, x4⟩ := t
          obtain ⟨g3, g4, gwf⟩ := htok
          dsimp only at e1 e2 e3 e4 g3 g4 gwf
          have hbw : tb0 < wr.heap.size := Nat.lt_of_lt_of_le hbl hJ.old.size
          have hbne : tb0 ≠ wr.heap.size := by omega
          obtain ⟨cur, hcur⟩ : ∃ cur, afterT xs (l.take k) = cur := ⟨_, rfl⟩
          have hcl : cur.length = i := by rw [← hcur, afterT_length, hlen1]
          have hcu : ∀ x ∈ cur, isU64 x := by
            rw [← hcur]
            exact afterT_u64 _ HXS.out (fun t ht => HLS.out t (List.mem_of_mem_take ht))
          have hJx := hJ.grow ((Below.refl wr.heap.size wr).alloc (Nat.le_refl _) (.cells #[.int .i64 x1, .int .i64 x2, .int .u64 x3, .int .u64 x4] 36))
          have hMx := hJx.map
          rw [hcur] at hMx
          have hlk := hMx.look2 Tryd.underlying73 Tryd.underlying34 (zeroU64 _) x2 gwf
          have HT := Lib.hid ht
          have HCUR := Lib.hid hcur
          have HJ := Lib.hid hJ
          have HMX := Lib.hid hMx
          have HJX := Lib.hid hJx
          have TABW := Lib.hid (fun (W : World) (hb : Below w.heap.size w W) => (var?_below hb (show Tryd.prog.globalNamed "internal/strconv.uint64pow10" = some 1 by kernel_rfl) (by omega) HTAB.out : Tab W))
          have hmbne : wr.heap.size ≠ mb := by have := hMx.lt; have := hJ.map.lt; omega
          clear hc hJ hJx hMx ht hcur
          by_cases hr : 0 ≤ x2 ∧ x2 < cur.length
          · obtain ⟨kk, rfl⟩ : ∃ kk : Nat, x2 = kk := ⟨x2.toNat, by omega⟩
            have hkk : kk < cur.length := by omega
            rw [cellsF_in cur kk hkk] at hlk
            simp only [Option.getD_some, Option.isSome_some] at hlk
            have hvu : isU64 (cur.getD kk 0) := by
              rw [List.getD_eq_getElem?_getD, List.getElem?_eq_getElem hkk]
              exact hcu _ (List.getElem_mem _)
            obtain ⟨vn, hvn⟩ : ∃ vn : Nat, cur.getD kk 0 = vn := ⟨(cur.getD kk 0).toNat, by have := hvu.1; omega⟩
            have hst0 : ∀ y, stepT cur (x1, (kk : Int), x3, x4) = y → stepT cur (x1, (kk : Int), x3, x4) = y := fun _ h => h
            rw [hvn] at hlk hvu
            have hvl : vn < 18446744073709551616 := by have := hvu.2; omega
            have hin : (0 : Int) ≤ (kk : Int) ∧ (kk : Int) < (cur.length : Int) := by omega
            clear hst0 hcu
            by_cases hw1 : x1 = 1
            · subst hw1
              have hU : (0 : Nat) < 18446744073709551616 := by decide
              have HST := Lib.hid (show stepT cur (1, (kk : Int), x3, x4) = (textT 0 false 0, cur.set kk x3) by
                unfold stepT
                dsimp only
                rw [if_pos hin, if_pos rfl, Int.toNat_natCast])
              obtain ⟨W, hrun, hMW, hgW⟩ := HMX.out.put Tryd.underlying73 Tryd.underlying34 (by unfold maxLen; omega) (kk : Int) x3 gwf (wf_u64 g3)
              rw [putAt_set cur kk hkk] at hMW
              have HMW := Lib.hid hMW
              have HOW := Lib.hid (HJX.out.own.kept hgW (.inr (row_map HJX.out.own HMX.out)))
              have HBW := Lib.hid (HJX.out.old.grown hgW HJX.out.old.size (by intro z hz; injection hz with hz; omega))
              clear HMX HJX hMW hgW hvn

              obtain ⟨F, F2, Fb, F3, p1, p2, p3, p4, q1, q2, q3, q4, p5, _⟩ := parts 0 hU false
              obtain ⟨GB, hGB⟩ : ∃ GB, strV (textT 0 false 0) = .string GB := ⟨_, rfl⟩
              have p6 : F3 ++ ⟨#[32, 48]⟩ = GB := by
                rw [p5]
                unfold strV at hGB
                injection hGB
              have HU := Lib.hid (show Calls Tryd.prog 12 #[.int .u64 0, .int .i64 10] W _ from formatUint_any 0 hU W (TABW.out W HBW.out))
              have HFB := Lib.hid (fun w => Tryd.strconv_FormatBool false w)
              unfold strV at p1 p3
              rw [show strV (Lib.decDigits 0) = .string F from p1] at HU
              simp only [p3] at HFB
              have s1 : ¬ 9223372036854775807 < F.size + 1 := by omega
              have s2 : ¬ 9223372036854775807 < F2.size + Fb.size := by omega
              have s3 : ¬ 9223372036854775807 < F3.size + 2 := by omega
              have HGB := Lib.hid hGB
              clear p1 p3 p5 q1 q2 q3 q4 hGB
              go_wp2_with fail
              refine HU.out.mono ?_
              rintro e V1 ⟨rfl, hb1⟩
              have HMV := Lib.hid (HMW.out.kept (grown_of_old hb1) (by simp))
              have HOV := Lib.hid (HOW.out.kept (grown_of_old hb1) (Classical.em _))
              have HBV := Lib.hid (HBW.out.trans (hb1.mono HBW.out.size))
              clear hb1 HU HMW HOW HBW
              go_wp2_with fail
              refine (HFB.out _).mono ?_
              rintro e V2 ⟨rfl, hV2⟩
              obtain rfl : V1 = V2 := hV2.symm

              obtain ⟨i0, hi0, hz0, hz1, hz2⟩ := info_parts infoStr
              have HO5 := Lib.hid (HOV.out.alloc (.cells #[.string GB] 9))
              have HNW := Lib.hid (World.news_of_block (cs := #[.string GB]) (heap_alloc_new V1 (.cells #[.string GB] 9)))
              have HOC := Lib.hid (show ∀ u ∈ [Value.string GB], u.oneCell' = true from fun u hu => by rw [List.mem_singleton.1 hu]; rfl)
              have hvs := HBV.out.size
              go_wp2_with (at_builtin; refine wpList_append_own _ rfl _ _ 31 rfl w.heap.size 9 i0 (.string ⟨#[]⟩) 1 16 Tryd.underlying31 hi0 hz0 hz1 hz2 rfl (by decide) _ k _ rfl HO5.out ⟨V1.heap.size, 0, none⟩ 1 1 [.string GB] rfl rfl HNW.out HOC.out ?d3 ?d4 ?d5 ?_)
              case d3 => unfold maxLen; omega
              case d4 => omega
              case d5 => simp; omega
              intro v' w6 hown6 hg6 _
              obtain ⟨A6, c6, rfl⟩ := own_form hown6
              have hap := row_map HOV.out HMV.out
              have HF := Lib.hid (HJ.out.next (wr' := w6) (v' := .slice A6 (k + 1) c6) (by omega) (by rw [HT.out, HCUR.out]; exact HST.out) (HMV.out.kept (World.grownBy_alloc V1 (.cells #[.string GB] 9) none) (by simp)) hg6 (fun e => hap e.symm) (by rw [HGB.out]; exact hown6) ((HBV.out.alloc hvs _).grown hg6 (by simp; omega) (fun z hz => (HOV.out.lt z hz).1)))
              clear hown6 hg6 hap HOV HO5 HNW HOC HMV HBV
              go_wp2
              go_roundw
              case rel => exact ⟨k + 1, A6, c6, by omega, by go_num, by simp, HF.out⟩
              case measure => simp [intOf]; omega
            by_cases hw2 : x1 = 2
            · subst hw2
              have hU := hvl
              have HST := Lib.hid (show stepT cur (2, (kk : Int), x3, x4) = (textT vn false 0, cur.set kk (IntKind.u64.wrap ((vn : Int) + x3))) by
                unfold stepT
                dsimp only
                rw [if_pos hin, if_neg (by decide), if_pos rfl, Int.toNat_natCast, hvn, Int.toNat_natCast])
              obtain ⟨cc, hadd⟩ := run_add64 (vn : Int) x3 hvu g3
              have hMD : IM .u64 34 (wr.alloc (.cells #[.int .i64 2, .int .i64 (kk : Int), .int .u64 x3, .int .u64 x4] 36)).drew mb (i + k) (cellsF cur) := HMX.out.block rfl
              obtain ⟨W, hrun, hMW, hgW⟩ := hMD.put Tryd.underlying73 Tryd.underlying34 (by unfold maxLen; omega) (kk : Int) (IntKind.u64.wrap ((vn : Int) + x3)) gwf (wf_u64 (wrap_isU64 _))
              rw [putAt_set cur kk hkk] at hMW
              have hrow : (wr.alloc (.cells #[.int .i64 2, .int .i64 (kk : Int), .int .u64 x3, .int .u64 x4] 36)).drew.heap[wr.heap.size]? = some (.cells #[.int .i64 2, .int .i64 (kk : Int), .int .u64 x3, .int .u64 x4] 36 (0, 0)) := heap_alloc_new wr _
              have hrowW := (hgW.block wr.heap.size (by simp [World.drew]) (by intro z; injection z with z; omega)).trans hrow
              have y2 : (wr.alloc (.cells #[.int .i64 2, .int .i64 (kk : Int), .int .u64 x3, .int .u64 x4] 36)).drew.cell? ⟨wr.heap.size, 1, none⟩ = some (.int .i64 (kk : Int)) := by rw [cell_of_row _ wr.heap.size 1 _ _ _ hrow]; rfl
              have y3 : (wr.alloc (.cells #[.int .i64 2, .int .i64 (kk : Int), .int .u64 x3, .int .u64 x4] 36)).drew.cell? ⟨wr.heap.size, 2, none⟩ = some (.int .u64 x3) := by rw [cell_of_row _ wr.heap.size 2 _ _ _ hrow]; rfl
              have z2 : W.cell? ⟨wr.heap.size, 1, none⟩ = some (.int .i64 (kk : Int)) := by rw [cell_of_row _ wr.heap.size 1 _ _ _ hrowW]; rfl
              have z3 : W.cell? ⟨wr.heap.size, 2, none⟩ = some (.int .u64 x3) := by rw [cell_of_row _ wr.heap.size 2 _ _ _ hrowW]; rfl
              have HMW := Lib.hid hMW
              have HOW := Lib.hid ((show World.ownsRow (wr.alloc (.cells #[.int .i64 2, .int .i64 (kk : Int), .int .u64 x3, .int .u64 x4] 36)).drew _ _ _ _ _ _ from HJX.out.own).kept hgW (.inr (row_map HJX.out.own HMX.out)))
              have HBW := Lib.hid ((show Below w.heap.size w (wr.alloc (.cells #[.int .i64 2, .int .i64 (kk : Int), .int .u64 x3, .int .u64 x4] 36)).drew from below_drewN HJX.out.old 1).grown hgW HJX.out.old.size (by intro z hz; injection hz with hz; omega))
              generalize IntKind.u64.wrap ((vn : Int) + x3) = sm at *
              clear HMX HJX hMW hgW hvn hMD hrow hrowW
              go_wp2_with fail
              go_region_held3 (fun u => u.cell? ⟨wr.heap.size, 1, none⟩ = some (.int .i64 (kk : Int)) ∧ u.cell? ⟨wr.heap.size, 2, none⟩ = some (.int .u64 x3)) (first | exact ⟨y2, y3⟩ | exact ⟨z2, z3⟩) (first | fail)
              clear y2 y3 z2 z3 hrun hadd

              obtain ⟨F, F2, Fb, F3, p1, p2, p3, p4, q1, q2, q3, q4, p5, _⟩ := parts vn hU false
              obtain ⟨GB, hGB⟩ : ∃ GB, strV (textT vn false 0) = .string GB := ⟨_, rfl⟩
              have p6 : F3 ++ ⟨#[32, 48]⟩ = GB := by
                rw [p5]
                unfold strV at hGB
                injection hGB
              have HU := Lib.hid (show Calls Tryd.prog 12 #[.int .u64 (vn : Int), .int .i64 10] W _ from formatUint_any vn hU W (TABW.out W HBW.out))
              have HFB := Lib.hid (fun w => Tryd.strconv_FormatBool false w)
              unfold strV at p1 p3
              rw [show strV (Lib.decDigits vn) = .string F from p1] at HU
              simp only [p3] at HFB
              have s1 : ¬ 9223372036854775807 < F.size + 1 := by omega
              have s2 : ¬ 9223372036854775807 < F2.size + Fb.size := by omega
              have s3 : ¬ 9223372036854775807 < F3.size + 2 := by omega
              have HGB := Lib.hid hGB
              clear p1 p3 p5 q1 q2 q3 q4 hGB
              go_wp2_with fail
              refine HU.out.mono ?_
              rintro e V1 ⟨rfl, hb1⟩
              have HMV := Lib.hid (HMW.out.kept (grown_of_old hb1) (by simp))
              have HOV := Lib.hid (HOW.out.kept (grown_of_old hb1) (Classical.em _))
              have HBV := Lib.hid (HBW.out.trans (hb1.mono HBW.out.size))
              clear hb1 HU HMW HOW HBW
              go_wp2_with fail
              refine (HFB.out _).mono ?_
              rintro e V2 ⟨rfl, hV2⟩
              obtain rfl : V1 = V2 := hV2.symm

              obtain ⟨i0, hi0, hz0, hz1, hz2⟩ := info_parts infoStr
              have HO5 := Lib.hid (HOV.out.alloc (.cells #[.string GB] 9))
              have HNW := Lib.hid (World.news_of_block (cs := #[.string GB]) (heap_alloc_new V1 (.cells #[.string GB] 9)))
              have HOC := Lib.hid (show ∀ u ∈ [Value.string GB], u.oneCell' = true from fun u hu => by rw [List.mem_singleton.1 hu]; rfl)
              have hvs := HBV.out.size
              go_wp2_with (at_builtin; refine wpList_append_own _ rfl _ _ 31 rfl w.heap.size 9 i0 (.string ⟨#[]⟩) 1 16 Tryd.underlying31 hi0 hz0 hz1 hz2 rfl (by decide) _ k _ rfl HO5.out ⟨V1.heap.size, 0, none⟩ 1 1 [.string GB] rfl rfl HNW.out HOC.out ?d3 ?d4 ?d5 ?_)
              case d3 => unfold maxLen; omega
              case d4 => omega
              case d5 => simp; omega
              intro v' w6 hown6 hg6 _
              obtain ⟨A6, c6, rfl⟩ := own_form hown6
              have hap := row_map HOV.out HMV.out
              have HF := Lib.hid (HJ.out.next (wr' := w6) (v' := .slice A6 (k + 1) c6) (by omega) (by rw [HT.out, HCUR.out]; exact HST.out) (HMV.out.kept (World.grownBy_alloc V1 (.cells #[.string GB] 9) none) (by simp)) hg6 (fun e => hap e.symm) (by rw [HGB.out]; exact hown6) ((HBV.out.alloc hvs _).grown hg6 (by simp; omega) (fun z hz => (HOV.out.lt z hz).1)))
              clear hown6 hg6 hap HOV HO5 HNW HOC HMV HBV
              go_wp2
              go_roundw
              case rel => exact ⟨k + 1, A6, c6, by omega, by go_num, by simp, HF.out⟩
              case measure => simp [intOf]; omega
            by_cases hw3 : x1 = 3
            · subst hw3
              have hU : (0 : Nat) < 18446744073709551616 := by decide
              by_cases hveq : (vn : Int) = x3
              · have hbe : ((vn : Int) == x3) = true := by simpa using hveq
                have HST := Lib.hid (show stepT cur (3, (kk : Int), x3, x4) = (textT 0 true 0, cur.set kk x4) by
                  unfold stepT
                  dsimp only
                  rw [if_pos hin, if_neg (by decide), if_neg (by decide), if_pos rfl, Int.toNat_natCast, hvn, if_pos hveq])
                obtain ⟨W, hrun, hMW, hgW⟩ := HMX.out.put Tryd.underlying73 Tryd.underlying34 (by unfold maxLen; omega) (kk : Int) x4 gwf (wf_u64 g4)
                rw [putAt_set cur kk hkk] at hMW
                have HMW := Lib.hid hMW
                have HOW := Lib.hid (HJX.out.own.kept hgW (.inr (row_map HJX.out.own HMX.out)))
                have HBW := Lib.hid (HJX.out.old.grown hgW HJX.out.old.size (by intro z hz; injection hz with hz; omega))
                clear HMX HJX hMW hgW hvn hveq
                obtain ⟨F, F2, Fb, F3, p1, p2, p3, p4, q1, q2, q3, q4, p5, _⟩ := parts 0 hU true
                obtain ⟨GB, hGB⟩ : ∃ GB, strV (textT 0 true 0) = .string GB := ⟨_, rfl⟩
                have p6 : F3 ++ ⟨#[32, 48]⟩ = GB := by
                  rw [p5]
                  unfold strV at hGB
                  injection hGB
                have HU := Lib.hid (show Calls Tryd.prog 12 #[.int .u64 0, .int .i64 10] W _ from formatUint_any 0 hU W (TABW.out W HBW.out))
                have HFB := Lib.hid (fun w => Tryd.strconv_FormatBool true w)
                unfold strV at p1 p3
                rw [show strV (Lib.decDigits 0) = .string F from p1] at HU
                simp only [p3] at HFB
                have s1 : ¬ 9223372036854775807 < F.size + 1 := by omega
                have s2 : ¬ 9223372036854775807 < F2.size + Fb.size := by omega
                have s3 : ¬ 9223372036854775807 < F3.size + 2 := by omega
                have HGB := Lib.hid hGB
                clear p1 p3 p5 q1 q2 q3 q4 hGB
                go_wp2_with fail
                refine HU.out.mono ?_
                rintro e V1 ⟨rfl, hb1⟩
                have HMV := Lib.hid (HMW.out.kept (grown_of_old hb1) (by simp))
                have HOV := Lib.hid (HOW.out.kept (grown_of_old hb1) (Classical.em _))
                have HBV := Lib.hid (HBW.out.trans (hb1.mono HBW.out.size))
                clear hb1 HU HMW HOW HBW
                go_wp2_with fail
                refine (HFB.out _).mono ?_
                rintro e V2 ⟨rfl, hV2⟩
                obtain rfl : V1 = V2 := hV2.symm

                obtain ⟨i0, hi0, hz0, hz1, hz2⟩ := info_parts infoStr
                have HO5 := Lib.hid (HOV.out.alloc (.cells #[.string GB] 9))
                have HNW := Lib.hid (World.news_of_block (cs := #[.string GB]) (heap_alloc_new V1 (.cells #[.string GB] 9)))
                have HOC := Lib.hid (show ∀ u ∈ [Value.string GB], u.oneCell' = true from fun u hu => by rw [List.mem_singleton.1 hu]; rfl)
                have hvs := HBV.out.size
                go_wp2_with (at_builtin; refine wpList_append_own _ rfl _ _ 31 rfl w.heap.size 9 i0 (.string ⟨#[]⟩) 1 16 Tryd.underlying31 hi0 hz0 hz1 hz2 rfl (by decide) _ k _ rfl HO5.out ⟨V1.heap.size, 0, none⟩ 1 1 [.string GB] rfl rfl HNW.out HOC.out ?d3 ?d4 ?d5 ?_)
                case d3 => unfold maxLen; omega
                case d4 => omega
                case d5 => simp; omega
                intro v' w6 hown6 hg6 _
                obtain ⟨A6, c6, rfl⟩ := own_form hown6
                have hap := row_map HOV.out HMV.out
                have HF := Lib.hid (HJ.out.next (wr' := w6) (v' := .slice A6 (k + 1) c6) (by omega) (by rw [HT.out, HCUR.out]; exact HST.out) (HMV.out.kept (World.grownBy_alloc V1 (.cells #[.string GB] 9) none) (by simp)) hg6 (fun e => hap e.symm) (by rw [HGB.out]; exact hown6) ((HBV.out.alloc hvs _).grown hg6 (by simp; omega) (fun z hz => (HOV.out.lt z hz).1)))
                clear hown6 hg6 hap HOV HO5 HNW HOC HMV HBV
                go_wp2
                go_roundw
                case rel => exact ⟨k + 1, A6, c6, by omega, by go_num, by simp, HF.out⟩
                case measure => simp [intOf]; omega
              · have hbe : ((vn : Int) == x3) = false := by simpa using hveq
                have HST := Lib.hid (show stepT cur (3, (kk : Int), x3, x4) = (textT 0 false 0, cur) by
                  unfold stepT
                  dsimp only
                  rw [if_pos hin, if_neg (by decide), if_neg (by decide), if_pos rfl, Int.toNat_natCast, hvn, if_neg hveq])
                have HMW := Lib.hid (HMX.out.mono (Nat.le_succ _))
                have HOW := Lib.hid HJX.out.own
                have HBW := Lib.hid HJX.out.old
                clear HMX HJX hvn hveq
                obtain ⟨F, F2, Fb, F3, p1, p2, p3, p4, q1, q2, q3, q4, p5, _⟩ := parts 0 hU false
                obtain ⟨GB, hGB⟩ : ∃ GB, strV (textT 0 false 0) = .string GB := ⟨_, rfl⟩
                have p6 : F3 ++ ⟨#[32, 48]⟩ = GB := by
                  rw [p5]
                  unfold strV at hGB
                  injection hGB
                have HU := Lib.hid (show Calls Tryd.prog 12 #[.int .u64 0, .int .i64 10] (wr.alloc (.cells #[.int .i64 3, .int .i64 (kk : Int), .int .u64 x3, .int .u64 x4] 36)) _ from formatUint_any 0 hU (wr.alloc (.cells #[.int .i64 3, .int .i64 (kk : Int), .int .u64 x3, .int .u64 x4] 36)) (TABW.out (wr.alloc (.cells #[.int .i64 3, .int .i64 (kk : Int), .int .u64 x3, .int .u64 x4] 36)) HBW.out))
                have HFB := Lib.hid (fun w => Tryd.strconv_FormatBool false w)
                unfold strV at p1 p3
                rw [show strV (Lib.decDigits 0) = .string F from p1] at HU
                simp only [p3] at HFB
                have s1 : ¬ 9223372036854775807 < F.size + 1 := by omega
                have s2 : ¬ 9223372036854775807 < F2.size + Fb.size := by omega
                have s3 : ¬ 9223372036854775807 < F3.size + 2 := by omega
                have HGB := Lib.hid hGB
                clear p1 p3 p5 q1 q2 q3 q4 hGB
                go_wp2_with fail
                refine HU.out.mono ?_
                rintro e V1 ⟨rfl, hb1⟩
                have HMV := Lib.hid (HMW.out.kept (grown_of_old hb1) (by simp))
                have HOV := Lib.hid (HOW.out.kept (grown_of_old hb1) (Classical.em _))
                have HBV := Lib.hid (HBW.out.trans (hb1.mono HBW.out.size))
                clear hb1 HU HMW HOW HBW
                go_wp2_with fail
                refine (HFB.out _).mono ?_
                rintro e V2 ⟨rfl, hV2⟩
                obtain rfl : V1 = V2 := hV2.symm

                obtain ⟨i0, hi0, hz0, hz1, hz2⟩ := info_parts infoStr
                have HO5 := Lib.hid (HOV.out.alloc (.cells #[.string GB] 9))
                have HNW := Lib.hid (World.news_of_block (cs := #[.string GB]) (heap_alloc_new V1 (.cells #[.string GB] 9)))
                have HOC := Lib.hid (show ∀ u ∈ [Value.string GB], u.oneCell' = true from fun u hu => by rw [List.mem_singleton.1 hu]; rfl)
                have hvs := HBV.out.size
                go_wp2_with (at_builtin; refine wpList_append_own _ rfl _ _ 31 rfl w.heap.size 9 i0 (.string ⟨#[]⟩) 1 16 Tryd.underlying31 hi0 hz0 hz1 hz2 rfl (by decide) _ k _ rfl HO5.out ⟨V1.heap.size, 0, none⟩ 1 1 [.string GB] rfl rfl HNW.out HOC.out ?d3 ?d4 ?d5 ?_)
                case d3 => unfold maxLen; omega
                case d4 => omega
                case d5 => simp; omega
                intro v' w6 hown6 hg6 _
                obtain ⟨A6, c6, rfl⟩ := own_form hown6
                have hap := row_map HOV.out HMV.out
                have HF := Lib.hid (HJ.out.next (wr' := w6) (v' := .slice A6 (k + 1) c6) (by omega) (by rw [HT.out, HCUR.out]; exact HST.out) (HMV.out.kept (World.grownBy_alloc V1 (.cells #[.string GB] 9) none) (by simp)) hg6 (fun e => hap e.symm) (by rw [HGB.out]; exact hown6) ((HBV.out.alloc hvs _).grown hg6 (by simp; omega) (fun z hz => (HOV.out.lt z hz).1)))
                clear hown6 hg6 hap HOV HO5 HNW HOC HMV HBV
                go_wp2
                go_roundw
                case rel => exact ⟨k + 1, A6, c6, by omega, by go_num, by simp, HF.out⟩
                case measure => simp [intOf]; omega
            have b1 : (x1 == 1) = false := by simpa using hw1
            have b2 : (x1 == 2) = false := by simpa using hw2
            have b3 : (x1 == 3) = false := by simpa using hw3
            have hU := hvl
            have HST := Lib.hid (show stepT cur (x1, (kk : Int), x3, x4) = (textT vn false 0, cur) by
              unfold stepT
              dsimp only
              rw [if_pos hin, if_neg hw1, if_neg hw2, if_neg hw3, Int.toNat_natCast, hvn, Int.toNat_natCast])
            obtain ⟨W, hW⟩ : ∃ W, wr.alloc (.cells #[.int .i64 x1, .int .i64 (kk : Int), .int .u64 x3, .int .u64 x4] 36) = W := ⟨_, rfl⟩
            have HMW := Lib.hid (show IM .u64 34 W mb (i + k + 1) (cellsF cur) by rw [← hW]; exact HMX.out.mono (Nat.le_succ _))
            have HOW := Lib.hid (show W.ownsRow _ _ _ _ _ _ by rw [← hW]; exact HJX.out.own)
            have HBW := Lib.hid (show Below w.heap.size w W by rw [← hW]; exact HJX.out.old)
            clear HMX HJX hvn
            by_cases hw0 : x1 = 0
            · subst hw0
              subst hW
              obtain ⟨F, F2, Fb, F3, p1, p2, p3, p4, q1, q2, q3, q4, p5, _⟩ := parts vn hU false
              obtain ⟨GB, hGB⟩ : ∃ GB, strV (textT vn false 0) = .string GB := ⟨_, rfl⟩
              have p6 : F3 ++ ⟨#[32, 48]⟩ = GB := by
                rw [p5]
                unfold strV at hGB
                injection hGB
              have HU := Lib.hid (show Calls Tryd.prog 12 #[.int .u64 (vn : Int), .int .i64 10] (wr.alloc (.cells #[.int .i64 0, .int .i64 (kk : Int), .int .u64 x3, .int .u64 x4] 36)) _ from formatUint_any vn hU (wr.alloc (.cells #[.int .i64 0, .int .i64 (kk : Int), .int .u64 x3, .int .u64 x4] 36)) (TABW.out (wr.alloc (.cells #[.int .i64 0, .int .i64 (kk : Int), .int .u64 x3, .int .u64 x4] 36)) HBW.out))
              have HFB := Lib.hid (fun w => Tryd.strconv_FormatBool false w)
              unfold strV at p1 p3
              rw [show strV (Lib.decDigits vn) = .string F from p1] at HU
              simp only [p3] at HFB
              have s1 : ¬ 9223372036854775807 < F.size + 1 := by omega
              have s2 : ¬ 9223372036854775807 < F2.size + Fb.size := by omega
              have s3 : ¬ 9223372036854775807 < F3.size + 2 := by omega
              have HGB := Lib.hid hGB
              clear p1 p3 p5 q1 q2 q3 q4 hGB
              go_wp2_with fail
              refine HU.out.mono ?_
              rintro e V1 ⟨rfl, hb1⟩
              have HMV := Lib.hid (HMW.out.kept (grown_of_old hb1) (by simp))
              have HOV := Lib.hid (HOW.out.kept (grown_of_old hb1) (Classical.em _))
              have HBV := Lib.hid (HBW.out.trans (hb1.mono HBW.out.size))
              clear hb1 HU HMW HOW HBW
              go_wp2_with fail
              refine (HFB.out _).mono ?_
              rintro e V2 ⟨rfl, hV2⟩
              obtain rfl : V1 = V2 := hV2.symm

              obtain ⟨i0, hi0, hz0, hz1, hz2⟩ := info_parts infoStr
              have HO5 := Lib.hid (HOV.out.alloc (.cells #[.string GB] 9))
              have HNW := Lib.hid (World.news_of_block (cs := #[.string GB]) (heap_alloc_new V1 (.cells #[.string GB] 9)))
              have HOC := Lib.hid (show ∀ u ∈ [Value.string GB], u.oneCell' = true from fun u hu => by rw [List.mem_singleton.1 hu]; rfl)
              have hvs := HBV.out.size
              go_wp2_with (at_builtin; refine wpList_append_own _ rfl _ _ 31 rfl w.heap.size 9 i0 (.string ⟨#[]⟩) 1 16 Tryd.underlying31 hi0 hz0 hz1 hz2 rfl (by decide) _ k _ rfl HO5.out ⟨V1.heap.size, 0, none⟩ 1 1 [.string GB] rfl rfl HNW.out HOC.out ?d3 ?d4 ?d5 ?_)
              case d3 => unfold maxLen; omega
              case d4 => omega
              case d5 => simp; omega
              intro v' w6 hown6 hg6 _
              obtain ⟨A6, c6, rfl⟩ := own_form hown6
              have hap := row_map HOV.out HMV.out
              have HF := Lib.hid (HJ.out.next (wr' := w6) (v' := .slice A6 (k + 1) c6) (by omega) (by rw [HT.out, HCUR.out]; exact HST.out) (HMV.out.kept (World.grownBy_alloc V1 (.cells #[.string GB] 9) none) (by simp)) hg6 (fun e => hap e.symm) (by rw [HGB.out]; exact hown6) ((HBV.out.alloc hvs _).grown hg6 (by simp; omega) (fun z hz => (HOV.out.lt z hz).1)))
              clear hown6 hg6 hap HOV HO5 HNW HOC HMV HBV
              go_wp2
              go_roundw
              case rel => exact ⟨k + 1, A6, c6, by omega, by go_num, by simp, HF.out⟩
              case measure => simp [intOf]; omega
            · have b0 : (x1 == 0) = false := by simpa using hw0
              subst hW
              obtain ⟨F, F2, Fb, F3, p1, p2, p3, p4, q1, q2, q3, q4, p5, _⟩ := parts vn hU false
              obtain ⟨GB, hGB⟩ : ∃ GB, strV (textT vn false 0) = .string GB := ⟨_, rfl⟩
              have p6 : F3 ++ ⟨#[32, 48]⟩ = GB := by
                rw [p5]
                unfold strV at hGB
                injection hGB
              have HU := Lib.hid (show Calls Tryd.prog 12 #[.int .u64 (vn : Int), .int .i64 10] (wr.alloc (.cells #[.int .i64 x1, .int .i64 (kk : Int), .int .u64 x3, .int .u64 x4] 36)) _ from formatUint_any vn hU (wr.alloc (.cells #[.int .i64 x1, .int .i64 (kk : Int), .int .u64 x3, .int .u64 x4] 36)) (TABW.out (wr.alloc (.cells #[.int .i64 x1, .int .i64 (kk : Int), .int .u64 x3, .int .u64 x4] 36)) HBW.out))
              have HFB := Lib.hid (fun w => Tryd.strconv_FormatBool false w)
              unfold strV at p1 p3
              rw [show strV (Lib.decDigits vn) = .string F from p1] at HU
              simp only [p3] at HFB
              have s1 : ¬ 9223372036854775807 < F.size + 1 := by omega
              have s2 : ¬ 9223372036854775807 < F2.size + Fb.size := by omega
              have s3 : ¬ 9223372036854775807 < F3.size + 2 := by omega
              have HGB := Lib.hid hGB
              clear p1 p3 p5 q1 q2 q3 q4 hGB
              go_wp2_with fail
              refine HU.out.mono ?_
              rintro e V1 ⟨rfl, hb1⟩
              have HMV := Lib.hid (HMW.out.kept (grown_of_old hb1) (by simp))
              have HOV := Lib.hid (HOW.out.kept (grown_of_old hb1) (Classical.em _))
              have HBV := Lib.hid (HBW.out.trans (hb1.mono HBW.out.size))
              clear hb1 HU HMW HOW HBW
              go_wp2_with fail
              refine (HFB.out _).mono ?_
              rintro e V2 ⟨rfl, hV2⟩
              obtain rfl : V1 = V2 := hV2.symm

              obtain ⟨i0, hi0, hz0, hz1, hz2⟩ := info_parts infoStr
              have HO5 := Lib.hid (HOV.out.alloc (.cells #[.string GB] 9))
              have HNW := Lib.hid (World.news_of_block (cs := #[.string GB]) (heap_alloc_new V1 (.cells #[.string GB] 9)))
              have HOC := Lib.hid (show ∀ u ∈ [Value.string GB], u.oneCell' = true from fun u hu => by rw [List.mem_singleton.1 hu]; rfl)
              have hvs := HBV.out.size
              go_wp2_with (at_builtin; refine wpList_append_own _ rfl _ _ 31 rfl w.heap.size 9 i0 (.string ⟨#[]⟩) 1 16 Tryd.underlying31 hi0 hz0 hz1 hz2 rfl (by decide) _ k _ rfl HO5.out ⟨V1.heap.size, 0, none⟩ 1 1 [.string GB] rfl rfl HNW.out HOC.out ?d3 ?d4 ?d5 ?_)
              case d3 => unfold maxLen; omega
              case d4 => omega
              case d5 => simp; omega
              intro v' w6 hown6 hg6 _
              obtain ⟨A6, c6, rfl⟩ := own_form hown6
              have hap := row_map HOV.out HMV.out
              have HF := Lib.hid (HJ.out.next (wr' := w6) (v' := .slice A6 (k + 1) c6) (by omega) (by rw [HT.out, HCUR.out]; exact HST.out) (HMV.out.kept (World.grownBy_alloc V1 (.cells #[.string GB] 9) none) (by simp)) hg6 (fun e => hap e.symm) (by rw [HGB.out]; exact hown6) ((HBV.out.alloc hvs _).grown hg6 (by simp; omega) (fun z hz => (HOV.out.lt z hz).1)))
              clear hown6 hg6 hap HOV HO5 HNW HOC HMV HBV
              go_wp2
              go_roundw
              case rel => exact ⟨k + 1, A6, c6, by omega, by go_num, by simp, HF.out⟩
              case measure => simp [intOf]; omega
          · rw [cellsF_out cur x2 (by omega)] at hlk
            simp only [Option.getD_none, Option.isSome_none] at hlk
            have HST := Lib.hid (show stepT cur (x1, x2, x3, x4) = (textT 0 false 2, cur) by
              unfold stepT
              dsimp only
              rw [if_neg hr])
            obtain ⟨GB, hGB⟩ : ∃ GB, strV (textT 0 false 2) = .string GB := ⟨_, rfl⟩
            have hd0 : Lib.decDigits 0 = [48] := by rw [Lib.decDigits, dif_pos (by decide)]; rfl
            have p6 : (⟨#[48, 32, 102, 97, 108, 115, 101, 32]⟩ : ByteArray) ++ ⟨(Lib.decDigits 2).toArray⟩ = GB := by
              have h := bytes_append [48, 32, 102, 97, 108, 115, 101, 32] (Lib.decDigits 2)
              unfold strV textT at hGB
              injection hGB with hGB
              rw [← hGB, hd0]
              exact h
            have hsz : (⟨(Lib.decDigits 2).toArray⟩ : ByteArray).size ≤ 5 := by
              rw [show Lib.decDigits 2 = [50] by rw [Lib.decDigits, dif_pos (by decide)]; rfl]
              decide
            have HIT := Lib.hid (fun w => (show Calls Tryd.prog 14 #[.int .i64 2] w _ from Tryd.strconv_Itoa_small 2 (by decide) w))
            generalize (⟨(Lib.decDigits 2).toArray⟩ : ByteArray) = T2 at *
            have s1 : ¬ 9223372036854775807 < 8 + T2.size := by omega
            have HGB := Lib.hid hGB
            obtain ⟨V1, hV1⟩ : ∃ V1, wr.alloc (.cells #[.int .i64 x1, .int .i64 x2, .int .u64 x3, .int .u64 x4] 36) = V1 := ⟨_, rfl⟩
            have HMV := Lib.hid (show IM .u64 34 V1 mb (i + k + 1) (cellsF cur) by rw [← hV1]; exact HMX.out.mono (Nat.le_succ _))
            have HOV := Lib.hid (show V1.ownsRow _ _ _ _ _ _ by rw [← hV1]; exact HJX.out.own)
            have HBV := Lib.hid (show Below w.heap.size w V1 by rw [← hV1]; exact HJX.out.old)
            rw [hV1] at hlk
            have hrow : V1.heap[wr.heap.size]? = some (.cells #[.int .i64 x1, .int .i64 x2, .int .u64 x3, .int .u64 x4] 36 (0, 0)) := by rw [← hV1]; exact heap_alloc_new wr _
            have y1 : V1.cell? ⟨wr.heap.size, 0, none⟩ = some (.int .i64 x1) := by rw [cell_of_row _ wr.heap.size 0 _ _ _ hrow]; rfl
            have y2 : V1.cell? ⟨wr.heap.size, 1, none⟩ = some (.int .i64 x2) := by rw [cell_of_row _ wr.heap.size 1 _ _ _ hrow]; rfl
            have y3 : V1.cell? ⟨wr.heap.size, 2, none⟩ = some (.int .u64 x3) := by rw [cell_of_row _ wr.heap.size 2 _ _ _ hrow]; rfl
            have y4 : V1.cell? ⟨wr.heap.size, 3, none⟩ = some (.int .u64 x4) := by rw [cell_of_row _ wr.heap.size 3 _ _ _ hrow]; rfl
            clear HMX HJX hGB hd0 hsz
            go_wp2_with fail
            refine (HIT.out _).mono ?_
            rintro e V2 ⟨rfl, hV2⟩
            obtain rfl : V1 = V2 := hV2.symm
            obtain ⟨i0, hi0, hz0, hz1, hz2⟩ := info_parts infoStr
            have HO5 := Lib.hid (HOV.out.alloc (.cells #[.string GB] 9))
            have HNW := Lib.hid (World.news_of_block (cs := #[.string GB]) (heap_alloc_new V1 (.cells #[.string GB] 9)))
            have HOC := Lib.hid (show ∀ u ∈ [Value.string GB], u.oneCell' = true from fun u hu => by rw [List.mem_singleton.1 hu]; rfl)
            have hvs := HBV.out.size
            go_wp2_with (at_builtin; refine wpList_append_own _ rfl _ _ 31 rfl w.heap.size 9 i0 (.string ⟨#[]⟩) 1 16 Tryd.underlying31 hi0 hz0 hz1 hz2 rfl (by decide) _ k _ rfl HO5.out ⟨V1.heap.size, 0, none⟩ 1 1 [.string GB] rfl rfl HNW.out HOC.out ?d3 ?d4 ?d5 ?_)
            case d3 => unfold maxLen; omega
            case d4 => omega
            case d5 => simp; omega
            intro v' w6 hown6 hg6 _
            obtain ⟨A6, c6, rfl⟩ := own_form hown6
            have hap := row_map HOV.out HMV.out
            have HF := Lib.hid (HJ.out.next (wr' := w6) (v' := .slice A6 (k + 1) c6) (by omega) (by rw [HT.out, HCUR.out]; exact HST.out) (HMV.out.kept (World.grownBy_alloc V1 (.cells #[.string GB] 9) none) (by simp)) hg6 (fun e => hap e.symm) (by rw [HGB.out]; exact hown6) ((HBV.out.alloc hvs _).grown hg6 (by simp; omega) (fun z hz => (HOV.out.lt z hz).1)))
            clear hown6 hg6 hap HOV HO5 HNW HOC HMV HBV
            go_wp2
            go_roundw
            case rel => exact ⟨k + 1, A6, c6, by omega, by go_num, by simp, HF.out⟩
            case measure => simp [intOf]; omega
        · obtain rfl : k = n2 := by omega
          have htk : l.take k = l := List.take_of_length_le (by omega)
          have hOut := hJ.own
          have hMap := hJ.map
          rw [htk] at hOut hMap
          have hold := hJ.old
          have hcl := afterT_length l xs
          have HJ := Lib.hid (And.intro hOut (And.intro hMap hold))
          have HC := Lib.hid hcl
          clear hJ hOut hMap hold hcl
          go_wp2
          go_loopw [16, 98] (fun v j WQ => ∃ q : Nat, ∃ A3 c3, q ≤ i ∧ j = .int .i64 q ∧ v = .slice A3 q c3 ∧ WQ.ownsRow w.heap.size 34 1 v q (((afterT xs l).take q).map (Value.int .u64)) ∧ WQ.ownsRow w.heap.size 9 1 (.slice A k c) k ((outsT xs l).map strV) ∧ IM .u64 34 WQ mb (i + k) (cellsF (afterT xs l)) ∧ Below w.heap.size w WQ) (fun _ j _ => i - (intOf j).toNat)
          case atStart => exact ⟨0, none, 0, Nat.zero_le _, rfl, rfl, World.ownsRow_nil _ _ _ _, HJ.out.1, HJ.out.2.1, HJ.out.2.2⟩
          case round =>
            obtain ⟨q, A3, c3, hq, rfl, rfl, hW, hO, hM, hb⟩ := hrel
            clear HJ
            have hcl := HC.out
            by_cases hql : q < i
            · have hii : (q : Int) < (i : Int) := by omega
              have hlk := hM.look Tryd.underlying73 Tryd.underlying34 (zeroU64 wr) (q : Int) (wf_i64 (by omega))
              rw [cellsF_in _ q (by omega), Option.getD_some] at hlk
              have hnx : ((afterT xs l).take (q + 1)).map (Value.int .u64) = ((afterT xs l).take q).map (Value.int .u64) ++ [.int .u64 ((afterT xs l).getD q 0)] := by
                rw [take_next (afterT xs l) q (by omega), List.map_append]
                rfl
              generalize (afterT xs l).getD q 0 = x at *
              obtain ⟨i0, hi0, hz0, hz1, hz2⟩ := info_parts infoU64
              have hW5 := hW.alloc (.cells #[.int .u64 x] 34)
              have HW := Lib.hid hW
              have HO5 := Lib.hid hW5
              have HNW := Lib.hid (World.news_of_block (cs := #[.int .u64 x]) (heap_alloc_new wr (.cells #[.int .u64 x] 34)))
              have HOC := Lib.hid (show ∀ u ∈ [Value.int .u64 x], u.oneCell' = true from fun u hu => by rw [List.mem_singleton.1 hu]; rfl)
              have HOO := Lib.hid hO
              have HMM := Lib.hid hM
              have HBB := Lib.hid hb
              have HNX := Lib.hid hnx
              have hbs := hb.size
              clear hW hW5 hO hM hb hnx
              go_wp2_with (at_builtin; refine wpList_append_own _ rfl (.tmp 101) (.tmp 105) 22 rfl w.heap.size 34 i0 (.int .u64 0) 1 8 Tryd.underlying22 hi0 hz0 hz1 hz2 rfl (by decide) _ q _ rfl HO5.out ⟨wr.heap.size, 0, none⟩ 1 1 [.int .u64 x] rfl rfl ?d1 HOC.out ?d3 ?d4 ?d5 ?_)
              case d3 => unfold maxLen; omega
              case d4 => omega
              case d5 => first | omega | (simp; omega)
              intro v' w6 hown6 hg6 _
              obtain ⟨A6, c6, rfl⟩ := own_form hown6
              have hga := World.grownBy_alloc wr (.cells #[.int .u64 x] 34) none
              have hap1 := row_map HW.out HMM.out
              have hap2 := row_row HOO.out HW.out (by decide)
              have HF := Lib.hid (show w6.ownsRow w.heap.size 34 1 (.slice A6 (q + 1) c6) (q + 1) (((afterT xs l).take (q + 1)).map (Value.int .u64)) ∧ w6.ownsRow w.heap.size 9 1 (.slice A k c) k ((outsT xs l).map strV) ∧ IM .u64 34 w6 mb (i + k) (cellsF (afterT xs l)) ∧ Below w.heap.size w w6 from
                ⟨by rw [HNX.out]; first | exact hown6 | (rw [List.map_take]; exact hown6), (HOO.out.alloc _).kept hg6 hap2, (HMM.out.kept hga (by simp)).kept hg6 (fun e => hap1 e.symm), (HBB.out.alloc hbs _).grown hg6 (by simp; omega) (fun z hz => (HW.out.lt z hz).1)⟩)
              clear hown6 hg6 hga hap1 hap2 HW HO5 HNW HOC HOO HMM HBB hlk
              go_wp2
              go_roundw
              case rel => exact ⟨q + 1, A6, c6, by omega, by go_num, by simp, HF.out.1, HF.out.2.1, HF.out.2.2.1, HF.out.2.2.2⟩
              case measure => simp [intOf]; omega
            · obtain rfl : q = i := by omega
              have htq : (afterT xs l).take q = afterT xs l := List.take_of_length_le (by omega)
              rw [htq] at hW
              have HF := Lib.hid (And.intro hW (And.intro hO hb))
              clear hW hO hM hb
              go_wp2
              go_ret2
              refine ⟨HF.out.2.2, A, c, A3, c3, by rw [hlen1, hlen2]; rfl, ?_, ?_⟩
              · rw [hlen2]; exact HF.out.2.1
              · rw [hlen1]; exact HF.out.1

end Go.Proofs.YtnooegfhkeddnaaDoor
