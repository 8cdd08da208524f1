/-
  The walk of MemTouches: whatever is touched, the memory answers as the document's does.
-/
import Derived.Test.YtnooegfhkeddnaaDoorTTouch
import Derived.Test.YtnooegfhkeddnaaDoorMemErrO
import Derived.Test.YtnooegfhkeddnaaDoorBare
import Derived.Deep.RegionHeld3
namespace Go.Proofs.YtnooegfhkeddnaaDoor
set_option maxRecDepth 100000
open Go.RowKit Go.Sort Go.Shelf

theorem outs_get (l : List Tch) (xs : List Int) (i : Nat) (h : i < l.length) : (outsT xs l)[i]? = some (stepT (afterT xs (l.take i)) (l.getD i default)).1 := by
  have e : l = l.take i ++ l.getD i default :: l.drop (i + 1) := by
    rw [List.getD_eq_getElem?_getD, List.getElem?_eq_getElem h, Option.getD_some, ← List.drop_eq_getElem_cons h, List.take_append_drop]
  have h1 : outsT xs l = outsT xs (l.take i ++ l.getD i default :: l.drop (i + 1)) := congrArg _ e
  rw [h1, outsT_append, List.getElem?_append_right (by rw [outsT_length, List.length_take]; omega), outsT_length, List.length_take, Nat.min_eq_left (by omega), Nat.sub_self]
  rfl

theorem cell_grown {w w' : World} (hg : w.grownBy w' none) {p : Addr} {x : Value} (h : w.cell? p = some x) : w'.cell? p = some x :=
  (World.cell?_of_block (hg.block p.block (World.block_lt_of_cell? w _ h) (by simp))).trans h

/-- Behind i touches: the memory m with its own slice v, and what the document's said. -/
structure TI (w wr : World) (m : Nat) (v vW vS : Value) (xs : List Int) (l : List Tch) (i : Nat) : Prop where
  mem : Mem wr w.heap.size m v (afterT xs (l.take i))
  want : wr.ownsRow w.heap.size 9 1 vS l.length ((outsT xs l).map strV)
  word : wr.ownsRow w.heap.size 34 1 vW xs.length ((afterT xs l).map (Value.int .u64))
  old : Below w.heap.size w wr
  ap : vW.ownBlock = none ∨ vW.ownBlock ≠ v.ownBlock

theorem TI.grow {w wr wr' : World} {m i : Nat} {v vW vS : Value} {xs : List Int} {l : List Tch} (h : TI w wr m v vW vS xs l i) (hg : wr.grownBy wr' none) : TI w wr' m v vW vS xs l i :=
  ⟨h.mem.grown hg (by simp) (.inl rfl), h.want.kept hg (Classical.em _), h.word.kept hg (Classical.em _), h.old.grown hg h.old.size (by intro k hk; cases hk), h.ap⟩

theorem TI.step {w wr wr' : World} {m i : Nat} {v vW vS : Value} {xs : List Int} {l : List Tch} {out : List UInt8} {cur : List Int} (h : TI w wr m v vW vS xs l i) (hi : i < l.length)
    (hs : stepT (afterT xs (l.take i)) (l.getD i default) = (out, cur)) (hm : Mem wr' w.heap.size m v cur) (hg : wr.grownBy wr' v.ownBlock) : TI w wr' m v vW vS xs l (i + 1) := by
  have hc : afterT xs (l.take (i + 1)) = cur := by
    rw [take_next l i hi, afterT_append]
    show (stepT (afterT xs (l.take i)) (l.getD i default)).2 = cur
    rw [hs]
  exact ⟨by rw [hc]; exact hm, h.want.kept hg (row_row h.want h.mem.own (by decide)), h.word.kept hg h.ap, h.old.grown hg h.old.size (fun z hz => (h.mem.own.lt z hz).1), h.ap⟩

theorem TI.call {w wr : World} {m i f : Nat} {v vW vS : Value} {xs : List Int} {l : List Tch} {out : List UInt8} {cur : List Int} {args : Array Value} {R : Ending} (h : TI w wr m v vW vS xs l i) (hi : i < l.length)
    (hs : stepT (afterT xs (l.take i)) (l.getD i default) = (out, cur)) (hc : Calls Tryd.prog f args wr fun e w' => e = R ∧ Mem w' w.heap.size m v cur ∧ wr.grownBy w' v.ownBlock) :
    Calls Tryd.prog f args wr fun e w' => e = R ∧ TI w w' m v vW vS xs l (i + 1) := hc.mono fun _ _ ⟨e1, h1, h2⟩ => ⟨e1, h.step hi hs h1 h2⟩

theorem TI.same {w wr : World} {m i f : Nat} {v vW vS : Value} {xs : List Int} {l : List Tch} {out : List UInt8} {args : Array Value} {R : Ending} (h : TI w wr m v vW vS xs l i) (hi : i < l.length)
    (hs : stepT (afterT xs (l.take i)) (l.getD i default) = (out, afterT xs (l.take i))) (hc : Calls Tryd.prog f args wr fun e w' => e = R ∧ wr = w') :
    Calls Tryd.prog f args wr fun e w' => e = R ∧ TI w w' m v vW vS xs l (i + 1) := hc.mono fun _ w' ⟨e1, e2⟩ => ⟨e1, by subst e2; exact h.step hi hs h.mem (World.grownBy.refl wr _)⟩

theorem TI.cell {w wr : World} {m i j g c : Nat} {v vW : Value} {xs : List Int} {l : List Tch} {out : List UInt8} {cur : List Int} (h : TI w wr m v vW (.slice (some ⟨g, 0, none⟩) l.length c) xs l j) (hi : i < l.length)
    (hs : stepT (afterT xs (l.take i)) (l.getD i default) = (out, cur)) : wr.cell? ⟨g, i, none⟩ = some (strV out) := by
  rw [h.want.cellAt i (by omega), List.getElem?_map, outs_get l xs i hi, hs]
  rfl

theorem parts2 (u : Nat) (hu : u < 18446744073709551616) (b : Bool) (k : Nat) (hk : k < 10) : ∃ F F2 Fb F3 F4 T GB : ByteArray, strV (Lib.decDigits u) = .string F ∧ F ++ ⟨#[32]⟩ = F2 ∧ strV (Lib.formatBool b) = .string Fb ∧ F2 ++ Fb = F3 ∧ F3 ++ ⟨#[32]⟩ = F4 ∧ strV (Lib.decDigits k) = .string T ∧ F4 ++ T = GB ∧ strV (textT u b k) = .string GB ∧
    ¬ 9223372036854775807 < F.size + 1 ∧ ¬ 9223372036854775807 < F2.size + Fb.size ∧ ¬ 9223372036854775807 < F3.size + 1 ∧ ¬ 9223372036854775807 < F4.size + T.size := by
  obtain ⟨F, F2, Fb, F3, p1, p2, p3, p4, q1, q2, q3, q4, _, p5⟩ := parts u hu b
  refine ⟨F, F2, Fb, F3, F3 ++ ⟨#[32]⟩, ⟨(Lib.decDigits k).toArray⟩, _, p1, p2, p3, p4, rfl, rfl, rfl, ?_, by omega, by omega, by omega, ?_⟩
  · rw [p5 k]
    rfl
  · have h1 : (F3 ++ ⟨#[32]⟩ : ByteArray).size = F3.size + 1 := by rw [ByteArray.size_append]; rfl
    have h2 : (⟨(Lib.decDigits k).toArray⟩ : ByteArray).size = 1 := by
      show (Lib.decDigits k).toArray.size = 1
      rw [List.size_toArray, Lib.decDigits_length, Lib.nDigits_small (by omega)]
    omega

theorem fmtU (u : Nat) (hu : u < 18446744073709551616) {F : ByteArray} (hF : strV (Lib.decDigits u) = .string F) (W : World) (htab : Tab W) : Calls Tryd.prog 12 #[.int .u64 u, .int .i64 10] W fun e w' => e = .returned (.string F) ∧ W.grownBy w' none :=
  (formatUint_any u hu W htab).mono fun _ _ ⟨h1, h2⟩ => ⟨by rw [h1, hF], grown_of_old h2⟩
theorem fmtB (b : Bool) {F : ByteArray} (hF : strV (Lib.formatBool b) = .string F) (W : World) : Calls Tryd.prog 13 #[.bool b] W fun e w' => e = .returned (.string F) ∧ W = w' := by
  unfold strV at hF
  have h := Tryd.strconv_FormatBool b W
  rw [hF] at h
  exact h.mono fun _ _ ⟨h1, h2⟩ => ⟨h1, h2.symm⟩
theorem fmtI (k : Nat) (hk : k < 10) {F : ByteArray} (hF : strV (Lib.decDigits k) = .string F) (W : World) : Calls Tryd.prog 14 #[.int .i64 k] W fun e w' => e = .returned (.string F) ∧ W = w' := by
  unfold strV at hF
  have h := Tryd.strconv_Itoa_small k (by omega) W
  rw [hF] at h
  exact h.mono fun _ _ ⟨h1, h2⟩ => ⟨h1, h2.symm⟩
theorem tell0 (w : World) : Calls Tryd.prog 15 #[.nilIface] w fun e w' => e = .returned (.int .i64 0) ∧ w.grownBy w' none :=
  (tell_nil w).mono fun _ w' ⟨h1, h2⟩ => ⟨h1, by subst h2; exact World.grownBy.refl w _⟩

theorem tab_lt {w : World} (h : Tab w) : 1 < w.heap.size :=
  World.block_lt_of_cell? w _ (Lib.TabIs.cell h (show Tryd.prog.globalNamed "internal/strconv.uint64pow10" = some 1 by kernel_rfl) 0 (by decide))

theorem memTouches_far (A1 : Option Addr) (n1 c1 : Nat) (A2 : Option Addr) (n2 c2 : Nat) (w : World) (h : 400 < n1 ∨ 100 < n2) :
    Calls Tryd.prog 3 #[.slice A1 n1 c1, .slice A2 n2 c2] w fun e w' => e = .returned (.bool true) ∧ Below w.heap.size w w' := by
  by_cases h1 : 400 < n1
  · have h2 : (400 : Int) < (n1 : Int) := by omega
    clear h
    go_enter Tryd.func3, Tryd.ntmps3
    go_wp2
    go_ret
    exact ⟨rfl, Below.refl _ _⟩
  · have h2 : ¬ (400 : Int) < (n1 : Int) := by omega
    have h3 : (100 : Int) < (n2 : Int) := by omega
    clear h
    go_enter Tryd.func3, Tryd.ntmps3
    go_wp2
    go_ret
    exact ⟨rfl, Below.refl _ _⟩

theorem memTouches_no {w : World} (hg : ErrVar w) (A1 : Option Addr) (n1 c1 : Nat) (A2 : Option Addr) (n2 c2 : Nat) (h0 : 300 < n1) (h1 : n1 ≤ 400) (h2 : n2 ≤ 100) :
    Calls Tryd.prog 3 #[.slice A1 n1 c1, .slice A2 n2 c2] w fun e w' => e = .returned (.bool true) ∧ Below w.heap.size w w' := by
  have k1 : ¬ (400 : Int) < (n1 : Int) := by omega
  have k2 : ¬ (100 : Int) < (n2 : Int) := by omega
  have k3 : (300 : Int) < (n1 : Int) := by omega
  have HB := Lib.hid (bare_errno 4 w hg)
  clear hg
  go_enter Tryd.func3, Tryd.ntmps3
  go_wp2_with fail
  refine (of_no A1 n1 c1 h0).mono ?_
  rintro e w1 ⟨rfl, rfl⟩
  go_wp2_with fail
  refine HB.out.mono ?_
  rintro e w2 ⟨rfl, hg2⟩
  have HF := Lib.hid ((Below.refl w.heap.size w).grown hg2 (Nat.le_refl _) (by intro k hk; cases hk))
  clear hg2 HB
  go_wp2
  go_ret
  exact ⟨rfl, HF.out⟩

set_option maxHeartbeats 16000000 in
theorem memTouches_yes {w : World} (hg : ErrVar w) (htab : Tab w) (A1 : Option Addr) (n1 c1 : Nat) (xs : List Int) (hxs : ∀ x ∈ xs, isU64 x) (A2 : Option Addr) (n2 c2 : Nat) (l : List Tch) (hl : ∀ t ∈ l, okT t)
    (h1 : Ints .u64 w w.heap.size A1 n1 xs) (h2 : Tchs w w.heap.size A2 n2 l) (hn1 : n1 ≤ 300) (hn2 : n2 ≤ 100) :
    Calls Tryd.prog 3 #[.slice A1 n1 c1, .slice A2 n2 c2] w fun e w' => e = .returned (.bool true) ∧ Below w.heap.size w w' := by
  have hlen1 := h1.len
  have hlen2 := h2.len
  have hgl := errVar_lt hg
  have htl := tab_lt htab
  have k1 : ¬ (400 : Int) < (n1 : Int) := by omega
  have k2 : ¬ (100 : Int) < (n2 : Int) := by omega
  have k3 : ¬ (300 : Int) < (n1 : Int) := by omega
  have H1 := Lib.hid h1
  have H2 := Lib.hid h2
  have HXS := Lib.hid hxs
  have HLS := Lib.hid hl
  have HTAB := Lib.hid htab
  have HEV := Lib.hid hg
  clear h1 h2 hxs hl htab hg
  go_enter Tryd.func3, Tryd.ntmps3
  go_wp2_with fail
  refine (of_ok A1 n1 c1 xs H1.out hn1).mono ?_
  rintro e w1 ⟨m, v, rfl, hm1, hg1⟩
  have hb1 : Below w.heap.size w w1 := (Below.refl w.heap.size w).grown hg1 (Nat.le_refl _) (by intro k hk; cases hk)
  have HB1 := Lib.hid hb1
  have HM1 := Lib.hid hm1
  have HT := Lib.hid (touches_any xs HXS.out A1 n1 c1 l HLS.out A2 n2 c2 w1 (var?_below hb1 (show Tryd.prog.globalNamed "internal/strconv.uint64pow10" = some 1 by kernel_rfl) htl HTAB.out : Tab w1) (Nat.lt_of_lt_of_le htl hb1.size)
    ((H1.out.below hb1).keep hb1.size fun _ _ => rfl) (by
      have h := H2.out.below hb1
      exact ⟨h.len, fun h0 => by
        obtain ⟨b, off, e, hlt, hc⟩ := h.row h0
        exact ⟨b, off, e, Nat.lt_of_lt_of_le hlt hb1.size, hc⟩⟩) (by omega) (by omega))
  clear hm1 hg1 hb1
  go_wp2_with fail
  refine HT.out.mono ?_
  rintro e w2 ⟨hb2, AS, cS, AW, cW, rfl, hwant, hword⟩
  have hsz := HB1.out.size
  have hJ0 : TI w w2 m v (.slice AW xs.length cW) (.slice AS l.length cS) xs l 0 := by
    have hgr := grown_of_old hb2
    refine ⟨HM1.out.grown hgr (by simp) (.inl rfl), ⟨hwant.1, ?_⟩, ⟨hword.1, ?_⟩, HB1.out.trans (hb2.mono hsz), ?_⟩
    · rcases hwant.2 with h | ⟨g, cap, cur, a1, a2, a3⟩
      · exact .inl h
      · exact .inr ⟨g, cap, cur, a1, Nat.le_trans hsz a2, a3⟩
    · rcases hword.2 with h | ⟨g, cap, cur, a1, a2, a3⟩
      · exact .inl h
      · exact .inr ⟨g, cap, cur, a1, Nat.le_trans hsz a2, a3⟩
    · cases hvw : (Value.slice AW xs.length cW).ownBlock with
      | none => exact .inl rfl
      | some z =>
        refine .inr fun e => ?_
        have a := (hword.lt z hvw).1
        have b := (HM1.out.own.lt z e.symm).2
        omega
  have HJ0 := Lib.hid hJ0
  clear hJ0 hb2 hwant hword HT HM1 HB1 hsz
  go_wp2_with fail
  go_loopw [50] (fun j wr => ∃ i : Nat, i ≤ n2 ∧ j = .int .i64 i ∧ TI w wr m v (.slice AW xs.length cW) (.slice AS l.length cS) xs l i) (fun j _ => n2 - (intOf j).toNat)
  case atStart => exact ⟨0, Nat.zero_le _, rfl, HJ0.out⟩
  case round =>
    obtain ⟨i, hi, rfl, hJ⟩ := hrel
    clear HJ0
    by_cases hlt : i < n2
    · have hii : (i : Int) < (n2 : Int) := by omega
      have hil : i < l.length := by omega
      obtain ⟨tb0, off, rfl, hbl, hc⟩ := (H2.out.below hJ.old).row (by omega)
      obtain ⟨e1, e2, e3, e4⟩ := hc i hlt
      have htok := HLS.out (l.getD i default) (by rw [List.getD_eq_getElem?_getD, List.getElem?_eq_getElem (by omega)]; exact List.getElem_mem _)
      obtain ⟨t, ht⟩ : ∃ t, l.getD i default = t := ⟨_, rfl⟩
      rw [ht] at e1 e2 e3 e4 htok
      obtain ⟨x1, x2, x3, x4⟩ := t
      obtain ⟨g3, g4, gwf⟩ := htok
      dsimp only at e1 e2 e3 e4 g3 g4 gwf
      have hbw : tb0 < wr.heap.size := Nat.lt_of_lt_of_le hbl hJ.old.size
      have hbne : tb0 ≠ wr.heap.size := by omega
      obtain ⟨cur, hcur⟩ : ∃ cur, afterT xs (l.take i) = cur := ⟨_, rfl⟩
      have hcl : cur.length = xs.length := by rw [← hcur, afterT_length]
      have hcu : ∀ x ∈ cur, isU64 x := by
        rw [← hcur]
        exact afterT_u64 _ HXS.out (fun t ht => HLS.out t (List.mem_of_mem_take ht))
      have hJx := hJ.grow (World.grownBy_alloc wr (.cells #[.int .i64 x1, .int .i64 x2, .int .u64 x3, .int .u64 x4] 36) none)
      have hMx := hJx.mem
      rw [hcur] at hMx
      have HT := Lib.hid ht
      have HCUR := Lib.hid hcur
      have HJX := Lib.hid hJx
      have HMX := Lib.hid hMx
      obtain ⟨gS, cS', eS, _, _⟩ := hJ.want.form (by omega)
      obtain ⟨rfl, rfl⟩ : AS = some ⟨gS, 0, none⟩ ∧ cS = cS' := by injection eS with a _ b; exact ⟨a, b⟩
      clear hc hJ hJx hMx ht hcur eS
      by_cases hr : 0 ≤ x2 ∧ x2 < cur.length
      · obtain ⟨kk, rfl⟩ : ∃ kk : Nat, x2 = kk := ⟨x2.toNat, by omega⟩
        have hkk : kk < cur.length := by omega
        have hvu : isU64 (cur.getD kk 0) := by
          rw [List.getD_eq_getElem?_getD, List.getElem?_eq_getElem hkk]
          exact hcu _ (List.getElem_mem _)
        obtain ⟨vn, hvn⟩ : ∃ vn : Nat, cur.getD kk 0 = vn := ⟨(cur.getD kk 0).toNat, by have := hvu.1; omega⟩
        rw [hvn] at hvu
        have hvl : vn < 18446744073709551616 := by have := hvu.2; omega
        have hin : (0 : Int) ≤ (kk : Int) ∧ (kk : Int) < (cur.length : Int) := by omega
        clear hcu
        by_cases hw1 : x1 = 1
        · subst hw1
          have HST := Lib.hid (show stepT cur (1, (kk : Int), x3, x4) = (textT 0 false 0, cur.set kk x3) by
            unfold stepT
            dsimp only
            rw [if_pos hin, if_pos rfl, Int.toNat_natCast])

          have hsJ := HST.out
          rw [← HT.out] at hsJ
          rw [← HCUR.out] at hsJ
          have HC := Lib.hid (HJX.out.call hil (by rw [HT.out, HCUR.out]; exact HST.out) (store_in HMX.out hkk x3))
          have HSJ := Lib.hid hsJ
          clear hsJ HST
          go_wp2_with fail
          refine HC.out.mono ?_
          rintro e V ⟨rfl, hJV⟩
          obtain ⟨F, F2, Fb, F3, F4, T, GB, p1, p2, p3, p4, p5, p6, p7, p8, s1, s2, s3, s4⟩ := parts2 0 (by omega) false 0 (by decide)
          have y1 : V.drew.cell? ⟨gS, i, none⟩ = some (.string GB) := by rw [← p8]; exact hJV.cell hil HSJ.out
          have hbV := hJV.old
          have HU := Lib.hid (show Calls Tryd.prog 12 #[.int .u64 0, .int .i64 10] V.drew _ from fmtU 0 (by omega) p1 V.drew (var?_below hbV (show Tryd.prog.globalNamed "internal/strconv.uint64pow10" = some 1 by kernel_rfl) htl HTAB.out : Tab V))
          have HEVV := Lib.hid (errVar_below HEV.out hbV hgl)
          have HFB := Lib.hid (fun W => fmtB false p3 W)
          have HIT := Lib.hid (fun W => (show Calls Tryd.prog 14 #[.int .i64 0] W _ from fmtI 0 (by decide) p6 W))
          have HTE := Lib.hid (show ∀ W, ErrVar W → Calls Tryd.prog 15 #[.nilIface] W fun e w' => e = .returned (.int .i64 0) ∧ W.grownBy w' none from fun W _ => tell0 W)
          have HJV := Lib.hid hJV
          clear p1 p3 p6 p8 hJV hbV HC HSJ
          go_wp2_with fail
          go_region_held3 (fun u => u.cell? ⟨gS, i, none⟩ = some (.string GB)) (first | exact y1 | exact y2 | exact y3) (first
            | (go_at_call 12; refine HU.out.mono ?_; rintro e w3 ⟨rfl, hg3⟩; have y2 := cell_grown hg3 y1; have HG3 := Lib.hid hg3; clear hg3)
            | (go_at_call 13; refine (HFB.out _).mono ?_; rintro e w4 ⟨rfl, rfl⟩)
            | (go_at_call 15; refine (HTE.out _ (cell_grown HG3.out HEVV.out)).mono ?_; rintro e w5 ⟨rfl, hg5⟩; have y3 := cell_grown hg5 y2; have HG5 := Lib.hid hg5; clear hg5)
            | (go_at_call 14; refine (HIT.out _).mono ?_; rintro e w6 ⟨rfl, rfl⟩))
          have HF := Lib.hid ((show TI w V.drew m v _ _ xs l (i + 1) from HJV.out.grow ⟨rfl, rfl, rfl, Nat.le_refl _, fun _ _ _ => rfl⟩).grow HG3.out |>.grow HG5.out)
          clear HG3 HG5 HJV HU HFB HTE HIT HEVV y1 y2 y3
          go_wp2
          go_roundw
          case rel => exact ⟨i + 1, by omega, by go_num, HF.out⟩
          case measure => simp [intOf]; omega
        by_cases hw2 : x1 = 2
        · subst hw2
          have HST := Lib.hid (show stepT cur (2, (kk : Int), x3, x4) = (textT vn false 0, cur.set kk (IntKind.u64.wrap ((vn : Int) + x3))) by
            unfold stepT
            dsimp only
            rw [if_pos hin, if_neg (by decide), if_pos rfl, Int.toNat_natCast, hvn, Int.toNat_natCast])

          have hFE := fetch_in HMX.out hkk x3
          rw [hvn] at hFE

          have hsJ := HST.out
          rw [← HT.out] at hsJ
          rw [← HCUR.out] at hsJ
          have HC := Lib.hid (HJX.out.call hil (by rw [HT.out, HCUR.out]; exact HST.out) (hFE))
          have HSJ := Lib.hid hsJ
          clear hsJ HST hFE
          go_wp2_with fail
          refine HC.out.mono ?_
          rintro e V ⟨rfl, hJV⟩
          obtain ⟨F, F2, Fb, F3, F4, T, GB, p1, p2, p3, p4, p5, p6, p7, p8, s1, s2, s3, s4⟩ := parts2 vn (by omega) false 0 (by decide)
          have y1 : V.drew.cell? ⟨gS, i, none⟩ = some (.string GB) := by rw [← p8]; exact hJV.cell hil HSJ.out
          have hbV := hJV.old
          have HU := Lib.hid (show Calls Tryd.prog 12 #[.int .u64 ((vn : Nat) : Int), .int .i64 10] V.drew _ from fmtU vn (by omega) p1 V.drew (var?_below hbV (show Tryd.prog.globalNamed "internal/strconv.uint64pow10" = some 1 by kernel_rfl) htl HTAB.out : Tab V))
          have HEVV := Lib.hid (errVar_below HEV.out hbV hgl)
          have HFB := Lib.hid (fun W => fmtB false p3 W)
          have HIT := Lib.hid (fun W => (show Calls Tryd.prog 14 #[.int .i64 0] W _ from fmtI 0 (by decide) p6 W))
          have HTE := Lib.hid (show ∀ W, ErrVar W → Calls Tryd.prog 15 #[.nilIface] W fun e w' => e = .returned (.int .i64 0) ∧ W.grownBy w' none from fun W _ => tell0 W)
          have HJV := Lib.hid hJV
          clear p1 p3 p6 p8 hJV hbV HC HSJ
          go_wp2_with fail
          go_region_held3 (fun u => u.cell? ⟨gS, i, none⟩ = some (.string GB)) (first | exact y1 | exact y2 | exact y3) (first
            | (go_at_call 12; refine HU.out.mono ?_; rintro e w3 ⟨rfl, hg3⟩; have y2 := cell_grown hg3 y1; have HG3 := Lib.hid hg3; clear hg3)
            | (go_at_call 13; refine (HFB.out _).mono ?_; rintro e w4 ⟨rfl, rfl⟩)
            | (go_at_call 15; refine (HTE.out _ (cell_grown HG3.out HEVV.out)).mono ?_; rintro e w5 ⟨rfl, hg5⟩; have y3 := cell_grown hg5 y2; have HG5 := Lib.hid hg5; clear hg5)
            | (go_at_call 14; refine (HIT.out _).mono ?_; rintro e w6 ⟨rfl, rfl⟩))
          have HF := Lib.hid ((show TI w V.drew m v _ _ xs l (i + 1) from HJV.out.grow ⟨rfl, rfl, rfl, Nat.le_refl _, fun _ _ _ => rfl⟩).grow HG3.out |>.grow HG5.out)
          clear HG3 HG5 HJV HU HFB HTE HIT HEVV y1 y2 y3
          go_wp2
          go_roundw
          case rel => exact ⟨i + 1, by omega, by go_num, HF.out⟩
          case measure => simp [intOf]; omega
        by_cases hw3 : x1 = 3
        · subst hw3
          by_cases hveq : (vn : Int) = x3
          · have HST := Lib.hid (show stepT cur (3, (kk : Int), x3, x4) = (textT 0 true 0, cur.set kk x4) by
              unfold stepT
              dsimp only
              rw [if_pos hin, if_neg (by decide), if_neg (by decide), if_pos rfl, Int.toNat_natCast, if_pos (hvn.trans hveq)])

            have hsJ := HST.out
            rw [← HT.out] at hsJ
            rw [← HCUR.out] at hsJ
            have HC := Lib.hid (HJX.out.call hil (by rw [HT.out, HCUR.out]; exact HST.out) (swap_yes HMX.out hkk x3 x4 (hvn.trans hveq)))
            have HSJ := Lib.hid hsJ
            clear hsJ HST
            go_wp2_with fail
            refine HC.out.mono ?_
            rintro e V ⟨rfl, hJV⟩
            obtain ⟨F, F2, Fb, F3, F4, T, GB, p1, p2, p3, p4, p5, p6, p7, p8, s1, s2, s3, s4⟩ := parts2 0 (by omega) true 0 (by decide)
            have y1 : V.drew.cell? ⟨gS, i, none⟩ = some (.string GB) := by rw [← p8]; exact hJV.cell hil HSJ.out
            have hbV := hJV.old
            have HU := Lib.hid (show Calls Tryd.prog 12 #[.int .u64 0, .int .i64 10] V.drew _ from fmtU 0 (by omega) p1 V.drew (var?_below hbV (show Tryd.prog.globalNamed "internal/strconv.uint64pow10" = some 1 by kernel_rfl) htl HTAB.out : Tab V))
            have HEVV := Lib.hid (errVar_below HEV.out hbV hgl)
            have HFB := Lib.hid (fun W => fmtB true p3 W)
            have HIT := Lib.hid (fun W => (show Calls Tryd.prog 14 #[.int .i64 0] W _ from fmtI 0 (by decide) p6 W))
            have HTE := Lib.hid (show ∀ W, ErrVar W → Calls Tryd.prog 15 #[.nilIface] W fun e w' => e = .returned (.int .i64 0) ∧ W.grownBy w' none from fun W _ => tell0 W)
            have HJV := Lib.hid hJV
            clear p1 p3 p6 p8 hJV hbV HC HSJ
            go_wp2_with fail
            go_region_held3 (fun u => u.cell? ⟨gS, i, none⟩ = some (.string GB)) (first | exact y1 | exact y2 | exact y3) (first
              | (go_at_call 12; refine HU.out.mono ?_; rintro e w3 ⟨rfl, hg3⟩; have y2 := cell_grown hg3 y1; have HG3 := Lib.hid hg3; clear hg3)
              | (go_at_call 13; refine (HFB.out _).mono ?_; rintro e w4 ⟨rfl, rfl⟩)
              | (go_at_call 15; refine (HTE.out _ (cell_grown HG3.out HEVV.out)).mono ?_; rintro e w5 ⟨rfl, hg5⟩; have y3 := cell_grown hg5 y2; have HG5 := Lib.hid hg5; clear hg5)
              | (go_at_call 14; refine (HIT.out _).mono ?_; rintro e w6 ⟨rfl, rfl⟩))
            have HF := Lib.hid ((show TI w V.drew m v _ _ xs l (i + 1) from HJV.out.grow ⟨rfl, rfl, rfl, Nat.le_refl _, fun _ _ _ => rfl⟩).grow HG3.out |>.grow HG5.out)
            clear HG3 HG5 HJV HU HFB HTE HIT HEVV y1 y2 y3
            go_wp2
            go_roundw
            case rel => exact ⟨i + 1, by omega, by go_num, HF.out⟩
            case measure => simp [intOf]; omega
          · have HST := Lib.hid (show stepT cur (3, (kk : Int), x3, x4) = (textT 0 false 0, cur) by
              unfold stepT
              dsimp only
              rw [if_pos hin, if_neg (by decide), if_neg (by decide), if_pos rfl, Int.toNat_natCast, if_neg (by rw [hvn]; exact hveq)])

            have hsJ := HST.out
            rw [← HT.out] at hsJ
            rw [← HCUR.out] at hsJ
            have HC := Lib.hid (HJX.out.same hil (by rw [HT.out, HCUR.out]; exact HST.out) (swap_no HMX.out hkk x3 x4 (by rw [hvn]; exact hveq)))
            have HSJ := Lib.hid hsJ
            clear hsJ HST
            go_wp2_with fail
            refine HC.out.mono ?_
            rintro e V ⟨rfl, hJV⟩
            obtain ⟨F, F2, Fb, F3, F4, T, GB, p1, p2, p3, p4, p5, p6, p7, p8, s1, s2, s3, s4⟩ := parts2 0 (by omega) false 0 (by decide)
            have y1 : V.drew.cell? ⟨gS, i, none⟩ = some (.string GB) := by rw [← p8]; exact hJV.cell hil HSJ.out
            have hbV := hJV.old
            have HU := Lib.hid (show Calls Tryd.prog 12 #[.int .u64 0, .int .i64 10] V.drew _ from fmtU 0 (by omega) p1 V.drew (var?_below hbV (show Tryd.prog.globalNamed "internal/strconv.uint64pow10" = some 1 by kernel_rfl) htl HTAB.out : Tab V))
            have HEVV := Lib.hid (errVar_below HEV.out hbV hgl)
            have HFB := Lib.hid (fun W => fmtB false p3 W)
            have HIT := Lib.hid (fun W => (show Calls Tryd.prog 14 #[.int .i64 0] W _ from fmtI 0 (by decide) p6 W))
            have HTE := Lib.hid (show ∀ W, ErrVar W → Calls Tryd.prog 15 #[.nilIface] W fun e w' => e = .returned (.int .i64 0) ∧ W.grownBy w' none from fun W _ => tell0 W)
            have HJV := Lib.hid hJV
            clear p1 p3 p6 p8 hJV hbV HC HSJ
            go_wp2_with fail
            go_region_held3 (fun u => u.cell? ⟨gS, i, none⟩ = some (.string GB)) (first | exact y1 | exact y2 | exact y3) (first
              | (go_at_call 12; refine HU.out.mono ?_; rintro e w3 ⟨rfl, hg3⟩; have y2 := cell_grown hg3 y1; have HG3 := Lib.hid hg3; clear hg3)
              | (go_at_call 13; refine (HFB.out _).mono ?_; rintro e w4 ⟨rfl, rfl⟩)
              | (go_at_call 15; refine (HTE.out _ (cell_grown HG3.out HEVV.out)).mono ?_; rintro e w5 ⟨rfl, hg5⟩; have y3 := cell_grown hg5 y2; have HG5 := Lib.hid hg5; clear hg5)
              | (go_at_call 14; refine (HIT.out _).mono ?_; rintro e w6 ⟨rfl, rfl⟩))
            have HF := Lib.hid ((show TI w V.drew m v _ _ xs l (i + 1) from HJV.out.grow ⟨rfl, rfl, rfl, Nat.le_refl _, fun _ _ _ => rfl⟩).grow HG3.out |>.grow HG5.out)
            clear HG3 HG5 HJV HU HFB HTE HIT HEVV y1 y2 y3
            go_wp2
            go_roundw
            case rel => exact ⟨i + 1, by omega, by go_num, HF.out⟩
            case measure => simp [intOf]; omega
        have b1 : (x1 == 1) = false := by simpa using hw1
        have b2 : (x1 == 2) = false := by simpa using hw2
        have b3 : (x1 == 3) = false := by simpa using hw3
        have HST := Lib.hid (show stepT cur (x1, (kk : Int), x3, x4) = (textT vn false 0, cur) by
          unfold stepT
          dsimp only
          rw [if_pos hin, if_neg hw1, if_neg hw2, if_neg hw3, Int.toNat_natCast, hvn, Int.toNat_natCast])

        have hLO := load_in HMX.out hkk
        rw [hvn] at hLO

        have hsJ := HST.out
        rw [← HT.out] at hsJ
        rw [← HCUR.out] at hsJ
        have HC := Lib.hid (HJX.out.same hil (by rw [HT.out, HCUR.out]; exact HST.out) (hLO))
        have HSJ := Lib.hid hsJ
        clear hsJ HST hLO
        go_wp2_with fail
        refine HC.out.mono ?_
        rintro e V ⟨rfl, hJV⟩
        obtain ⟨F, F2, Fb, F3, F4, T, GB, p1, p2, p3, p4, p5, p6, p7, p8, s1, s2, s3, s4⟩ := parts2 vn (by omega) false 0 (by decide)
        have y1 : V.drew.cell? ⟨gS, i, none⟩ = some (.string GB) := by rw [← p8]; exact hJV.cell hil HSJ.out
        have hbV := hJV.old
        have HU := Lib.hid (show Calls Tryd.prog 12 #[.int .u64 ((vn : Nat) : Int), .int .i64 10] V.drew _ from fmtU vn (by omega) p1 V.drew (var?_below hbV (show Tryd.prog.globalNamed "internal/strconv.uint64pow10" = some 1 by kernel_rfl) htl HTAB.out : Tab V))
        have HEVV := Lib.hid (errVar_below HEV.out hbV hgl)
        have HFB := Lib.hid (fun W => fmtB false p3 W)
        have HIT := Lib.hid (fun W => (show Calls Tryd.prog 14 #[.int .i64 0] W _ from fmtI 0 (by decide) p6 W))
        have HTE := Lib.hid (show ∀ W, ErrVar W → Calls Tryd.prog 15 #[.nilIface] W fun e w' => e = .returned (.int .i64 0) ∧ W.grownBy w' none from fun W _ => tell0 W)
        have HJV := Lib.hid hJV
        clear p1 p3 p6 p8 hJV hbV HC HSJ
        go_wp2_with fail
        go_region_held3 (fun u => u.cell? ⟨gS, i, none⟩ = some (.string GB)) (first | exact y1 | exact y2 | exact y3) (first
          | (go_at_call 12; refine HU.out.mono ?_; rintro e w3 ⟨rfl, hg3⟩; have y2 := cell_grown hg3 y1; have HG3 := Lib.hid hg3; clear hg3)
          | (go_at_call 13; refine (HFB.out _).mono ?_; rintro e w4 ⟨rfl, rfl⟩)
          | (go_at_call 15; refine (HTE.out _ (cell_grown HG3.out HEVV.out)).mono ?_; rintro e w5 ⟨rfl, hg5⟩; have y3 := cell_grown hg5 y2; have HG5 := Lib.hid hg5; clear hg5)
          | (go_at_call 14; refine (HIT.out _).mono ?_; rintro e w6 ⟨rfl, rfl⟩))
        have HF := Lib.hid ((show TI w V.drew m v _ _ xs l (i + 1) from HJV.out.grow ⟨rfl, rfl, rfl, Nat.le_refl _, fun _ _ _ => rfl⟩).grow HG3.out |>.grow HG5.out)
        clear HG3 HG5 HJV HU HFB HTE HIT HEVV y1 y2 y3
        go_wp2
        go_roundw
        case rel => exact ⟨i + 1, by omega, by go_num, HF.out⟩
        case measure => simp [intOf]; omega
      · have ho : x2 < 0 ∨ (cur.length : Int) ≤ x2 := by omega
        have HST := Lib.hid (show stepT cur (x1, x2, x3, x4) = (textT 0 false 2, cur) by
          unfold stepT
          dsimp only
          rw [if_neg hr])
        clear hcu
        by_cases hw1 : x1 = 1
        · subst hw1
          have hsJ := HST.out
          rw [← HT.out] at hsJ
          rw [← HCUR.out] at hsJ
          have HC := Lib.hid (HJX.out.same hil (by rw [HT.out, HCUR.out]; exact HST.out) (store_out HMX.out x2 x3 ho))
          have HSJ := Lib.hid hsJ
          clear hsJ HST
          go_wp2_with fail
          refine HC.out.mono ?_
          rintro e V ⟨rfl, hJV⟩
          obtain ⟨F, F2, Fb, F3, F4, T, GB, p1, p2, p3, p4, p5, p6, p7, p8, s1, s2, s3, s4⟩ := parts2 0 (by omega) false 2 (by decide)
          have y1 : V.drew.cell? ⟨gS, i, none⟩ = some (.string GB) := by rw [← p8]; exact hJV.cell hil HSJ.out
          have hbV := hJV.old
          have HU := Lib.hid (show Calls Tryd.prog 12 #[.int .u64 0, .int .i64 10] V.drew _ from fmtU 0 (by omega) p1 V.drew (var?_below hbV (show Tryd.prog.globalNamed "internal/strconv.uint64pow10" = some 1 by kernel_rfl) htl HTAB.out : Tab V))
          have HEVV := Lib.hid (errVar_below HEV.out hbV hgl)
          have HFB := Lib.hid (fun W => fmtB false p3 W)
          have HIT := Lib.hid (fun W => (show Calls Tryd.prog 14 #[.int .i64 2] W _ from fmtI 2 (by decide) p6 W))
          have HTE := Lib.hid (show ∀ W, ErrVar W → Calls Tryd.prog 15 #[.iface 30 (.int .i64 2)] W fun e w' => e = .returned (.int .i64 2) ∧ W.grownBy w' none from fun W h => tell_errno 2 W h)
          have HJV := Lib.hid hJV
          clear p1 p3 p6 p8 hJV hbV HC HSJ
          go_wp2_with fail
          go_region_held3 (fun u => u.cell? ⟨gS, i, none⟩ = some (.string GB)) (first | exact y1 | exact y2 | exact y3) (first
            | (go_at_call 12; refine HU.out.mono ?_; rintro e w3 ⟨rfl, hg3⟩; have y2 := cell_grown hg3 y1; have HG3 := Lib.hid hg3; clear hg3)
            | (go_at_call 13; refine (HFB.out _).mono ?_; rintro e w4 ⟨rfl, rfl⟩)
            | (go_at_call 15; refine (HTE.out _ (cell_grown HG3.out HEVV.out)).mono ?_; rintro e w5 ⟨rfl, hg5⟩; have y3 := cell_grown hg5 y2; have HG5 := Lib.hid hg5; clear hg5)
            | (go_at_call 14; refine (HIT.out _).mono ?_; rintro e w6 ⟨rfl, rfl⟩))
          have HF := Lib.hid ((show TI w V.drew m v _ _ xs l (i + 1) from HJV.out.grow ⟨rfl, rfl, rfl, Nat.le_refl _, fun _ _ _ => rfl⟩).grow HG3.out |>.grow HG5.out)
          clear HG3 HG5 HJV HU HFB HTE HIT HEVV y1 y2 y3
          go_wp2
          go_roundw
          case rel => exact ⟨i + 1, by omega, by go_num, HF.out⟩
          case measure => simp [intOf]; omega
        by_cases hw2 : x1 = 2
        · subst hw2
          have hsJ := HST.out
          rw [← HT.out] at hsJ
          rw [← HCUR.out] at hsJ
          have HC := Lib.hid (HJX.out.same hil (by rw [HT.out, HCUR.out]; exact HST.out) (fetch_out HMX.out x2 x3 ho))
          have HSJ := Lib.hid hsJ
          clear hsJ HST
          go_wp2_with fail
          refine HC.out.mono ?_
          rintro e V ⟨rfl, hJV⟩
          obtain ⟨F, F2, Fb, F3, F4, T, GB, p1, p2, p3, p4, p5, p6, p7, p8, s1, s2, s3, s4⟩ := parts2 0 (by omega) false 2 (by decide)
          have y1 : V.drew.cell? ⟨gS, i, none⟩ = some (.string GB) := by rw [← p8]; exact hJV.cell hil HSJ.out
          have hbV := hJV.old
          have HU := Lib.hid (show Calls Tryd.prog 12 #[.int .u64 0, .int .i64 10] V.drew _ from fmtU 0 (by omega) p1 V.drew (var?_below hbV (show Tryd.prog.globalNamed "internal/strconv.uint64pow10" = some 1 by kernel_rfl) htl HTAB.out : Tab V))
          have HEVV := Lib.hid (errVar_below HEV.out hbV hgl)
          have HFB := Lib.hid (fun W => fmtB false p3 W)
          have HIT := Lib.hid (fun W => (show Calls Tryd.prog 14 #[.int .i64 2] W _ from fmtI 2 (by decide) p6 W))
          have HTE := Lib.hid (show ∀ W, ErrVar W → Calls Tryd.prog 15 #[.iface 30 (.int .i64 2)] W fun e w' => e = .returned (.int .i64 2) ∧ W.grownBy w' none from fun W h => tell_errno 2 W h)
          have HJV := Lib.hid hJV
          clear p1 p3 p6 p8 hJV hbV HC HSJ
          go_wp2_with fail
          go_region_held3 (fun u => u.cell? ⟨gS, i, none⟩ = some (.string GB)) (first | exact y1 | exact y2 | exact y3) (first
            | (go_at_call 12; refine HU.out.mono ?_; rintro e w3 ⟨rfl, hg3⟩; have y2 := cell_grown hg3 y1; have HG3 := Lib.hid hg3; clear hg3)
            | (go_at_call 13; refine (HFB.out _).mono ?_; rintro e w4 ⟨rfl, rfl⟩)
            | (go_at_call 15; refine (HTE.out _ (cell_grown HG3.out HEVV.out)).mono ?_; rintro e w5 ⟨rfl, hg5⟩; have y3 := cell_grown hg5 y2; have HG5 := Lib.hid hg5; clear hg5)
            | (go_at_call 14; refine (HIT.out _).mono ?_; rintro e w6 ⟨rfl, rfl⟩))
          have HF := Lib.hid ((show TI w V.drew m v _ _ xs l (i + 1) from HJV.out.grow ⟨rfl, rfl, rfl, Nat.le_refl _, fun _ _ _ => rfl⟩).grow HG3.out |>.grow HG5.out)
          clear HG3 HG5 HJV HU HFB HTE HIT HEVV y1 y2 y3
          go_wp2
          go_roundw
          case rel => exact ⟨i + 1, by omega, by go_num, HF.out⟩
          case measure => simp [intOf]; omega
        by_cases hw3 : x1 = 3
        · subst hw3
          have hsJ := HST.out
          rw [← HT.out] at hsJ
          rw [← HCUR.out] at hsJ
          have HC := Lib.hid (HJX.out.same hil (by rw [HT.out, HCUR.out]; exact HST.out) (swap_out HMX.out x2 x3 x4 ho))
          have HSJ := Lib.hid hsJ
          clear hsJ HST
          go_wp2_with fail
          refine HC.out.mono ?_
          rintro e V ⟨rfl, hJV⟩
          obtain ⟨F, F2, Fb, F3, F4, T, GB, p1, p2, p3, p4, p5, p6, p7, p8, s1, s2, s3, s4⟩ := parts2 0 (by omega) false 2 (by decide)
          have y1 : V.drew.cell? ⟨gS, i, none⟩ = some (.string GB) := by rw [← p8]; exact hJV.cell hil HSJ.out
          have hbV := hJV.old
          have HU := Lib.hid (show Calls Tryd.prog 12 #[.int .u64 0, .int .i64 10] V.drew _ from fmtU 0 (by omega) p1 V.drew (var?_below hbV (show Tryd.prog.globalNamed "internal/strconv.uint64pow10" = some 1 by kernel_rfl) htl HTAB.out : Tab V))
          have HEVV := Lib.hid (errVar_below HEV.out hbV hgl)
          have HFB := Lib.hid (fun W => fmtB false p3 W)
          have HIT := Lib.hid (fun W => (show Calls Tryd.prog 14 #[.int .i64 2] W _ from fmtI 2 (by decide) p6 W))
          have HTE := Lib.hid (show ∀ W, ErrVar W → Calls Tryd.prog 15 #[.iface 30 (.int .i64 2)] W fun e w' => e = .returned (.int .i64 2) ∧ W.grownBy w' none from fun W h => tell_errno 2 W h)
          have HJV := Lib.hid hJV
          clear p1 p3 p6 p8 hJV hbV HC HSJ
          go_wp2_with fail
          go_region_held3 (fun u => u.cell? ⟨gS, i, none⟩ = some (.string GB)) (first | exact y1 | exact y2 | exact y3) (first
            | (go_at_call 12; refine HU.out.mono ?_; rintro e w3 ⟨rfl, hg3⟩; have y2 := cell_grown hg3 y1; have HG3 := Lib.hid hg3; clear hg3)
            | (go_at_call 13; refine (HFB.out _).mono ?_; rintro e w4 ⟨rfl, rfl⟩)
            | (go_at_call 15; refine (HTE.out _ (cell_grown HG3.out HEVV.out)).mono ?_; rintro e w5 ⟨rfl, hg5⟩; have y3 := cell_grown hg5 y2; have HG5 := Lib.hid hg5; clear hg5)
            | (go_at_call 14; refine (HIT.out _).mono ?_; rintro e w6 ⟨rfl, rfl⟩))
          have HF := Lib.hid ((show TI w V.drew m v _ _ xs l (i + 1) from HJV.out.grow ⟨rfl, rfl, rfl, Nat.le_refl _, fun _ _ _ => rfl⟩).grow HG3.out |>.grow HG5.out)
          clear HG3 HG5 HJV HU HFB HTE HIT HEVV y1 y2 y3
          go_wp2
          go_roundw
          case rel => exact ⟨i + 1, by omega, by go_num, HF.out⟩
          case measure => simp [intOf]; omega
        have b1 : (x1 == 1) = false := by simpa using hw1
        have b2 : (x1 == 2) = false := by simpa using hw2
        have b3 : (x1 == 3) = false := by simpa using hw3
        have hsJ := HST.out
        rw [← HT.out] at hsJ
        rw [← HCUR.out] at hsJ
        have HC := Lib.hid (HJX.out.same hil (by rw [HT.out, HCUR.out]; exact HST.out) (load_out HMX.out x2 ho))
        have HSJ := Lib.hid hsJ
        clear hsJ HST
        go_wp2_with fail
        refine HC.out.mono ?_
        rintro e V ⟨rfl, hJV⟩
        obtain ⟨F, F2, Fb, F3, F4, T, GB, p1, p2, p3, p4, p5, p6, p7, p8, s1, s2, s3, s4⟩ := parts2 0 (by omega) false 2 (by decide)
        have y1 : V.drew.cell? ⟨gS, i, none⟩ = some (.string GB) := by rw [← p8]; exact hJV.cell hil HSJ.out
        have hbV := hJV.old
        have HU := Lib.hid (show Calls Tryd.prog 12 #[.int .u64 0, .int .i64 10] V.drew _ from fmtU 0 (by omega) p1 V.drew (var?_below hbV (show Tryd.prog.globalNamed "internal/strconv.uint64pow10" = some 1 by kernel_rfl) htl HTAB.out : Tab V))
        have HEVV := Lib.hid (errVar_below HEV.out hbV hgl)
        have HFB := Lib.hid (fun W => fmtB false p3 W)
        have HIT := Lib.hid (fun W => (show Calls Tryd.prog 14 #[.int .i64 2] W _ from fmtI 2 (by decide) p6 W))
        have HTE := Lib.hid (show ∀ W, ErrVar W → Calls Tryd.prog 15 #[.iface 30 (.int .i64 2)] W fun e w' => e = .returned (.int .i64 2) ∧ W.grownBy w' none from fun W h => tell_errno 2 W h)
        have HJV := Lib.hid hJV
        clear p1 p3 p6 p8 hJV hbV HC HSJ
        go_wp2_with fail
        go_region_held3 (fun u => u.cell? ⟨gS, i, none⟩ = some (.string GB)) (first | exact y1 | exact y2 | exact y3) (first
          | (go_at_call 12; refine HU.out.mono ?_; rintro e w3 ⟨rfl, hg3⟩; have y2 := cell_grown hg3 y1; have HG3 := Lib.hid hg3; clear hg3)
          | (go_at_call 13; refine (HFB.out _).mono ?_; rintro e w4 ⟨rfl, rfl⟩)
          | (go_at_call 15; refine (HTE.out _ (cell_grown HG3.out HEVV.out)).mono ?_; rintro e w5 ⟨rfl, hg5⟩; have y3 := cell_grown hg5 y2; have HG5 := Lib.hid hg5; clear hg5)
          | (go_at_call 14; refine (HIT.out _).mono ?_; rintro e w6 ⟨rfl, rfl⟩))
        have HF := Lib.hid ((show TI w V.drew m v _ _ xs l (i + 1) from HJV.out.grow ⟨rfl, rfl, rfl, Nat.le_refl _, fun _ _ _ => rfl⟩).grow HG3.out |>.grow HG5.out)
        clear HG3 HG5 HJV HU HFB HTE HIT HEVV y1 y2 y3
        go_wp2
        go_roundw
        case rel => exact ⟨i + 1, by omega, by go_num, HF.out⟩
        case measure => simp [intOf]; omega
    · obtain rfl : i = n2 := by omega
      have htk : l.take i = l := List.take_of_length_le (by omega)
      have hmm := hJ.mem
      rw [htk] at hmm
      have hcl := afterT_length l xs
      have HWD := Lib.hid (words_any hmm (by omega))
      have HJ := Lib.hid hJ
      have HCL := Lib.hid hcl
      clear hJ hmm hcl
      go_wp2_with fail
      refine HWD.out.mono ?_
      rintro e w3 ⟨v', rfl, hown, hg3⟩
      rw [HCL.out] at hown
      obtain ⟨A3, c3, rfl⟩ := own_form hown
      have hJ3 := HJ.out.grow hg3
      have hEQ := (equalU_same A3 AW xs.length c3 cW (afterT xs l) w3 (by omega) w3.heap.size (Ints.of_own hown) (Ints.of_own hJ3.word))
      have HF := Lib.hid hJ3.old
      rw [hlen1] at hEQ
      have HEQ := Lib.hid hEQ
      clear hown hg3 hJ3 HJ HWD hEQ
      go_wp2_with fail
      refine HEQ.out.mono ?_
      rintro e w4 ⟨rfl, q, rfl⟩
      have HF2 := Lib.hid (below_drewN HF.out q)
      clear HF HEQ
      go_wp2
      go_ret
      exact ⟨rfl, HF2.out⟩
end Go.Proofs.YtnooegfhkeddnaaDoor
