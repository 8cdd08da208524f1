/-
  Programs that ask for calls, one behind the other: ask.Code; latch.Code. The laws' helpers on threads that ask for calls: made.
-/
import Derived.Test.YtkhaeabbbhfloaaDoorQJ
import Derived.Test.YtkhaeabbbhfloaaDoorQK
import Derived.Test.YtkhaeabbbhfloaaDoorQJ2
namespace Go.Proofs.YtkhaeabbbhfloaaDoor
set_option maxRecDepth 100000
open Go.RowKit Go.Shelf Go.Sort
set_option linter.unusedVariables false
set_option linter.unusedSimpArgs false

/-- A row of calls. -/
structure CRow (w : World) (B : Nat) (A : Option Addr) (n : Nat) (l : List (Int × Int)) : Prop where
  len : l.length = n
  row : 0 < n → ∃ b off, A = some ⟨b, off, none⟩ ∧ b < B ∧ ∀ i, i < n → w.cell? ⟨b, off + i * 2, none⟩ = some (.int .i64 (l.getD i default).1) ∧ w.cell? ⟨b, off + i * 2 + 1, none⟩ = some (.int .i64 (l.getD i default).2)
theorem CRow.below {w w' : World} {B n : Nat} {A : Option Addr} {l : List (Int × Int)} (h : CRow w B A n l) (hb : Below B w w') : CRow w' B A n l :=
  ⟨h.len, fun h0 => by
    obtain ⟨b, off, e, hlt, hx⟩ := h.row h0
    exact ⟨b, off, e, hlt, fun i hi => ⟨(World.cell?_of_block (a := ⟨b, off + i * 2, none⟩) (hb.block b hlt)).trans (hx i hi).1, (World.cell?_of_block (a := ⟨b, off + i * 2 + 1, none⟩) (hb.block b hlt)).trans (hx i hi).2⟩⟩⟩

set_option maxHeartbeats 400000 in
theorem atell_any (r : Int) (w : World) : Calls Tryd.prog 66 #[.int .i64 r] w fun e w' => e = .returned (.agg #[.int .i64 16, .int .i64 3, .int .i64 r, .int .i64 0, .int .i64 0]) ∧ w.grownBy w' none := by
  have HG := Lib.hid (World.grownBy_alloc w (.cells #[.int .i64 16, .int .i64 3, .int .i64 r, .int .i64 0, .int .i64 0] 89) none)
  go_enter Tryd.func66, Tryd.ntmps66
  go_wp2
  refine bodyPost_ret (v := .agg #[.int .i64 16, .int .i64 3, .int .i64 r, .int .i64 0, .int .i64 0]) ?_ rfl ⟨rfl, HG.out⟩
  exact results_cell_row (fn := Tryd.f66) (p := 2) (ty := 89) (g := w.heap.size) (t := 89) (cs := #[.int .i64 16, .int .i64 3, .int .i64 r, .int .i64 0, .int .i64 0]) (fr := (0, 0)) (by kernel_rfl) _ _ (d := _) (by rfl) (heap_alloc_new w _) Tryd.underlying89 rfl (by kernel_rfl)

/-- What call makes of a call. -/
def CallOf (l : List In5) (w : World) (e : Ending) (w' : World) : Prop := ∃ A c, e = .returned (.tuple #[.slice A l.length c, .bool true]) ∧ Inss w' w'.heap.size A l.length l ∧ w.grownBy w' none
theorem enter_ask {f : FuncId} {fn : Func} (hf : Tryd.prog.funcs[f]? = some fn) (hname : (fn.name == "runtime.NumGoroutine") = false) (hb : fn.body.isSome = true) (args : Array Value) (w : World) :
    (callFunc f args).run Tryd.prog w = .ok (.enter f args) w := by
  have h1 : fn.name ≠ "runtime.NumGoroutine" := by simpa using hname
  obtain ⟨c, hc⟩ := Option.isSome_iff_exists.1 hb
  simp [callFunc, hf, h1, hc]
theorem piecesK_take {κ : Type} (F : Fam κ) : ∀ (l : List κ) (p k : Nat) (c : κ), l[k]? = some c → piecesK F p (l.take (k + 1)) = piecesK F p (l.take k) ++ F.code c (p + offK F l k)
  | [], _, _, _, h => by simp at h
  | d :: l, p, 0, c, h => by
    injection h with h
    subst h
    simp [piecesK, offK]
  | d :: l, p, k + 1, c, h => by
    have ih := piecesK_take F l (p + F.len d) k c h
    have e : offK F (d :: l) (k + 1) = F.len d + offK F l k := by simp [offK]
    show F.code d p ++ piecesK F (p + F.len d) (l.take (k + 1)) = (F.code d p ++ piecesK F (p + F.len d) (l.take k)) ++ _
    rw [ih, e, ← Nat.add_assoc, List.append_assoc]
theorem piecesK_few {κ : Type} (F : Fam κ) (hF : ∀ c, F.len c ≤ 40) : ∀ (l : List κ) (k : Nat), offK F l k ≤ 40 * k
  | [], k => by simp [offK]
  | d :: l, 0 => by simp [offK]
  | d :: l, k + 1 => by
    have e : offK F (d :: l) (k + 1) = F.len d + offK F l k := by simp [offK]
    have := piecesK_few F hF l k
    have := hF d
    omega
/-- A program that asks for calls, so far. -/
structure AskTo {κ : Type} (F : Fam κ) (w : World) (L : List κ) (v : Value) (k : Nat) (wr : World) : Prop where
  own : wr.ownsRow w.heap.size 89 5 v (offK F L k) (cells5 (piecesK F 0 (L.take k)))
  bel : Below w.heap.size w wr
set_option maxHeartbeats 2000000 in
theorem acodeB_any {κ : Type} (F : Fam κ) (enc : κ → Int × Int) (f : Nat) (lb : Array Value) (eg : ∀ args W, (callFunc f args).run Tryd.prog W = .ok (.enter f args) W)
    (hF : ∀ c, F.len c ≤ 40) (L : List κ) (hL : L.length ≤ 12) {w : World} (A : Option Addr) (n cap : Nat) (hR : CRow w w.heap.size A n (L.map enc))
    (HC : ∀ c ∈ L, ∀ p : Nat, p ≤ 1000 → ∀ w1, Below w.heap.size w w1 → Calls Tryd.prog f (#[.agg #[.int .i64 (enc c).1, .int .i64 (enc c).2], .int .i64 (p : Nat)] ++ lb) w1 (CallOf (F.code c p) w1)) :
    Calls Tryd.prog 62 #[.slice A n cap, .func (.func f) #[] lb] w fun e w' => ∃ A' c', e = .returned (.tuple #[.slice A' (wholeK F L).length c', .nilIface]) ∧ w'.ownsRow w.heap.size 89 5 (.slice A' (wholeK F L).length c') (wholeK F L).length (cells5 (wholeK F L)) ∧ Below w.heap.size w w' := by
  have hn : L.length = n := by have := hR.len; rwa [List.length_map] at this
  have HR := Lib.hid hR
  have HCC := Lib.hid HC
  have HN := Lib.hid hn
  have h12 : ¬ (12 : Int) < (n : Int) := by omega
  have HA0 := Lib.hid (show AskTo F w L (.slice none 0 0) 0 w from ⟨by simpa [offK, piecesK, cells5] using World.ownsRow_nil w w.heap.size 89 5, Below.refl _ _⟩)
  clear hR HC hn
  go_enter Tryd.func62, Tryd.ntmps62
  go_wp2
  --MA
  go_loopw [6, 17] (fun v j wr => ∃ k : Nat, k ≤ n ∧ j = .int .i64 k ∧ AskTo F w L v k wr) (fun _ j _ => n - (intOf j).toNat)
  case atStart => exact ⟨0, Nat.zero_le _, rfl, HA0.out⟩
  case round =>
    obtain ⟨k, hk, rfl, hm⟩ := hrel
    by_cases hlt : k < n
    · have hkn : (k : Int) < (n : Int) := by omega
      obtain ⟨c, hc⟩ : ∃ c, L[k]? = some c := ⟨_, List.getElem?_eq_getElem (by rw [HN.out]; exact hlt)⟩
      obtain ⟨b, off, hA, hb, hx⟩ := (HR.out.below hm.bel).row (by omega)
      subst hA
      have hd : (L.map enc).getD k default = enc c := by rw [List.getD_eq_getElem?_getD, List.getElem?_map, hc]; rfl
      obtain ⟨hc0, hc1⟩ := hx k hlt
      rw [hd] at hc0 hc1
      have hp : offK F L k ≤ 1000 := by have := piecesK_few F hF L k; omega
      have HCk := Lib.hid (HCC.out c (List.mem_of_getElem? hc) (offK F L k) hp)
      have HM := Lib.hid hm
      have HK := Lib.hid hc
      have HP := Lib.hid hp
      obtain ⟨Av, cv, hv⟩ := slice_of_own hm.own
      subst hv
      clear hm hx hd hb hp hc HA0
      generalize hex : (enc c).1 = x at *
      generalize hey : (enc c).2 = y at *
      clear hex hey
      --MB
      go_wp2_with fail
      --MC
      refine (HCk.out _ (HM.out.bel.alloc HM.out.bel.size _)).mono ?_
      rintro e w1 ⟨Ap, cp, rfl, hI, hg1⟩
      rw [F.hlen] at hI ⊢
      have hg2 := (World.grownBy_alloc wr (.cells #[.int .i64 x, .int .i64 y] 55) none).andThen hg1 (fun k hk => by cases hk)
      have ho2 := HM.out.own.kept hg2 (by cases Av <;> simp [Value.ownBlock])
      have hln : (piecesK F 0 (L.take k)).length = offK F L k := by
        have := (ho2.1)
        rw [cells5_len] at this
        omega
      have hl40 := hF c
      obtain ⟨v3, w3, hr3, ho3, hg3⟩ := run_appendP (c := cp) ho2 hI (by have := HP.out; omega) (by have := HM.out.bel.size; have := hg2.size; omega) 61
      have hmm : offK F L k + F.len c = offK F L (k + 1) := (offK_succ HK.out).symm
      have hpp : piecesK F 0 (L.take k) ++ F.code c (offK F L k) = piecesK F 0 (L.take (k + 1)) := by rw [piecesK_take F L 0 k c HK.out, Nat.zero_add]
      rw [hmm, hpp] at ho3
      have HA3 := Lib.hid (show AskTo F w L v3 (k + 1) w3 from ⟨ho3, (HM.out.bel.grown hg2 HM.out.bel.size (by intro k hk; cases hk)).grown hg3 (Nat.le_trans HM.out.bel.size hg2.size) (fun g hg => (HM.out.own.lt g hg).1)⟩)
      have HR3 := Lib.hid hr3
      clear hr3 ho3 hg3 hg2 ho2 hI hg1 HM HCk HP HK hmm hpp hln hl40
      go_wp2_with (at_builtin; refine Lib.wpList_append_run _ rfl _ _ _ _ rfl _ _ rfl rfl _ _ HR3.out ?_; clear HR3)
      go_roundw
      case rel => exact ⟨k + 1, by omega, by go_num, HA3.out⟩
      case measure => simp [intOf]; omega
    · have hkn : ¬ (k : Int) < (n : Int) := by omega
      obtain rfl : k = n := by omega
      have hfew := piecesK_few F hF L k
      have ho1 := hm.own.alloc (.cells #[.int .i64 0, .int .i64 0, .int .i64 0, .int .i64 0, .int .i64 0] 89)
      have hI1 := inss_lit (w := wr) (cs := #[.int .i64 0, .int .i64 0, .int .i64 0, .int .i64 0, .int .i64 0]) (l := [(0, 0, 0, 0, 0)]) (n := 1) rfl rfl (by decide)
      obtain ⟨v3, w3, hr3, ho3, hg3⟩ := run_appendP (c := 1) ho1 hI1 (by omega) (by rw [World.size_alloc]; have := hm.bel.size; omega) 61
      have hall : L.take k = L := List.take_of_length_le (by rw [HN.out]; exact Nat.le_refl _)
      rw [hall] at ho3
      have hlw : (wholeK F L).length = offK F L k + 1 := by
        have h1 := ho3.1
        rw [cells5_len] at h1
        show (piecesK F 0 L ++ [(0, 0, 0, 0, 0)]).length = _
        omega
      have HLW := Lib.hid hlw
      obtain ⟨A3, c3, rfl⟩ := slice_of_own ho3
      have HO3 := Lib.hid (show w3.ownsRow w.heap.size 89 5 (.slice A3 (offK F L k + 1) c3) (offK F L k + 1) (cells5 (wholeK F L)) from ho3)
      have HB3 := Lib.hid ((hm.bel.alloc hm.bel.size (.cells #[.int .i64 0, .int .i64 0, .int .i64 0, .int .i64 0, .int .i64 0] 89)).grown hg3 (by rw [World.size_alloc]; have := hm.bel.size; omega) (fun g hg => (hm.own.lt g hg).1))
      have HR3 := Lib.hid hr3
      obtain ⟨Av, cv, hv⟩ := slice_of_own hm.own
      subst hv
      clear hm hr3 ho3 hg3 ho1 hI1 hfew HA0 HCC HR hall hlw
      go_wp2_with (at_builtin; refine Lib.wpList_append_run _ rfl _ _ _ _ rfl _ _ rfl rfl _ _ HR3.out ?_; clear HR3)
      go_ret2
      rw [HLW.out]
      exact ⟨A3, c3, rfl, HO3.out, HB3.out⟩

/-- What Code comes to. -/
def WholeOf {κ : Type} (F : Fam κ) (L : List κ) (w : World) (e : Ending) (w' : World) : Prop := ∃ A' c', e = .returned (.tuple #[.slice A' (wholeK F L).length c', .nilIface]) ∧ w'.ownsRow w.heap.size 89 5 (.slice A' (wholeK F L).length c') (wholeK F L).length (cells5 (wholeK F L)) ∧ Below w.heap.size w w'
end Go.Proofs.YtkhaeabbbhfloaaDoor

namespace Go.Proofs.YtkhaeabbbhfloaaDoor
set_option maxRecDepth 100000
open Go.RowKit Go.Shelf Go.Sort
set_option linter.unusedVariables false
set_option linter.unusedSimpArgs false

/-! Programs of calls may be. -/
theorem pieces_mem {κ : Type} (F : Fam κ) : ∀ (L : List κ) (p : Nat) (x : Ins5), x ∈ piecesK F p L → ∃ c q, p ≤ q ∧ q + F.len c ≤ p + (L.map F.len).sum ∧ x ∈ F.code c q
  | [], _, _, h => by simp [piecesK] at h
  | d :: L, p, x, h => by
    rcases List.mem_append.1 (show x ∈ F.code d p ++ piecesK F (p + F.len d) L from h) with h | h
    · exact ⟨d, p, Nat.le_refl _, by simp only [List.map_cons, List.sum_cons]; omega, h⟩
    · obtain ⟨c, q, h1, h2, h3⟩ := pieces_mem F L _ x h
      exact ⟨c, q, by omega, by simp only [List.map_cons, List.sum_cons]; omega, h3⟩
theorem whole_len {κ : Type} (F : Fam κ) (L : List κ) : (wholeK F L).length = (L.map F.len).sum + 1 := by
  unfold wholeK
  rw [List.length_append, piecesK_len]
  rfl
theorem whole_right {κ : Type} (F : Fam κ) (hF : ∀ c, F.len c ≤ 40) (h0 : F.nc ≤ 300) (hg : ∀ (c : κ) (p N : Nat), p + F.len c < N → ∀ x ∈ F.code c p, goodX N F.nc x) (L : List κ) (hL : L.length ≤ 12) : RightL (wholeK F L) F.nc := by
  have hl := whole_len F L
  have hfew := piecesK_few F hF L L.length
  have he : offK F L L.length = (L.map F.len).sum := by unfold offK; rw [List.take_length]
  rw [he] at hfew
  refine ⟨by omega, by omega, by omega, by omega, fun i hi => ?_, .inl ?_⟩
  · have hx : (wholeK F L).getD i default ∈ wholeK F L := by
      rw [List.getD_eq_getElem?_getD, List.getElem?_eq_getElem hi]
      exact List.getElem_mem hi
    rcases List.mem_append.1 hx with hx | hx
    · obtain ⟨c, q, h1, h2, h3⟩ := pieces_mem F L 0 _ hx
      exact hg c q _ (by omega) _ h3
    · rw [List.mem_singleton.1 hx]
      exact ⟨by show (0 : Int) ≤ 0; decide, by show (0 : Int) < 17; decide, rfl⟩
  · have h1 := wholeK_end (F := F) (l := L)
    rw [he] at h1
    rw [hl, Nat.add_sub_cancel, h1]
/-! Rows in a row. -/
structure Nest (tO tI : TypeId) (sz : Nat) (w : World) (A : Option Addr) (n c : Nat) (rs : List (Nat × List Value)) (wr : World) : Prop where
  bel : Below w.heap.size w wr
  len : rs.length = n
  row : ∃ xs, wr.ownsRow w.heap.size tO 1 (.slice A n c) n xs ∧ ∀ j, j < n → ∃ Aj cj, xs[j]? = some (.slice Aj (rs.getD j default).1 cj) ∧ wr.ownsRow w.heap.size tI sz (.slice Aj (rs.getD j default).1 cj) (rs.getD j default).1 (rs.getD j default).2
theorem Nest.nil (tO tI : TypeId) (sz : Nat) (w : World) : Nest tO tI sz w none 0 0 [] w := ⟨Below.refl _ _, rfl, [], World.ownsRow_nil _ _ _ _, fun j hj => absurd hj (Nat.not_lt_zero _)⟩
theorem Nest.grow {tO tI : TypeId} {sz : Nat} {w wr w' : World} {A : Option Addr} {n c : Nat} {rs : List (Nat × List Value)} (h : Nest tO tI sz w A n c rs wr) (hb : Below wr.heap.size wr w') : Nest tO tI sz w A n c rs w' := by
  have hk := keeps_below hb (Nat.le_refl _)
  obtain ⟨xs, h1, h2⟩ := h.row
  refine ⟨h.bel.trans (hb.mono h.bel.size), h.len, xs, own_tags h1 hk .none (by simp), fun j hj => ?_⟩
  obtain ⟨Aj, cj, h3, h4⟩ := h2 j hj
  exact ⟨Aj, cj, h3, own_tags h4 hk .none (by simp)⟩
theorem Nest.add {tO tI tS : TypeId} {sz : Nat} {w wr : World} {A B : Option Addr} {n c m cm base : Nat} {rs : List (Nat × List Value)} {ys : List Value} (h : Nest tO tI sz w A n c rs wr) (ht : Tryd.prog.underlying tS = some (.slice tO)) (hi : (Tryd.prog.info? tO).map (fun i => (i.zero, i.size, i.bytes)) = some (some (.slice none 0 0), 1, 24)) (hne : tI ≠ tO)
    (hin : wr.ownsRow base tI sz (.slice B m cm) m ys) (hbase : w.heap.size ≤ base) (hn : n ≤ 1000) :
    ∃ A' c' w', (Builtin.append_ #[tS, tS] tS #[.slice A n c, .slice (some ⟨wr.heap.size, 0, none⟩) 1 1]).run Tryd.prog (wr.alloc (.cells #[.slice B m cm] tO)) = .ok (.slice A' (n + 1) c') w' ∧ Nest tO tI sz w A' (n + 1) c' (rs ++ [(m, ys)]) w' := by
  obtain ⟨i0, hi0, hz0, hz1, hz2⟩ := info_parts hi
  obtain ⟨xs, h1, h2⟩ := h.row
  have hb := h.bel.alloc h.bel.size (.cells #[.slice B m cm] tO)
  have h1a := h1.alloc (.cells #[.slice B m cm] tO)
  have hat := heap_alloc_new wr (.cells #[.slice B m cm] tO)
  have hnews := World.news_of_block (cs := #[.slice B m cm]) hat
  obtain ⟨v', w', hr, ho, hg, _⟩ := run_append_own (P := Tryd.prog) (wr.alloc (.cells #[.slice B m cm] tO)) w.heap.size tS tS tO i0 (.slice none 0 0) 1 24 ht hi0 hz0 hz1 hz2 rfl (by decide) (.slice A n c) n xs h1a ⟨wr.heap.size, 0, none⟩ 1 1 [.slice B m cm] rfl hnews (fun u hu => by rw [List.mem_singleton.1 hu]; rfl) (by unfold maxLen; omega) (by omega) (by rw [World.size_alloc]; have := h.bel.size; omega)
  obtain ⟨A', c', rfl⟩ := slice_of_own ho
  have hk : Keeps (fun k => some k = (Value.slice A n c).ownBlock) (wr.alloc (.cells #[.slice B m cm] tO)) w' := Keeps.of_grown hg (fun k e => e.symm)
  have htg : Tagged (wr.alloc (.cells #[.slice B m cm] tO)) (fun k => some k = (Value.slice A n c).ownBlock) [tO] := tagged_row h1a
  have hlen := h1.1
  refine ⟨A', c', w', hr, hb.grown hg (by rw [World.size_alloc]; have := h.bel.size; omega) (fun g hg => (h1.lt g hg).1), by rw [List.length_append, h.len]; rfl, _, ho, fun j hj => ?_⟩
  by_cases e : j = n
  · subst e
    refine ⟨B, cm, ?_, ?_⟩
    · rw [List.getElem?_append_right (by omega), show j - xs.length = 0 by omega]
      rw [show (rs ++ [(m, ys)]).getD j default = (m, ys) by rw [List.getD_eq_getElem?_getD, List.getElem?_append_right (by have := h.len; omega), show j - rs.length = 0 by have := h.len; omega]; rfl]
      rfl
    · rw [show (rs ++ [(m, ys)]).getD j default = (m, ys) by rw [List.getD_eq_getElem?_getD, List.getElem?_append_right (by have := h.len; omega), show j - rs.length = 0 by have := h.len; omega]; rfl]
      exact own_tags (own_low (hin.alloc _) hbase) hk htg (by simpa using hne)
  · obtain ⟨Aj, cj, h3, h4⟩ := h2 j (by omega)
    have he : (rs ++ [(m, ys)]).getD j default = rs.getD j default := by
      rw [List.getD_eq_getElem?_getD, List.getElem?_append_left (by have := h.len; omega), ← List.getD_eq_getElem?_getD]
    refine ⟨Aj, cj, ?_, ?_⟩
    · rw [List.getElem?_append_left (by omega), he]; exact h3
    · rw [he]; exact own_tags (h4.alloc _) hk htg (by simpa using hne)

theorem infoSInsM : (Tryd.prog.info? 61).map (fun i => (i.zero, i.size, i.bytes)) = some (some (.slice none 0 0), 1, 24) := by kernel_rfl
theorem infoSCallM : (Tryd.prog.info? 56).map (fun i => (i.zero, i.size, i.bytes)) = some (some (.slice none 0 0), 1, 24) := by kernel_rfl
/-- Programs in a row. -/
theorem Nest.progs {w wr : World} {A : Option Addr} {n c : Nat} {ps : List (List In5)} (h : Nest 61 89 5 w A n c (ps.map fun p => (p.length, cells5 p)) wr) : Progs wr wr.heap.size A n ps := by
  have hl : ps.length = n := by have := h.len; rwa [List.length_map] at this
  obtain ⟨xs, h1, h2⟩ := h.row
  refine ⟨hl, fun h0 => ?_⟩
  obtain ⟨g, cap, hv, hb, hlt⟩ := h1.form h0
  obtain ⟨rfl, rfl⟩ : A = some ⟨g, 0, none⟩ ∧ c = cap := by injection hv with h1 _ h3; exact ⟨h1, h3⟩
  refine ⟨g, 0, rfl, (h1.lt g rfl).2, fun i hi => ?_⟩
  obtain ⟨Aj, cj, h3, h4⟩ := h2 i hi
  have he : (ps.map fun p => (p.length, cells5 p)).getD i default = ((ps.getD i []).length, cells5 (ps.getD i [])) := by
    rw [List.getD_eq_getElem?_getD, List.getElem?_map, List.getElem?_eq_getElem (by omega), List.getD_eq_getElem?_getD, List.getElem?_eq_getElem (by omega)]
    rfl
  rw [he] at h3 h4
  exact ⟨Aj, cj, by rw [Nat.zero_add]; exact (h1.cellAt _ (by have := h1.1; omega)).trans h3, Inss.of_own h4 rfl⟩

/-- Rows of calls in a row. -/
structure CRows (w : World) (B : Nat) (A : Option Addr) (n : Nat) (ls : List (List (Int × Int))) : Prop where
  len : ls.length = n
  row : 0 < n → ∃ b off, A = some ⟨b, off, none⟩ ∧ b < B ∧ ∀ i, i < n → ∃ Ai ci, w.cell? ⟨b, off + i, none⟩ = some (.slice Ai (ls.getD i []).length ci) ∧ CRow w B Ai (ls.getD i []).length (ls.getD i [])
theorem CRows.below {w w' : World} {B n : Nat} {A : Option Addr} {l : List (List (Int × Int))} (h : CRows w B A n l) (hb : Below B w w') : CRows w' B A n l :=
  ⟨h.len, fun h0 => by
    obtain ⟨b, off, e, hlt, hx⟩ := h.row h0
    refine ⟨b, off, e, hlt, fun i hi => ?_⟩
    obtain ⟨Ai, ci, h1, h2⟩ := hx i hi
    exact ⟨Ai, ci, (World.cell?_of_block (a := ⟨b, off + i, none⟩) (hb.block b hlt)).trans h1, h2.below hb⟩⟩
theorem CRow.wide {w : World} {B B' n : Nat} {A : Option Addr} {l : List (Int × Int)} (h : CRow w B A n l) (hb : B ≤ B') : CRow w B' A n l :=
  ⟨h.len, fun h0 => by
    obtain ⟨b, off, e, hlt, hx⟩ := h.row h0
    exact ⟨b, off, e, by omega, hx⟩⟩
/-- What code comes to, for whatever calls that a thread may have. -/
def CodesQ {κ : Type} (F : Fam κ) (enc : κ → Int × Int) (f : Nat) (w : World) (Q : Nat → List κ → Prop) : Prop := ∀ (w1 : World), Below w.heap.size w w1 → ∀ (L : List κ), L.length ≤ 12 → ∀ (A : Option Addr) (n cap : Nat) (i : Nat), Q i L → CRow w1 w1.heap.size A n (L.map enc) → Calls Tryd.prog f #[.int .i64 (i : Nat), .slice A n cap] w1 (WholeOf F L w1)
/-- What code comes to, for whatever calls. -/
def CodesOf {κ : Type} (F : Fam κ) (enc : κ → Int × Int) (f : Nat) (w : World) : Prop := ∀ (w1 : World), Below w.heap.size w w1 → ∀ (L : List κ), L.length ≤ 12 → ∀ (A : Option Addr) (n cap : Nat) (i : Nat), CRow w1 w1.heap.size A n (L.map enc) → Calls Tryd.prog f #[.int .i64 (i : Nat), .slice A n cap] w1 (WholeOf F L w1)
/-- Programs of calls. -/
def wholesK {κ : Type} (F : Fam κ) (Ls : List (List κ)) : List (List In5) := Ls.map (wholeK F)
set_option maxHeartbeats 2000000 in
theorem madeQ_any {κ : Type} (F : Fam κ) (enc : κ → Int × Int) (f : Nat) (eg : ∀ args W, (callFunc f args).run Tryd.prog W = .ok (.enter f args) W) {w : World} (hw : CW w) (Q : Nat → List κ → Prop) (HC : CodesQ F enc f w Q) (hR : ∀ L : List κ, L.length ≤ 12 → RightL (wholeK F L) F.nc) (h300 : F.nc ≤ 300) (h100 : F.nc ≤ 100)
    (Ls : List (List κ)) (h16 : Ls.length ≤ 16) (h12 : ∀ L ∈ Ls, L.length ≤ 12) (hQ : ∀ k, k < Ls.length → Q k (Ls.getD k [])) (A C D : Option Addr) (n cap nc cc nm cm : Nat) (hA : CRows w w.heap.size A n (Ls.map (List.map enc))) (cells : List Int) (hc : Ints .u64 w w.heap.size C nc cells) (hnc : nc = F.nc) (l : List (Int × Bool)) (hl : Moves w w.heap.size D nm l) (hcU : ∀ v ∈ cells, okU v) (hnm : nm ≤ 1000000) :
    Calls Tryd.prog 10 #[.slice A n cap, .func (.func f) #[] #[], .slice C nc cc, .slice D nm cm] w fun e w' => ∃ c, e = .returned (.pointer (some ⟨c, 0, none⟩)) ∧ At w c (behindM 20000 (newM (wholesK F Ls) cells) l) w' := by
  have hn : Ls.length = n := by have := hA.len; rwa [List.length_map] at this
  have HAc := Lib.hid hA
  have HCo := Lib.hid HC
  have HN := Lib.hid hn
  have H12 := Lib.hid h12
  have HQ := Lib.hid hQ
  have hN0 : Nest 61 89 5 w none 0 0 (((wholesK F Ls).take 0).map fun p => (p.length, cells5 p)) w := Nest.nil _ _ _ w
  have HN0 := Lib.hid hN0
  have HNC := Lib.hid hnc
  clear hA HC hN0 h12 hn hnc hQ
  go_enter Tryd.func10, Tryd.ntmps10
  go_wp2
  go_loopw [9, 20] (fun v j wr => ∃ k : Nat, k ≤ n ∧ j = .int .i64 k ∧ ∃ Ap cp, v = .slice Ap k cp ∧ Nest 61 89 5 w Ap k cp (((wholesK F Ls).take k).map fun p => (p.length, cells5 p)) wr) (fun _ j _ => n - (intOf j).toNat)
  case atStart => exact ⟨0, Nat.zero_le _, rfl, none, 0, rfl, HN0.out⟩
  case round =>
    obtain ⟨k, hk, rfl, Ap, cp, rfl, hm⟩ := hrel
    by_cases hlt : k < n
    · have hkn : (k : Int) < (n : Int) := by omega
      obtain ⟨b, off, hA, hb, hx⟩ := (HAc.out.below hm.bel).row (by omega)
      subst hA
      obtain ⟨Ai, ci, hcell, hcr⟩ := hx k hlt
      have hkl : k < Ls.length := by rw [HN.out]; exact hlt
      have hd : (Ls.map (List.map enc)).getD k [] = (Ls.getD k []).map enc := by rw [List.getD_eq_getElem?_getD, List.getElem?_map, List.getElem?_eq_getElem hkl, List.getD_eq_getElem?_getD, List.getElem?_eq_getElem hkl]; rfl
      rw [hd] at hcell hcr
      have hLm : Ls.getD k [] ∈ Ls := by rw [List.getD_eq_getElem?_getD, List.getElem?_eq_getElem hkl]; exact List.getElem_mem hkl
      have HCk := Lib.hid (HCo.out wr hm.bel (Ls.getD k []) (H12.out _ hLm) Ai _ ci k (HQ.out k hkl) (hcr.wide hm.bel.size))
      have htk : ((wholesK F Ls).take (k + 1)).map (fun p => (p.length, cells5 p)) = ((wholesK F Ls).take k).map (fun p => (p.length, cells5 p)) ++ [((wholeK F (Ls.getD k [])).length, cells5 (wholeK F (Ls.getD k [])))] := by
        have : (wholesK F Ls)[k]? = some (wholeK F (Ls.getD k [])) := by unfold wholesK; rw [List.getElem?_map, List.getElem?_eq_getElem hkl, List.getD_eq_getElem?_getD, List.getElem?_eq_getElem hkl]; rfl
        rw [List.take_add_one, this, List.map_append]
        rfl
      have HT := Lib.hid htk
      have HM := Lib.hid hm
      clear hm hx hd hb hcr hLm htk HN0
      generalize hLk : Ls.getD k [] = Lk at *
      generalize hlk : (Lk.map enc).length = lk at *
      clear hLk hlk
      go_wp2_with fail
      --MC
      refine HCk.out.mono ?_
      rintro e w1 ⟨A1, c1, rfl, ho1, hb1⟩
      obtain ⟨A2, c2, w2, hr2, hN2⟩ := (HM.out.grow hb1).add (tS := 60) Tryd.underlying60 infoSInsM (by decide) ho1 HM.out.bel.size (by omega)
      rw [← HT.out] at hN2
      have HN2 := Lib.hid hN2
      have HR2 := Lib.hid hr2
      clear hr2 hN2 ho1 hb1 HM HCk HT
      go_wp2_with (at_builtin; refine Lib.wpList_append_run _ rfl _ _ _ _ rfl _ _ rfl rfl _ _ HR2.out ?_; clear HR2)
      go_roundw
      case rel => exact ⟨k + 1, by omega, by go_num, A2, c2, rfl, HN2.out⟩
      case measure => simp [intOf]; omega
    · have hkn : ¬ (k : Int) < (n : Int) := by omega
      obtain rfl : k = n := by omega
      have hps : (wholesK F Ls).length = k := by unfold wholesK; rw [List.length_map, HN.out]
      have htk : (wholesK F Ls).take k = wholesK F Ls := List.take_of_length_le (by omega)
      rw [htk] at hm
      have hIc := hc.below hm.bel
      have hI2 : Ints .u64 wr wr.heap.size C nc cells := hc.old hm.bel
      have hri : ∀ i, i < k → RightL ((wholesK F Ls).getD i []) nc := fun i hi => by
        have e : (wholesK F Ls).getD i [] = wholeK F (Ls.getD i []) := by unfold wholesK; rw [List.getD_eq_getElem?_getD, List.getElem?_map, List.getElem?_eq_getElem (by rw [HN.out]; exact hi), List.getD_eq_getElem?_getD, List.getElem?_eq_getElem (by rw [HN.out]; exact hi)]; rfl
        rw [e, HNC.out]
        exact hR _ (H12.out _ (by rw [List.getD_eq_getElem?_getD, List.getElem?_eq_getElem (by rw [HN.out]; exact hi)]; exact List.getElem_mem _))
      have HNw := Lib.hid (new_at (c := cp) (cc := cc) hw hm.bel Ap C k nc (wholesK F Ls) cells hm.progs hI2 (by rw [← HN.out]; exact h16) (by rw [HNC.out]; exact h300) hri)
      have hbig : MBig cells (newM (wholesK F Ls) cells) := newM_big ⟨by rw [hps, ← HN.out]; exact h16, by rw [hc.len, HNC.out]; exact h100, fun i hi => by rw [hc.len]; exact hri i (by omega)⟩ hcU
      have HBig := Lib.hid (fun j => MBig.behind (l.take j) hbig)
      have HPs := Lib.hid hps
      have HLen := Lib.hid hl.len
      have HL := Lib.hid hl
      clear hm hIc hI2 hri hbig hps htk hl HN0 HAc HCo H12
      generalize hPS : wholesK F Ls = ps at *
      have HPS := Lib.hid hPS
      clear hPS
      go_wp2_with fail
      refine HNw.out.mono ?_
      rintro e w1 ⟨q, rfl, hA1⟩
      have HA1 := Lib.hid (show At w q (behindM 20000 (newM ps cells) (l.take 0)) w1 from hA1)
      have HTh := Lib.hid (at_threads hA1)
      rw [show (newM ps cells).progs.length = k from HPs.out] at HTh
      clear hA1 HNw
      go_wp2_with fail
      refine HTh.out.mono ?_
      rintro e w2 ⟨rfl, rfl⟩
      have hnn : ((k : Int) != (k : Int)) = false := by simp
      clear HTh
      go_wp2
      go_loopw [60] (fun j wr => ∃ i : Nat, i ≤ nm ∧ j = .int .i64 i ∧ At w q (behindM 20000 (newM ps cells) (l.take i)) wr) (fun j _ => nm - (intOf j).toNat)
      case atStart => exact ⟨0, Nat.zero_le _, rfl, HA1.out⟩
      case round =>
        obtain ⟨i, hi, rfl, hm⟩ := hrel
        by_cases hlt : i < nm
        · have hkn : (i : Int) < (nm : Int) := by omega
          obtain ⟨g, off, hD, hcell⟩ := moves_at HL.out hm hlt
          subst hD
          have HTk := Lib.hid (behind_take l (newM ps cells) i (by rw [HLen.out]; exact hlt))
          have HM := Lib.hid (fun w' (hg : wr.grownBy w' none) => kmove_any (hm.grow hg) (HBig.out i) (l.getD i default))
          rw [← HTk.out] at HM
          clear HTk hm HA1
          obtain ⟨hc0, hc1⟩ := hcell
          generalize l.getD i default = v at *
          obtain ⟨t, p⟩ := v
          dsimp only at hc0 hc1 HM
          cases p
          · simp only [Bool.false_eq_true, ↓reduceIte] at HM
            go_wp2_with fail
            refine (HM.out _ (grown_a (World.grownBy.refl _ none) _)).mono ?_
            rintro e w2 ⟨rfl, hm2⟩
            have H2 := Lib.hid hm2
            generalize (errV (stepM 20000 (behindM 20000 (newM ps cells) (List.take i l)) t).1) = RV
            clear hm2 HM hc0 hc1
            go_wp2
            go_roundw
            case rel => exact ⟨i + 1, by omega, by go_num, H2.out⟩
            case measure => simp [intOf]; omega
          · simp only [↓reduceIte] at HM
            go_wp2_with fail
            refine (HM.out _ (grown_a (World.grownBy.refl _ none) _)).mono ?_
            rintro e w2 ⟨rfl, hm2⟩
            have H2 := Lib.hid hm2
            generalize (errV (pokeM (behindM 20000 (newM ps cells) (List.take i l)) t).1) = RV
            clear hm2 HM hc0 hc1
            go_wp2
            go_roundw
            case rel => exact ⟨i + 1, by omega, by go_num, H2.out⟩
            case measure => simp [intOf]; omega
        · have hkn : ¬ (i : Int) < (nm : Int) := by omega
          obtain rfl : i = nm := by omega
          have hall : l.take i = l := List.take_of_length_le (by rw [HLen.out]; exact Nat.le_refl _)
          rw [hall] at hm
          have HM := Lib.hid hm
          clear hm hall HA1
          go_wp2
          go_ret
          rw [HPS.out]
          exact ⟨q, rfl, HM.out⟩
theorem made_any {κ : Type} (F : Fam κ) (enc : κ → Int × Int) (f : Nat) (eg : ∀ args W, (callFunc f args).run Tryd.prog W = .ok (.enter f args) W) {w : World} (hw : CW w) (HC : CodesOf F enc f w) (hR : ∀ L : List κ, L.length ≤ 12 → RightL (wholeK F L) F.nc) (h300 : F.nc ≤ 300) (h100 : F.nc ≤ 100)
    (Ls : List (List κ)) (h16 : Ls.length ≤ 16) (h12 : ∀ L ∈ Ls, L.length ≤ 12) (A C D : Option Addr) (n cap nc cc nm cm : Nat) (hA : CRows w w.heap.size A n (Ls.map (List.map enc))) (cells : List Int) (hc : Ints .u64 w w.heap.size C nc cells) (hnc : nc = F.nc) (l : List (Int × Bool)) (hl : Moves w w.heap.size D nm l) (hcU : ∀ v ∈ cells, okU v) (hnm : nm ≤ 1000000) :
    Calls Tryd.prog 10 #[.slice A n cap, .func (.func f) #[] #[], .slice C nc cc, .slice D nm cm] w fun e w' => ∃ c, e = .returned (.pointer (some ⟨c, 0, none⟩)) ∧ At w c (behindM 20000 (newM (wholesK F Ls) cells) l) w' :=
  madeQ_any F enc f eg hw (fun _ _ => True) (fun w1 hb L hL A n cap i _ hr => HC w1 hb L hL A n cap i hr) hR h300 h100 Ls h16 h12 (fun _ _ => trivial) A C D n cap nc cc nm cm hA cells hc hnc l hl hcU hnm
end Go.Proofs.YtkhaeabbbhfloaaDoor
