/-
  Programs that ask for calls, one behind the other: ask.Code; latch.Code. The laws' helpers on threads that ask for calls: made.
-/
import Derived.Test.YtdhlmgoodpepeaaGreatDoorQJ
import Derived.Test.YtdhlmgoodpepeaaGreatDoorQK
namespace Go.Proofs.YtdhlmgoodpepeaaGreatDoor
set_option maxRecDepth 100000
open Go.RowKit Go.Shelf Go.Sort
set_option linter.unusedVariables false
set_option linter.unusedSimpArgs false

/-- A row of calls. -/
structure CRow (w : World) (B : Nat) (A : Option Addr) (n : Nat) (l : List (Int × Int)) : Prop where
  len : l.length = n
  row : 0 < n → ∃ b off, A = some ⟨b, off, none⟩ ∧ b < B ∧ ∀ i, i < n → w.cell? ⟨b, off + i * 2, none⟩ = some (.int .i64 (l.getD i default).1) ∧ w.cell? ⟨b, off + i * 2 + 1, none⟩ = some (.int .i64 (l.getD i default).2)
theorem CRow.below {w w' : World} {B n : Nat} {A : Option Addr} {l : List (Int × Int)} (h : CRow w B A n l) (hb : Below B w w') : CRow w' B A n l :=
  ⟨h.len, fun h0 => by
    obtain ⟨b, off, e, hlt, hx⟩ := h.row h0
    exact ⟨b, off, e, hlt, fun i hi => ⟨(World.cell?_of_block (a := ⟨b, off + i * 2, none⟩) (hb.block b hlt)).trans (hx i hi).1, (World.cell?_of_block (a := ⟨b, off + i * 2 + 1, none⟩) (hb.block b hlt)).trans (hx i hi).2⟩⟩⟩

set_option maxHeartbeats 400000 in
theorem atell_any (r : Int) (w : World) : Calls Tryz.prog 127 #[.int .i64 r] w fun e w' => e = .returned (.agg #[.int .i64 16, .int .i64 3, .int .i64 r, .int .i64 0, .int .i64 0]) ∧ w.grownBy w' none := by
  have HG := Lib.hid (World.grownBy_alloc w (.cells #[.int .i64 16, .int .i64 3, .int .i64 r, .int .i64 0, .int .i64 0] 88) none)
  go_enter Tryz.func127, Tryz.ntmps127
  go_wp2
  refine bodyPost_ret (v := .agg #[.int .i64 16, .int .i64 3, .int .i64 r, .int .i64 0, .int .i64 0]) ?_ rfl ⟨rfl, HG.out⟩
  exact results_cell_row (fn := Tryz.f127) (p := 2) (ty := 88) (g := w.heap.size) (t := 88) (cs := #[.int .i64 16, .int .i64 3, .int .i64 r, .int .i64 0, .int .i64 0]) (fr := (0, 0)) (by kernel_rfl) _ _ (d := _) (by rfl) (heap_alloc_new w _) Tryz.underlying88 rfl (by kernel_rfl)

/-- What call makes of a call. -/
def CallOf (l : List In5) (w : World) (e : Ending) (w' : World) : Prop := ∃ A c, e = .returned (.tuple #[.slice A l.length c, .bool true]) ∧ Inss w' w'.heap.size A l.length l ∧ w.grownBy w' none
theorem enter_ask {f : FuncId} {fn : Func} (hf : Tryz.prog.funcs[f]? = some fn) (hname : (fn.name == "runtime.NumGoroutine") = false) (hb : fn.body.isSome = true) (args : Array Value) (w : World) :
    (callFunc f args).run Tryz.prog w = .ok (.enter f args) w := by
  have h1 : fn.name ≠ "runtime.NumGoroutine" := by simpa using hname
  obtain ⟨c, hc⟩ := Option.isSome_iff_exists.1 hb
  simp [callFunc, hf, h1, hc]
theorem piecesK_take {κ : Type} (F : Fam κ) : ∀ (l : List κ) (p k : Nat) (c : κ), l[k]? = some c → piecesK F p (l.take (k + 1)) = piecesK F p (l.take k) ++ F.code c (p + offK F l k)
  | [], _, _, _, h => by simp at h
  | d :: l, p, 0, c, h => by
    injection h with h
    subst h
    simp [piecesK, offK]
  | d :: l, p, k + 1, c, h => by
    have ih := piecesK_take F l (p + F.len d) k c h
    have e : offK F (d :: l) (k + 1) = F.len d + offK F l k := by simp [offK]
    show F.code d p ++ piecesK F (p + F.len d) (l.take (k + 1)) = (F.code d p ++ piecesK F (p + F.len d) (l.take k)) ++ _
    rw [ih, e, ← Nat.add_assoc, List.append_assoc]
theorem piecesK_few {κ : Type} (F : Fam κ) (hF : ∀ c, F.len c ≤ 40) : ∀ (l : List κ) (k : Nat), offK F l k ≤ 40 * k
  | [], k => by simp [offK]
  | d :: l, 0 => by simp [offK]
  | d :: l, k + 1 => by
    have e : offK F (d :: l) (k + 1) = F.len d + offK F l k := by simp [offK]
    have := piecesK_few F hF l k
    have := hF d
    omega
/-- A program that asks for calls, so far. -/
structure AskTo {κ : Type} (F : Fam κ) (w : World) (L : List κ) (v : Value) (k : Nat) (wr : World) : Prop where
  own : wr.ownsRow w.heap.size 88 5 v (offK F L k) (cells5 (piecesK F 0 (L.take k)))
  bel : Below w.heap.size w wr
set_option maxHeartbeats 2000000 in
theorem acodeB_any {κ : Type} (F : Fam κ) (enc : κ → Int × Int) (f : Nat) (lb : Array Value) (eg : ∀ args W, (callFunc f args).run Tryz.prog W = .ok (.enter f args) W)
    (hF : ∀ c, F.len c ≤ 40) (L : List κ) (hL : L.length ≤ 12) {w : World} (A : Option Addr) (n cap : Nat) (hR : CRow w w.heap.size A n (L.map enc))
    (HC : ∀ c ∈ L, ∀ p : Nat, p ≤ 1000 → ∀ w1, Below w.heap.size w w1 → Calls Tryz.prog f (#[.agg #[.int .i64 (enc c).1, .int .i64 (enc c).2], .int .i64 (p : Nat)] ++ lb) w1 (CallOf (F.code c p) w1)) :
    Calls Tryz.prog 68 #[.slice A n cap, .func (.func f) #[] lb] w fun e w' => ∃ A' c', e = .returned (.tuple #[.slice A' (wholeK F L).length c', .nilIface]) ∧ w'.ownsRow w.heap.size 88 5 (.slice A' (wholeK F L).length c') (wholeK F L).length (cells5 (wholeK F L)) ∧ Below w.heap.size w w' := by
  have hn : L.length = n := by have := hR.len; rwa [List.length_map] at this
  have HR := Lib.hid hR
  have HCC := Lib.hid HC
  have HN := Lib.hid hn
  have h12 : ¬ (12 : Int) < (n : Int) := by omega
  have HA0 := Lib.hid (show AskTo F w L (.slice none 0 0) 0 w from ⟨by simpa [offK, piecesK, cells5] using World.ownsRow_nil w w.heap.size 88 5, Below.refl _ _⟩)
  clear hR HC hn
  go_enter Tryz.func68, Tryz.ntmps68
  go_wp2
  --MA
  go_loopw [6, 17] (fun v j wr => ∃ k : Nat, k ≤ n ∧ j = .int .i64 k ∧ AskTo F w L v k wr) (fun _ j _ => n - (intOf j).toNat)
  case atStart => exact ⟨0, Nat.zero_le _, rfl, HA0.out⟩
  case round =>
    obtain ⟨k, hk, rfl, hm⟩ := hrel
    by_cases hlt : k < n
    · have hkn : (k : Int) < (n : Int) := by omega
      obtain ⟨c, hc⟩ : ∃ c, L[k]? = some c := ⟨_, List.getElem?_eq_getElem (by rw [HN.out]; exact hlt)⟩
      obtain ⟨b, off, hA, hb, hx⟩ := (HR.out.below hm.bel).row (by omega)
      subst hA
      have hd : (L.map enc).getD k default = enc c := by rw [List.getD_eq_getElem?_getD, List.getElem?_map, hc]; rfl
      obtain ⟨hc0, hc1⟩ := hx k hlt
      rw [hd] at hc0 hc1
      have hp : offK F L k ≤ 1000 := by have := piecesK_few F hF L k; omega
      have HCk := Lib.hid (HCC.out c (List.mem_of_getElem? hc) (offK F L k) hp)
      have HM := Lib.hid hm
      have HK := Lib.hid hc
      have HP := Lib.hid hp
      obtain ⟨Av, cv, hv⟩ := slice_of_own hm.own
      subst hv
      clear hm hx hd hb hp hc HA0
      generalize hex : (enc c).1 = x at *
      generalize hey : (enc c).2 = y at *
      clear hex hey
      --MB
      go_wp2_with fail
      --MC
      refine (HCk.out _ (HM.out.bel.alloc HM.out.bel.size _)).mono ?_
      rintro e w1 ⟨Ap, cp, rfl, hI, hg1⟩
      rw [F.hlen] at hI ⊢
      have hg2 := (World.grownBy_alloc wr (.cells #[.int .i64 x, .int .i64 y] 63) none).andThen hg1 (fun k hk => by cases hk)
      have ho2 := HM.out.own.kept hg2 (by cases Av <;> simp [Value.ownBlock])
      have hln : (piecesK F 0 (L.take k)).length = offK F L k := by
        have := (ho2.1)
        rw [cells5_len] at this
        omega
      have hl40 := hF c
      obtain ⟨v3, w3, hr3, ho3, hg3⟩ := run_appendP (c := cp) ho2 hI (by have := HP.out; omega) (by have := HM.out.bel.size; have := hg2.size; omega) 82
      have hmm : offK F L k + F.len c = offK F L (k + 1) := (offK_succ HK.out).symm
      have hpp : piecesK F 0 (L.take k) ++ F.code c (offK F L k) = piecesK F 0 (L.take (k + 1)) := by rw [piecesK_take F L 0 k c HK.out, Nat.zero_add]
      rw [hmm, hpp] at ho3
      have HA3 := Lib.hid (show AskTo F w L v3 (k + 1) w3 from ⟨ho3, (HM.out.bel.grown hg2 HM.out.bel.size (by intro k hk; cases hk)).grown hg3 (Nat.le_trans HM.out.bel.size hg2.size) (fun g hg => (HM.out.own.lt g hg).1)⟩)
      have HR3 := Lib.hid hr3
      clear hr3 ho3 hg3 hg2 ho2 hI hg1 HM HCk HP HK hmm hpp hln hl40
      go_wp2_with (at_builtin; refine Lib.wpList_append_run _ rfl _ _ _ _ rfl _ _ rfl rfl _ _ HR3.out ?_; clear HR3)
      go_roundw
      case rel => exact ⟨k + 1, by omega, by go_num, HA3.out⟩
      case measure => simp [intOf]; omega
    · have hkn : ¬ (k : Int) < (n : Int) := by omega
      obtain rfl : k = n := by omega
      have hfew := piecesK_few F hF L k
      have ho1 := hm.own.alloc (.cells #[.int .i64 0, .int .i64 0, .int .i64 0, .int .i64 0, .int .i64 0] 88)
      have hI1 := inss_lit (w := wr) (cs := #[.int .i64 0, .int .i64 0, .int .i64 0, .int .i64 0, .int .i64 0]) (l := [(0, 0, 0, 0, 0)]) (n := 1) rfl rfl (by decide)
      obtain ⟨v3, w3, hr3, ho3, hg3⟩ := run_appendP (c := 1) ho1 hI1 (by omega) (by rw [World.size_alloc]; have := hm.bel.size; omega) 82
      have hall : L.take k = L := List.take_of_length_le (by rw [HN.out]; exact Nat.le_refl _)
      rw [hall] at ho3
      have hlw : (wholeK F L).length = offK F L k + 1 := by
        have h1 := ho3.1
        rw [cells5_len] at h1
        show (piecesK F 0 L ++ [(0, 0, 0, 0, 0)]).length = _
        omega
      have HLW := Lib.hid hlw
      obtain ⟨A3, c3, rfl⟩ := slice_of_own ho3
      have HO3 := Lib.hid (show w3.ownsRow w.heap.size 88 5 (.slice A3 (offK F L k + 1) c3) (offK F L k + 1) (cells5 (wholeK F L)) from ho3)
      have HB3 := Lib.hid ((hm.bel.alloc hm.bel.size (.cells #[.int .i64 0, .int .i64 0, .int .i64 0, .int .i64 0, .int .i64 0] 88)).grown hg3 (by rw [World.size_alloc]; have := hm.bel.size; omega) (fun g hg => (hm.own.lt g hg).1))
      have HR3 := Lib.hid hr3
      obtain ⟨Av, cv, hv⟩ := slice_of_own hm.own
      subst hv
      clear hm hr3 ho3 hg3 ho1 hI1 hfew HA0 HCC HR hall hlw
      go_wp2_with (at_builtin; refine Lib.wpList_append_run _ rfl _ _ _ _ rfl _ _ rfl rfl _ _ HR3.out ?_; clear HR3)
      go_ret2
      rw [HLW.out]
      exact ⟨A3, c3, rfl, HO3.out, HB3.out⟩

/-- What Code comes to. -/
def WholeOf {κ : Type} (F : Fam κ) (L : List κ) (w : World) (e : Ending) (w' : World) : Prop := ∃ A' c', e = .returned (.tuple #[.slice A' (wholeK F L).length c', .nilIface]) ∧ w'.ownsRow w.heap.size 88 5 (.slice A' (wholeK F L).length c') (wholeK F L).length (cells5 (wholeK F L)) ∧ Below w.heap.size w w'
end Go.Proofs.YtdhlmgoodpepeaaGreatDoor

namespace Go.Proofs.YtdhlmgoodpepeaaGreatDoor
set_option maxRecDepth 100000
open Go.RowKit Go.Shelf Go.Sort
set_option linter.unusedVariables false
set_option linter.unusedSimpArgs false

/-! Programs of calls may be. -/
theorem whole_len {κ : Type} (F : Fam κ) (L : List κ) : (wholeK F L).length = (L.map F.len).sum + 1 := by
  unfold wholeK
  rw [List.length_append, piecesK_len]
  rfl
/-! Rows in a row. -/
structure Nest (tO tI : TypeId) (sz : Nat) (w : World) (A : Option Addr) (n c : Nat) (rs : List (Nat × List Value)) (wr : World) : Prop where
  bel : Below w.heap.size w wr
  len : rs.length = n
  row : ∃ xs, wr.ownsRow w.heap.size tO 1 (.slice A n c) n xs ∧ ∀ j, j < n → ∃ Aj cj, xs[j]? = some (.slice Aj (rs.getD j default).1 cj) ∧ wr.ownsRow w.heap.size tI sz (.slice Aj (rs.getD j default).1 cj) (rs.getD j default).1 (rs.getD j default).2
theorem Nest.nil (tO tI : TypeId) (sz : Nat) (w : World) : Nest tO tI sz w none 0 0 [] w := ⟨Below.refl _ _, rfl, [], World.ownsRow_nil _ _ _ _, fun j hj => absurd hj (Nat.not_lt_zero _)⟩
theorem Nest.grow {tO tI : TypeId} {sz : Nat} {w wr w' : World} {A : Option Addr} {n c : Nat} {rs : List (Nat × List Value)} (h : Nest tO tI sz w A n c rs wr) (hb : Below wr.heap.size wr w') : Nest tO tI sz w A n c rs w' := by
  have hk := keeps_below hb (Nat.le_refl _)
  obtain ⟨xs, h1, h2⟩ := h.row
  refine ⟨h.bel.trans (hb.mono h.bel.size), h.len, xs, own_tags h1 hk .none (by simp), fun j hj => ?_⟩
  obtain ⟨Aj, cj, h3, h4⟩ := h2 j hj
  exact ⟨Aj, cj, h3, own_tags h4 hk .none (by simp)⟩
theorem Nest.add {tO tI tS : TypeId} {sz : Nat} {w wr : World} {A B : Option Addr} {n c m cm base : Nat} {rs : List (Nat × List Value)} {ys : List Value} (h : Nest tO tI sz w A n c rs wr) (ht : Tryz.prog.underlying tS = some (.slice tO)) (hi : (Tryz.prog.info? tO).map (fun i => (i.zero, i.size, i.bytes)) = some (some (.slice none 0 0), 1, 24)) (hne : tI ≠ tO)
    (hin : wr.ownsRow base tI sz (.slice B m cm) m ys) (hbase : w.heap.size ≤ base) (hn : n ≤ 1000) :
    ∃ A' c' w', (Builtin.append_ #[tS, tS] tS #[.slice A n c, .slice (some ⟨wr.heap.size, 0, none⟩) 1 1]).run Tryz.prog (wr.alloc (.cells #[.slice B m cm] tO)) = .ok (.slice A' (n + 1) c') w' ∧ Nest tO tI sz w A' (n + 1) c' (rs ++ [(m, ys)]) w' := by
  obtain ⟨i0, hi0, hz0, hz1, hz2⟩ := info_parts hi
  obtain ⟨xs, h1, h2⟩ := h.row
  have hb := h.bel.alloc h.bel.size (.cells #[.slice B m cm] tO)
  have h1a := h1.alloc (.cells #[.slice B m cm] tO)
  have hat := heap_alloc_new wr (.cells #[.slice B m cm] tO)
  have hnews := World.news_of_block (cs := #[.slice B m cm]) hat
  obtain ⟨v', w', hr, ho, hg, _⟩ := run_append_own (P := Tryz.prog) (wr.alloc (.cells #[.slice B m cm] tO)) w.heap.size tS tS tO i0 (.slice none 0 0) 1 24 ht hi0 hz0 hz1 hz2 rfl (by decide) (.slice A n c) n xs h1a ⟨wr.heap.size, 0, none⟩ 1 1 [.slice B m cm] rfl hnews (fun u hu => by rw [List.mem_singleton.1 hu]; rfl) (by unfold maxLen; omega) (by omega) (by rw [World.size_alloc]; have := h.bel.size; omega)
  obtain ⟨A', c', rfl⟩ := slice_of_own ho
  have hk : Keeps (fun k => some k = (Value.slice A n c).ownBlock) (wr.alloc (.cells #[.slice B m cm] tO)) w' := Keeps.of_grown hg (fun k e => e.symm)
  have htg : Tagged (wr.alloc (.cells #[.slice B m cm] tO)) (fun k => some k = (Value.slice A n c).ownBlock) [tO] := tagged_row h1a
  have hlen := h1.1
  refine ⟨A', c', w', hr, hb.grown hg (by rw [World.size_alloc]; have := h.bel.size; omega) (fun g hg => (h1.lt g hg).1), by rw [List.length_append, h.len]; rfl, _, ho, fun j hj => ?_⟩
  by_cases e : j = n
  · subst e
    refine ⟨B, cm, ?_, ?_⟩
    · rw [List.getElem?_append_right (by omega), show j - xs.length = 0 by omega]
      rw [show (rs ++ [(m, ys)]).getD j default = (m, ys) by rw [List.getD_eq_getElem?_getD, List.getElem?_append_right (by have := h.len; omega), show j - rs.length = 0 by have := h.len; omega]; rfl]
      rfl
    · rw [show (rs ++ [(m, ys)]).getD j default = (m, ys) by rw [List.getD_eq_getElem?_getD, List.getElem?_append_right (by have := h.len; omega), show j - rs.length = 0 by have := h.len; omega]; rfl]
      exact own_tags (own_low (hin.alloc _) hbase) hk htg (by simpa using hne)
  · obtain ⟨Aj, cj, h3, h4⟩ := h2 j (by omega)
    have he : (rs ++ [(m, ys)]).getD j default = rs.getD j default := by
      rw [List.getD_eq_getElem?_getD, List.getElem?_append_left (by have := h.len; omega), ← List.getD_eq_getElem?_getD]
    refine ⟨Aj, cj, ?_, ?_⟩
    · rw [List.getElem?_append_left (by omega), he]; exact h3
    · rw [he]; exact own_tags (h4.alloc _) hk htg (by simpa using hne)

theorem infoSInsM : (Tryz.prog.info? 82).map (fun i => (i.zero, i.size, i.bytes)) = some (some (.slice none 0 0), 1, 24) := by kernel_rfl
theorem infoSCallM : (Tryz.prog.info? 60).map (fun i => (i.zero, i.size, i.bytes)) = some (some (.slice none 0 0), 1, 24) := by kernel_rfl
/-- Programs in a row. -/
theorem Nest.progs {w wr : World} {A : Option Addr} {n c : Nat} {ps : List (List In5)} (h : Nest 82 88 5 w A n c (ps.map fun p => (p.length, cells5 p)) wr) : Progs wr wr.heap.size A n ps := by
  have hl : ps.length = n := by have := h.len; rwa [List.length_map] at this
  obtain ⟨xs, h1, h2⟩ := h.row
  refine ⟨hl, fun h0 => ?_⟩
  obtain ⟨g, cap, hv, hb, hlt⟩ := h1.form h0
  obtain ⟨rfl, rfl⟩ : A = some ⟨g, 0, none⟩ ∧ c = cap := by injection hv with h1 _ h3; exact ⟨h1, h3⟩
  refine ⟨g, 0, rfl, (h1.lt g rfl).2, fun i hi => ?_⟩
  obtain ⟨Aj, cj, h3, h4⟩ := h2 i hi
  have he : (ps.map fun p => (p.length, cells5 p)).getD i default = ((ps.getD i []).length, cells5 (ps.getD i [])) := by
    rw [List.getD_eq_getElem?_getD, List.getElem?_map, List.getElem?_eq_getElem (by omega), List.getD_eq_getElem?_getD, List.getElem?_eq_getElem (by omega)]
    rfl
  rw [he] at h3 h4
  exact ⟨Aj, cj, by rw [Nat.zero_add]; exact (h1.cellAt _ (by have := h1.1; omega)).trans h3, Inss.of_own h4 rfl⟩

/-- Rows of calls in a row. -/
structure CRows (w : World) (B : Nat) (A : Option Addr) (n : Nat) (ls : List (List (Int × Int))) : Prop where
  len : ls.length = n
  row : 0 < n → ∃ b off, A = some ⟨b, off, none⟩ ∧ b < B ∧ ∀ i, i < n → ∃ Ai ci, w.cell? ⟨b, off + i, none⟩ = some (.slice Ai (ls.getD i []).length ci) ∧ CRow w B Ai (ls.getD i []).length (ls.getD i [])
theorem CRows.below {w w' : World} {B n : Nat} {A : Option Addr} {l : List (List (Int × Int))} (h : CRows w B A n l) (hb : Below B w w') : CRows w' B A n l :=
  ⟨h.len, fun h0 => by
    obtain ⟨b, off, e, hlt, hx⟩ := h.row h0
    refine ⟨b, off, e, hlt, fun i hi => ?_⟩
    obtain ⟨Ai, ci, h1, h2⟩ := hx i hi
    exact ⟨Ai, ci, (World.cell?_of_block (a := ⟨b, off + i, none⟩) (hb.block b hlt)).trans h1, h2.below hb⟩⟩
theorem CRow.wide {w : World} {B B' n : Nat} {A : Option Addr} {l : List (Int × Int)} (h : CRow w B A n l) (hb : B ≤ B') : CRow w B' A n l :=
  ⟨h.len, fun h0 => by
    obtain ⟨b, off, e, hlt, hx⟩ := h.row h0
    exact ⟨b, off, e, by omega, hx⟩⟩
/-- What code comes to, for whatever calls that a thread may have. -/
def CodesQ {κ : Type} (F : Fam κ) (enc : κ → Int × Int) (f : Nat) (w : World) (Q : Nat → List κ → Prop) : Prop := ∀ (w1 : World), Below w.heap.size w w1 → ∀ (L : List κ), L.length ≤ 12 → ∀ (A : Option Addr) (n cap : Nat) (i : Nat), Q i L → CRow w1 w1.heap.size A n (L.map enc) → Calls Tryz.prog f #[.int .i64 (i : Nat), .slice A n cap] w1 (WholeOf F L w1)
/-- Programs of calls. -/
def wholesK {κ : Type} (F : Fam κ) (Ls : List (List κ)) : List (List In5) := Ls.map (wholeK F)
theorem wholesK_at {κ : Type} (F : Fam κ) (Ls : List (List κ)) : wholesK F Ls = (List.range Ls.length).map fun t => wholeK F (Ls.getD t []) := by
  unfold wholesK
  refine List.ext_getElem (by simp) fun i h1 h2 => ?_
  have hi : i < Ls.length := by simpa using h1
  simp [List.getD_eq_getElem?_getD, List.getElem?_eq_getElem hi]

end Go.Proofs.YtdhlmgoodpepeaaGreatDoor
