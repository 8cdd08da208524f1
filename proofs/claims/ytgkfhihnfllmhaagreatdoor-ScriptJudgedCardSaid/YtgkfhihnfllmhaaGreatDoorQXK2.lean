/-
  static: each waits for two others, and tells one. (A body in a cell of its own, which a function literal sees.)
-/
import Derived.Test.YtgkfhihnfllmhaaGreatDoorQXJ2
import Derived.Test.YtgkfhihnfllmhaaGreatDoorQXC2
namespace Go.Proofs.YtgkfhihnfllmhaaGreatDoor
set_option maxRecDepth 100000
open Go.RowKit Go.Shelf Go.Sort
set_option linter.unusedVariables false
set_option linter.unusedSimpArgs false

/-- A body that is laid, so far, whose slice lies in a cell. -/
structure BoxB (w : World) (b : Nat) (A : Option Addr) (n c : Nat) (l : List In5) (wr : World) : Prop where
  len : l.length = n
  own : wr.ownsRow (b + 1) 95 5 (.slice A n c) n (cells5 l)
  bel : Below w.heap.size w wr
  box : wr.heap[b]? = some (.cells #[.slice A n c] 89 (0, 0))
  lo : w.heap.size ≤ b
theorem BoxB.new (w : World) {wr : World} (h : Below w.heap.size w wr) : BoxB w wr.heap.size none 0 0 [] (wr.alloc (.cells #[.slice none 0 0] 89)) :=
  ⟨rfl, World.ownsRow_nil _ _ _ _, h.alloc h.size _, heap_alloc_new wr _, h.size⟩
theorem BoxB.lt {w wr : World} {b : Nat} {A : Option Addr} {n c : Nat} {l : List In5} (h : BoxB w b A n c l wr) : b < wr.heap.size := (Array.getElem?_eq_some_iff.1 h.box).1
theorem BoxB.keep {w wr w' : World} {b : Nat} {A : Option Addr} {n c : Nat} {l : List In5} (h : BoxB w b A n c l wr) (hg : wr.grownBy w' none) : BoxB w b A n c l w' :=
  ⟨h.len, own_grown h.own hg, h.bel.grown hg h.bel.size (by intro k hk; cases hk), (hg.block b h.lt (by simp)).trans h.box, h.lo⟩
theorem BoxB.cell {w wr : World} {b : Nat} {A : Option Addr} {n c : Nat} {l : List In5} (h : BoxB w b A n c l wr) : wr.cell? ⟨b, 0, none⟩ = some (.slice A n c) ∧ wr.frozen? ⟨b, 0, none⟩ = false :=
  ⟨(cell_of_row wr b 0 _ _ _ h.box).trans rfl, frozen_of_row wr b 0 _ _ h.box⟩
/-- What was appended, ahead of its being stored. -/
structure BoxN (w : World) (b : Nat) (A A' : Option Addr) (n c n' c' : Nat) (l' : List In5) (wr : World) : Prop where
  len : l'.length = n'
  own : wr.ownsRow (b + 1) 95 5 (.slice A' n' c') n' (cells5 l')
  bel : Below w.heap.size w wr
  box : wr.heap[b]? = some (.cells #[.slice A n c] 89 (0, 0))
  lo : w.heap.size ≤ b
theorem BoxN.keep {w wr w' : World} {b : Nat} {A A' : Option Addr} {n c n' c' : Nat} {l : List In5} (h : BoxN w b A A' n c n' c' l wr) (hg : wr.grownBy w' none) : BoxN w b A A' n c n' c' l w' :=
  ⟨h.len, own_grown h.own hg, h.bel.grown hg h.bel.size (by intro k hk; cases hk), (hg.block b (Array.getElem?_eq_some_iff.1 h.box).1 (by simp)).trans h.box, h.lo⟩
theorem BoxN.cell {w wr : World} {b : Nat} {A A' : Option Addr} {n c n' c' : Nat} {l : List In5} (h : BoxN w b A A' n c n' c' l wr) : wr.cell? ⟨b, 0, none⟩ = some (.slice A n c) ∧ wr.frozen? ⟨b, 0, none⟩ = false :=
  ⟨(cell_of_row wr b 0 _ _ _ h.box).trans rfl, frozen_of_row wr b 0 _ _ h.box⟩
theorem BoxN.set {w wr : World} {b : Nat} {A A' : Option Addr} {n c n' c' : Nat} {l : List In5} (h : BoxN w b A A' n c n' c' l wr) : BoxB w b A' n' c' l (wr.setCell ⟨b, 0, none⟩ (.slice A' n' c')) :=
  ⟨h.len, ownsRow_setCell_other h.own (a := ⟨b, 0, none⟩) (fun e => by have := (h.own.lt b e).1; omega) _, ⟨h.bel.os, h.bel.tape, h.bel.output, by simpa using h.bel.size, fun k hk => by
    rw [Below.heap_setCell _ _ _ k (by show k ≠ b; have := h.lo; omega)]
    exact h.bel.block k hk⟩, by have := heap_setCell_same wr b 0 _ _ (.slice A' n' c') h.box; simpa using this, h.lo⟩
/-- The append, at any step of a region. -/
theorem BoxB.more {w W wx : World} {b : Nat} {A B : Option Addr} {n c m d : Nat} {l news : List In5} (h : BoxB w b A n c l W) (hg : W.grownBy wx none) (hI : Inss wx wx.heap.size B m news) (hn : n + m ≤ 100000) (ty : TypeId) :
    ∃ A' c' w', (Builtin.append_ #[89, 89] ty #[.slice A n c, .slice B m d]).run Tryz.prog wx = .ok (.slice A' (n + m) c') w' ∧ BoxN w b A A' n c (n + m) c' (l ++ news) w' := by
  have hk := h.keep hg
  obtain ⟨v', w', hr, ho, hg2⟩ := run_appendP (c := d) hk.own hI hn (by have := hk.lt; omega) ty
  obtain ⟨A', c', rfl⟩ := slice_of_own ho
  refine ⟨A', c', w', hr, by rw [List.length_append, h.len, hI.len], ho, hk.bel.grown hg2 hk.bel.size (fun k hk2 => by have := (hk.own.lt k hk2).1; have := h.lo; omega), ?_, h.lo⟩
  exact (hg2.block b hk.lt (fun e => by have := (hk.own.lt b e.symm).1; omega)).trans hk.box
theorem step_append_box {w W wx : World} {ops : Array Oper} {o : Oper} {a : Act} {K : Act → World → Prop} {Q : Exit → Act → World → Prop} {E : Prop} {b : Nat} {A B : Option Addr} {n c m d : Nat} {l news : List In5} (h : BoxB w b A n c l W) (hn : n + m ≤ 100000)
    (hgd : o.guard = none) (s x : Operand) (ho : o.op = .call { callee := .builtin .append, args := #[s, x], argTypes := #[89, 89] }) (hs : a.eval s = .slice A n c) (hx : a.eval x = .slice B m d)
    (hg : W.grownBy wx none) (hI : Inss wx wx.heap.size B m news)
    (hK : ∀ A' c' w', BoxN w b A A' n c (n + m) c' (l ++ news) w' → w'.cell? ⟨b, 0, none⟩ = some (.slice A n c) → w'.frozen? ⟨b, 0, none⟩ = false → K (a.put o.dst (.slice A' (n + m) c')) w') :
    if Region.wanted o (yielded ops a.tmps) = true then Oper.wp Tryz.prog o a wx K Q else E := by
  have hw : Region.wanted o (yielded ops a.tmps) = true := by simp [Region.wanted, hgd]
  rw [if_pos hw]
  obtain ⟨A', c', w', hr, h1⟩ := h.more (d := d) hg hI hn o.type
  exact Lib.wp_append_run wx s x _ _ ho _ _ hs hx _ _ hr (hK A' c' w' h1 h1.cell.1 h1.cell.2)
/-- A piece that was laid, in words. -/
def Laid (W : World) (n : Nat) (news : List In5) (e : Ending) (w' : World) : Prop := ∃ p, e = .returned (.slice (some ⟨p, 0, none⟩) n n) ∧ W.grownBy w' none ∧ Inss w' w'.heap.size (some ⟨p, 0, none⟩) n news
theorem ptell_laid (cell n : Int) {W wx : World} (hg : W.grownBy wx none) : Calls Tryz.prog 240 #[.int .i64 cell, .int .i64 n] wx (Laid W 2 (tellP cell n)) := by
  refine (ptell_any cell n wx).mono ?_
  rintro e w' ⟨rfl, rfl⟩
  exact ⟨_, rfl, hg.andThen (World.grownBy_alloc wx _ none) (by intro k hk; cases hk), inss_lit rfl rfl (by decide)⟩
theorem pawait_laid (place cell : Int) {W wx : World} (hg : W.grownBy wx none) : Calls Tryz.prog 239 #[.int .i64 place, .int .i64 cell] wx (Laid W 5 (awaitP place cell)) := by
  refine (pawait_any place cell wx).mono ?_
  rintro e w' ⟨rfl, rfl⟩
  exact ⟨_, rfl, hg.andThen (World.grownBy_alloc wx _ none) (by intro k hk; cases hk), inss_lit rfl rfl (by decide)⟩
theorem Inss.drew {w : World} {B n : Nat} {A : Option Addr} {xs : List In5} (h : Inss w B A n xs) : Inss w.drew B A n xs := h.keep (Nat.le_refl _) fun _ _ => rfl

theorem sthere_any {w : World} {b : Nat} {A : Option Addr} {n c : Nat} (hn : n ≤ 1000) (hb : w.cell? ⟨b, 0, none⟩ = some (.slice A n c)) :
    Calls Tryz.prog 244 #[.pointer (some ⟨b, 0, none⟩)] w fun e w' => e = .returned (.int .i64 (5 + (n : Int))) ∧ w = w' := by
  go_enter Tryz.func244, Tryz.ntmps244
  go_wp2
  go_ret
  exact ⟨rfl, rfl⟩

set_option maxHeartbeats 4000000 in
theorem Stbody_any {w : World} {n id : Nat} (n1 : 1 ≤ n) (n16 : n ≤ 16) (hid : id < n) :
    Calls Tryz.prog 223 #[.int .i64 (n : Nat), .int .i64 (id : Nat)] w (BodyOf w (bodyI (staticOps n id))) := by
  rw [static_is n (by omega) id hid]
  obtain ⟨T, hT⟩ : ∃ T : List BOp, (if id = 0 then [BOp.tell n n] else [BOp.tell id 1, BOp.await n]) = T := ⟨_, rfl⟩
  rw [hT]
  have HT := Lib.hid hT
  clear hT
  have HSucc := Lib.hid (fun q => staticLow_succ n id q)
  have HPl := Lib.hid (fun q => staticLow_plain n id q)
  have HLn := Lib.hid (fun q => show (staticLow n id q).length = q by unfold staticLow; simp)
  have HQ := Lib.hid (show staticQ n id = min 2 (n - (2 * id + 1)) from rfl)
  generalize staticQ n id = Q0 at *
  have HB0 := Lib.hid (BoxB.new w (Below.refl w.heap.size w))
  obtain ⟨W1, hW1⟩ : ∃ W1, w.alloc (.cells #[.slice none 0 0] 89) = W1 := ⟨_, rfl⟩
  rw [hW1] at HB0
  have HW1 := Lib.hid hW1
  clear hW1
  go_enter Tryz.func223, Tryz.ntmps223
  go_wp2
  go_loopw [7] (fun j wr => ∃ (q : Nat) (A : Option Addr) (m c : Nat), q ≤ Q0 ∧ j = .int .i64 ((2 * id + 1 + q : Nat) : Int) ∧ Hid (BoxB w w.heap.size A m c (bodyI (staticLow n id q)) wr)) (fun j _ => 2 * id + 5 - (intOf j).toNat)
  case atStart => exact ⟨0, none, 0, 0, Nat.zero_le _, by go_num, by rw [HW1.out]; exact HB0.out⟩
  case round =>
    obtain ⟨q, A, m, c, hq, rfl, hb⟩ := hrel
    have hQ := HQ.out
    obtain ⟨o, ho⟩ : ∃ o, 2 * id + 1 + q = o := ⟨_, rfl⟩
    rw [ho]
    by_cases hlt : q < Q0
    · have h1 : (o : Int) ≤ 2 * (id : Int) + 2 := by omega
      have h2 : (o : Int) < (n : Int) := by omega
      have hl := HLn.out q
      have hmn := hb.out.len
      have hbl := bodyI_le (staticLow n id q)
      have hm1 : m ≤ 1000 := by omega
      have HH := Lib.hid (fun u (hg : wr.grownBy u none) => sthere_any hm1 (hb.out.keep hg).cell.1)
      have HK := Lib.hid (fun u (hg : wr.grownBy u none) => (hb.out.keep hg).cell.1)
      have e5 : bodyI (staticLow n id q) ++ awaitP (5 + (m : Int)) (o : Int) = bodyI (staticLow n id (q + 1)) := by
        rw [HSucc.out, ho, ← hmn]
        exact body_await (HPl.out q) (by omega) o
      have HE := Lib.hid e5
      have hy := (hb.out.cell).1
      clear hl hmn hbl e5 hQ
      --REGION6
      go_wp2_with fail
      refine region_heldL (L := 6) (S := (fun u => u.cell? ⟨w.heap.size, 0, none⟩ = some (.slice A m c))) 7 rfl (by kernel_rfl) (HK.out _ (grown_drew _)) (fun hHeld => ?_)
      refine heldL_take (n := 6) (i := 0) (oi := _) (v := ?v0x1) (dst := some 24) rfl rfl rfl (by kernel_rfl) (by kernel_rfl) (by kernel_rfl) (by kernel_rfl) (by kernel_rfl) (fun _ _ _ h => h) (Or.inl ⟨by rfl, ?hy0x1⟩) (by assumption) ?rest0x1
      case hy0x1 => intro u hSu; (try dsimp only at hSu); go_simp; try (with_reducible rfl)
      simp only [Act.put, List.setIfInBounds_toArray, List.set_cons_zero, List.set_cons_succ]
      refine heldL_take (n := 5) (i := 1) (oi := _) (v := ?v1x1) (dst := some 25) rfl rfl rfl (by kernel_rfl) (by kernel_rfl) (by kernel_rfl) (by kernel_rfl) (by kernel_rfl) (fun _ _ _ h => h) (Or.inl ⟨by rfl, ?hy1x1⟩) (by assumption) ?rest1x1
      case hy1x1 => intro u hSu; (try dsimp only at hSu); go_simp; try (with_reducible rfl)
      simp only [Act.put, List.setIfInBounds_toArray, List.set_cons_zero, List.set_cons_succ]
      refine heldL_take (n := 4) (i := 3) (oi := _) (v := ?v3x1) (dst := some 27) rfl rfl rfl (by kernel_rfl) (by kernel_rfl) (by kernel_rfl) (by kernel_rfl) (by kernel_rfl) (fun _ _ _ h => h) (Or.inl ⟨by rfl, ?hy3x1⟩) (by assumption) ?rest3x1
      case hy3x1 => intro u hSu; (try dsimp only at hSu); go_simp; try (with_reducible rfl)
      simp only [Act.put, List.setIfInBounds_toArray, List.set_cons_zero, List.set_cons_succ]
      refine heldL_step (n := 3) (i := 2) (o := _) rfl (by kernel_rfl) rfl (fun K hK => ?_)
      have HK2 := Lib.hid hK
      clear hK
      go_simp
      refine (HH.out _ (grown_drew _)).mono ?_
      rintro e u ⟨rfl, rfl⟩
      go_simp
      refine HK2.out _ _ (HK.out _ (grown_drew _)) (fun hHeld => ?_)
      clear HK2 K
      refine heldL_step (n := 2) (i := 4) (o := _) rfl (by kernel_rfl) rfl (fun K hK => ?_)
      have HK2 := Lib.hid hK
      clear hK
      go_simp
      refine (pawait_laid (W := wr) _ _ (grown_drew _)).mono ?_
      rintro e u ⟨p, rfl, hgu, hIu0⟩; have hIu := Lib.hid hIu0; clear hIu0
      go_simp
      refine HK2.out _ _ (HK.out _ hgu) (fun hHeld => ?_)
      clear HK2 K
      refine heldL_step (n := 1) (i := 5) (o := _) rfl (by kernel_rfl) rfl (fun K hK => ?_)
      have HK2 := Lib.hid hK
      clear hK
      refine step_append_box (m := 5) (news := awaitP (5 + (m : Int)) (o : Int)) hb.out (by omega) (by rfl) _ _ (by rfl) (by rfl) (by rfl) hgu hIu.out ?_
      intro A1 c1 u1 hN1 hc1 hf1
      have HN1 := Lib.hid hN1
      clear hN1
      refine HK2.out _ _ hc1 (fun hHeld => ?_)
      clear HK2 K
      simp only [Act.put, List.setIfInBounds_toArray, List.set_cons_zero, List.set_cons_succ]
      refine heldL_last (n := 0) (o := _) rfl (by kernel_rfl) (by kernel_rfl) (by decide) rfl (fun K hK => ?_)
      have HK2 := Lib.hid hK
      clear hK
      go_simp
      refine HK2.out _ _ ?_
      clear HK2
      have HS1 := Lib.hid HN1.out.set
      rw [HE.out] at HS1
      clear HN1 hc1 hf1 hgu hIu HH HK hy hb hHeld
      go_wp2
      --MARKB
      go_roundw
      case rel => exact ⟨q + 1, A1, m + 5, c1, by omega, by rw [← ho]; go_num, HS1.out⟩
      case measure => simp [intOf]; omega
    · have h1 : ¬ ((o : Int) ≤ 2 * (id : Int) + 2 ∧ (o : Int) < (n : Int)) := by omega
      obtain rfl : q = Q0 := by omega
      have hl := HLn.out q
      have hmn := hb.out.len
      have hbl := bodyI_le (staticLow n id q)
      have hm1 : m ≤ 100 := by omega
      have HK := Lib.hid (fun u (hg : wr.grownBy u none) => (hb.out.keep hg).cell.1)
      have hT := HT.out
      by_cases h0 : id = 0
      · rw [if_pos h0] at hT
        have h0' : ((id : Int) == 0) = true := by simpa using h0
        have e5 : bodyI (staticLow n id q) ++ tellP (n : Int) (n : Int) = bodyI (staticLow n id q ++ T) := by
          rw [← hT]
          exact body_tell (HPl.out q) n n
        have HE := Lib.hid e5
        clear hl hmn hbl e5 hT hQ
        --MARKC
        by_cases h2 : (o : Int) ≤ 2 * (id : Int) + 2
        · have h3 : ¬ (o : Int) < (n : Int) := fun h => h1 ⟨h2, h⟩
          clear h1
          go_wp2_with fail
          refine region_heldL (L := 5) (S := (fun u => u.cell? ⟨w.heap.size, 0, none⟩ = some (.slice A m c))) 6 rfl (by kernel_rfl) (HK.out _ (grown_drew _)) (fun hHeld => ?_)
          refine heldL_take (n := 5) (i := 0) (oi := _) (v := ?v0x2) (dst := some 32) rfl rfl rfl (by kernel_rfl) (by kernel_rfl) (by kernel_rfl) (by kernel_rfl) (by kernel_rfl) (fun _ _ _ h => h) (Or.inl ⟨by rfl, ?hy0x2⟩) (by assumption) ?rest0x2
          case hy0x2 => intro u hSu; (try dsimp only at hSu); go_simp; try (with_reducible rfl)
          simp only [Act.put, List.setIfInBounds_toArray, List.set_cons_zero, List.set_cons_succ]
          refine heldL_take (n := 4) (i := 1) (oi := _) (v := ?v1x2) (dst := some 33) rfl rfl rfl (by kernel_rfl) (by kernel_rfl) (by kernel_rfl) (by kernel_rfl) (by kernel_rfl) (fun _ _ _ h => h) (Or.inl ⟨by rfl, ?hy1x2⟩) (by assumption) ?rest1x2
          case hy1x2 => intro u hSu; (try dsimp only at hSu); go_simp; try (with_reducible rfl)
          simp only [Act.put, List.setIfInBounds_toArray, List.set_cons_zero, List.set_cons_succ]
          refine heldL_take (n := 3) (i := 2) (oi := _) (v := ?v2x2) (dst := some 34) rfl rfl rfl (by kernel_rfl) (by kernel_rfl) (by kernel_rfl) (by kernel_rfl) (by kernel_rfl) (fun _ _ _ h => h) (Or.inl ⟨by rfl, ?hy2x2⟩) (by assumption) ?rest2x2
          case hy2x2 => intro u hSu; (try dsimp only at hSu); go_simp; try (with_reducible rfl)
          simp only [Act.put, List.setIfInBounds_toArray, List.set_cons_zero, List.set_cons_succ]
          refine heldL_step (n := 2) (i := 3) (o := _) rfl (by kernel_rfl) rfl (fun K hK => ?_)
          have HK2 := Lib.hid hK
          clear hK
          go_simp
          refine (ptell_laid (W := wr) _ _ (grown_drew _)).mono ?_
          rintro e u ⟨p, rfl, hgu, hIu0⟩; have hIu := Lib.hid hIu0; clear hIu0
          go_simp
          refine HK2.out _ _ (HK.out _ hgu) (fun hHeld => ?_)
          clear HK2 K
          refine heldL_step (n := 1) (i := 4) (o := _) rfl (by kernel_rfl) rfl (fun K hK => ?_)
          have HK2 := Lib.hid hK
          clear hK
          refine step_append_box (m := 2) (news := tellP (n : Int) (n : Int)) hb.out (by omega) (by rfl) _ _ (by rfl) (by rfl) (by rfl) hgu hIu.out ?_
          intro A1 c1 u1 hN1 hc1 hf1
          have HN1 := Lib.hid hN1
          clear hN1
          refine HK2.out _ _ hc1 (fun hHeld => ?_)
          clear HK2 K
          simp only [Act.put, List.setIfInBounds_toArray, List.set_cons_zero, List.set_cons_succ]
          refine heldL_last (n := 0) (o := _) rfl (by kernel_rfl) (by kernel_rfl) (by decide) rfl (fun K hK => ?_)
          have HK2 := Lib.hid hK
          clear hK
          go_simp
          refine HK2.out _ _ ?_
          clear HK2
          have HS1 := Lib.hid HN1.out
          rw [HE.out] at HS1
          clear HN1 hc1 hf1 hgu hIu HK hb hHeld
          go_wp2
          go_ret
          exact Body.of ⟨HS1.out.len, own_low HS1.out.own (by have := HS1.out.lo; omega), HS1.out.bel⟩ rfl
        · clear h1
          go_wp2_with fail
          refine region_heldL (L := 5) (S := (fun u => u.cell? ⟨w.heap.size, 0, none⟩ = some (.slice A m c))) 6 rfl (by kernel_rfl) (HK.out _ (grown_drew _)) (fun hHeld => ?_)
          refine heldL_take (n := 5) (i := 0) (oi := _) (v := ?v0x3) (dst := some 32) rfl rfl rfl (by kernel_rfl) (by kernel_rfl) (by kernel_rfl) (by kernel_rfl) (by kernel_rfl) (fun _ _ _ h => h) (Or.inl ⟨by rfl, ?hy0x3⟩) (by assumption) ?rest0x3
          case hy0x3 => intro u hSu; (try dsimp only at hSu); go_simp; try (with_reducible rfl)
          simp only [Act.put, List.setIfInBounds_toArray, List.set_cons_zero, List.set_cons_succ]
          refine heldL_take (n := 4) (i := 1) (oi := _) (v := ?v1x3) (dst := some 33) rfl rfl rfl (by kernel_rfl) (by kernel_rfl) (by kernel_rfl) (by kernel_rfl) (by kernel_rfl) (fun _ _ _ h => h) (Or.inl ⟨by rfl, ?hy1x3⟩) (by assumption) ?rest1x3
          case hy1x3 => intro u hSu; (try dsimp only at hSu); go_simp; try (with_reducible rfl)
          simp only [Act.put, List.setIfInBounds_toArray, List.set_cons_zero, List.set_cons_succ]
          refine heldL_take (n := 3) (i := 2) (oi := _) (v := ?v2x3) (dst := some 34) rfl rfl rfl (by kernel_rfl) (by kernel_rfl) (by kernel_rfl) (by kernel_rfl) (by kernel_rfl) (fun _ _ _ h => h) (Or.inl ⟨by rfl, ?hy2x3⟩) (by assumption) ?rest2x3
          case hy2x3 => intro u hSu; (try dsimp only at hSu); go_simp; try (with_reducible rfl)
          simp only [Act.put, List.setIfInBounds_toArray, List.set_cons_zero, List.set_cons_succ]
          refine heldL_step (n := 2) (i := 3) (o := _) rfl (by kernel_rfl) rfl (fun K hK => ?_)
          have HK2 := Lib.hid hK
          clear hK
          go_simp
          refine (ptell_laid (W := wr) _ _ (grown_drew _)).mono ?_
          rintro e u ⟨p, rfl, hgu, hIu0⟩; have hIu := Lib.hid hIu0; clear hIu0
          go_simp
          refine HK2.out _ _ (HK.out _ hgu) (fun hHeld => ?_)
          clear HK2 K
          refine heldL_step (n := 1) (i := 4) (o := _) rfl (by kernel_rfl) rfl (fun K hK => ?_)
          have HK2 := Lib.hid hK
          clear hK
          refine step_append_box (m := 2) (news := tellP (n : Int) (n : Int)) hb.out (by omega) (by rfl) _ _ (by rfl) (by rfl) (by rfl) hgu hIu.out ?_
          intro A1 c1 u1 hN1 hc1 hf1
          have HN1 := Lib.hid hN1
          clear hN1
          refine HK2.out _ _ hc1 (fun hHeld => ?_)
          clear HK2 K
          simp only [Act.put, List.setIfInBounds_toArray, List.set_cons_zero, List.set_cons_succ]
          refine heldL_last (n := 0) (o := _) rfl (by kernel_rfl) (by kernel_rfl) (by decide) rfl (fun K hK => ?_)
          have HK2 := Lib.hid hK
          clear hK
          go_simp
          refine HK2.out _ _ ?_
          clear HK2
          have HS1 := Lib.hid HN1.out
          rw [HE.out] at HS1
          clear HN1 hc1 hf1 hgu hIu HK hb hHeld
          go_wp2
          go_ret
          exact Body.of ⟨HS1.out.len, own_low HS1.out.own (by have := HS1.out.lo; omega), HS1.out.bel⟩ rfl
      · rw [if_neg h0] at hT
        have h0' : ((id : Int) == 0) = false := by simpa using h0
        have hpl1 : (staticLow n id q ++ [BOp.tell id 1]).all plainOp = true := by rw [List.all_append, HPl.out]; rfl
        have hl2 : (staticLow n id q ++ [BOp.tell id 1]).length ≤ 100 := by rw [List.length_append]; simp; omega
        have e5 : bodyI (staticLow n id q) ++ tellP (id : Int) (1 : Int) = bodyI (staticLow n id q ++ [.tell id 1]) := body_tell (HPl.out q) id 1
        have HE := Lib.hid e5
        have HE2 := Lib.hid (show ∀ m2 : Nat, (bodyI (staticLow n id q ++ [BOp.tell id 1])).length = m2 → bodyI (staticLow n id q ++ [.tell id 1]) ++ awaitP (5 + (m2 : Int)) (n : Int) = bodyI (staticLow n id q ++ T) from fun m2 h => by
          rw [← h, ← hT, body_await hpl1 hl2 n]
          simp)
        clear hl hmn hbl e5 hT hQ hpl1 hl2
        by_cases h2 : (o : Int) ≤ 2 * (id : Int) + 2
        · have h3 : ¬ (o : Int) < (n : Int) := fun h => h1 ⟨h2, h⟩
          clear h1
          go_wp2_with fail
          refine region_heldL (L := 4) (S := (fun u => u.cell? ⟨w.heap.size, 0, none⟩ = some (.slice A m c))) 5 rfl (by kernel_rfl) (HK.out _ (grown_drew _)) (fun hHeld => ?_)
          refine heldL_take (n := 4) (i := 0) (oi := _) (v := ?v0x4) (dst := some 37) rfl rfl rfl (by kernel_rfl) (by kernel_rfl) (by kernel_rfl) (by kernel_rfl) (by kernel_rfl) (fun _ _ _ h => h) (Or.inl ⟨by rfl, ?hy0x4⟩) (by assumption) ?rest0x4
          case hy0x4 => intro u hSu; (try dsimp only at hSu); go_simp; try (with_reducible rfl)
          simp only [Act.put, List.setIfInBounds_toArray, List.set_cons_zero, List.set_cons_succ]
          refine heldL_take (n := 3) (i := 1) (oi := _) (v := ?v1x4) (dst := some 38) rfl rfl rfl (by kernel_rfl) (by kernel_rfl) (by kernel_rfl) (by kernel_rfl) (by kernel_rfl) (fun _ _ _ h => h) (Or.inl ⟨by rfl, ?hy1x4⟩) (by assumption) ?rest1x4
          case hy1x4 => intro u hSu; (try dsimp only at hSu); go_simp; try (with_reducible rfl)
          simp only [Act.put, List.setIfInBounds_toArray, List.set_cons_zero, List.set_cons_succ]
          refine heldL_step (n := 2) (i := 2) (o := _) rfl (by kernel_rfl) rfl (fun K hK => ?_)
          have HK2 := Lib.hid hK
          clear hK
          go_simp
          refine (ptell_laid (W := wr) _ _ (grown_drew _)).mono ?_
          rintro e u ⟨p, rfl, hgu, hIu0⟩; have hIu := Lib.hid hIu0; clear hIu0
          go_simp
          refine HK2.out _ _ (HK.out _ hgu) (fun hHeld => ?_)
          clear HK2 K
          refine heldL_step (n := 1) (i := 3) (o := _) rfl (by kernel_rfl) rfl (fun K hK => ?_)
          have HK2 := Lib.hid hK
          clear hK
          refine step_append_box (m := 2) (news := tellP (id : Int) (1 : Int)) hb.out (by omega) (by rfl) _ _ (by rfl) (by rfl) (by rfl) hgu hIu.out ?_
          intro A1 c1 u1 hN1 hc1 hf1
          have HN1 := Lib.hid hN1
          clear hN1
          refine HK2.out _ _ hc1 (fun hHeld => ?_)
          clear HK2 K
          simp only [Act.put, List.setIfInBounds_toArray, List.set_cons_zero, List.set_cons_succ]
          refine heldL_last (n := 0) (o := _) rfl (by kernel_rfl) (by kernel_rfl) (by decide) rfl (fun K hK => ?_)
          have HK2 := Lib.hid hK
          clear hK
          go_simp
          refine HK2.out _ _ ?_
          clear HK2
          have HS1 := Lib.hid HN1.out.set
          rw [HE.out] at HS1
          clear HN1 hc1 hf1 hgu hIu HK hb hHeld
          obtain ⟨W3, hW3⟩ : ∃ W3, u1.setCell ⟨w.heap.size, 0, none⟩ (.slice A1 (m + 2) c1) = W3 := ⟨_, rfl⟩
          rw [hW3] at HS1 ⊢
          clear hW3
          obtain ⟨m2, hm2⟩ : ∃ m2, m + 2 = m2 := ⟨_, rfl⟩
          rw [hm2] at HS1 ⊢
          have hm3 : m2 ≤ 102 := by omega
          clear hm2
          have HH2 := Lib.hid (fun u (hg : W3.grownBy u none) => sthere_any (by omega : m2 ≤ 1000) (HS1.out.keep hg).cell.1)
          have HK2b := Lib.hid (fun u (hg : W3.grownBy u none) => (HS1.out.keep hg).cell.1)
          go_wp2_with fail
          refine region_heldL (L := 6) (S := (fun u => u.cell? ⟨w.heap.size, 0, none⟩ = some (.slice A1 m2 c1))) 7 rfl (by kernel_rfl) (HK2b.out _ (grown_drew _)) (fun hHeld => ?_)
          refine heldL_take (n := 6) (i := 0) (oi := _) (v := ?v0x5) (dst := some 41) rfl rfl rfl (by kernel_rfl) (by kernel_rfl) (by kernel_rfl) (by kernel_rfl) (by kernel_rfl) (fun _ _ _ h => h) (Or.inl ⟨by rfl, ?hy0x5⟩) (by assumption) ?rest0x5
          case hy0x5 => intro u hSu; (try dsimp only at hSu); go_simp; try (with_reducible rfl)
          simp only [Act.put, List.setIfInBounds_toArray, List.set_cons_zero, List.set_cons_succ]
          refine heldL_take (n := 5) (i := 1) (oi := _) (v := ?v1x5) (dst := some 42) rfl rfl rfl (by kernel_rfl) (by kernel_rfl) (by kernel_rfl) (by kernel_rfl) (by kernel_rfl) (fun _ _ _ h => h) (Or.inl ⟨by rfl, ?hy1x5⟩) (by assumption) ?rest1x5
          case hy1x5 => intro u hSu; (try dsimp only at hSu); go_simp; try (with_reducible rfl)
          simp only [Act.put, List.setIfInBounds_toArray, List.set_cons_zero, List.set_cons_succ]
          refine heldL_take (n := 4) (i := 3) (oi := _) (v := ?v3x5) (dst := some 44) rfl rfl rfl (by kernel_rfl) (by kernel_rfl) (by kernel_rfl) (by kernel_rfl) (by kernel_rfl) (fun _ _ _ h => h) (Or.inl ⟨by rfl, ?hy3x5⟩) (by assumption) ?rest3x5
          case hy3x5 => intro u hSu; (try dsimp only at hSu); go_simp; try (with_reducible rfl)
          simp only [Act.put, List.setIfInBounds_toArray, List.set_cons_zero, List.set_cons_succ]
          refine heldL_step (n := 3) (i := 2) (o := _) rfl (by kernel_rfl) rfl (fun K hK => ?_)
          have HK2 := Lib.hid hK
          clear hK
          go_simp
          refine (HH2.out _ (grown_drew _)).mono ?_
          rintro e u ⟨rfl, rfl⟩
          go_simp
          refine HK2.out _ _ (HK2b.out _ (grown_drew _)) (fun hHeld => ?_)
          clear HK2 K
          refine heldL_step (n := 2) (i := 4) (o := _) rfl (by kernel_rfl) rfl (fun K hK => ?_)
          have HK2 := Lib.hid hK
          clear hK
          go_simp
          refine (pawait_laid (W := W3) _ _ (grown_drew _)).mono ?_
          rintro e u ⟨p, rfl, hgu, hIu0⟩; have hIu := Lib.hid hIu0; clear hIu0
          go_simp
          refine HK2.out _ _ (HK2b.out _ hgu) (fun hHeld => ?_)
          clear HK2 K
          refine heldL_step (n := 1) (i := 5) (o := _) rfl (by kernel_rfl) rfl (fun K hK => ?_)
          have HK2 := Lib.hid hK
          clear hK
          refine step_append_box (m := 5) (news := awaitP (5 + (m2 : Int)) (n : Int)) HS1.out (by omega) (by rfl) _ _ (by rfl) (by rfl) (by rfl) hgu hIu.out ?_
          intro A3 c3 u3 hN1 hc1 hf1
          have HN1 := Lib.hid hN1
          clear hN1
          refine HK2.out _ _ hc1 (fun hHeld => ?_)
          clear HK2 K
          simp only [Act.put, List.setIfInBounds_toArray, List.set_cons_zero, List.set_cons_succ]
          refine heldL_last (n := 0) (o := _) rfl (by kernel_rfl) (by kernel_rfl) (by decide) rfl (fun K hK => ?_)
          have HK2 := Lib.hid hK
          clear hK
          go_simp
          refine HK2.out _ _ ?_
          clear HK2
          have HS3 := Lib.hid HN1.out
          rw [HE2.out m2 HS1.out.len] at HS3
          clear HN1 hc1 hf1 hgu hIu HH2 HK2b HS1 hHeld
          go_wp2
          go_ret
          exact Body.of ⟨HS3.out.len, own_low HS3.out.own (by have := HS3.out.lo; omega), HS3.out.bel⟩ rfl
        · clear h1
          go_wp2_with fail
          refine region_heldL (L := 4) (S := (fun u => u.cell? ⟨w.heap.size, 0, none⟩ = some (.slice A m c))) 5 rfl (by kernel_rfl) (HK.out _ (grown_drew _)) (fun hHeld => ?_)
          refine heldL_take (n := 4) (i := 0) (oi := _) (v := ?v0x6) (dst := some 37) rfl rfl rfl (by kernel_rfl) (by kernel_rfl) (by kernel_rfl) (by kernel_rfl) (by kernel_rfl) (fun _ _ _ h => h) (Or.inl ⟨by rfl, ?hy0x6⟩) (by assumption) ?rest0x6
          case hy0x6 => intro u hSu; (try dsimp only at hSu); go_simp; try (with_reducible rfl)
          simp only [Act.put, List.setIfInBounds_toArray, List.set_cons_zero, List.set_cons_succ]
          refine heldL_take (n := 3) (i := 1) (oi := _) (v := ?v1x6) (dst := some 38) rfl rfl rfl (by kernel_rfl) (by kernel_rfl) (by kernel_rfl) (by kernel_rfl) (by kernel_rfl) (fun _ _ _ h => h) (Or.inl ⟨by rfl, ?hy1x6⟩) (by assumption) ?rest1x6
          case hy1x6 => intro u hSu; (try dsimp only at hSu); go_simp; try (with_reducible rfl)
          simp only [Act.put, List.setIfInBounds_toArray, List.set_cons_zero, List.set_cons_succ]
          refine heldL_step (n := 2) (i := 2) (o := _) rfl (by kernel_rfl) rfl (fun K hK => ?_)
          have HK2 := Lib.hid hK
          clear hK
          go_simp
          refine (ptell_laid (W := wr) _ _ (grown_drew _)).mono ?_
          rintro e u ⟨p, rfl, hgu, hIu0⟩; have hIu := Lib.hid hIu0; clear hIu0
          go_simp
          refine HK2.out _ _ (HK.out _ hgu) (fun hHeld => ?_)
          clear HK2 K
          refine heldL_step (n := 1) (i := 3) (o := _) rfl (by kernel_rfl) rfl (fun K hK => ?_)
          have HK2 := Lib.hid hK
          clear hK
          refine step_append_box (m := 2) (news := tellP (id : Int) (1 : Int)) hb.out (by omega) (by rfl) _ _ (by rfl) (by rfl) (by rfl) hgu hIu.out ?_
          intro A1 c1 u1 hN1 hc1 hf1
          have HN1 := Lib.hid hN1
          clear hN1
          refine HK2.out _ _ hc1 (fun hHeld => ?_)
          clear HK2 K
          simp only [Act.put, List.setIfInBounds_toArray, List.set_cons_zero, List.set_cons_succ]
          refine heldL_last (n := 0) (o := _) rfl (by kernel_rfl) (by kernel_rfl) (by decide) rfl (fun K hK => ?_)
          have HK2 := Lib.hid hK
          clear hK
          go_simp
          refine HK2.out _ _ ?_
          clear HK2
          have HS1 := Lib.hid HN1.out.set
          rw [HE.out] at HS1
          clear HN1 hc1 hf1 hgu hIu HK hb hHeld
          obtain ⟨W3, hW3⟩ : ∃ W3, u1.setCell ⟨w.heap.size, 0, none⟩ (.slice A1 (m + 2) c1) = W3 := ⟨_, rfl⟩
          rw [hW3] at HS1 ⊢
          clear hW3
          obtain ⟨m2, hm2⟩ : ∃ m2, m + 2 = m2 := ⟨_, rfl⟩
          rw [hm2] at HS1 ⊢
          have hm3 : m2 ≤ 102 := by omega
          clear hm2
          have HH2 := Lib.hid (fun u (hg : W3.grownBy u none) => sthere_any (by omega : m2 ≤ 1000) (HS1.out.keep hg).cell.1)
          have HK2b := Lib.hid (fun u (hg : W3.grownBy u none) => (HS1.out.keep hg).cell.1)
          go_wp2_with fail
          refine region_heldL (L := 6) (S := (fun u => u.cell? ⟨w.heap.size, 0, none⟩ = some (.slice A1 m2 c1))) 7 rfl (by kernel_rfl) (HK2b.out _ (grown_drew _)) (fun hHeld => ?_)
          refine heldL_take (n := 6) (i := 0) (oi := _) (v := ?v0x7) (dst := some 41) rfl rfl rfl (by kernel_rfl) (by kernel_rfl) (by kernel_rfl) (by kernel_rfl) (by kernel_rfl) (fun _ _ _ h => h) (Or.inl ⟨by rfl, ?hy0x7⟩) (by assumption) ?rest0x7
          case hy0x7 => intro u hSu; (try dsimp only at hSu); go_simp; try (with_reducible rfl)
          simp only [Act.put, List.setIfInBounds_toArray, List.set_cons_zero, List.set_cons_succ]
          refine heldL_take (n := 5) (i := 1) (oi := _) (v := ?v1x7) (dst := some 42) rfl rfl rfl (by kernel_rfl) (by kernel_rfl) (by kernel_rfl) (by kernel_rfl) (by kernel_rfl) (fun _ _ _ h => h) (Or.inl ⟨by rfl, ?hy1x7⟩) (by assumption) ?rest1x7
          case hy1x7 => intro u hSu; (try dsimp only at hSu); go_simp; try (with_reducible rfl)
          simp only [Act.put, List.setIfInBounds_toArray, List.set_cons_zero, List.set_cons_succ]
          refine heldL_take (n := 4) (i := 3) (oi := _) (v := ?v3x7) (dst := some 44) rfl rfl rfl (by kernel_rfl) (by kernel_rfl) (by kernel_rfl) (by kernel_rfl) (by kernel_rfl) (fun _ _ _ h => h) (Or.inl ⟨by rfl, ?hy3x7⟩) (by assumption) ?rest3x7
          case hy3x7 => intro u hSu; (try dsimp only at hSu); go_simp; try (with_reducible rfl)
          simp only [Act.put, List.setIfInBounds_toArray, List.set_cons_zero, List.set_cons_succ]
          refine heldL_step (n := 3) (i := 2) (o := _) rfl (by kernel_rfl) rfl (fun K hK => ?_)
          have HK2 := Lib.hid hK
          clear hK
          go_simp
          refine (HH2.out _ (grown_drew _)).mono ?_
          rintro e u ⟨rfl, rfl⟩
          go_simp
          refine HK2.out _ _ (HK2b.out _ (grown_drew _)) (fun hHeld => ?_)
          clear HK2 K
          refine heldL_step (n := 2) (i := 4) (o := _) rfl (by kernel_rfl) rfl (fun K hK => ?_)
          have HK2 := Lib.hid hK
          clear hK
          go_simp
          refine (pawait_laid (W := W3) _ _ (grown_drew _)).mono ?_
          rintro e u ⟨p, rfl, hgu, hIu0⟩; have hIu := Lib.hid hIu0; clear hIu0
          go_simp
          refine HK2.out _ _ (HK2b.out _ hgu) (fun hHeld => ?_)
          clear HK2 K
          refine heldL_step (n := 1) (i := 5) (o := _) rfl (by kernel_rfl) rfl (fun K hK => ?_)
          have HK2 := Lib.hid hK
          clear hK
          refine step_append_box (m := 5) (news := awaitP (5 + (m2 : Int)) (n : Int)) HS1.out (by omega) (by rfl) _ _ (by rfl) (by rfl) (by rfl) hgu hIu.out ?_
          intro A3 c3 u3 hN1 hc1 hf1
          have HN1 := Lib.hid hN1
          clear hN1
          refine HK2.out _ _ hc1 (fun hHeld => ?_)
          clear HK2 K
          simp only [Act.put, List.setIfInBounds_toArray, List.set_cons_zero, List.set_cons_succ]
          refine heldL_last (n := 0) (o := _) rfl (by kernel_rfl) (by kernel_rfl) (by decide) rfl (fun K hK => ?_)
          have HK2 := Lib.hid hK
          clear hK
          go_simp
          refine HK2.out _ _ ?_
          clear HK2
          have HS3 := Lib.hid HN1.out
          rw [HE2.out m2 HS1.out.len] at HS3
          clear HN1 hc1 hf1 hgu hIu HH2 HK2b HS1 hHeld
          go_wp2
          go_ret
          exact Body.of ⟨HS3.out.len, own_low HS3.out.own (by have := HS3.out.lo; omega), HS3.out.bel⟩ rfl
theorem Stlen {n id : Nat} (n16 : n ≤ 16) (hid : id < n) : (bodyI (staticOps n id)).length ≤ 1000 := by
  have h := bodyI_le (staticOps n id)
  have : (staticOps n id).length ≤ 10 := by
    rw [static_is n (by omega) id hid, List.length_append]
    have : (staticLow n id (staticQ n id)).length ≤ 2 := by unfold staticLow staticQ; simp; omega
    split <;> simp <;> omega
  omega

theorem Stcode_any {w : World} {n id rounds : Nat} (d : Dims 3 n rounds) (hid : id < n) : Calls Tryz.prog 190 #[.int .i64 (n : Nat), .int .i64 (id : Nat), .int .i64 (rounds : Nat)] w (CodeOf w rounds (staticOps n id)) := by
  have HC := Lib.hid (fun w => pcheck_ok (n : Nat) (id : Nat) (rounds : Nat) w (party_of d hid))
  have HB := Lib.hid (Stbody_any (w := w) d.n1 d.n16 hid)
  have hr := d.r6
  have HLn := Lib.hid (Stlen d.n16 hid)
  clear d
  generalize staticOps n id = ops at *
  go_enter Tryz.func190, Tryz.ntmps190
  go_wp2_with fail
  refine (HC.out _).mono ?_
  rintro e w1 ⟨rfl, hw⟩
  obtain rfl := hw.symm
  clear hw
  go_wp2_with fail
  refine HB.out.mono ?_
  rintro e w2 ⟨A, c, rfl, hb⟩
  have HW := Lib.hid (whole_of hb (by omega : rounds ≤ 20) HLn.out)
  clear hb HB HC
  generalize (bodyI ops).length = m at *
  go_wp2_with fail
  refine HW.out.mono ?_
  rintro e w3 ⟨A1, c1, rfl, ho, hb⟩
  have HO := Lib.hid ho
  have HB3 := Lib.hid hb
  clear ho hb HW
  go_wp2
  go_ret2
  exact ⟨A1, c1, rfl, HO.out, HB3.out⟩
theorem Stcells_any {w : World} {n : Nat} (n1 : 1 ≤ n) (n16 : n ≤ 16) : Calls Tryz.prog 189 #[.int .i64 (n : Nat)] w fun e w' => e = .returned (.tuple #[.int .i64 (kCells 3 n : Nat), .nilIface]) ∧ w = w' := by
  have HC := Lib.hid (fun w => pcheck_ok (n : Nat) 0 0 w (party_0 n1 n16))
  rw [show kCells 3 n = n + 1 from rfl]
  go_enter Tryz.func189, Tryz.ntmps189
  go_wp2_with fail
  refine (HC.out _).mono ?_
  rintro e w1 ⟨rfl, h⟩
  obtain rfl := h.symm
  go_wp2
  go_ret2
  exact ⟨rfl, rfl⟩
end Go.Proofs.YtgkfhihnfllmhaaGreatDoor
