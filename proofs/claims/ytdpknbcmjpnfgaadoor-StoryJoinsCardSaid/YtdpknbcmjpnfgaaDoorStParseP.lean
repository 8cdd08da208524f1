/-
  story: Parse.
-/
import Derived.Test.YtdpknbcmjpnfgaaDoorStLine
import Derived.Test.YtdpknbcmjpnfgaaDoorRowE
import Derived.Lib.AppendZeros
import Derived.Test.YtdpknbcmjpnfgaaDoorHeldH
namespace Go.Proofs.YtdpknbcmjpnfgaaDoor
set_option maxRecDepth 100000
open Go.RowKit Go.Sort
set_option linter.unusedVariables false
set_option linter.unusedSimpArgs false

/-- append, told by an equation, at a step of a region that draws its order. -/
theorem step_append_eq {w w' : World} {ops : Array Oper} {o : Oper} {a : Act} {K : Act → World → Prop} {Q : Exit → Act → World → Prop} {E : Prop} (hgd : o.guard = none) (s x : Operand) {T : TypeId}
    (ho : o.op = .call { callee := .builtin .append, args := #[s, x], argTypes := #[T, T] }) {v1 v2 v : Value} (hs : a.eval s = v1) (hx : a.eval x = v2)
    (hr : (Builtin.append_ #[T, T] o.type #[v1, v2]).run Tryd.prog w = .ok v w') (h : K (a.put o.dst v) w') :
    if Region.wanted o (yielded ops a.tmps) = true then Oper.wp Tryd.prog o a w K Q else E := by
  have hw : Region.wanted o (yielded ops a.tmps) = true := by simp [Region.wanted, hgd]
  rw [if_pos hw]
  exact Lib.wp_append_run w s x _ _ ho _ _ hs hx _ _ hr h
theorem new_two (w : World) (o o2 : Obj) : ((w.alloc o).alloc o2).heap[w.heap.size + 1]? = some o2 := by
  have := heap_alloc_new (w.alloc o) o2
  rwa [World.size_alloc] at this

/-- What a text is told to be: events, or an error at a line. -/
def ToldStories (S : List UInt8) (w : World) (e : Ending) (w' : World) : Prop := Below w.heap.size w w' ∧
  ((∃ A c, e = .returned (.tuple #[.slice A (storyP S).1.length c, .nilIface]) ∧ EvRow w' A (storyP S).1.length (storyP S).1 ∧ (storyP S).2 = true) ∨
   (∃ N, e = .returned (.tuple #[.slice none 0 0, .iface 78 (.pointer (some ⟨N, 0, none⟩))]) ∧ w.heap.size ≤ N ∧ w'.heap[N]? = some (.cells #[.int .i64 3, .int .i64 ((storyP S).1.length : Nat)] 80 (0, 0)) ∧ (storyP S).2 = false))

/-- One more event; what lies elsewhere stands. -/
theorem RowE.oneK {w wr : World} {A : Option Addr} {n c : Nat} {l : List Ev4} (h : RowE w A n c l wr) (x : Ev4) (hn : n ≤ 100000) {B : Nat} (hA : ∀ g, (Value.slice A n c).ownBlock = some g → g < B) :
    ∃ A' c' w', (Builtin.append_ #[41, 41] 41 #[.slice A n c, .slice (some ⟨wr.heap.size, 0, none⟩) 1 1]).run Tryd.prog (wr.alloc (.cells #[.int .i64 x.1, .int .i64 x.2.1, .int .i64 x.2.2.1, .int .i64 x.2.2.2] 49)) = .ok (.slice A' (n + 1) c') w' ∧ RowE w A' (n + 1) c' (l ++ [x]) w' ∧ ∀ b off v, B ≤ b → wr.cell? ⟨b, off, none⟩ = some v → w'.cell? ⟨b, off, none⟩ = some v := by
  obtain ⟨i0, hi, hz0, hz1, hz2⟩ := info_parts infoEv
  have hb := h.bel.alloc h.bel.size (.cells #[.int .i64 x.1, .int .i64 x.2.1, .int .i64 x.2.2.1, .int .i64 x.2.2.2] 49)
  have hat := heap_alloc_new wr (.cells #[.int .i64 x.1, .int .i64 x.2.1, .int .i64 x.2.2.1, .int .i64 x.2.2.2] 49)
  have hnews := World.news_of_block (cs := #[.int .i64 x.1, .int .i64 x.2.1, .int .i64 x.2.2.1, .int .i64 x.2.2.2]) hat
  obtain ⟨v', w', hr, ho, hg, _⟩ := run_append_own (P := Tryd.prog) (wr.alloc (.cells #[.int .i64 x.1, .int .i64 x.2.1, .int .i64 x.2.2.1, .int .i64 x.2.2.2] 49)) w.heap.size 41 41 49 i0 (.agg #[.int .i64 0, .int .i64 0, .int .i64 0, .int .i64 0]) 4 32 Tryd.underlying41 hi hz0 hz1 hz2 rfl (by decide) (.slice A n c) n _ (h.own.alloc _) ⟨wr.heap.size, 0, none⟩ 1 1 (evC x) rfl (by simpa [evC] using hnews) (by intro u hu; simp [evC] at hu; rcases hu with rfl | rfl | rfl | rfl <;> rfl) (by unfold maxLen; omega) (by omega) hb.size
  obtain ⟨A', c', rfl⟩ : ∃ A' c', v' = .slice A' (n + 1) c' := by
    rcases ho.2 with ⟨rfl, e⟩ | ⟨g, cap, cur, rfl, _⟩
    · exact ⟨none, 0, by rw [e]⟩
    · exact ⟨_, _, rfl⟩
  refine ⟨A', c', w', hr, ⟨by rw [List.length_append, h.len]; rfl, by rw [cellsE_append, cellsE_one]; exact ho, hb.grown hg hb.size (fun k hk => (h.own.lt k hk).1)⟩, fun b off v hB hv => ?_⟩
  have hlt : b < wr.heap.size := World.block_lt_of_cell? wr ⟨b, off, none⟩ hv
  have h1 : (wr.alloc (.cells #[.int .i64 x.1, .int .i64 x.2.1, .int .i64 x.2.2.1, .int .i64 x.2.2.2] 49)).cell? ⟨b, off, none⟩ = some v := by rw [World.cell?_alloc_old _ _ _ (Nat.ne_of_lt hlt)]; exact hv
  rw [← h1]
  exact World.cell?_of_block (a := ⟨b, off, none⟩) (hg.block b (by simp; omega) (fun e => by have := hA b e.symm; omega))

def stLen : Value → Nat
  | .string s => s.size
  | _ => 0

/-- What stands at each line's beginning. -/
structure StInv (w wr : World) (S : List UInt8) (l : List Ev4) (A : Option Addr) (c : Nat) (s : List UInt8) : Prop where
  row : RowE w A l.length c l wr
  read : Read S l s

set_option maxHeartbeats 4000000 in
theorem st_parse (S : List UInt8) (hS : S.length ≤ 90000) (w : World) (h : SR w) : Calls Tryd.prog 24 #[strV S] w (ToldStories S w) := by
  have HC := Lib.hid h
  have HI := Lib.hid (show StInv w w S [] none 0 S from ⟨RowE.nil w, Read.start S⟩)
  clear h
  unfold strV
  go_enter Tryd.func24, Tryd.ntmps24
  go_wp2
  go_loopw [0, 4, 5] (fun sv pv av wr => ∃ l A c s, StInv w wr S l A c s ∧ sv = .string ⟨s.toArray⟩ ∧ pv = .slice A l.length c ∧ av = .int .i64 (lastW 0 l)) (fun sv _ _ _ => stLen sv)
  case atStart => exact ⟨[], none, 0, S, HI.out, rfl, rfl, rfl⟩
  case round =>
    obtain ⟨l, A, c, s, hJ, rfl, rfl, rfl⟩ := hrel
    clear HI
    have hsz : (⟨s.toArray⟩ : ByteArray).size = s.length := by simp [ByteArray.size]
    have hfew := hJ.read.few
    by_cases hne : s = []
    · subst hne
      have hf := hJ.read.fin
      have HR := Lib.hid (show ToldStories S w (.returned (.tuple #[.slice A l.length c, .nilIface])) wr from by
        unfold ToldStories
        rw [hf]
        exact ⟨hJ.row.bel, .inl ⟨A, c, rfl, evRow_own hJ.row.own rfl, rfl⟩⟩)
      clear hJ hf
      go_wp2
      go_ret2
      exact HR.out
    · have hpos : (0 : Int) < ((⟨s.toArray⟩ : ByteArray).size : Int) := by
        have := List.length_pos_iff.2 hne
        rw [hsz]
        omega
      have hle : (cutL 10 s).1.length ≤ s.length ∧ (cutL 10 s).2.1.length ≤ s.length := by
        rcases cutL_cases 10 s with ⟨_, e⟩ | ⟨a, b, e, _, ec⟩
        · rw [e]; simp
        · rw [ec, e]; simp; omega
      have HC1 := Lib.hid (fun w => cut_any s 10 w (by omega))
      have hbad := hJ.read.bad hne
      have hnext := fun {e} => hJ.read.next (e := e) hne
      have hless := fun h => cut_less (s := s) h
      obtain ⟨line, hline⟩ : ∃ a, (cutL 10 s).1 = a := ⟨_, rfl⟩
      obtain ⟨rest, hrest⟩ : ∃ a, (cutL 10 s).2.1 = a := ⟨_, rfl⟩
      obtain ⟨ended, hended⟩ : ∃ a, (cutL 10 s).2.2 = a := ⟨_, rfl⟩
      rw [hline, hended] at hbad
      rw [hrest, hended] at hless
      rw [hline, hrest] at hle
      have hnx : ∀ e, parseE line = some e → ended = true → rightE (lastW 0 l) e → Read S (l ++ [e]) rest := fun e h1 h2 h3 => by
        rw [← hline] at h1
        rw [← hended] at h2
        rw [← hrest]
        exact hnext h1 h2 h3
      have HC2 := Lib.hid (fun w => (by have := HC1.out w; rw [hline, hrest, hended] at this; exact this : Calls Tryd.prog 38 #[strV s, .string ⟨#[10]⟩] w fun e w' => e = .returned (.tuple #[strV line, strV rest, .bool ended]) ∧ ∃ n, w' = w.drewN n))
      have HL := Lib.hid (fun w h => st_parseLine line (by omega) w h)
      have HBAD := Lib.hid hbad
      have HNX := Lib.hid hnx
      have HLESS := Lib.hid hless
      have HJ := Lib.hid hJ
      have hlen : l.length ≤ 90000 := by omega
      clear hJ hline hrest hended HC1 hbad hnext hnx hless hle hfew
      unfold strV at HC2 HL
      have HSZ := Lib.hid hsz
      generalize hSB : (⟨s.toArray⟩ : ByteArray) = SB at *
      generalize hAH : lastW 0 l = ah at *
      go_wp2_with fail
      refine (HC2.out _).mono ?_
      rintro e w3 ⟨rfl, q, rfl⟩
      have hb3 : Below wr.heap.size wr (wr.drewN q) := below_drewN (Below.refl _ _) q
      have HB3 := Lib.hid hb3
      clear hb3 HC2
      go_wp2_with fail
      refine (HL.out _ ((HC.out.old HJ.out.row.bel).old HB3.out)).mono ?_
      rintro e w4 ⟨hb4, y, b, rfl, hy⟩
      have hb34 := HB3.out.trans (hb4.mono HB3.out.size)
      have hold : Below w.heap.size w w4 := HJ.out.row.bel.trans (hb34.mono HJ.out.row.bel.size)
      have HAB := Lib.hid (show ∀ g, (Value.slice A l.length c).ownBlock = some g → g < wr.heap.size from fun g hg => (HJ.out.row.own.lt g hg).2)
      have HEBS := Lib.hid hb34.size
      have HO4 := Lib.hid (HJ.out.row.own.kept (grown_of_old hb34) (Classical.em _))
      have HOLD := Lib.hid hold
      have HY := Lib.hid hy
      have hs4 := hold.size
      clear hb4 hb34 hold hy HL HB3
      obtain ⟨y1, y2, y3, y4⟩ := y
      unfold evV
      have HA2 := Lib.hid (fun o1 => HOLD.out.alloc HOLD.out.size o1)
      have herr : ∀ (W : World) (N : Nat), storyP S = (l, false) → Below w.heap.size w W → w.heap.size ≤ N → W.heap[N]? = some (.cells #[.int .i64 3, .int .i64 (l.length : Nat)] 80 (0, 0)) → ToldStories S w (.returned (.tuple #[.slice none 0 0, .iface 78 (.pointer (some ⟨N, 0, none⟩))])) W := fun W N hp hb hn hh => by
        unfold ToldStories
        rw [hp]
        exact ⟨hb, .inr ⟨_, rfl, hn, hh, rfl⟩⟩
      have HERR := Lib.hid herr
      clear herr
      have HROW := Lib.hid (show ∀ W, Below (w4.alloc (.cells #[.int .i64 y1, .int .i64 y2, .int .i64 y3, .int .i64 y4] 49)).heap.size (w4.alloc (.cells #[.int .i64 y1, .int .i64 y2, .int .i64 y3, .int .i64 y4] 49)) W → RowE w A l.length c l W from fun W hb => ⟨rfl, (HO4.out.alloc _).kept (grown_of_old hb) (Classical.em _), (HA2.out _).trans (hb.mono (HA2.out _).size)⟩)
      have HEB := Lib.hid (show ∀ W, Below (w4.alloc (.cells #[.int .i64 y1, .int .i64 y2, .int .i64 y3, .int .i64 y4] 49)).heap.size (w4.alloc (.cells #[.int .i64 y1, .int .i64 y2, .int .i64 y3, .int .i64 y4] 49)) W → W.cell? ⟨w4.heap.size, 0, none⟩ = some (.int .i64 y1) ∧ W.cell? ⟨w4.heap.size, 1, none⟩ = some (.int .i64 y2) ∧ W.cell? ⟨w4.heap.size, 2, none⟩ = some (.int .i64 y3) ∧ W.cell? ⟨w4.heap.size, 3, none⟩ = some (.int .i64 y4) from fun W hb => by
        have hx := (hb.block w4.heap.size (by simp)).trans (heap_alloc_new w4 _)
        exact ⟨by rw [cell_of_row W w4.heap.size 0 _ _ _ hx]; rfl, by rw [cell_of_row W w4.heap.size 1 _ _ _ hx]; rfl, by rw [cell_of_row W w4.heap.size 2 _ _ _ hx]; rfl, by rw [cell_of_row W w4.heap.size 3 _ _ _ hx]; rfl⟩)
      have HEBL := Lib.hid (show ∀ W, Below (w4.alloc (.cells #[.int .i64 y1, .int .i64 y2, .int .i64 y3, .int .i64 y4] 49)).heap.size (w4.alloc (.cells #[.int .i64 y1, .int .i64 y2, .int .i64 y3, .int .i64 y4] 49)) W → w4.heap.size + 1 ≤ W.heap.size from fun W hb => by have := hb.size; simpa using this)
      cases ended with
      | false =>
        have HP := Lib.hid (HBAD.out (.inr (.inl rfl)))
        clear HNX HLESS HBAD HY HO4 HROW HEB HEBL HAB HEBS
        go_wp2
        go_ret2
        exact HERR.out _ _ HP.out ((HA2.out _).alloc (HA2.out _).size _) (Nat.le_trans HOLD.out.size (by simp)) (new_two _ _ _)
      | true =>
      cases b with
      | false =>
        have HP := Lib.hid (HBAD.out (.inl (by
          rcases HY.out with ⟨h, _⟩ | ⟨_, h⟩
          · cases h
          · exact h)))
        clear HNX HLESS HBAD HY HO4 HROW HEB HEBL HAB HEBS
        go_wp2
        go_ret2
        exact HERR.out _ _ HP.out ((HA2.out _).alloc (HA2.out _).size _) (Nat.le_trans HOLD.out.size (by simp)) (new_two _ _ _)
      | true =>
      have hpy : parseE line = some (y1, y2, y3, y4) := by
        rcases HY.out with ⟨_, h⟩ | ⟨h, _⟩
        · exact h
        · cases h
      have HF := Lib.hid (fun w => follows_any (y1, y2, y3, y4) ah w)
      unfold evV at HF
      dsimp only at HF
      by_cases hr : rightE ah (y1, y2, y3, y4)
      · rw [decide_eq_true hr] at HF
        have HN := Lib.hid (HNX.out _ hpy rfl hr)
        have HLS := Lib.hid (HLESS.out rfl)
        clear HNX HLESS HBAD HY hpy hr HERR
        go_wp2_with fail
        refine (HF.out _).mono ?_
        rintro e w5 ⟨rfl, hb5⟩
        have hb5d := hb5.drew
        have hrow := HROW.out w5.drew hb5d
        have hc4 := HEB.out w5.drew hb5d
        obtain ⟨A6, c6, w6, hr6, hrow6, hk6⟩ := hrow.oneK (y1, y2, y3, y4) (by omega) HAB.out
        obtain ⟨e0, e1, e2, e3⟩ := hc4
        have HS5 := Lib.hid (show w5.drew.cell? ⟨w4.heap.size, 0, none⟩ = some (.int .i64 y1) ∧ w5.drew.cell? ⟨w4.heap.size, 1, none⟩ = some (.int .i64 y2) ∧ w5.drew.cell? ⟨w4.heap.size, 2, none⟩ = some (.int .i64 y3) ∧ w5.drew.cell? ⟨w4.heap.size, 3, none⟩ = some (.int .i64 y4) from ⟨e0, e1, e2, e3⟩)
        have hb5s := HEBL.out w5.drew hb5d
        have hlt5 : w4.heap.size < w5.drew.heap.size := by omega
        have HSA := Lib.hid (show (w5.drew.alloc (.cells #[.int .i64 y1, .int .i64 y2, .int .i64 y3, .int .i64 y4] 49)).cell? ⟨w4.heap.size, 0, none⟩ = some (.int .i64 y1) ∧ (w5.drew.alloc (.cells #[.int .i64 y1, .int .i64 y2, .int .i64 y3, .int .i64 y4] 49)).cell? ⟨w4.heap.size, 1, none⟩ = some (.int .i64 y2) ∧ (w5.drew.alloc (.cells #[.int .i64 y1, .int .i64 y2, .int .i64 y3, .int .i64 y4] 49)).cell? ⟨w4.heap.size, 2, none⟩ = some (.int .i64 y3) ∧ (w5.drew.alloc (.cells #[.int .i64 y1, .int .i64 y2, .int .i64 y3, .int .i64 y4] 49)).cell? ⟨w4.heap.size, 3, none⟩ = some (.int .i64 y4) from ⟨(World.cell?_alloc_lt _ _ ⟨w4.heap.size, 0, none⟩ hlt5).trans e0, (World.cell?_alloc_lt _ _ ⟨w4.heap.size, 1, none⟩ hlt5).trans e1, (World.cell?_alloc_lt _ _ ⟨w4.heap.size, 2, none⟩ hlt5).trans e2, (World.cell?_alloc_lt _ _ ⟨w4.heap.size, 3, none⟩ hlt5).trans e3⟩)
        have HS6 := Lib.hid (show w6.cell? ⟨w4.heap.size, 0, none⟩ = some (.int .i64 y1) ∧ w6.cell? ⟨w4.heap.size, 1, none⟩ = some (.int .i64 y2) ∧ w6.cell? ⟨w4.heap.size, 2, none⟩ = some (.int .i64 y3) ∧ w6.cell? ⟨w4.heap.size, 3, none⟩ = some (.int .i64 y4) from ⟨hk6 _ _ _ HEBS.out e0, hk6 _ _ _ HEBS.out e1, hk6 _ _ _ HEBS.out e2, hk6 _ _ _ HEBS.out e3⟩)
        have HR := Lib.hid hr6
        have HN2 := Lib.hid (And.intro (show StInv w w6 S (l ++ [(y1, y2, y3, y4)]) A6 c6 rest from ⟨by rw [List.length_append]; exact hrow6, HN.out⟩) (lastW_snoc 0 l (y1, y2, y3, y4)))
        have hne5 : w4.heap.size ≠ w5.heap.size := by have h1 : w5.drew.heap.size = w5.heap.size := rfl; omega
        clear hb5 hb5d hrow hr6 hrow6 hk6 HROW HEB HAB HN HF HEBS HEBL e0 e1 e2 e3 hlt5 hb5s
        go_wp2
        --MA
        refine region_heldH (S := (fun u => u.cell? ⟨w4.heap.size, 0, none⟩ = some (.int .i64 y1) ∧ u.cell? ⟨w4.heap.size, 1, none⟩ = some (.int .i64 y2) ∧ u.cell? ⟨w4.heap.size, 2, none⟩ = some (.int .i64 y3) ∧ u.cell? ⟨w4.heap.size, 3, none⟩ = some (.int .i64 y4))) 10 rfl (by kernel_rfl) HS5.out (fun hHeld => ?_)
        refine heldH_take (n := 9) (i := 0) (oi := _) (v := ?v0) (dst := some 42) rfl rfl rfl (by kernel_rfl) (by kernel_rfl) (by kernel_rfl) (fun _ _ _ h => h) (Or.inl ⟨by rfl, ?hy0⟩) (by assumption) ?rest0
        case hy0 => intro u hSu; (try dsimp only at hSu); go_simp; try (with_reducible rfl)
        simp only [Act.put, List.setIfInBounds_toArray, List.set_cons_zero, List.set_cons_succ]
        refine heldH_take (n := 8) (i := 1) (oi := _) (v := ?v1) (dst := some 43) rfl rfl rfl (by kernel_rfl) (by kernel_rfl) (by kernel_rfl) (fun _ _ _ h => h) (Or.inl ⟨by rfl, ?hy1⟩) (by assumption) ?rest1
        case hy1 => intro u hSu; (try dsimp only at hSu); go_simp; try (with_reducible rfl)
        simp only [Act.put, List.setIfInBounds_toArray, List.set_cons_zero, List.set_cons_succ]
        refine heldH_take (n := 7) (i := 4) (oi := _) (v := ?v4) (dst := some 46) rfl rfl rfl (by kernel_rfl) (by kernel_rfl) (by kernel_rfl) (fun _ _ _ h => h) (Or.inl ⟨by rfl, ?hy4⟩) (by assumption) ?rest4
        case hy4 => intro u hSu; (try dsimp only at hSu); go_simp; try (with_reducible rfl)
        simp only [Act.put, List.setIfInBounds_toArray, List.set_cons_zero, List.set_cons_succ]
        refine heldH_take (n := 6) (i := 5) (oi := _) (v := ?v5) (dst := some 47) rfl rfl rfl (by kernel_rfl) (by kernel_rfl) (by kernel_rfl) (fun _ _ _ h => h) (Or.inl ⟨by rfl, ?hy5⟩) (by assumption) ?rest5
        case hy5 => intro u hSu; (try dsimp only at hSu); go_simp; try (with_reducible rfl)
        simp only [Act.put, List.setIfInBounds_toArray, List.set_cons_zero, List.set_cons_succ]
        refine heldH_take (n := 5) (i := 6) (oi := _) (v := ?v6) (dst := some 48) rfl rfl rfl (by kernel_rfl) (by kernel_rfl) (by kernel_rfl) (fun _ _ _ h => h) (Or.inl ⟨by rfl, ?hy6⟩) (by assumption) ?rest6
        case hy6 => intro u hSu; (try dsimp only at hSu); go_simp; try (with_reducible rfl)
        simp only [Act.put, List.setIfInBounds_toArray, List.set_cons_zero, List.set_cons_succ]
        refine heldH_step (n := 4) (i := 2) (o := _) rfl (by kernel_rfl) rfl (fun K hK => ?_)
        have HK2 := Lib.hid hK
        clear hK
        go_simp
        refine HK2.out _ _ HSA.out (fun hHeld => ?_)
        clear HK2 K
        refine heldH_step (n := 3) (i := 3) (o := _) rfl (by kernel_rfl) rfl (fun K hK => ?_)
        have HK2 := Lib.hid hK
        clear hK
        refine step_append_eq (by rfl) (.tmp 42) (.tmp 44) (by rfl) (by rfl) (by rfl) HR.out ?_
        refine HK2.out _ _ HS6.out (fun hHeld => ?_)
        clear HK2 K
        simp only [Act.put, List.setIfInBounds_toArray, List.set_cons_zero, List.set_cons_succ]
        refine heldH_step (n := 2) (i := 7) (o := _) rfl (by kernel_rfl) rfl (fun K hK => ?_)
        have HK2 := Lib.hid hK
        clear hK
        go_simp
        refine HK2.out _ _ HS6.out (fun hHeld => ?_)
        clear HK2 K
        refine heldH_step (n := 1) (i := 8) (o := _) rfl (by kernel_rfl) rfl (fun K hK => ?_)
        have HK2 := Lib.hid hK
        clear hK
        go_simp
        refine HK2.out _ _ HS6.out (fun hHeld => ?_)
        clear HK2 K
        refine heldH_step (n := 0) (i := 9) (o := _) rfl (by kernel_rfl) rfl (fun K hK => ?_)
        have HK2 := Lib.hid hK
        clear hK
        go_simp
        refine HK2.out _ _ HS6.out (fun hHeld => ?_)
        clear HK2 K
        refine wpAnyH_done (by kernel_rfl) ?_ _
        go_wp2
        go_roundw
        case rel => exact ⟨l ++ [(y1, y2, y3, y4)], A6, c6, rest, HN2.out.1, rfl, by simp, by rw [HN2.out.2]⟩
        case measure =>
          have h1 := HLS.out
          have h2 := HSZ.out
          have h3 : (⟨rest.toArray⟩ : ByteArray).size = rest.length := by simp [ByteArray.size]
          show (⟨rest.toArray⟩ : ByteArray).size < SB.size
          omega
      · rw [decide_eq_false hr] at HF
        have HP := Lib.hid (HBAD.out (.inr (.inr fun e he => by
          rw [hpy] at he
          injection he with he
          subst he
          exact hr)))
        clear HNX HLESS HBAD HY hpy hr
        go_wp2_with fail
        refine (HF.out _).mono ?_
        rintro e w5 ⟨rfl, hb5⟩
        have HB5 := Lib.hid ((HA2.out (.cells #[.int .i64 y1, .int .i64 y2, .int .i64 y3, .int .i64 y4] 49)).trans (hb5.mono (HA2.out _).size))
        clear hb5 HF
        go_wp2
        go_ret2
        exact HERR.out _ _ HP.out (HB5.out.alloc HB5.out.size _) HB5.out.size (heap_alloc_new _ _)
end Go.Proofs.YtdpknbcmjpnfgaaDoor
