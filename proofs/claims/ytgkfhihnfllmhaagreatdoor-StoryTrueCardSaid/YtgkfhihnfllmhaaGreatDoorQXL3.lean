/-
  mcs: four come to one, one wakes two.
-/
import Derived.Test.YtgkfhihnfllmhaaGreatDoorQXJ2
import Derived.Deep.AppendLies
namespace Go.Proofs.YtgkfhihnfllmhaaGreatDoor
set_option maxRecDepth 100000
open Go.RowKit Go.Shelf Go.Sort
set_option linter.unusedVariables false
set_option linter.unusedSimpArgs false

/-- What below comes to. -/
def BelowOf (w : World) (l : List Nat) (e : Ending) (w' : World) : Prop := ∃ A c, e = .returned (.slice A l.length c) ∧ RowB w A l.length c (l.map fun (x : Nat) => (x : Int)) w'

set_option maxHeartbeats 2000000 in
theorem mcbelow_any {w : World} {n id many : Nat} (n16 : n ≤ 16) (hid : id < n) (hm : many ≤ 4) :
    Calls Tryz.prog 250 #[.int .i64 (n : Nat), .int .i64 (id : Nat), .int .i64 (many : Nat)] w (BelowOf w (belowL n id many many)) := by
  have HSucc := Lib.hid (fun q => belowL_succ n id many q)
  have HLn := Lib.hid (fun q => belowL_len n id many q)
  have hmi : many * id ≤ 4 * 16 := Nat.mul_le_mul hm (by omega)
  have hw1 : ((many : Int) * (id : Int)) = ((many * id : Nat) : Int) := by rw [Int.natCast_mul]
  obtain ⟨z, hz⟩ : ∃ z, many * id = z := ⟨_, rfl⟩
  rw [hz] at HSucc hmi hw1
  unfold BelowOf
  obtain ⟨F, hF⟩ : ∃ F : Nat → List Nat, (fun q => belowL n id many q) = F := ⟨_, rfl⟩
  have HF := Lib.hid (fun q => congrFun hF q)
  have e1 : ∀ q, belowL n id many q = F q := fun q => congrFun hF q
  simp only [e1] at HSucc HLn ⊢
  have h0 : F 0 = [] := (e1 0).symm.trans rfl
  have H0 := Lib.hid (show RowB w none 0 0 ((F 0).map fun (x : Nat) => (x : Int)) w by rw [h0]; exact ⟨rfl, World.ownsRow_nil _ _ _ _, Below.refl _ _⟩)
  clear hz hF HF e1 h0
  go_enter Tryz.func250, Tryz.ntmps250
  go_wp2
  go_loopw [7, 11] (fun v j wr => ∃ (q : Nat) (A : Option Addr) (m c : Nat), q ≤ many ∧ v = .slice A m c ∧ j = .int .i64 q ∧ Hid (RowB w A m c ((F q).map fun (x : Nat) => (x : Int)) wr)) (fun _ j _ => many - (intOf j).toNat)
  case atStart => exact ⟨0, none, 0, 0, Nat.zero_le _, rfl, rfl, H0.out⟩
  case round =>
    obtain ⟨q, A, m, c, hq, rfl, rfl, hb⟩ := hrel
    by_cases hlt : q < many
    · have hkn : (q : Int) < (many : Int) := by omega
      have HS := HSucc.out q
      by_cases hc : z + 1 + q < n
      · rw [if_pos hc] at HS
        have hc2 : (z : Int) + 1 + (q : Int) < (n : Int) := by omega
        have hl := HLn.out q
        have hml := hb.out.len
        rw [List.length_map] at hml
        obtain ⟨A1, m1, c1, w1, hr, b1⟩ := hb.out.one ((z : Int) + 1 + (q : Int)) (by omega)
        have HR := Lib.hid hr
        have HB := Lib.hid (show RowB w A1 m1 c1 ((F (q + 1)).map fun (x : Nat) => (x : Int)) w1 by
          rw [HS, List.map_append]
          exact b1)
        clear hb hr b1 HS hl hml
        go_wp2_with (at_builtin; refine Lib.wpList_append_run _ rfl _ _ _ _ rfl _ _ rfl rfl _ _ HR.out ?_)
        go_roundw
        case rel => exact ⟨q + 1, A1, m1, c1, by omega, rfl, by go_num, HB.out⟩
        case measure => simp [intOf]; omega
      · rw [if_neg hc, List.append_nil] at HS
        have hc2 : ¬ (z : Int) + 1 + (q : Int) < (n : Int) := by omega
        have HB := Lib.hid hb.out
        rw [← HS] at HB
        clear hb HS
        go_wp2
        go_roundw
        case rel => exact ⟨q + 1, A, m, c, by omega, rfl, by go_num, HB.out⟩
        case measure => simp [intOf]; omega
    · have hkn : ¬ (q : Int) < (many : Int) := by omega
      obtain rfl : q = many := by omega
      have HB := Lib.hid hb.out
      clear hb
      go_wp2
      go_ret
      have hl := HB.out.len
      rw [List.length_map] at hl
      subst hl
      exact ⟨A, c, rfl, HB.out⟩

theorem mcgate_any {w : World} {b of n : Nat} (h1 : of ≤ 100) (h2 : n ≤ 100) (hb : w.cell? ⟨b, 0, none⟩ = some (.int .i64 (n : Nat))) :
    Calls Tryz.prog 251 #[.int .i64 (of : Nat), .pointer (some ⟨b, 0, none⟩)] w fun e w' => e = .returned (.int .i64 ((n + of : Nat) : Int)) ∧ w = w' := by
  go_enter Tryz.func251, Tryz.ntmps251
  go_wp2
  go_ret
  exact ⟨rfl, rfl⟩

/-- More of a body, and a block that isn't its own. -/
theorem Body.tellX {w wr : World} {A : Option Addr} {n c : Nat} {a : List BOp} (h : Body w A n c (bodyI a) wr) (ha : a.all plainOp = true) (hl : a.length ≤ 100) (x k : Nat) :
    ∃ A' n' c' w', (Builtin.append_ #[89, 89] 89 #[.slice A n c, .slice (some ⟨wr.heap.size, 0, none⟩) 2 2]).run Tryz.prog (wr.alloc (.cells (tellC x k) 95)) = .ok (.slice A' n' c') w' ∧ Body w A' n' c' (bodyI (a ++ [.tell x k])) w' ∧
      ∀ q, q < wr.heap.size → (Value.slice A n c).ownBlock ≠ some q → w'.heap[q]? = wr.heap[q]? ∧ (Value.slice A' n' c').ownBlock ≠ some q := by
  have hn := h.len
  have hb := bodyI_le a
  obtain ⟨i0, hi, hz0, hz1, hz2⟩ := info_parts infoIns
  have hI := inss_lit (w := wr) (cs := tellC x k) (l := tellP x k) (n := 2) rfl rfl (by decide)
  have hbl := h.bel.alloc h.bel.size (.cells (tellC x k) 95)
  obtain ⟨g, c', w', hr, ho, hg, hwh, hlt⟩ := run_append_lies (P := Tryz.prog) (wr.alloc (.cells (tellC x k) 95)) 89 89 w.heap.size 95 i0 (.agg #[.int .i64 0, .int .i64 0, .int .i64 0, .int .i64 0, .int .i64 0]) 5 40 Tryz.underlying89 hi hz0 hz1 hz2 rfl (by decide) (.slice A n c) n _ (h.own.alloc _) ⟨wr.heap.size, 0, none⟩ 2 2 (cells5 (tellP x k)) (by rw [cells5_len]; rfl) (news_of_inss hI) oneCell5 (by decide) (by unfold maxLen; omega) (by omega) hbl.size (wr.heap.size + 1) (by simp)
  refine ⟨some ⟨g, 0, none⟩, n + 2, c', w', hr, ⟨?_, ?_, hbl.grown hg hbl.size (fun k hk => (h.own.lt k hk).1)⟩, fun q hq hne => ⟨?_, ?_⟩⟩
  · rw [← body_tell ha, List.length_append, hn]
    rfl
  · rw [← body_tell ha, cells5_append]
    exact ho
  · have e1 := hg.block q (by simp; omega) (Ne.symm hne)
    rw [e1]
    exact (World.grownBy_alloc wr (.cells (tellC x k) 95) none).block q hq (by simp)
  · intro e
    have e2 : g = q := by injection e
    rcases hwh with h1 | h1
    · rw [h1, e2] at hne
      exact hne rfl
    · omega

set_option maxHeartbeats 4000000 in
theorem Mcbody_any {w : World} {n id : Nat} (n1 : 1 ≤ n) (n16 : n ≤ 16) (hid : id < n) :
    Calls Tryz.prog 227 #[.int .i64 (n : Nat), .int .i64 (id : Nat)] w (BodyOf w (bodyI (mcsOps n id))) := by
  rw [mcs_is n (by omega) id hid]
  have HBl4 := Lib.hid (fun w => mcbelow_any (w := w) (many := 4) n16 hid (by decide))
  have HBl2 := Lib.hid (fun w => mcbelow_any (w := w) (many := 2) n16 hid (by decide))
  have HSA := Lib.hid (fun i h => mcsA_succ (n := n) (id := id) (i := i) h)
  have HSC := Lib.hid (fun i h => mcsC_succ (n := n) (id := id) (i := i) h)
  have HPA := Lib.hid (fun i => And.intro (mcsA_plain n id i) (mcsA_len n id i))
  have HPB := Lib.hid (And.intro (mcsB_plain n id) (mcsB_len n id))
  have HPC := Lib.hid (fun i => And.intro (mcsC_plain n id i) (mcsC_len n id i))
  have HBd := Lib.hid (show mcsB n id = mcsA n id (belowL n id 4 4).length ++ if id = 0 then [] else [.tell id 1, .await (n + id)] from rfl)
  have HC0 := Lib.hid (show mcsC n id 0 = mcsB n id by unfold mcsC; simp)
  have HL4 := Lib.hid (And.intro (belowL_len n id 4 4) (fun c hc => belowL_lt (n := n) (id := id) (many := 4) (q := 4) c hc))
  have HL2 := Lib.hid (And.intro (belowL_len n id 2 2) (fun c hc => belowL_lt (n := n) (id := id) (many := 2) (q := 2) c hc))
  generalize belowL n id 4 4 = L4 at *
  generalize belowL n id 2 2 = L2 at *
  have HB0 := Lib.hid ((Below.refl w.heap.size w).alloc (Nat.le_refl _) (.cells #[.int .i64 (n : Nat)] 3))
  have hat := heap_alloc_new w (.cells #[.int .i64 (n : Nat)] 3)
  have hc0 : (w.alloc (.cells #[.int .i64 (n : Nat)] 3)).cell? ⟨w.heap.size, 0, none⟩ = some (.int .i64 (n : Nat)) := (cell_in hat 0).trans rfl
  have HCn := Lib.hid hc0
  obtain ⟨W1, hW1⟩ : ∃ W1, w.alloc (.cells #[.int .i64 (n : Nat)] 3) = W1 := ⟨_, rfl⟩
  rw [hW1] at HB0 HCn
  have HW1 := Lib.hid hW1
  clear hat hW1 hc0
  go_enter Tryz.func227, Tryz.ntmps227
  go_wp2_with fail
  rw [HW1.out]
  refine (HBl4.out W1).mono ?_
  rintro e w2 ⟨A4, c4, rfl, hr4⟩
  have HB2 := Lib.hid (HB0.out.trans (hr4.bel.mono HB0.out.size))
  have HCn2 := Lib.hid ((World.cell?_of_block (a := ⟨w.heap.size, 0, none⟩) (hr4.bel.block w.heap.size (World.block_lt_of_cell? W1 _ HCn.out))).trans HCn.out)
  have HI4 := Lib.hid (Ints.of_own hr4.own)
  clear hr4 HBl4 HB0 HCn HW1
  have hl4 := HL4.out.1
  obtain ⟨n4, hn4⟩ : ∃ n4, L4.length = n4 := ⟨_, rfl⟩
  rw [hn4] at HI4 HBd hl4
  have HN4 := Lib.hid hn4
  rw [hn4]
  clear hn4
  go_wp2
  go_loopw [5, 15] (fun v j wr => ∃ (q : Nat) (A : Option Addr) (m c : Nat), q ≤ n4 ∧ v = .slice A m c ∧ j = .int .i64 q ∧ Hid (Body w2 A m c (bodyI (mcsA n id q)) wr)) (fun _ j _ => n4 - (intOf j).toNat)
  case atStart => exact ⟨0, none, 0, 0, Nat.zero_le _, rfl, rfl, by rw [show mcsA n id 0 = [] by unfold mcsA; simp]; exact Body.nil w2⟩
  case round =>
    obtain ⟨q, A, m, c, hq, rfl, rfl, hb⟩ := hrel
    by_cases hlt : q < n4
    · have hkn : (q : Int) < (n4 : Int) := by omega
      have hql : q < L4.length := by rw [HN4.out]; exact hlt
      obtain ⟨b, off, hA, _, hx⟩ := (HI4.out.old hb.out.bel).row (by omega)
      subst hA
      have hcell := hx q hlt
      have hxq : (L4.map fun (x : Nat) => (x : Int)).getD q 0 = ((L4.getD q 0 : Nat) : Int) := by
        rw [List.getD_eq_getElem?_getD, List.getElem?_map, List.getD_eq_getElem?_getD, List.getElem?_eq_getElem hql]
        rfl
      rw [hxq] at hcell
      have hxl := HL4.out.2 (L4.getD q 0) (by rw [List.getD_eq_getElem?_getD, List.getElem?_eq_getElem hql]; exact List.getElem_mem hql)
      have HS := HSA.out q hql
      generalize L4.getD q 0 = x at *
      obtain ⟨hp, hl⟩ := HPA.out q
      have hp5 := hb.out.plus (by omega)
      obtain ⟨A1, m1, c1, w3, hr, b1⟩ := hb.out.await hp (by omega) x
      rw [← HS] at b1
      have HR := Lib.hid hr
      have HB := Lib.hid b1
      have HP5 := Lib.hid hp5
      clear hb hr b1 HS hx hxq hp hl hp5
      go_wp2_with fail
      rw [HP5.out]
      refine (pawait_any _ _ _).mono ?_
      rintro e w4 ⟨rfl, rfl⟩
      go_wp2_with (at_builtin; refine Lib.wpList_append_run _ rfl _ _ _ _ rfl _ _ rfl rfl _ _ HR.out ?_)
      go_roundw
      case rel => exact ⟨q + 1, A1, m1, c1, by omega, rfl, by go_num, HB.out⟩
      case measure => simp [intOf]; omega
    · have hkn : ¬ (q : Int) < (n4 : Int) := by omega
      obtain rfl : q = n4 := by omega
      have hcnr := hb.out.cell HCn2.out
      have hB := HBd.out
      clear HI4 HSA HL4 HN4
      by_cases h0 : id = 0
      · rw [if_pos h0, List.append_nil] at hB
        have h0' : ((id : Int) != 0) = false := by simpa using h0
        have HB := Lib.hid hb.out
        rw [← hB] at HB
        clear hb hB h0
        go_wp2_with fail
        refine (HBl2.out _).mono ?_
        rintro e w5 ⟨A2, c2, rfl, hr2⟩
        clear HPA
        have HBk := Lib.hid (HB.out.keep (grown_of_below hr2.bel))
        have HI2 := Lib.hid (Ints.of_own hr2.own)
        have HX0 := Lib.hid (show ∀ ad, A2 = some ad → (Value.slice A m c).ownBlock ≠ some ad.block ∧ ad.block < w5.heap.size from fun ad e => by
          subst e
          have h1 := hr2.own.lt ad.block rfl
          exact ⟨fun h => by have := (HB.out.own.lt ad.block h).2; omega, h1.2⟩)
        have hl2 := HL2.out.1
        obtain ⟨n2, hn2⟩ : ∃ n2, L2.length = n2 := ⟨_, rfl⟩
        rw [hn2] at HI2 hl2
        have HN2 := Lib.hid hn2
        rw [hn2]
        clear hn2 hr2 HB HBl2
        go_wp2
        go_loopw [5, 47] (fun v j wr => ∃ (q : Nat) (A : Option Addr) (m c : Nat), q ≤ n2 ∧ v = .slice A m c ∧ j = .int .i64 q ∧ Hid (Body w2 A m c (bodyI (mcsC n id q)) wr ∧ ∀ ad, A2 = some ad → (Value.slice A m c).ownBlock ≠ some ad.block ∧ wr.heap[ad.block]? = w5.heap[ad.block]? ∧ ad.block < wr.heap.size)) (fun _ j _ => n2 - (intOf j).toNat)
        case atStart => exact ⟨0, A, m, c, Nat.zero_le _, rfl, rfl, by rw [HC0.out]; exact HBk.out, fun ad e => ⟨(HX0.out ad e).1, rfl, (HX0.out ad e).2⟩⟩
        case round =>
          obtain ⟨q2, A, m, c, hq2, rfl, rfl, hb⟩ := hrel
          by_cases hlt2 : q2 < n2
          · have hkn2 : (q2 : Int) < (n2 : Int) := by omega
            have hql : q2 < L2.length := by rw [HN2.out]; exact hlt2
            obtain ⟨b, off, hA, _, hx⟩ := HI2.out.row (by omega)
            obtain ⟨x1, x2, x3⟩ := hb.out.2 _ hA
            have hcell := (World.cell?_of_block (a := ⟨b, off + q2, none⟩) x2).trans (hx q2 hlt2)
            have hxq : (L2.map fun (x : Nat) => (x : Int)).getD q2 0 = ((L2.getD q2 0 : Nat) : Int) := by
              rw [List.getD_eq_getElem?_getD, List.getElem?_map, List.getD_eq_getElem?_getD, List.getElem?_eq_getElem hql]
              rfl
            rw [hxq] at hcell
            have hxl := HL2.out.2 (L2.getD q2 0) (by rw [List.getD_eq_getElem?_getD, List.getElem?_eq_getElem hql]; exact List.getElem_mem hql)
            have HS := HSC.out q2 hql
            generalize L2.getD q2 0 = x at *
            obtain ⟨hp, hl⟩ := HPC.out q2
            have HG := Lib.hid (mcgate_any (of := x) (by omega) (by omega) (hb.out.1.cell HCn2.out))
            obtain ⟨A1, m1, c1, w3, hr, b1, bx⟩ := hb.out.1.tellX hp (by omega) (n + x) 1
            rw [← HS] at b1
            have HR := Lib.hid hr
            have HBX := Lib.hid (And.intro b1 (show ∀ ad, A2 = some ad → (Value.slice A1 m1 c1).ownBlock ≠ some ad.block ∧ w3.heap[ad.block]? = w5.heap[ad.block]? ∧ ad.block < w3.heap.size from fun ad e => by
              obtain ⟨y1, y2, y3⟩ := hb.out.2 ad e
              obtain ⟨z1, z2⟩ := bx ad.block y3 y1
              refine ⟨z2, z1.trans y2, ?_⟩
              have h5 := z1.trans y2
              have h6 := (HX0.out ad e).2
              rcases Nat.lt_or_ge ad.block w3.heap.size with h7 | h7
              · exact h7
              · rw [Array.getElem?_eq_none h7, Array.getElem?_eq_getElem h6] at h5
                cases h5))
            subst hA
            clear hb hr b1 bx HS hx hxq hp hl x1 x2 x3
            go_wp2_with fail
            refine HG.out.mono ?_
            rintro e w4 ⟨rfl, rfl⟩
            go_wp2_with fail
            refine (ptell_any _ _ _).mono ?_
            rintro e w4 ⟨rfl, rfl⟩
            go_wp2_with (at_builtin; refine Lib.wpList_append_run _ rfl _ _ _ _ rfl _ _ rfl rfl _ _ HR.out ?_)
            go_roundw
            case rel => exact ⟨q2 + 1, A1, m1, c1, by omega, rfl, by go_num, HBX.out⟩
            case measure => simp [intOf]; omega
          · have hkn2 : ¬ (q2 : Int) < (n2 : Int) := by omega
            obtain rfl : q2 = n2 := by omega
            have HBB := Lib.hid (hb.out.1.low HB2.out)
            rw [HN2.out]
            clear hb
            go_wp2
            go_ret
            exact HBB.out.of (by rw [HN2.out])
      · rw [if_neg h0] at hB
        have h0' : ((id : Int) != 0) = true := by simpa using h0
        obtain ⟨hp, hl⟩ := HPA.out q
        obtain ⟨A1, m1, c1, w3, hr1, b1⟩ := hb.out.tell hp (by omega) id 1
        have hpl1 : (mcsA n id q ++ [BOp.tell id 1]).all plainOp = true := by rw [List.all_append, hp]; rfl
        have hl2 : (mcsA n id q ++ [BOp.tell id 1]).length ≤ 100 := by rw [List.length_append]; simp; omega
        have HG := Lib.hid (mcgate_any (of := id) (by omega) (by omega) (b1.cell HCn2.out))
        have hp5 := b1.plus hl2
        obtain ⟨A0, m0, c0, w4, hr0, b0⟩ := b1.await hpl1 hl2 (n + id)
        have HB := Lib.hid b0
        have hcn4 := b0.cell HCn2.out
        rw [show mcsA n id q ++ [BOp.tell id 1] ++ [BOp.await (n + id)] = mcsB n id by rw [hB]; simp] at HB
        have HR1 := Lib.hid hr1
        have HR0 := Lib.hid hr0
        have HP5 := Lib.hid hp5
        clear hb hcnr hB h0 hp hl hr1 b1 hpl1 hl2 hp5 hr0 b0
        go_wp2_with fail
        refine (ptell_any _ _ _).mono ?_
        rintro e w5 ⟨rfl, rfl⟩
        go_wp2_with (at_builtin; refine Lib.wpList_append_run _ rfl _ _ _ _ rfl _ _ rfl rfl _ _ HR1.out ?_)
        refine HG.out.mono ?_
        rintro e w5 ⟨rfl, rfl⟩
        go_wp2_with fail
        rw [HP5.out]
        refine (pawait_any _ _ _).mono ?_
        rintro e w5 ⟨rfl, rfl⟩
        go_wp2_with (at_builtin; refine Lib.wpList_append_run _ rfl _ _ _ _ rfl _ _ rfl rfl _ _ HR0.out ?_)
        refine (HBl2.out _).mono ?_
        rintro e w5 ⟨A2, c2, rfl, hr2⟩
        clear HPA
        have HBk := Lib.hid (HB.out.keep (grown_of_below hr2.bel))
        have HI2 := Lib.hid (Ints.of_own hr2.own)
        have HX0 := Lib.hid (show ∀ ad, A2 = some ad → (Value.slice A0 m0 c0).ownBlock ≠ some ad.block ∧ ad.block < w5.heap.size from fun ad e => by
          subst e
          have h1 := hr2.own.lt ad.block rfl
          exact ⟨fun h => by have := (HB.out.own.lt ad.block h).2; omega, h1.2⟩)
        have hl2 := HL2.out.1
        obtain ⟨n2, hn2⟩ : ∃ n2, L2.length = n2 := ⟨_, rfl⟩
        rw [hn2] at HI2 hl2
        have HN2 := Lib.hid hn2
        rw [hn2]
        clear hn2 hr2 HB HBl2
        go_wp2
        go_loopw [5, 47] (fun v j wr => ∃ (q : Nat) (A : Option Addr) (m c : Nat), q ≤ n2 ∧ v = .slice A m c ∧ j = .int .i64 q ∧ Hid (Body w2 A m c (bodyI (mcsC n id q)) wr ∧ ∀ ad, A2 = some ad → (Value.slice A m c).ownBlock ≠ some ad.block ∧ wr.heap[ad.block]? = w5.heap[ad.block]? ∧ ad.block < wr.heap.size)) (fun _ j _ => n2 - (intOf j).toNat)
        case atStart => exact ⟨0, A0, m0, c0, Nat.zero_le _, rfl, rfl, by rw [HC0.out]; exact HBk.out, fun ad e => ⟨(HX0.out ad e).1, rfl, (HX0.out ad e).2⟩⟩
        case round =>
          obtain ⟨q2, A, m, c, hq2, rfl, rfl, hb⟩ := hrel
          by_cases hlt2 : q2 < n2
          · have hkn2 : (q2 : Int) < (n2 : Int) := by omega
            have hql : q2 < L2.length := by rw [HN2.out]; exact hlt2
            obtain ⟨b, off, hA, _, hx⟩ := HI2.out.row (by omega)
            obtain ⟨x1, x2, x3⟩ := hb.out.2 _ hA
            have hcell := (World.cell?_of_block (a := ⟨b, off + q2, none⟩) x2).trans (hx q2 hlt2)
            have hxq : (L2.map fun (x : Nat) => (x : Int)).getD q2 0 = ((L2.getD q2 0 : Nat) : Int) := by
              rw [List.getD_eq_getElem?_getD, List.getElem?_map, List.getD_eq_getElem?_getD, List.getElem?_eq_getElem hql]
              rfl
            rw [hxq] at hcell
            have hxl := HL2.out.2 (L2.getD q2 0) (by rw [List.getD_eq_getElem?_getD, List.getElem?_eq_getElem hql]; exact List.getElem_mem hql)
            have HS := HSC.out q2 hql
            generalize L2.getD q2 0 = x at *
            obtain ⟨hp, hl⟩ := HPC.out q2
            have HG := Lib.hid (mcgate_any (of := x) (by omega) (by omega) (hb.out.1.cell HCn2.out))
            obtain ⟨A1, m1, c1, w3, hr, b1, bx⟩ := hb.out.1.tellX hp (by omega) (n + x) 1
            rw [← HS] at b1
            have HR := Lib.hid hr
            have HBX := Lib.hid (And.intro b1 (show ∀ ad, A2 = some ad → (Value.slice A1 m1 c1).ownBlock ≠ some ad.block ∧ w3.heap[ad.block]? = w5.heap[ad.block]? ∧ ad.block < w3.heap.size from fun ad e => by
              obtain ⟨y1, y2, y3⟩ := hb.out.2 ad e
              obtain ⟨z1, z2⟩ := bx ad.block y3 y1
              refine ⟨z2, z1.trans y2, ?_⟩
              have h5 := z1.trans y2
              have h6 := (HX0.out ad e).2
              rcases Nat.lt_or_ge ad.block w3.heap.size with h7 | h7
              · exact h7
              · rw [Array.getElem?_eq_none h7, Array.getElem?_eq_getElem h6] at h5
                cases h5))
            subst hA
            clear hb hr b1 bx HS hx hxq hp hl x1 x2 x3
            go_wp2_with fail
            refine HG.out.mono ?_
            rintro e w4 ⟨rfl, rfl⟩
            go_wp2_with fail
            refine (ptell_any _ _ _).mono ?_
            rintro e w4 ⟨rfl, rfl⟩
            go_wp2_with (at_builtin; refine Lib.wpList_append_run _ rfl _ _ _ _ rfl _ _ rfl rfl _ _ HR.out ?_)
            go_roundw
            case rel => exact ⟨q2 + 1, A1, m1, c1, by omega, rfl, by go_num, HBX.out⟩
            case measure => simp [intOf]; omega
          · have hkn2 : ¬ (q2 : Int) < (n2 : Int) := by omega
            obtain rfl : q2 = n2 := by omega
            have HBB := Lib.hid (hb.out.1.low HB2.out)
            rw [HN2.out]
            clear hb
            go_wp2
            go_ret
            exact HBB.out.of (by rw [HN2.out])
theorem Mclen {n id : Nat} (n16 : n ≤ 16) (hid : id < n) : (bodyI (mcsOps n id)).length ≤ 1000 := by
  rw [mcs_is n (by omega) id hid]
  have h := bodyI_le (mcsC n id (belowL n id 2 2).length)
  have := mcsC_len n id (belowL n id 2 2).length
  omega

theorem Mccode_any {w : World} {n id rounds : Nat} (d : Dims 6 n rounds) (hid : id < n) : Calls Tryz.prog 196 #[.int .i64 (n : Nat), .int .i64 (id : Nat), .int .i64 (rounds : Nat)] w (CodeOf w rounds (mcsOps n id)) := by
  have HC := Lib.hid (fun w => pcheck_ok (n : Nat) (id : Nat) (rounds : Nat) w (party_of d hid))
  have HB := Lib.hid (Mcbody_any (w := w) d.n1 d.n16 hid)
  have hr := d.r6
  have HLn := Lib.hid (Mclen d.n16 hid)
  clear d
  generalize mcsOps n id = ops at *
  go_enter Tryz.func196, Tryz.ntmps196
  go_wp2_with fail
  refine (HC.out _).mono ?_
  rintro e w1 ⟨rfl, hw⟩
  obtain rfl := hw.symm
  clear hw
  go_wp2_with fail
  refine HB.out.mono ?_
  rintro e w2 ⟨A, c, rfl, hb⟩
  have HW := Lib.hid (whole_of hb (by omega : rounds ≤ 20) HLn.out)
  clear hb HB HC
  generalize (bodyI ops).length = m at *
  go_wp2_with fail
  refine HW.out.mono ?_
  rintro e w3 ⟨A1, c1, rfl, ho, hb⟩
  have HO := Lib.hid ho
  have HB3 := Lib.hid hb
  clear ho hb HW
  go_wp2
  go_ret2
  exact ⟨A1, c1, rfl, HO.out, HB3.out⟩
theorem Mccells_any {w : World} {n : Nat} (n1 : 1 ≤ n) (n16 : n ≤ 16) : Calls Tryz.prog 195 #[.int .i64 (n : Nat)] w fun e w' => e = .returned (.tuple #[.int .i64 (kCells 6 n : Nat), .nilIface]) ∧ w = w' := by
  have HC := Lib.hid (fun w => pcheck_ok (n : Nat) 0 0 w (party_0 n1 n16))
  have hw : wrap64 (2 * (n : Int)) = ((2 * n : Nat) : Int) := by unfold wrap64; omega
  rw [show kCells 6 n = 2 * n from rfl]
  generalize 2 * n = z at *
  go_enter Tryz.func195, Tryz.ntmps195
  go_wp2_with fail
  refine (HC.out _).mono ?_
  rintro e w1 ⟨rfl, h⟩
  obtain rfl := h.symm
  go_wp2
  go_ret2
  refine ⟨?_, rfl⟩
  first
    | (show Ending.returned (.tuple #[.int .i64 (wrap64 (2 * (n : Int))), .nilIface]) = _; rw [hw])
    | (show Ending.returned (.tuple #[.int .i64 (2 * (n : Int)), .nilIface]) = _; rw [show (2 * (n : Int)) = (z : Int) by rw [← hw]; unfold wrap64; omega])
end Go.Proofs.YtgkfhihnfllmhaaGreatDoor
