/-
  Once a round: the gates of Central, Combine and Static are opened just once a round. No conditions.
-/
import Derived.Test.YtmkgmpfpemiaaaaGreatDoorQN2
import Derived.Test.YtmkgmpfpemiaaaaGreatDoorRows
import Derived.Test.YtmkgmpfpemiaaaaGreatDoorCards
import Derived.Test.YtmkgmpfpemiaaaaGreatDoorTie
import Derived.WalkKit
import Derived.ProofKit
import Derived.OpenShut
import Derived.ChangeOld
import Derived.Below
import Derived.ChangeSame
import Derived.ChangeVars
import Derived.JoinedOf
import Derived.RowKitTokens
import Derived.LaidLaws
import Derived.LaidHandle
import Derived.Stop.Joined
import Derived.SevenTiedAt
import Derived.Lib.LaidTab
import Derived.Lib.LaidIn
import Derived.Test.YtmkgmpfpemiaaaaGreatDoorQA
import Derived.ChangeMaps5
import Derived.Test.YtmkgmpfpemiaaaaGreatDoorQM2
import Derived.Test.YtmkgmpfpemiaaaaGreatDoorQE3
import Derived.Test.YtmkgmpfpemiaaaaGreatDoorQE
import Derived.Test.YtmkgmpfpemiaaaaGreatDoorQN
namespace Go.Proofs.YtmkgmpfpemiaaaaGreatDoor
set_option maxRecDepth 100000
open Go.RowKit Go.Shelf Go.Sort
set_option linter.unusedVariables false
set_option linter.unusedSimpArgs false

def oddL (m : Nat) : List Int := (List.range m).map fun i => ((2 * i + 1 : Nat) : Int)
theorem oddL_at {m q : Nat} (h : q < m) : (oddL m).getD q 0 = ((2 * q + 1 : Nat) : Int) := by
  unfold oddL
  rw [List.getD_eq_getElem?_getD, List.getElem?_map, List.getElem?_range h]
  rfl
theorem oddL_succ (m : Nat) : oddL (m + 1) = oddL m ++ [((2 * m + 1 : Nat) : Int)] := by unfold oddL; rw [List.range_succ, List.map_append]; rfl
theorem gates1 {n : Nat} : ∀ q, q < 1 → ∃ g : Nat, ([1] : List Int).getD q 0 = g ∧ g < kCells 1 n ∧ kMono 1 n g = true := fun q hq => by
  obtain rfl : q = 0 := by omega
  exact ⟨1, rfl, (by decide : 1 < 2), mono_low (by decide) (by decide)⟩
theorem gates2 {n nd : Nat} (h : kCells 2 n = 2 * nd) : ∀ q, q < nd → ∃ g : Nat, (oddL nd).getD q 0 = g ∧ g < kCells 2 n ∧ kMono 2 n g = true := fun q hq => ⟨2 * q + 1, oddL_at hq, by omega, mono_low (by decide) (by omega)⟩
theorem gates3 {n : Nat} (n1 : 1 ≤ n) (n16 : n ≤ 16) : ∀ q, q < 1 → ∃ g : Nat, ([(n : Int)] : List Int).getD q 0 = g ∧ g < kCells 3 n ∧ kMono 3 n g = true := fun q hq => by
  obtain rfl : q = 0 := by omega
  exact ⟨n, rfl, Nat.lt_succ_self n, static_gate n1 n16⟩

set_option maxHeartbeats 2000000 in
theorem danceGates_any {w : World} (H : DanceOK) (hw : DW w) (k n rounds : Int) (D : Option Addr) (nm cm : Nat) (l : List (Int × Bool)) (hl : Moves w w.heap.size D nm l) :
    Calls Tryz.prog 11 #[.int .i64 k, .int .i64 n, .int .i64 rounds, .slice D nm cm] w fun e w' => e = .returned (.bool true) ∧ Below w.heap.size w w' := by
  have HDn := Lib.hid (danced_any H hw)
  have HBall := Lib.hid (fun w => ball_is 0 n rounds w)
  have d := ball_dims 0 n rounds
  generalize ballK 0 = k0 at *
  generalize ballN n = n1 at *
  generalize ballR rounds = r1 at *
  obtain ⟨u, hu, _, hK⟩ := pick_nat k 3 (by decide) (by decide)
  have HK := Lib.hid hK
  obtain ⟨k1, hk1⟩ : ∃ k1, k1 = u + 1 := ⟨_, rfl⟩
  have d : Dims k1 n1 r1 := ⟨by omega, by omega, d.n1, d.n16, d.r6⟩
  have HFl := Lib.hid (fun w1 (hb : Below w.heap.size w w1) (h9 : nm ≤ 500) => floor_his (cm := cm) H hw hb d hl (by omega))
  have hn16 := d.n16
  have hr6 := d.r6
  have HD := Lib.hid d
  clear hl d hK
  go_enter Tryz.func11, Tryz.ntmps11
  go_wp2_with fail
  refine HDn.out.mono ?_
  rintro e w1 ⟨rfl, hb1⟩
  have HB1 := Lib.hid hb1
  clear hb1 HDn
  by_cases h9 : 500 < nm
  · have h9' : (500 : Int) < (nm : Int) := by omega
    go_wp2
    go_ret
    exact ⟨rfl, HB1.out⟩
  have h9' : ¬ (500 : Int) < (nm : Int) := by omega
  go_wp2_with fail
  refine (HBall.out _).mono ?_
  rintro e w2 ⟨rfl, rfl⟩
  go_wp2_with fail
  refine (HK.out _).mono ?_
  rintro e w2 ⟨rfl, rfl⟩
  have hat := heap_alloc_new w1 (.cells #[.int .i64 1, .int .i64 2, .int .i64 3] 3)
  have hb2 := HB1.out.alloc HB1.out.size (.cells #[.int .i64 1, .int .i64 2, .int .i64 3] 3)
  have hcell : (w1.alloc (.cells #[.int .i64 1, .int .i64 2, .int .i64 3] 3)).cell? ⟨w1.heap.size, u, none⟩ = some (.int .i64 (k1 : Nat)) := by
    rw [cell_in hat u, hk1]
    rcases (by omega : u = 0 ∨ u = 1 ∨ u = 2) with rfl | rfl | rfl <;> rfl
  generalize w1.alloc (.cells #[.int .i64 1, .int .i64 2, .int .i64 3] 3) = w2 at *
  have hu3 : (u : Int) < 3 := by omega
  have HB2 := Lib.hid hb2
  have hk3 : k1 = 1 ∨ k1 = 2 ∨ k1 = 3 := by omega
  clear hb2 hat HB1 hk1
  go_wp2_with fail
  refine (HFl.out _ HB2.out (by omega)).mono ?_
  rintro e w3 ⟨c, m, p, rfl, hF, hp, hH⟩
  have HF := Lib.hid hF
  have HPk := Lib.hid hp
  have HH := Lib.hid hH
  clear hF HB2 HFl HBall hp hH hcell HK hu3
  go_wp2_with fail
  refine (flo_fin H HD.out HF.out HPk.out).mono ?_
  rintro e w4 ⟨m', rfl, hF4, hE, hfin⟩
  have HF4 := Lib.hid hF4
  have HG := Lib.hid (fun g hg hm => hist_gates (c := g) HD.out HH.out HPk.out hfin hg hm)
  clear hF4 hE hfin HF HH
  generalize ((m'.steps : Int) - (m.steps : Int)) = dd at *
  rcases hk3 with rfl | rfl | rfl
  · go_wp2_with fail
    have HT := Lib.hid (show Flo w c 1 n1 r1 p m' (w4.alloc (.cells #[.int .i64 1] 3)) ∧ Ints .i64 (w4.alloc (.cells #[.int .i64 1] 3)) (w4.alloc (.cells #[.int .i64 1] 3)).heap.size (some ⟨w4.heap.size, 0, none⟩) 1 [1] from
      ⟨HF4.out.grow (grown_a (World.grownBy.refl _ none) _), rfl, fun _ => ⟨_, _, rfl, by simp, fun i hi => by
        obtain rfl : i = 0 := by omega
        exact (cell_in (heap_alloc_new w4 _) _).trans rfl⟩⟩)
    have HGL := Lib.hid (gates1 (n := n1))
    generalize w4.heap.size = b4 at *
    clear HF4
    go_loopw [60] (fun j wr => ∃ q : Nat, q ≤ 1 ∧ j = .int .i64 q ∧ Hid (Flo w c 1 n1 r1 p m' wr ∧ Ints .i64 wr wr.heap.size (some ⟨b4, 0, none⟩) 1 [1])) (fun j _ => 1 - (intOf j).toNat)
    case atStart => exact ⟨0, Nat.zero_le _, rfl, HT⟩
    case round =>
      obtain ⟨q, hq, rfl, hF⟩ := hrel
      by_cases hlt : q < 1
      · have hkn : (q : Int) < (1 : Int) := by omega
        obtain ⟨b, off, hA, _, hx⟩ := hF.out.2.row (by omega)
        have hz := hx q hlt
        obtain ⟨g, hg, hgc, hgm⟩ := HGL.out q hlt
        rw [hg] at hz
        have hst := stores_any hF.out.1 g
        rw [HG.out g hgc hgm] at hst
        have HSt := Lib.hid hst
        have HF5 := Lib.hid hF.out
        cases hA
        rw [Nat.zero_add] at hz
        clear hst hx hg hF HT
        have hrr : ((r1 : Int) != (r1 : Int)) = false := by simp
        go_wp2_with fail
        refine HSt.out.mono ?_
        rintro e w7 ⟨A7, c7, rfl, _, hb7⟩
        have HF7 := Lib.hid (And.intro (HF5.out.1.keep hb7) (HF5.out.2.old hb7))
        clear hb7 HF5 HSt
        go_wp2
        go_roundw
        case rel => exact ⟨q + 1, by omega, by go_num, HF7⟩
        case measure => simp [intOf]; omega
      · have hkn : ¬ (q : Int) < (1 : Int) := by omega
        have HB := Lib.hid hF.out.1.bel
        clear hF HT
        go_wp2
        go_ret
        exact ⟨rfl, HB.out⟩
  · obtain ⟨nd, hnd⟩ : ∃ nd, kCells 2 n1 = 2 * nd := ⟨_, rfl⟩
    have hbd := combine_cells HD.out.n1 HD.out.n16
    rw [hnd] at hbd
    have HND := Lib.hid hnd
    have HF5 := Lib.hid (HF4.out.grow (grown_a (World.grownBy.refl _ none) (.cells #[.int .i64 1] 3)))
    have hcl := HF4.out.dn.clen
    rw [hnd] at hcl
    have HCs := Lib.hid (fun wr (hF : Flo w c 2 n1 r1 p m' wr) => at_cells hF.at_ (by rw [hcl]; omega))
    rw [hcl] at HCs
    clear HF4 hnd hcl
    go_wp2_with fail
    generalize w4.alloc (.cells #[.int .i64 1] 3) = w5 at *
    go_loopw [10, 11] (fun v i wr => ∃ q : Nat, q ≤ nd ∧ i = .int .i64 (2 * (q : Int) + 1) ∧ Hid (wr.ownsRow w5.heap.size 3 1 v q ((oddL q).map (Value.int .i64)) ∧ Below w5.heap.size w5 wr)) (fun _ i _ => 2 * nd + 1 - (intOf i).toNat)
    case atStart => exact ⟨0, Nat.zero_le _, rfl, ⟨World.ownsRow_nil _ _ _ _, Below.refl _ _⟩⟩
    case round =>
      obtain ⟨q, hq, rfl, hO⟩ := hrel
      have HF6 := Lib.hid (HF5.out.keep hO.out.2)
      have HO := Lib.hid hO.out
      clear hO
      go_wp2_with fail
      refine (HCs.out wr HF6.out).mono ?_
      rintro e w6 ⟨A6, c6, rfl, _, hg6⟩
      have HF7 := Lib.hid (HF6.out.grow hg6)
      have HO7 := Lib.hid (And.intro (own_grown HO.out.1 hg6) (HO.out.2.grown hg6 HO.out.2.size (by intro k hk; cases hk)))
      clear hg6 HF6 HO
      by_cases hlt : q < nd
      · have hkn : 2 * (q : Int) + 1 < 2 * (nd : Int) := by omega
        have hw1 : wrap64 (2 * (q : Int) + 1 + 2) = 2 * ((q + 1 : Nat) : Int) + 1 := by unfold wrap64; omega
        obtain ⟨A0, c0, rfl⟩ := slice_of_own2 HO7.out.1
        obtain ⟨i0, hi, hz0, hz1, hz2⟩ := info_parts infoInt
        have hs8 := HO7.out.2.size
        go_wp2_with (at_builtin; refine wpList_append_own_at _ rfl (.tmp 54) (.tmp 56) 43 rfl w5.heap.size 3 i0 (.int .i64 0) 1 8 Tryz.underlying43 hi hz0 hz1 hz2 rfl (by decide) _ q ((oddL q).map (Value.int .i64)) rfl ?hown ⟨w6.heap.size, 0, none⟩ 1 1 [.int .i64 (2 * (q : Int) + 1)] rfl rfl ?c1 ?c2 ?c3 ?c4 ?c5 ?_)
        case hown => exact HO7.out.1.alloc _
        case c1 => exact World.news_of_block (cs := #[.int .i64 (2 * (q : Int) + 1)]) (heap_alloc_new w6 _)
        case c2 => simp [Value.oneCell']
        case c3 => unfold maxLen; omega
        case c4 => omega
        case c5 => simp; omega
        intro v' w7 hown7 hg7 _ hat7
        have hb7 := (HO7.out.2.alloc hs8 (.cells #[.int .i64 (2 * (q : Int) + 1)] 3)).grown hg7 (by simp; omega) (fun k hk => (HO7.out.1.lt k hk).1)
        have e1 : (oddL q).map (Value.int .i64) ++ [Value.int .i64 (2 * (q : Int) + 1)] = (oddL (q + 1)).map (Value.int .i64) := by
          rw [oddL_succ, List.map_append]
          rfl
        rw [e1] at hown7
        have HX7 := Lib.hid (And.intro hown7 hb7)
        clear hown7 hg7 hat7 HO7 hb7 e1 hi hz0 hz1 hz2
        go_wp2
        go_roundw
        case rel => exact ⟨q + 1, by omega, congrArg _ (by omega), HX7⟩
        case measure => simp [intOf]; omega
      · have hkn : ¬ 2 * (q : Int) + 1 < 2 * (nd : Int) := by omega
        have hqn : nd = q := by omega
        subst hqn
        have hpos : (0 : Int) < (nd : Int) := by omega
        obtain ⟨A0, c0, rfl⟩ := slice_of_own2 HO7.out.1
        have HT := Lib.hid (And.intro HF7.out (Ints.of_own HO7.out.1))
        have HGL := Lib.hid (gates2 HND.out)
        clear HO7 HF7
        go_wp2_with fail
        go_loopw [60] (fun j wr => ∃ q : Nat, q ≤ nd ∧ j = .int .i64 q ∧ Hid (Flo w c 2 n1 r1 p m' wr ∧ Ints .i64 wr wr.heap.size A0 nd (oddL nd))) (fun j _ => nd - (intOf j).toNat)
        case atStart => exact ⟨0, Nat.zero_le _, rfl, HT⟩
        case round =>
          obtain ⟨q, hq, rfl, hF⟩ := hrel
          by_cases hlt : q < nd
          · have hkn : (q : Int) < (nd : Int) := by omega
            obtain ⟨b, off, hA, _, hx⟩ := hF.out.2.row (by omega)
            have hz := hx q hlt
            obtain ⟨g, hg, hgc, hgm⟩ := HGL.out q hlt
            rw [hg] at hz
            have hst := stores_any hF.out.1 g
            rw [HG.out g hgc hgm] at hst
            have HSt := Lib.hid hst
            have HF5 := Lib.hid hF.out
            subst hA
            clear hst hx hg hF HT
            have hrr : ((r1 : Int) != (r1 : Int)) = false := by simp
            go_wp2_with fail
            refine HSt.out.mono ?_
            rintro e w7 ⟨A7, c7, rfl, _, hb7⟩
            have HF7 := Lib.hid (And.intro (HF5.out.1.keep hb7) (HF5.out.2.old hb7))
            clear hb7 HF5 HSt
            go_wp2
            go_roundw
            case rel => exact ⟨q + 1, by omega, by go_num, HF7⟩
            case measure => simp [intOf]; omega
          · have hkn : ¬ (q : Int) < (nd : Int) := by omega
            have HB := Lib.hid hF.out.1.bel
            clear hF HT
            go_wp2
            go_ret
            exact ⟨by simp only [decide_eq_true (show 0 < nd by omega)]; rfl, HB.out⟩
  · go_wp2_with fail
    have hs5 : (w4.alloc (.cells #[.int .i64 1] 3)).heap.size = w4.heap.size + 1 := by simp
    have HT := Lib.hid (show Flo w c 3 n1 r1 p m' ((w4.alloc (.cells #[.int .i64 1] 3)).alloc (.cells #[.int .i64 (n1 : Nat)] 3)) ∧ Ints .i64 ((w4.alloc (.cells #[.int .i64 1] 3)).alloc (.cells #[.int .i64 (n1 : Nat)] 3)) ((w4.alloc (.cells #[.int .i64 1] 3)).alloc (.cells #[.int .i64 (n1 : Nat)] 3)).heap.size (some ⟨w4.heap.size + 1, 0, none⟩) 1 [(n1 : Int)] from
      ⟨HF4.out.grow (grown_a (grown_a (World.grownBy.refl _ none) _) _), rfl, fun _ => ⟨_, _, rfl, by simp, fun i hi => by
        obtain rfl : i = 0 := by omega
        rw [← hs5]
        exact (cell_in (heap_alloc_new (w4.alloc (.cells #[.int .i64 1] 3)) _) _).trans rfl⟩⟩)
    have HGL := Lib.hid (gates3 HD.out.n1 HD.out.n16)
    clear hs5
    generalize w4.heap.size + 1 = b4 at *
    clear HF4
    go_loopw [60] (fun j wr => ∃ q : Nat, q ≤ 1 ∧ j = .int .i64 q ∧ Hid (Flo w c 3 n1 r1 p m' wr ∧ Ints .i64 wr wr.heap.size (some ⟨b4, 0, none⟩) 1 [(n1 : Int)])) (fun j _ => 1 - (intOf j).toNat)
    case atStart => exact ⟨0, Nat.zero_le _, rfl, HT⟩
    case round =>
      obtain ⟨q, hq, rfl, hF⟩ := hrel
      by_cases hlt : q < 1
      · have hkn : (q : Int) < (1 : Int) := by omega
        obtain ⟨b, off, hA, _, hx⟩ := hF.out.2.row (by omega)
        have hz := hx q hlt
        obtain ⟨g, hg, hgc, hgm⟩ := HGL.out q hlt
        rw [hg] at hz
        have hst := stores_any hF.out.1 g
        rw [HG.out g hgc hgm] at hst
        have HSt := Lib.hid hst
        have HF5 := Lib.hid hF.out
        cases hA
        rw [Nat.zero_add] at hz
        clear hst hx hg hF HT
        have hrr : ((r1 : Int) != (r1 : Int)) = false := by simp
        go_wp2_with fail
        refine HSt.out.mono ?_
        rintro e w7 ⟨A7, c7, rfl, _, hb7⟩
        have HF7 := Lib.hid (And.intro (HF5.out.1.keep hb7) (HF5.out.2.old hb7))
        clear hb7 HF5 HSt
        go_wp2
        go_roundw
        case rel => exact ⟨q + 1, by omega, by go_num, HF7⟩
        case measure => simp [intOf]; omega
      · have hkn : ¬ (q : Int) < (1 : Int) := by omega
        have HB := Lib.hid hF.out.1.bel
        clear hF HT
        go_wp2
        go_ret
        exact ⟨rfl, HB.out⟩
end Go.Proofs.YtmkgmpfpemiaaaaGreatDoor

namespace Go.Proofs.YtmkgmpfpemiaaaaGreatDoor.danceGates
open Go.ChangeShapes Go.WideShapes Go.ChangeAt Go.RowKit
set_option linter.unusedVariables false

theorem own : ownKnob Tryz.prog.godebug = none := by kernel_rfl
theorem laidOut : laidOutB Tryz.prog = true := by kernel_rfl
theorem tsize : Tryz.prog.types.size = 238 := by kernel_rfl

theorem et : Tryz.prog.globalNamed "errors.errorType" = some 1 := by kernel_rfl
theorem rt : (Tryz.prog.cutTypes.find? (·.1 == "internal/reflectlite.rtype")).map (·.2) = some 191 := by kernel_rfl
theorem oneRow : ((List.range 238).filter fun t => Tryz.prog.rowNamed t [101, 114, 114, 111, 114]) = [29] := by kernel_rfl

/-- What the listed variables give the walk. -/
theorem cw_of {W : World} (h : laidMetH Tryz.prog Rows.danceGatesRow.laid W) : CW W := by
  have h' : laidMet Tryz.prog (Rows.danceGatesRow.laid.filter fun x => x.2.handleName?.isNone) W ∧ handlesMet Tryz.prog (Rows.danceGatesRow.laid.filter fun x => x.2.handleName?.isSome) W := h
  exact cw_of_laid h'.1 (List.mem_filter.2 ⟨.tail _ (.tail _ (.tail _ (.head _))), rfl⟩)
theorem handle_of_laid {W : World} (h : laidMetH Tryz.prog Rows.danceGatesRow.laid W) : ErrVar W := by
  have h' : laidMet Tryz.prog (Rows.danceGatesRow.laid.filter fun x => x.2.handleName?.isNone) W ∧ handlesMet Tryz.prog (Rows.danceGatesRow.laid.filter fun x => x.2.handleName?.isSome) W := h
  obtain ⟨name, u, ty, e1, e2, e3, e4, e5⟩ := h'.2 ("errors.errorType", Rows.laid_errors_errorType) (List.mem_filter.2 ⟨.tail _ (.tail _ (.head _)), rfl⟩)
  have en : name = [101, 114, 114, 111, 114] := (Option.some.inj e1).symm
  subst en
  obtain rfl := Option.some.inj (rt.symm.trans e2)
  have hm : ty ∈ (List.range 238).filter fun t => Tryz.prog.rowNamed t [101, 114, 114, 111, 114] := List.mem_filter.2 ⟨List.mem_range.2 (by rw [← tsize]; exact e3), e4⟩
  rw [oneRow] at hm
  obtain rfl := List.mem_singleton.1 hm
  have hh : typeHandle Tryz.prog 29 = .pointer (some ⟨4, 29, none⟩) := by kernel_rfl
  rw [hh] at e5
  have := World.var?_cell et e5 0
  unfold ErrVar
  simpa using this
theorem tz_of {W : World} (h : laidMetH Tryz.prog Rows.danceGatesRow.laid W) : TzVar W := by
  have h' : laidMet Tryz.prog (Rows.danceGatesRow.laid.filter fun x => x.2.handleName?.isNone) W ∧ handlesMet Tryz.prog (Rows.danceGatesRow.laid.filter fun x => x.2.handleName?.isSome) W := h
  exact tz_of_laid h'.1 (List.mem_filter.2 ⟨.tail _ (.head _), rfl⟩)

/-- So many blocks has the settled world. -/
noncomputable def low : Nat := (World.holding Tryz.prog default ⟨#[], #[], []⟩).heap.size
def put (o : Obj) (cs : Array Value) : Obj := match o with
  | .cells _ t frozen => .cells cs t frozen
  | o => o
def tab (k : IntKind) (zs : List Int) : Array Value := (zs.map fun z => Value.int k z).toArray
/-- A world that meets the condition. -/
noncomputable def laidWorld (os : Os) : World :=
  let w0 := World.holding Tryz.prog os ⟨#[], #[], []⟩
  { w0 with heap := ((((w0.heap.modify 1 (put · #[.iface 191 (.agg #[.pointer (some ⟨4, 29, none⟩)])])).modify 0 (put · formCells)).modify 2 (put · (tab .u8 [0, 1, 28, 2, 29, 14, 24, 3, 30, 22, 20, 15, 25, 17, 4, 8, 31, 27, 13, 23, 21, 19, 16, 7, 26, 12, 18, 6, 11, 5, 10, 9]))).modify 3 (put · (tab .u8 [0, 1, 56, 2, 57, 49, 28, 3, 61, 58, 42, 50, 38, 29, 17, 4, 62, 47, 59, 36, 45, 43, 51, 22, 53, 39, 33, 30, 24, 18, 12, 5, 63, 55, 48, 27, 60, 41, 37, 16, 46, 35, 44, 21, 52, 32, 23, 11, 54, 26, 40, 15, 34, 20, 31, 10, 25, 14, 19, 9, 13, 8, 7, 6]))) }
theorem laidWorld_met (os : Os) (args : Array Value) : laidMetH Tryz.prog Rows.danceGatesRow.laid ((laidWorld os).forCall (fun _ _ => 0) ⟨#[], args, []⟩).memory :=
  laidMetH_of_parts (LaidIn.of_run [0, 2, 3] 8 (by kernel_rfl) (by kernel_rfl) (by kernel_rfl) (by kernel_rfl)).met (by kernel_rfl)

/-- The walk. -/
theorem walk (a0 : Int) (a1 : Int) (a2 : Int) (a3 : Option Addr) (len3 cap3 : Nat) (nods3 : List (Int × Bool)) (w : World) (hw : CW w) (hg : ErrVar w) (ht : TzVar w) (N3 : Moves w w.heap.size a3 len3 nods3) (I3 : True) :
    Calls Tryz.prog 11 #[.int .i64 a0, .int .i64 a1, .int .i64 a2, .slice a3 len3 cap3] w fun e w' => e = .returned (.bool true) ∧ Below w.heap.size w w' := by
  exact danceGates_any danceOK ⟨hw, hg, ht⟩ a0 a1 a2 a3 len3 cap3 nods3 N3

set_option maxRecDepth 100000 in
theorem lifted (os : Os) (started : os.Started) (H : Type) (enc : TypeId × Value → H) :
    ReturnsInHanded {} Tryz.checked os 11 .any (fun w args => (Rows.danceGatesSpec.pre enc Tryz.prog Tryz.f11 [] false w args ∧ laidMetH Tryz.prog Rows.danceGatesRow.laid w) ∧ sizedMet enc Tryz.prog Tryz.f11 (OpenSpec.ofChange Rows.danceGatesSpec) false w args)
      (Rows.danceGatesSpec.post enc Tryz.prog Tryz.f11 false true false false) := by
  refine returnsInHanded_of_change_and (C := Tryz.checked) (X := fun w _ => laidMetH Tryz.prog Rows.danceGatesRow.laid w) (fun _ _ _ hh h => h.of_heap hh) own started (by kernel_rfl) Tryz.func11
    (ChangeSpec.witness_at (enc := enc) (C := Tryz.checked) (os := os) (X := fun w _ => laidMetH Tryz.prog Rows.danceGatesRow.laid w) false (laidWorld os) #[.int .i64 0, .int .i64 0, .int .i64 0, .slice none 0 0] 8 rfl (by kernel_rfl) (by kernel_rfl) (by kernel_rfl) (by kernel_rfl) (by kernel_rfl) (laidWorld_met os _)) ?_
  intro W base args ds gs before hval0 hW _ _ hL _
  have hval : ∀ (j : Nat) t v, Tryz.f11.params[j]? = some t → args[j]? = some v → Value.okWide Tryz.prog W .any base t v := hval0
  have hW' := hW
  obtain ⟨p, q, hA0, hV0, rfl, hfz, hnd⟩ := hW
  have hA : DataW.TrodAll enc Tryz.prog W 0 (fun _ => true) true Tryz.f11.params.toList args.toList ds p := hA0
  have hV : DataW.TrodVars enc Tryz.prog W (fun _ => true) [] gs q := hV0
  rw [Tryz.params11] at hA hval
  obtain ⟨v0, vs0, d0, ds0, p0, q0, hargs, rfl, rfl, h0, r0⟩ := trodAll_cons hA
  obtain ⟨v1, vs1, d1, ds1, p1, q1, rfl, rfl, rfl, h1, r1⟩ := trodAll_cons r0
  obtain ⟨v2, vs2, d2, ds2, p2, q2, rfl, rfl, rfl, h2, r2⟩ := trodAll_cons r1
  obtain ⟨v3, vs3, d3, ds3, p3, q3, rfl, rfl, rfl, h3, r3⟩ := trodAll_cons r2
  obtain ⟨rfl, rfl, rfl⟩ := trodAll_nil r3
  obtain rfl : args = #[v0, v1, v2, v3] := by cases args; simp_all
  obtain ⟨rfl, rfl⟩ : gs = [] ∧ q = [] := by
    cases gs with
    | nil => exact ⟨rfl, hV⟩
    | cons g r => exact absurd hV (by intro h; cases h)
  obtain ⟨a0, rfl, rfl, rfl, w0⟩ := open_int Tryz.underlying3 (hval 0 3 v0 rfl rfl) h0
  obtain ⟨a1, rfl, rfl, rfl, w1⟩ := open_int Tryz.underlying3 (hval 1 3 v1 rfl rfl) h1
  obtain ⟨a2, rfl, rfl, rfl, w2⟩ := open_int Tryz.underlying3 (hval 2 3 v2 rfl rfl) h2
  obtain ⟨a3, len3, cap3, rfl⟩ := okWide_slice Tryz.underlying22 (hval 3 22 v3 rfl rfl)
  have k3 := h3
  have lt3 : ∀ x ∈ p3, x.block < W.heap.size := by obtain ⟨m, hm⟩ := k3; exact DataW.trod_lt m _ _ _ hm
  obtain ⟨nods3, N3, I3⟩ : ∃ nods, Moves W W.heap.size a3 len3 nods ∧ True := by
    obtain ⟨fuel, hf⟩ := h3
    obtain ⟨l, hl⟩ := moves_of (a := a3) (len := len3) (cap := cap3) hf; exact ⟨l, hl, trivial⟩
  have hw := cw_of hL
  have hg := handle_of_laid hL
  have ht := tz_of hL
  clear hA0 hval0
  refine (walk a0 a1 a2 a3 len3 cap3 nods3 W hw hg ht N3 I3).mono fun e W' ⟨he, bel⟩ => ?_
  subst he
  exact ⟨_, rfl, _, _, _, [], _, [], hW', trodAll_mk1 (shut_bool Tryz.underlying4 _), (trodAll_cons_mk (shut_int Tryz.underlying3 w0) (trodAll_cons_mk (shut_int Tryz.underlying3 w1) (trodAll_cons_mk (shut_int Tryz.underlying3 w2) (trodAll_cons_mk (Below.trod laidOut (by kernel_rfl) (of_decide_eq_true (by kernel_rfl)) k3 bel lt3) trodAll_mk0)))), rfl, bel.frame _, fun h => by cases h⟩

theorem over : Rows.DanceGatesSaid :=
  OpenClaim.holds_of_wide 11 Tryz.f11 rfl rfl rfl rfl rfl rfl rfl ⟨rfl, rfl, rfl, rfl, rfl⟩ rfl rfl rfl rfl rfl (by kernel_rfl) Tryz.func11 (by kernel_rfl)
    (of_decide_eq_true (by kernel_rfl)) (by unfold Func.isWrapper; first | (rw [if_pos (by decide +kernel)]; kernel_rfl) | (rw [if_neg (by decide +kernel)]; exact ⟨rfl, rfl⟩))
    (fun os started H enc _ => lifted os started H enc)

/-- The given statement: the tied card. -/
theorem proved : Rows.DanceGatesCardSaid :=
  Claim7.holds_tied_plain_at .later [] [.data, .data, .handle, .data] true (true, "249a662f9a3a8032d6ea0f3d6c35fd3df0894eb53275f03e084101a5f9d50289") true
    over (fun _ h => by cases h) (by kernel_rfl) (fun _ h => by cases h) danceGates_row_tie rfl ⟨rfl, rfl⟩ (by kernel_rfl) rfl
    (fun f fn hf hfn => by
      obtain rfl : f = 11 := Option.some.inj ((show Tryz.prog.funcNamed "quadrille/quadrillekeep.DanceGates" = some 11 by kernel_rfl).symm.trans hf) |>.symm
      obtain rfl : fn = Tryz.f11 := (Option.some.inj (Tryz.func11.symm.trans hfn)).symm
      refine ⟨by kernel_rfl, fun j t ht => ?_⟩
      rw [Tryz.params11] at ht
      have hm : t ∈ [3, 3, 3, 22] := by
        have := Array.mem_of_getElem? ht
        simpa using this
      have hall : ([3, 3, 3, 22].all fun u => !Tryz.prog.wantsStandIn u) = true := by kernel_rfl
      exact (show Tryz.prog.wantsStandIn t = false by simpa using List.all_eq_true.1 hall t hm))
    (by kernel_rfl)
#print axioms proved
end Go.Proofs.YtmkgmpfpemiaaaaGreatDoor.danceGates
