/-
  Children first: in Static and Mcs nobody tells that it came ahead of all who come to it. No conditions.
-/
import Derived.Test.YtmkgmpfpemiaaaaGreatDoorQN2
import Derived.Test.YtmkgmpfpemiaaaaGreatDoorRows
import Derived.Test.YtmkgmpfpemiaaaaGreatDoorCards
import Derived.Test.YtmkgmpfpemiaaaaGreatDoorTie
import Derived.WalkKit
import Derived.ProofKit
import Derived.OpenShut
import Derived.ChangeOld
import Derived.Below
import Derived.ChangeSame
import Derived.ChangeVars
import Derived.JoinedOf
import Derived.RowKitTokens
import Derived.LaidLaws
import Derived.LaidHandle
import Derived.Stop.Joined
import Derived.SevenTiedAt
import Derived.Lib.LaidTab
import Derived.Lib.LaidIn
import Derived.Test.YtmkgmpfpemiaaaaGreatDoorQA
import Derived.ChangeMaps5
import Derived.Test.YtmkgmpfpemiaaaaGreatDoorQM2
import Derived.Test.YtmkgmpfpemiaaaaGreatDoorQE3
import Derived.Test.YtmkgmpfpemiaaaaGreatDoorQE
import Derived.Test.YtmkgmpfpemiaaaaGreatDoorQN
namespace Go.Proofs.YtmkgmpfpemiaaaaGreatDoor
set_option maxRecDepth 100000
open Go.RowKit Go.Shelf Go.Sort
set_option linter.unusedVariables false
set_option linter.unusedSimpArgs false

def chkUps (k f n : Nat) : Bool := (List.range n).all fun b => b == 0 || (decide (b < kCells k n) && kMono k n b && (List.range n).all fun a => !(decide (f * b + 1 ≤ a) && decide (a ≤ f * b + f)) || kOrd k n a b)
theorem ups_chk3 : ((List.range 17).all fun n => chkUps 3 2 n) = true := by decide +kernel
theorem ups_chk6 : ((List.range 17).all fun n => chkUps 6 4 n) = true := by decide +kernel
theorem ups_is {k f n : Nat} (h : (k = 3 ∧ f = 2) ∨ (k = 6 ∧ f = 4)) (n16 : n ≤ 16) : ∀ b, 1 ≤ b → b < n → b < kCells k n ∧ kMono k n b = true ∧ ∀ a, a < n → f * b + 1 ≤ a → a ≤ f * b + f → kOrd k n a b = true := by
  have H : chkUps k f n = true := by
    rcases h with ⟨rfl, rfl⟩ | ⟨rfl, rfl⟩
    · have := ups_chk3
      rw [List.all_eq_true] at this
      exact this n (List.mem_range.2 (by omega))
    · have := ups_chk6
      rw [List.all_eq_true] at this
      exact this n (List.mem_range.2 (by omega))
  intro b b1 bn
  unfold chkUps at H
  rw [List.all_eq_true] at H
  have := H b (List.mem_range.2 bn)
  rw [Bool.or_eq_true, Bool.and_eq_true, Bool.and_eq_true, decide_eq_true_eq, List.all_eq_true] at this
  rcases this with h0 | ⟨⟨h1, h2⟩, h3⟩
  · have : b = 0 := by simpa using h0
    omega
  · refine ⟨h1, h2, fun a an a1 a2 => ?_⟩
    have := h3 a (List.mem_range.2 an)
    rw [Bool.or_eq_true, Bool.not_eq_true', Bool.and_eq_false_iff] at this
    rcases this with (h4 | h4) | h4
    · exact absurd a1 (by simpa using h4)
    · exact absurd a2 (by simpa using h4)
    · exact h4

set_option maxHeartbeats 2000000 in
theorem danceUp_any {w : World} (H : DanceOK) (hw : DW w) (k n rounds : Int) (D : Option Addr) (nm cm : Nat) (l : List (Int × Bool)) (hl : Moves w w.heap.size D nm l) :
    Calls Tryz.prog 12 #[.int .i64 k, .int .i64 n, .int .i64 rounds, .slice D nm cm] w fun e w' => e = .returned (.bool true) ∧ Below w.heap.size w w' := by
  have HDn := Lib.hid (danced_any H hw)
  have HBall := Lib.hid (fun w => ball_is 0 n rounds w)
  have d := ball_dims 0 n rounds
  generalize ballK 0 = k0 at *
  generalize ballN n = n1 at *
  generalize ballR rounds = r1 at *
  obtain ⟨u, hu, _, hK⟩ := pick_nat k 2 (by decide) (by decide)
  have HK := Lib.hid hK
  obtain ⟨k1, f, hkf, hk1, hf1⟩ : ∃ k1 f : Nat, ((k1 = 3 ∧ f = 2) ∨ (k1 = 6 ∧ f = 4)) ∧ (k1 = if u = 0 then 3 else 6) ∧ (f = if u = 0 then 2 else 4) := by
    by_cases hu0 : u = 0
    · exact ⟨3, 2, .inl ⟨rfl, rfl⟩, by rw [if_pos hu0], by rw [if_pos hu0]⟩
    · exact ⟨6, 4, .inr ⟨rfl, rfl⟩, by rw [if_neg hu0], by rw [if_neg hu0]⟩
  have d : Dims k1 n1 r1 := ⟨by omega, by omega, d.n1, d.n16, d.r6⟩
  have HFl := Lib.hid (fun w1 (hb : Below w.heap.size w w1) (h9 : nm ≤ 500) => floor_his (cm := cm) H (hw.old hb) (Below.refl _ _) d (hl.old hb) (by omega))
  have hn16 := d.n16
  have hr6 := d.r6
  have HU := Lib.hid (ups_is hkf hn16)
  have HA := Lib.hid (fun a (a1 : 1 ≤ a) (an : a < n1) => (show a < kCells k1 n1 ∧ kMono k1 n1 a = true from ⟨(ups_is hkf hn16 a a1 an).1, (ups_is hkf hn16 a a1 an).2.1⟩))
  have hf4 : f ≤ 4 := by omega
  have HD := Lib.hid d
  clear hl d hK hkf
  go_enter Tryz.func12, Tryz.ntmps12
  go_wp2_with fail
  refine HDn.out.mono ?_
  rintro e w1 ⟨rfl, hb1⟩
  have HB1 := Lib.hid hb1
  clear hb1 HDn
  by_cases h9 : 500 < nm
  · have h9' : (500 : Int) < (nm : Int) := by omega
    go_wp2
    go_ret
    exact ⟨rfl, HB1.out⟩
  have h9' : ¬ (500 : Int) < (nm : Int) := by omega
  go_wp2_with fail
  refine (HBall.out _).mono ?_
  rintro e w2 ⟨rfl, rfl⟩
  go_wp2_with fail
  refine (HK.out _).mono ?_
  rintro e w2 ⟨rfl, rfl⟩
  have hs1 : (w1.alloc (.cells #[.int .i64 3, .int .i64 6] 3)).heap.size = w1.heap.size + 1 := by simp
  have hat1 := (Below.heap_alloc (w1.alloc (.cells #[.int .i64 3, .int .i64 6] 3)) (.cells #[.int .i64 2, .int .i64 4] 3) w1.heap.size (by omega)).trans (heap_alloc_new w1 (.cells #[.int .i64 3, .int .i64 6] 3))
  have hat2 := heap_alloc_new (w1.alloc (.cells #[.int .i64 3, .int .i64 6] 3)) (.cells #[.int .i64 2, .int .i64 4] 3)
  rw [hs1] at hat2
  have hb2 := (HB1.out.alloc HB1.out.size (.cells #[.int .i64 3, .int .i64 6] 3)).alloc (by have := HB1.out.size; omega) (.cells #[.int .i64 2, .int .i64 4] 3)
  generalize (w1.alloc (.cells #[.int .i64 3, .int .i64 6] 3)).alloc (.cells #[.int .i64 2, .int .i64 4] 3) = w2 at *
  have hcell1 : w2.cell? ⟨w1.heap.size, u, none⟩ = some (.int .i64 (k1 : Nat)) := by
    rw [cell_in hat1 u, hk1]
    rcases (by omega : u = 0 ∨ u = 1) with rfl | rfl <;> rfl
  have hcell2 : w2.cell? ⟨w1.heap.size + 1, u, none⟩ = some (.int .i64 (f : Nat)) := by
    rw [cell_in hat2 u, hf1]
    rcases (by omega : u = 0 ∨ u = 1) with rfl | rfl <;> rfl
  have hu2 : (u : Int) < 2 := by omega
  have HB2 := Lib.hid hb2
  have hs2 : w1.heap.size + 1 < w2.heap.size := World.block_lt_of_cell? w2 _ hcell2
  have HCf := Lib.hid (fun (w4 : World) (hb : Below w2.heap.size w2 w4) => (hb.cell (p := ⟨w1.heap.size + 1, u, none⟩) hs2).trans hcell2)
  clear hb2 hat1 hat2 HB1 hs1 hk1 hf1 hs2
  generalize w1.heap.size + 1 = b2 at *
  go_wp2_with fail
  refine (HFl.out _ HB2.out (by omega)).mono ?_
  rintro e w3 ⟨c, m, p, rfl, hF, hp, hH⟩
  have HF := Lib.hid hF
  have HPk := Lib.hid hp
  have HH := Lib.hid hH
  clear hF HFl HBall hp hH hcell1 hcell2 HK
  go_wp2_with fail
  refine (flo_fin H HD.out HF.out HPk.out).mono ?_
  rintro e w4 ⟨m', rfl, hF4, hE, hfin⟩
  have HF4 := Lib.hid hF4
  have HG := Lib.hid (fun g hg hm => hist_gates (c := g) HD.out HH.out HPk.out hfin hg hm)
  have HO := Lib.hid (fun a b hab => hist_ord (a := a) (b := b) HD.out HH.out HPk.out hfin hab)
  clear hF4 hE hfin HF HH
  generalize ((m'.steps : Int) - (m.steps : Int)) = dd at *
  have hn1 := HD.out.n1
  go_wp2
  go_loopw [12, 13, 14, 15, 16] (fun j _ _ _ _ wr => ∃ b : Nat, 1 ≤ b ∧ b ≤ n1 ∧ j = .int .i64 b ∧ Hid (Flo w2 c k1 n1 r1 p m' wr)) (fun j _ _ _ _ _ => n1 - (intOf j).toNat)
  case atStart => exact ⟨1, Nat.le_refl _, hn1, rfl, HF4⟩
  case round =>
    obtain ⟨b, b1, hbn, rfl, hF⟩ := hrel
    by_cases hlt : b < n1
    · have hkn : (b : Int) < (n1 : Int) := by omega
      obtain ⟨hbc, hbm, hord⟩ := HU.out b b1 hlt
      have hst := stores_any hF.out b
      rw [HG.out b hbc hbm] at hst
      have HSt := Lib.hid hst
      have HL := Lib.hid (HG.out b hbc hbm)
      have HOrd := Lib.hid hord
      have HF5 := Lib.hid hF.out
      have hcf := HCf.out wr hF.out.bel
      clear hst hF hord hbc hbm HF4
      have hrr : ((r1 : Int) != (r1 : Int)) = false := by simp
      go_wp2_with fail
      refine HSt.out.mono ?_
      rintro e w5 ⟨A5, c5, rfl, ho5, hb5⟩
      have HF6 := Lib.hid (HF5.out.keep hb5)
      have HI5 := Lib.hid (Ints.of_own ho5)
      have hcf := HCf.out w5 HF6.out.bel
      obtain ⟨z, hz⟩ : ∃ z, f * b = z := ⟨_, rfl⟩
      have hz2 : z ≤ 4 * 16 := by rw [← hz]; exact Nat.mul_le_mul hf4 (by omega)
      have hw1 : wrap64 ((f : Int) * (b : Int)) = (z : Int) := by rw [← Int.natCast_mul, hz]; unfold wrap64; omega
      rw [hz] at HOrd
      clear ho5 hb5 HF5 HSt hz
      go_wp2
      go_loopw [14, 15, 16] (fun j _ _ wr => ∃ a : Nat, z + 1 ≤ a ∧ a ≤ z + f + 1 ∧ j = .int .i64 a ∧ Hid (Flo w2 c k1 n1 r1 p m' wr ∧ Ints .i64 wr wr.heap.size A5 r1 (st7 m'.acts b))) (fun j _ _ _ => z + f + 1 - (intOf j).toNat)
      case atStart => exact ⟨z + 1, Nat.le_refl _, by omega, congrArg _ (by omega), ⟨HF6.out, HI5.out⟩⟩
      case round =>
        obtain ⟨a, a1, a2, rfl, hI⟩ := hrel
        have hcf := HCf.out wr hI.out.1.bel
        by_cases h1 : a ≤ z + f
        · have h1' : (a : Int) ≤ (z : Int) + (f : Int) := by omega
          by_cases h2 : a < n1
          · have h2' : (a : Int) < (n1 : Int) := by omega
            have HG6 := Lib.hid (fun q => And.intro (hI.out.1.grow (grown_drewF wr q)) (hI.out.2.oldF (grown_belF (grown_drewF wr q))))
            clear hI HF6 HI5
            go_wp2
            go_quiet (fail)
            have HI6 := Lib.hid (HG6.out nq)
            clear HG6 hcf
            generalize wr.drewN nq = wq at *
            obtain ⟨hac, ham⟩ := HA.out a (by omega) h2
            have hst := stores_any HI6.out.1 a
            rw [HG.out a hac ham] at hst
            have HSt := Lib.hid hst
            have HL2 := Lib.hid (HG.out a hac ham)
            have hbf := HO.out a b (HOrd.out a h2 a1 h1)
            unfold Before at hbf
            rw [HL.out] at hbf
            have HBf := Lib.hid hbf
            clear hst hac ham hbf
            go_wp2_with fail
            refine HSt.out.mono ?_
            rintro e w7 ⟨A7, c7, rfl, ho7, hb7⟩
            have HI7 := Lib.hid (And.intro (HI6.out.1.keep hb7) (And.intro (HI6.out.2.oldF hb7) (Ints.of_own ho7)))
            have HO7 := Lib.hid ho7
            clear ho7 hb7 HI6 HSt
            go_wp2
            go_loopw [16, 93] (fun _ j wr => ∃ i : Nat, i ≤ r1 ∧ j = .int .i64 i ∧ Hid (Flo w2 c k1 n1 r1 p m' wr ∧ Ints .i64 wr wr.heap.size A5 r1 (st7 m'.acts b) ∧ Ints .i64 wr wr.heap.size A7 r1 (st7 m'.acts a))) (fun _ j _ => r1 - (intOf j).toNat)
            case atStart => exact ⟨0, Nat.zero_le _, rfl, HI7⟩
            case round =>
              obtain ⟨i, hi, rfl, hJ⟩ := hrel
              by_cases hir : i < r1
              · have hir' : (i : Int) < (r1 : Int) := by omega
                obtain ⟨g5, o5, rfl, _, hx⟩ := hJ.out.2.1.row (by omega)
                obtain ⟨g7, o7, rfl, _, hy⟩ := hJ.out.2.2.row (by omega)
                have hx5 := hx i hir
                have hy7 := hy i hir
                have hlt2 := HBf.out i hir
                generalize (st7 m'.acts b).getD i 0 = x at *
                generalize (st7 m'.acts a).getD i 0 = y at *
                have hge : ¬ x ≤ y := by omega
                have HG8 := Lib.hid (fun q => And.intro (hJ.out.1.grow (grown_drewF wr q)) (And.intro (hJ.out.2.1.oldF (grown_belF (grown_drewF wr q))) (hJ.out.2.2.oldF (grown_belF (grown_drewF wr q)))))
                clear hx hy hJ HI7 HO7
                go_wp2
                go_quiet (fail)
                go_wp2
                go_roundw
                case rel => exact ⟨i + 1, by omega, by go_num, Lib.hid (HG8.out _)⟩
                case measure => simp [intOf]; omega
              · have hir' : ¬ (i : Int) < (r1 : Int) := by omega
                have HI8 := Lib.hid (And.intro hJ.out.1 hJ.out.2.1)
                clear hJ HI7 HO7
                go_wp2
                go_roundw
                case rel => exact ⟨a + 1, by omega⟩
                case measure => simp [intOf]; omega
          · have h2' : ¬ (a : Int) < (n1 : Int) := by omega
            have HF7 := Lib.hid (fun q => hI.out.1.grow (grown_drewF wr q))
            clear hI HF6 HI5
            go_wp2
            go_quiet (fail)
            go_wp2
            go_roundw
            case rel => exact ⟨b + 1, by omega, by omega, by go_num, HF7.out _⟩
            case measure => simp [intOf]; omega
        · have h1' : ¬ (a : Int) ≤ (z : Int) + (f : Int) := by omega
          have HF7 := Lib.hid (fun q => hI.out.1.grow (grown_drewF wr q))
          have hd1 : decide ((a : Int) ≤ (z : Int) + (f : Int)) = false := decide_eq_false h1'
          clear hI HF6 HI5
          go_wp2
          go_quiet (fail)
          go_wp2
          go_roundw
          case rel => exact ⟨b + 1, by omega, by omega, by go_num, HF7.out _⟩
          case measure => simp [intOf]; omega
    · have hkn : ¬ (b : Int) < (n1 : Int) := by omega
      have HB := Lib.hid (HB2.out.trans (hF.out.bel.mono HB2.out.size))
      clear hF HF4
      go_wp2
      go_ret
      exact ⟨rfl, HB.out⟩
end Go.Proofs.YtmkgmpfpemiaaaaGreatDoor

namespace Go.Proofs.YtmkgmpfpemiaaaaGreatDoor.danceUp
open Go.ChangeShapes Go.WideShapes Go.ChangeAt Go.RowKit
set_option linter.unusedVariables false

theorem own : ownKnob Tryz.prog.godebug = none := by kernel_rfl
theorem laidOut : laidOutB Tryz.prog = true := by kernel_rfl
theorem tsize : Tryz.prog.types.size = 238 := by kernel_rfl

theorem et : Tryz.prog.globalNamed "errors.errorType" = some 1 := by kernel_rfl
theorem rt : (Tryz.prog.cutTypes.find? (·.1 == "internal/reflectlite.rtype")).map (·.2) = some 191 := by kernel_rfl
theorem oneRow : ((List.range 238).filter fun t => Tryz.prog.rowNamed t [101, 114, 114, 111, 114]) = [29] := by kernel_rfl

/-- What the listed variables give the walk. -/
theorem cw_of {W : World} (h : laidMetH Tryz.prog Rows.danceUpRow.laid W) : CW W := by
  have h' : laidMet Tryz.prog (Rows.danceUpRow.laid.filter fun x => x.2.handleName?.isNone) W ∧ handlesMet Tryz.prog (Rows.danceUpRow.laid.filter fun x => x.2.handleName?.isSome) W := h
  exact cw_of_laid h'.1 (List.mem_filter.2 ⟨.tail _ (.tail _ (.tail _ (.head _))), rfl⟩)
theorem handle_of_laid {W : World} (h : laidMetH Tryz.prog Rows.danceUpRow.laid W) : ErrVar W := by
  have h' : laidMet Tryz.prog (Rows.danceUpRow.laid.filter fun x => x.2.handleName?.isNone) W ∧ handlesMet Tryz.prog (Rows.danceUpRow.laid.filter fun x => x.2.handleName?.isSome) W := h
  obtain ⟨name, u, ty, e1, e2, e3, e4, e5⟩ := h'.2 ("errors.errorType", Rows.laid_errors_errorType) (List.mem_filter.2 ⟨.tail _ (.tail _ (.head _)), rfl⟩)
  have en : name = [101, 114, 114, 111, 114] := (Option.some.inj e1).symm
  subst en
  obtain rfl := Option.some.inj (rt.symm.trans e2)
  have hm : ty ∈ (List.range 238).filter fun t => Tryz.prog.rowNamed t [101, 114, 114, 111, 114] := List.mem_filter.2 ⟨List.mem_range.2 (by rw [← tsize]; exact e3), e4⟩
  rw [oneRow] at hm
  obtain rfl := List.mem_singleton.1 hm
  have hh : typeHandle Tryz.prog 29 = .pointer (some ⟨4, 29, none⟩) := by kernel_rfl
  rw [hh] at e5
  have := World.var?_cell et e5 0
  unfold ErrVar
  simpa using this
theorem tz_of {W : World} (h : laidMetH Tryz.prog Rows.danceUpRow.laid W) : TzVar W := by
  have h' : laidMet Tryz.prog (Rows.danceUpRow.laid.filter fun x => x.2.handleName?.isNone) W ∧ handlesMet Tryz.prog (Rows.danceUpRow.laid.filter fun x => x.2.handleName?.isSome) W := h
  exact tz_of_laid h'.1 (List.mem_filter.2 ⟨.tail _ (.head _), rfl⟩)

/-- So many blocks has the settled world. -/
noncomputable def low : Nat := (World.holding Tryz.prog default ⟨#[], #[], []⟩).heap.size
def put (o : Obj) (cs : Array Value) : Obj := match o with
  | .cells _ t frozen => .cells cs t frozen
  | o => o
def tab (k : IntKind) (zs : List Int) : Array Value := (zs.map fun z => Value.int k z).toArray
/-- A world that meets the condition. -/
noncomputable def laidWorld (os : Os) : World :=
  let w0 := World.holding Tryz.prog os ⟨#[], #[], []⟩
  { w0 with heap := ((((w0.heap.modify 1 (put · #[.iface 191 (.agg #[.pointer (some ⟨4, 29, none⟩)])])).modify 0 (put · formCells)).modify 2 (put · (tab .u8 [0, 1, 28, 2, 29, 14, 24, 3, 30, 22, 20, 15, 25, 17, 4, 8, 31, 27, 13, 23, 21, 19, 16, 7, 26, 12, 18, 6, 11, 5, 10, 9]))).modify 3 (put · (tab .u8 [0, 1, 56, 2, 57, 49, 28, 3, 61, 58, 42, 50, 38, 29, 17, 4, 62, 47, 59, 36, 45, 43, 51, 22, 53, 39, 33, 30, 24, 18, 12, 5, 63, 55, 48, 27, 60, 41, 37, 16, 46, 35, 44, 21, 52, 32, 23, 11, 54, 26, 40, 15, 34, 20, 31, 10, 25, 14, 19, 9, 13, 8, 7, 6]))) }
theorem laidWorld_met (os : Os) (args : Array Value) : laidMetH Tryz.prog Rows.danceUpRow.laid ((laidWorld os).forCall (fun _ _ => 0) ⟨#[], args, []⟩).memory :=
  laidMetH_of_parts (LaidIn.of_run [0, 2, 3] 8 (by kernel_rfl) (by kernel_rfl) (by kernel_rfl) (by kernel_rfl)).met (by kernel_rfl)

/-- The walk. -/
theorem walk (a0 : Int) (a1 : Int) (a2 : Int) (a3 : Option Addr) (len3 cap3 : Nat) (nods3 : List (Int × Bool)) (w : World) (hw : CW w) (hg : ErrVar w) (ht : TzVar w) (N3 : Moves w w.heap.size a3 len3 nods3) (I3 : True) :
    Calls Tryz.prog 12 #[.int .i64 a0, .int .i64 a1, .int .i64 a2, .slice a3 len3 cap3] w fun e w' => e = .returned (.bool true) ∧ Below w.heap.size w w' := by
  exact danceUp_any danceOK ⟨hw, hg, ht⟩ a0 a1 a2 a3 len3 cap3 nods3 N3

set_option maxRecDepth 100000 in
theorem lifted (os : Os) (started : os.Started) (H : Type) (enc : TypeId × Value → H) :
    ReturnsInHanded {} Tryz.checked os 12 .any (fun w args => (Rows.danceUpSpec.pre enc Tryz.prog Tryz.f12 [] false w args ∧ laidMetH Tryz.prog Rows.danceUpRow.laid w) ∧ sizedMet enc Tryz.prog Tryz.f12 (OpenSpec.ofChange Rows.danceUpSpec) false w args)
      (Rows.danceUpSpec.post enc Tryz.prog Tryz.f12 false true false false) := by
  refine returnsInHanded_of_change_and (C := Tryz.checked) (X := fun w _ => laidMetH Tryz.prog Rows.danceUpRow.laid w) (fun _ _ _ hh h => h.of_heap hh) own started (by kernel_rfl) Tryz.func12
    (ChangeSpec.witness_at (enc := enc) (C := Tryz.checked) (os := os) (X := fun w _ => laidMetH Tryz.prog Rows.danceUpRow.laid w) false (laidWorld os) #[.int .i64 0, .int .i64 0, .int .i64 0, .slice none 0 0] 8 rfl (by kernel_rfl) (by kernel_rfl) (by kernel_rfl) (by kernel_rfl) (by kernel_rfl) (laidWorld_met os _)) ?_
  intro W base args ds gs before hval0 hW _ _ hL _
  have hval : ∀ (j : Nat) t v, Tryz.f12.params[j]? = some t → args[j]? = some v → Value.okWide Tryz.prog W .any base t v := hval0
  have hW' := hW
  obtain ⟨p, q, hA0, hV0, rfl, hfz, hnd⟩ := hW
  have hA : DataW.TrodAll enc Tryz.prog W 0 (fun _ => true) true Tryz.f12.params.toList args.toList ds p := hA0
  have hV : DataW.TrodVars enc Tryz.prog W (fun _ => true) [] gs q := hV0
  rw [Tryz.params12] at hA hval
  obtain ⟨v0, vs0, d0, ds0, p0, q0, hargs, rfl, rfl, h0, r0⟩ := trodAll_cons hA
  obtain ⟨v1, vs1, d1, ds1, p1, q1, rfl, rfl, rfl, h1, r1⟩ := trodAll_cons r0
  obtain ⟨v2, vs2, d2, ds2, p2, q2, rfl, rfl, rfl, h2, r2⟩ := trodAll_cons r1
  obtain ⟨v3, vs3, d3, ds3, p3, q3, rfl, rfl, rfl, h3, r3⟩ := trodAll_cons r2
  obtain ⟨rfl, rfl, rfl⟩ := trodAll_nil r3
  obtain rfl : args = #[v0, v1, v2, v3] := by cases args; simp_all
  obtain ⟨rfl, rfl⟩ : gs = [] ∧ q = [] := by
    cases gs with
    | nil => exact ⟨rfl, hV⟩
    | cons g r => exact absurd hV (by intro h; cases h)
  obtain ⟨a0, rfl, rfl, rfl, w0⟩ := open_int Tryz.underlying3 (hval 0 3 v0 rfl rfl) h0
  obtain ⟨a1, rfl, rfl, rfl, w1⟩ := open_int Tryz.underlying3 (hval 1 3 v1 rfl rfl) h1
  obtain ⟨a2, rfl, rfl, rfl, w2⟩ := open_int Tryz.underlying3 (hval 2 3 v2 rfl rfl) h2
  obtain ⟨a3, len3, cap3, rfl⟩ := okWide_slice Tryz.underlying22 (hval 3 22 v3 rfl rfl)
  have k3 := h3
  have lt3 : ∀ x ∈ p3, x.block < W.heap.size := by obtain ⟨m, hm⟩ := k3; exact DataW.trod_lt m _ _ _ hm
  obtain ⟨nods3, N3, I3⟩ : ∃ nods, Moves W W.heap.size a3 len3 nods ∧ True := by
    obtain ⟨fuel, hf⟩ := h3
    obtain ⟨l, hl⟩ := moves_of (a := a3) (len := len3) (cap := cap3) hf; exact ⟨l, hl, trivial⟩
  have hw := cw_of hL
  have hg := handle_of_laid hL
  have ht := tz_of hL
  clear hA0 hval0
  refine (walk a0 a1 a2 a3 len3 cap3 nods3 W hw hg ht N3 I3).mono fun e W' ⟨he, bel⟩ => ?_
  subst he
  exact ⟨_, rfl, _, _, _, [], _, [], hW', trodAll_mk1 (shut_bool Tryz.underlying4 _), (trodAll_cons_mk (shut_int Tryz.underlying3 w0) (trodAll_cons_mk (shut_int Tryz.underlying3 w1) (trodAll_cons_mk (shut_int Tryz.underlying3 w2) (trodAll_cons_mk (Below.trod laidOut (by kernel_rfl) (of_decide_eq_true (by kernel_rfl)) k3 bel lt3) trodAll_mk0)))), rfl, bel.frame _, fun h => by cases h⟩

theorem over : Rows.DanceUpSaid :=
  OpenClaim.holds_of_wide 12 Tryz.f12 rfl rfl rfl rfl rfl rfl rfl ⟨rfl, rfl, rfl, rfl, rfl⟩ rfl rfl rfl rfl rfl (by kernel_rfl) Tryz.func12 (by kernel_rfl)
    (of_decide_eq_true (by kernel_rfl)) (by unfold Func.isWrapper; first | (rw [if_pos (by decide +kernel)]; kernel_rfl) | (rw [if_neg (by decide +kernel)]; exact ⟨rfl, rfl⟩))
    (fun os started H enc _ => lifted os started H enc)

/-- The given statement: the tied card. -/
theorem proved : Rows.DanceUpCardSaid :=
  Claim7.holds_tied_plain_at .later [] [.data, .data, .handle, .data] true (true, "249a662f9a3a8032d6ea0f3d6c35fd3df0894eb53275f03e084101a5f9d50289") true
    over (fun _ h => by cases h) (by kernel_rfl) (fun _ h => by cases h) danceUp_row_tie rfl ⟨rfl, rfl⟩ (by kernel_rfl) rfl
    (fun f fn hf hfn => by
      obtain rfl : f = 12 := Option.some.inj ((show Tryz.prog.funcNamed "quadrille/quadrillekeep.DanceUp" = some 12 by kernel_rfl).symm.trans hf) |>.symm
      obtain rfl : fn = Tryz.f12 := (Option.some.inj (Tryz.func12.symm.trans hfn)).symm
      refine ⟨by kernel_rfl, fun j t ht => ?_⟩
      rw [Tryz.params12] at ht
      have hm : t ∈ [3, 3, 3, 22] := by
        have := Array.mem_of_getElem? ht
        simpa using this
      have hall : ([3, 3, 3, 22].all fun u => !Tryz.prog.wantsStandIn u) = true := by kernel_rfl
      exact (show Tryz.prog.wantsStandIn t = false by simpa using List.all_eq_true.1 hall t hm))
    (by kernel_rfl)
#print axioms proved
end Go.Proofs.YtmkgmpfpemiaaaaGreatDoor.danceUp
