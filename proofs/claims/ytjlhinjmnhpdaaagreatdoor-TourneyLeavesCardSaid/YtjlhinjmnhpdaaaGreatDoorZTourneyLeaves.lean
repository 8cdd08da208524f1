/-
  In the end all but the champion were woken for the last round, and as many met as there are others. No conditions.
-/
import Derived.Test.YtjlhinjmnhpdaaaGreatDoorQN2
import Derived.Test.YtjlhinjmnhpdaaaGreatDoorRows
import Derived.Test.YtjlhinjmnhpdaaaGreatDoorCards
import Derived.Test.YtjlhinjmnhpdaaaGreatDoorTie
import Derived.WalkKit
import Derived.ProofKit
import Derived.OpenShut
import Derived.ChangeOld
import Derived.Below
import Derived.ChangeSame
import Derived.ChangeVars
import Derived.JoinedOf
import Derived.RowKitTokens
import Derived.LaidLaws
import Derived.LaidHandle
import Derived.Stop.Joined
import Derived.SevenTiedAt
import Derived.Lib.LaidTab
import Derived.Lib.LaidIn
import Derived.Test.YtjlhinjmnhpdaaaGreatDoorQA
import Derived.ChangeMaps5
import Derived.Test.YtjlhinjmnhpdaaaGreatDoorQM2
import Derived.Test.YtjlhinjmnhpdaaaGreatDoorQE3
import Derived.Test.YtjlhinjmnhpdaaaGreatDoorQE
import Derived.Test.YtjlhinjmnhpdaaaGreatDoorQN
namespace Go.Proofs.YtjlhinjmnhpdaaaGreatDoor
set_option maxRecDepth 100000
open Go.RowKit Go.Shelf Go.Sort
set_option linter.unusedVariables false
set_option linter.unusedSimpArgs false

/-- How many met, so far. -/
def metN (r : Nat) (LB : List Bool) (i : Nat) : Nat := if r = 0 then 0 else ((LB.take i).filter id).length
theorem metN_zero (r : Nat) (LB : List Bool) : metN r LB 0 = 0 := by unfold metN; split <;> rfl
theorem metN_le (r : Nat) (LB : List Bool) (i : Nat) : metN r LB i ≤ i := by
  unfold metN
  split
  · exact Nat.zero_le _
  · exact Nat.le_trans (List.length_filter_le _ _) (by rw [List.length_take]; exact Nat.min_le_left _ _)
theorem metN_step {r : Nat} {LB : List Bool} {i : Nat} (hi : i < LB.length) : (LB.getD i false = true ∧ r ≠ 0 → metN r LB (i + 1) = metN r LB i + 1) ∧ (¬ (LB.getD i false = true ∧ r ≠ 0) → metN r LB (i + 1) = metN r LB i) := by
  have e : LB.getD i false = LB[i] := by rw [List.getD_eq_getElem?_getD, List.getElem?_eq_getElem hi]; rfl
  have ht : LB.take (i + 1) = LB.take i ++ [LB[i]] := by rw [List.take_append_getElem]
  unfold metN
  refine ⟨fun ⟨h1, h2⟩ => ?_, fun h => ?_⟩
  · rw [if_neg h2, if_neg h2, ht, List.filter_append, List.length_append, ← e, h1]
    rfl
  · by_cases h2 : r = 0
    · rw [if_pos h2, if_pos h2]
    · have h1 : LB.getD i false = false := by
        cases hb : LB.getD i false with
        | false => rfl
        | true => exact absurd ⟨hb, h2⟩ h
      rw [if_neg h2, if_neg h2, ht, List.filter_append, List.length_append, ← e, h1]
      rfl
theorem next_lessT {q n : Nat} (h : q < n) : n - (intOf (Value.int IntKind.i64 ((q + 1 : Nat) : Int))).toNat < n - (intOf (Value.int IntKind.i64 (q : Int))).toNat := by
  show n - (((q + 1 : Nat) : Int)).toNat < n - ((q : Int)).toNat
  rw [Int.toNat_natCast, Int.toNat_natCast]
  omega
theorem pow_lt {q n : Nat} (h4 : q ≤ 4) (h : 2 ^ q < n) : wrap64 ((2 : Int) ^ q) < (n : Int) := by
  rw [wrap_pow h4]
  exact Int.ofNat_lt.2 h
theorem pow_ge {q n : Nat} (h4 : q ≤ 4) (h : n ≤ 2 ^ q) : ¬ wrap64 ((2 : Int) ^ q) < (n : Int) := fun hc => by
  rw [wrap_pow h4] at hc
  exact absurd (Int.ofNat_lt.1 hc) (Nat.not_lt.2 h)

set_option maxHeartbeats 400000 in
theorem tourneyLeaves_any {w : World} (H : DanceOK) (hw : DW w) (n rounds : Int) (D : Option Addr) (nm cm : Nat) (l : List (Int × Bool)) (hl : Moves w w.heap.size D nm l) :
    Calls Tryz.prog 8 #[.int .i64 n, .int .i64 rounds, .slice D nm cm] w fun e w' => e = .returned (.bool true) ∧ Below w.heap.size w w' := by
  have HDn := Lib.hid (danced_any H hw)
  have HBall := Lib.hid (fun w => ball_is 0 n rounds w)
  have d : Dims 5 (ballN n) (ballR rounds) := ⟨by decide, by decide, (ball_dims 0 n rounds).n1, (ball_dims 0 n rounds).n16, (ball_dims 0 n rounds).r6⟩
  generalize ballK 0 = k0 at *
  generalize ballN n = n1 at *
  generalize ballR rounds = r1 at *
  have HLeft := Lib.hid (fun w1 (hb : Below w.heap.size w w1) (h9 : nm ≤ 600) => left_any (cm := cm) H (hw.old hb) d (hl.old hb) (by omega))
  have hn1 := d.n1
  have hn16 := d.n16
  have hr6 := d.r6
  have HD := Lib.hid d
  clear hl d
  go_enter Tryz.func8, Tryz.ntmps8
  go_wp2_with fail
  refine HDn.out.mono ?_
  rintro e w1 ⟨rfl, hb1⟩
  have HB1 := Lib.hid hb1
  clear hb1 HDn
  by_cases h9 : 600 < nm
  · have h9' : (600 : Int) < (nm : Int) := by omega
    go_wp2
    go_ret
    exact ⟨rfl, HB1.out⟩
  have h9' : ¬ (600 : Int) < (nm : Int) := by omega
  go_wp2_with fail
  refine (HBall.out _).mono ?_
  rintro e w2 ⟨rfl, rfl⟩
  go_wp2_with fail
  refine (HLeft.out _ HB1.out (by omega)).mono ?_
  rintro e w3 ⟨A3, c3, rfl, ho3, hb3⟩
  have HI := Lib.hid (Ints.of_own ho3)
  have hcap := own_cap ho3
  have HO := Lib.hid ho3
  have HB3 := Lib.hid (HB1.out.trans (hb3.mono HB1.out.size))
  clear ho3 hb3 HB1 HLeft HBall
  have hl := leafL_len 5 n1 r1
  obtain ⟨hl4, hpow, hlow⟩ := lvls_is hn1 hn16
  have HLow := Lib.hid hlow
  have HP := Lib.hid hpow
  clear hlow hpow
  obtain ⟨nL, hnL, h64, hk, hin, hz, hr, hmet, hLen⟩ := tourney_cells (r := r1) hn1 hn16
  rw [hk] at HI hl hcap
  rw [hk]
  clear hk
  generalize leafL 5 n1 r1 = LL at *
  generalize leafB 5 n1 = LB at *
  obtain ⟨b, off, hA, _, hx⟩ := HI.out.row (by omega)
  subst hA
  have hwn0 := tourney_wrap (n := n1) (nL := nL) hnL h64
  have HWn := Lib.hid hwn0
  clear hwn0
  clear hnL
  have hkl : ∀ i, i < nL → i < nL + n1 := fun i hi => by omega
  have hX : ∀ i, i < nL → w3.cell? ⟨b, off + i, none⟩ = some (.int .u64 (if LB.getD i false = true then (r1 : Int) else 0)) := fun i hi => by rw [← hin i hi]; exact hx i (hkl i hi)
  have HX := Lib.hid hX
  clear hX hkl
  have hx0 := hx nL (by omega)
  rw [hz] at hx0
  have HT := Lib.hid (fun c => each_any (some ⟨b, off + (nL + 1), none⟩) (n1 - 1) c _ (HI.out.tail (nL + 1) (n1 - 1) (by omega)) (by omega) r1 hr6 (tail_all (fun c h1 h2 => hr c (by omega) (by omega)) (by omega)))
  have HE4 := Lib.hid (fun c (h0 : n1 - 1 = 0) => each_any (w := w3) (some ⟨b, off, none⟩) (n1 - 1) c [] ⟨h0.symm, fun h => absurd h (by omega)⟩ (by omega) r1 hr6 (fun v hv => by cases hv))
  have HMet := Lib.hid hmet
  have hu := wrapU_small r1 hr6
  have HX0 := Lib.hid hx0
  clear hl HI HO hx hin hz hr hmet hx0
  obtain ⟨nT, hnT⟩ : ∃ nT, nL + n1 = nT := ⟨_, rfl⟩
  have hw2 : wrap64 ((nL : Int) + (n1 : Int)) = (nT : Int) := by rw [← hnT, Int.natCast_add]; exact wrap_add_small (Nat.le_trans h64 (by decide)) (Nat.le_trans hn16 (by decide))
  rw [hnT] at hcap
  rw [hnT]
  have HnT := Lib.hid hnT
  clear hnT
  have hw3 : wrap64 ((nL : Int) + 1) = (nL : Int) + 1 := wrap_add_small (b := 1) (Nat.le_trans h64 (by decide)) (by decide)
  have hw4 : wrap64 ((n1 : Int) - 1) = (n1 : Int) - 1 := wrap_sub_small (Nat.le_trans hn16 (by decide))
  have hwn := HWn.out
  clear HWn
  generalize hLv : lvls n1 = lv at *
  clear hLv
  go_wp2
  go_loopw [8] (fun i wr => ∃ q : Nat, q ≤ lv ∧ i = .int .i64 (q : Int) ∧ wr = w3) (fun i _ => lv - (intOf i).toNat)
  case atStart => exact ⟨0, Nat.zero_le _, rfl, rfl⟩
  case round =>
    obtain ⟨q, hq, rfl, rfl⟩ := hrel
    by_cases hlt : q < lv
    · have hq2 : wrap64 ((2 : Int) ^ q) < (n1 : Int) := pow_lt (Nat.le_trans hq hl4) (HLow.out q hlt)
      go_wp2_with fail
      go_roundw
      case rel => exact ⟨q + 1, hlt, by go_num, trivial⟩
      case measure =>
        clear hw2 hw3 hw4 hwn hu hq2
        simp [intOf]
        omega
    · obtain rfl : lv = q := Nat.le_antisymm (Nat.le_of_not_lt hlt) hq
      have hq2 : ¬ wrap64 ((2 : Int) ^ lv) < (n1 : Int) := pow_ge hl4 HP.out
      have hx0 := HX0.out
      clear HX0
      have hne : ((nT : Int) != (nT : Int)) = false := by simp
      have HW34 := Lib.hid (And.intro hw3 hw4)
      have hc2 : (nL : Int) ≤ (c3 : Int) := Int.ofNat_le.2 (Nat.le_trans (Nat.le_add_right nL n1) (HnT.out ▸ hcap))
      clear hw3 hw4 hlt hq HLow HP
      have HBd := Lib.hid (And.intro hn1 (And.intro hn16 (And.intro hr6 (And.intro h64 (And.intro hLen hcap)))))
      have hmn : min lv 64 = lv := Nat.min_eq_left (Nat.le_trans hl4 (by decide))
      have h0L : (0 : Int) ≤ (nL : Int) := Int.natCast_nonneg nL
      clear hn1 hn16 hr6 h64 hLen hcap h9 h9' hl4
      --MB
      go_wp2_with fail
      --MARK
      have HU := Lib.hid hu
      have HBb := Lib.hid hx0
      have HWn2 := Lib.hid (And.intro hwn (And.intro hc2 (show (nL : Int) < (nT : Int) from Int.ofNat_lt.2 (by have h1 := HnT.out; have h2 := HBd.out.1; clear hwn hw2 hne hu hq2; omega))))
      clear hx0 hwn hw2 hne hc2 h0L
      go_loopw [9, 48] (fun v j w' => ∃ i : Nat, i ≤ nL ∧ v = .int .i64 (metN r1 LB i : Nat) ∧ j = .int .i64 (i : Nat) ∧ w' = wr) (fun _ j _ => nL - (intOf j).toNat)
      case atStart => exact ⟨0, Nat.zero_le _, by rw [metN_zero]; rfl, rfl, rfl⟩
      case round =>
        obtain ⟨i, hi, rfl, rfl, rfl⟩ := hrel
        by_cases hlt : i < nL
        · have hkn : (i : Int) < (nL : Int) := Int.ofNat_lt.2 hlt
          have hxi := HX.out i hlt
          have hm64 : metN r1 LB i ≤ 64 := Nat.le_trans (metN_le _ _ _) (Nat.le_trans hi HBd.out.2.2.2.1)
          have hms := metN_step (r := r1) (LB := LB) (i := i) (Nat.lt_of_lt_of_le hlt HBd.out.2.2.2.2.1)
          have HMs := Lib.hid hms
          have HWi := Lib.hid (show wrap64 ((i : Int) + 1) = ((i + 1 : Nat) : Int) from wrap_add_small (a := i) (b := 1) (Nat.le_trans hi (Nat.le_trans HBd.out.2.2.2.1 (by decide))) (by decide))
          have HM64 := Lib.hid hm64
          clear hms hm64
          by_cases hb : LB.getD i false = true ∧ r1 ≠ 0
          · rw [if_pos hb.1] at hxi
            have hr0 : ((r1 : Int) != 0) = true := by simpa using hb.2
            have hrr : ((r1 : Int) != (r1 : Int)) = false := by simp
            have hm := HMs.out.1 hb
            have HMm := Lib.hid hm
            have HW := Lib.hid (show wrap64 (((metN r1 LB i : Nat) : Int) + 1) = ((metN r1 LB i + 1 : Nat) : Int) from wrap_add_small (a := metN r1 LB i) (b := 1) (Nat.le_trans HM64.out (by decide)) (by decide))
            have hw1 := HW.out
            clear hm hb
            generalize metN r1 LB i = mi at *
            --MC
            go_wp2_with fail
            go_roundw
            case rel => exact ⟨i + 1, hlt, by first | rw [HMm.out, hw1] | (rw [HMm.out]; rfl), congrArg _ HWi.out, trivial⟩
            case measure => rw [HWi.out]; exact next_lessT hlt
          · have hx0 : (if LB.getD i false = true then (r1 : Int) else 0) = 0 := by
              by_cases h1 : LB.getD i false = true
              · rw [if_pos h1]
                by_cases h2 : r1 = 0
                · rw [h2]; rfl
                · exact absurd ⟨h1, h2⟩ hb
              · rw [if_neg h1]
            rw [hx0] at hxi
            have HMm := Lib.hid (HMs.out.2 hb)
            clear hb hx0
            generalize metN r1 LB i = mi at *
            --MD
            go_wp2_with fail
            go_roundw
            case rel => exact ⟨i + 1, hlt, by rw [HMm.out], congrArg _ HWi.out, trivial⟩
            case measure => rw [HWi.out]; exact next_lessT hlt
        · obtain rfl : nL = i := Nat.le_antisymm (Nat.le_of_not_lt hlt) hi
          have hkn : ¬ (nL : Int) < (nL : Int) := Int.lt_irrefl _
          have hx0 := HBb.out
          have hwn := HWn2.out.1
          have hc2 := HWn2.out.2.1
          have hnT0 := HWn2.out.2.2
          have HDf := Lib.hid (show nT - (nL + 1) = n1 - 1 by have h1 := HnT.out; clear hwn hu hq2; omega)
          have HZc := Lib.hid (fun (hcc : c3 = nL + 1) => (show n1 - 1 = 0 by have h1 := HnT.out; have h2 := HBd.out.2.2.2.2.2; clear hwn hu hq2; omega))
          have hM : r1 ≠ 0 → metN r1 LB nL = n1 - 1 := fun h => by unfold metN; rw [if_neg h]; exact HMet.out
          have HMM := Lib.hid hM
          have H1 := Lib.hid HBd.out.1
          obtain ⟨hw3, hw4⟩ := HW34.out
          have HMe := Lib.hid (fun (h : r1 ≠ 0) => (show (((metN r1 LB nL : Nat) : Int) == (n1 : Int) - 1) = true by
            rw [HMM.out h]
            have h1 := H1.out
            clear hwn hu hq2 hw3 hw4
            have : ((n1 - 1 : Nat) : Int) = (n1 : Int) - 1 := by omega
            rw [this]
            simp))
          clear hlt hi hmn hu hM hq2
          by_cases hr0 : r1 = 0
          · have hr0' : ((r1 : Int) == 0) = true := by rw [hr0]; rfl
            clear hr0
            generalize metN r1 LB nL = M at *
            by_cases hcc : c3 = nL + 1
            · have hz := HZc.out hcc
              go_wp2_with fail
              rw [HDf.out]
              refine (HE4.out _ hz).mono ?_
              rintro e w4 ⟨rfl, hg⟩
              have HB4 := Lib.hid (HB3.out.trans ((Below.grown (Below.refl _ _) hg (Nat.le_refl _) (by intro k hk; cases hk)).mono HB3.out.size))
              clear hg HT HE4 HB3
              go_wp2
              go_ret
              exact ⟨rfl, HB4.out⟩
            · go_wp2_with fail
              rw [HDf.out]
              refine (HT.out _).mono ?_
              rintro e w4 ⟨rfl, hg⟩
              have HB4 := Lib.hid (HB3.out.trans ((Below.grown (Below.refl _ _) hg (Nat.le_refl _) (by intro k hk; cases hk)).mono HB3.out.size))
              clear hg HT HE4 HB3
              go_wp2
              go_ret
              exact ⟨rfl, HB4.out⟩
          · have hr0' : ((r1 : Int) == 0) = false := by simpa using hr0
            have hMe := HMe.out hr0
            clear hr0 HMe
            generalize metN r1 LB nL = M at *
            by_cases hcc : c3 = nL + 1
            · have hz := HZc.out hcc
              go_wp2_with fail
              rw [HDf.out]
              refine (HE4.out _ hz).mono ?_
              rintro e w4 ⟨rfl, hg⟩
              have HB4 := Lib.hid (HB3.out.trans ((Below.grown (Below.refl _ _) hg (Nat.le_refl _) (by intro k hk; cases hk)).mono HB3.out.size))
              clear hg HT HE4 HB3
              go_wp2
              go_ret
              exact ⟨rfl, HB4.out⟩
            · go_wp2_with fail
              rw [HDf.out]
              refine (HT.out _).mono ?_
              rintro e w4 ⟨rfl, hg⟩
              have HB4 := Lib.hid (HB3.out.trans ((Below.grown (Below.refl _ _) hg (Nat.le_refl _) (by intro k hk; cases hk)).mono HB3.out.size))
              clear hg HT HE4 HB3
              go_wp2
              go_ret
              exact ⟨rfl, HB4.out⟩
end Go.Proofs.YtjlhinjmnhpdaaaGreatDoor

namespace Go.Proofs.YtjlhinjmnhpdaaaGreatDoor.tourneyLeaves
open Go.ChangeShapes Go.WideShapes Go.ChangeAt Go.RowKit
set_option linter.unusedVariables false

theorem own : ownKnob Tryz.prog.godebug = none := by kernel_rfl
theorem laidOut : laidOutB Tryz.prog = true := by kernel_rfl
theorem tsize : Tryz.prog.types.size = 237 := by kernel_rfl

theorem et : Tryz.prog.globalNamed "errors.errorType" = some 1 := by kernel_rfl
theorem rt : (Tryz.prog.cutTypes.find? (·.1 == "internal/reflectlite.rtype")).map (·.2) = some 184 := by kernel_rfl
theorem oneRow : ((List.range 237).filter fun t => Tryz.prog.rowNamed t [101, 114, 114, 111, 114]) = [35] := by kernel_rfl

/-- What the listed variables give the walk. -/
theorem cw_of {W : World} (h : laidMetH Tryz.prog Rows.tourneyLeavesRow.laid W) : CW W := by
  have h' : laidMet Tryz.prog (Rows.tourneyLeavesRow.laid.filter fun x => x.2.handleName?.isNone) W ∧ handlesMet Tryz.prog (Rows.tourneyLeavesRow.laid.filter fun x => x.2.handleName?.isSome) W := h
  exact cw_of_laid h'.1 (List.mem_filter.2 ⟨.tail _ (.tail _ (.tail _ (.head _))), rfl⟩)
theorem handle_of_laid {W : World} (h : laidMetH Tryz.prog Rows.tourneyLeavesRow.laid W) : ErrVar W := by
  have h' : laidMet Tryz.prog (Rows.tourneyLeavesRow.laid.filter fun x => x.2.handleName?.isNone) W ∧ handlesMet Tryz.prog (Rows.tourneyLeavesRow.laid.filter fun x => x.2.handleName?.isSome) W := h
  obtain ⟨name, u, ty, e1, e2, e3, e4, e5⟩ := h'.2 ("errors.errorType", Rows.laid_errors_errorType) (List.mem_filter.2 ⟨.tail _ (.tail _ (.head _)), rfl⟩)
  have en : name = [101, 114, 114, 111, 114] := (Option.some.inj e1).symm
  subst en
  obtain rfl := Option.some.inj (rt.symm.trans e2)
  have hm : ty ∈ (List.range 237).filter fun t => Tryz.prog.rowNamed t [101, 114, 114, 111, 114] := List.mem_filter.2 ⟨List.mem_range.2 (by rw [← tsize]; exact e3), e4⟩
  rw [oneRow] at hm
  obtain rfl := List.mem_singleton.1 hm
  have hh : typeHandle Tryz.prog 35 = .pointer (some ⟨4, 35, none⟩) := by kernel_rfl
  rw [hh] at e5
  have := World.var?_cell et e5 0
  unfold ErrVar
  simpa using this
theorem tz_of {W : World} (h : laidMetH Tryz.prog Rows.tourneyLeavesRow.laid W) : TzVar W := by
  have h' : laidMet Tryz.prog (Rows.tourneyLeavesRow.laid.filter fun x => x.2.handleName?.isNone) W ∧ handlesMet Tryz.prog (Rows.tourneyLeavesRow.laid.filter fun x => x.2.handleName?.isSome) W := h
  exact tz_of_laid h'.1 (List.mem_filter.2 ⟨.tail _ (.head _), rfl⟩)

/-- So many blocks has the settled world. -/
noncomputable def low : Nat := (World.holding Tryz.prog default ⟨#[], #[], []⟩).heap.size
def put (o : Obj) (cs : Array Value) : Obj := match o with
  | .cells _ t frozen => .cells cs t frozen
  | o => o
def tab (k : IntKind) (zs : List Int) : Array Value := (zs.map fun z => Value.int k z).toArray
/-- A world that meets the condition. -/
noncomputable def laidWorld (os : Os) : World :=
  let w0 := World.holding Tryz.prog os ⟨#[], #[], []⟩
  { w0 with heap := ((((w0.heap.modify 1 (put · #[.iface 184 (.agg #[.pointer (some ⟨4, 35, none⟩)])])).modify 0 (put · formCells)).modify 2 (put · (tab .u8 [0, 1, 28, 2, 29, 14, 24, 3, 30, 22, 20, 15, 25, 17, 4, 8, 31, 27, 13, 23, 21, 19, 16, 7, 26, 12, 18, 6, 11, 5, 10, 9]))).modify 3 (put · (tab .u8 [0, 1, 56, 2, 57, 49, 28, 3, 61, 58, 42, 50, 38, 29, 17, 4, 62, 47, 59, 36, 45, 43, 51, 22, 53, 39, 33, 30, 24, 18, 12, 5, 63, 55, 48, 27, 60, 41, 37, 16, 46, 35, 44, 21, 52, 32, 23, 11, 54, 26, 40, 15, 34, 20, 31, 10, 25, 14, 19, 9, 13, 8, 7, 6]))) }
theorem laidWorld_met (os : Os) (args : Array Value) : laidMetH Tryz.prog Rows.tourneyLeavesRow.laid ((laidWorld os).forCall (fun _ _ => 0) ⟨#[], args, []⟩).memory :=
  laidMetH_of_parts (LaidIn.of_run [0, 2, 3] 8 (by kernel_rfl) (by kernel_rfl) (by kernel_rfl) (by kernel_rfl)).met (by kernel_rfl)

/-- The walk. -/
theorem walk (a0 : Int) (a1 : Int) (a2 : Option Addr) (len2 cap2 : Nat) (nods2 : List (Int × Bool)) (w : World) (hw : CW w) (hg : ErrVar w) (ht : TzVar w) (N2 : Moves w w.heap.size a2 len2 nods2) (I2 : True) :
    Calls Tryz.prog 8 #[.int .i64 a0, .int .i64 a1, .slice a2 len2 cap2] w fun e w' => e = .returned (.bool true) ∧ Below w.heap.size w w' := by
  exact tourneyLeaves_any danceOK ⟨hw, hg, ht⟩ a0 a1 a2 len2 cap2 nods2 N2

set_option maxRecDepth 100000 in
theorem lifted (os : Os) (started : os.Started) (H : Type) (enc : TypeId × Value → H) :
    ReturnsInHanded {} Tryz.checked os 8 .any (fun w args => (Rows.tourneyLeavesSpec.pre enc Tryz.prog Tryz.f8 [] false w args ∧ laidMetH Tryz.prog Rows.tourneyLeavesRow.laid w) ∧ sizedMet enc Tryz.prog Tryz.f8 (OpenSpec.ofChange Rows.tourneyLeavesSpec) false w args)
      (Rows.tourneyLeavesSpec.post enc Tryz.prog Tryz.f8 false true false false) := by
  refine returnsInHanded_of_change_and (C := Tryz.checked) (X := fun w _ => laidMetH Tryz.prog Rows.tourneyLeavesRow.laid w) (fun _ _ _ hh h => h.of_heap hh) own started (by kernel_rfl) Tryz.func8
    (ChangeSpec.witness_at (enc := enc) (C := Tryz.checked) (os := os) (X := fun w _ => laidMetH Tryz.prog Rows.tourneyLeavesRow.laid w) false (laidWorld os) #[.int .i64 0, .int .i64 0, .slice none 0 0] 8 rfl (by kernel_rfl) (by kernel_rfl) (by kernel_rfl) (by kernel_rfl) (by kernel_rfl) (laidWorld_met os _)) ?_
  intro W base args ds gs before hval0 hW _ _ hL _
  have hval : ∀ (j : Nat) t v, Tryz.f8.params[j]? = some t → args[j]? = some v → Value.okWide Tryz.prog W .any base t v := hval0
  have hW' := hW
  obtain ⟨p, q, hA0, hV0, rfl, hfz, hnd⟩ := hW
  have hA : DataW.TrodAll enc Tryz.prog W 0 (fun _ => true) true Tryz.f8.params.toList args.toList ds p := hA0
  have hV : DataW.TrodVars enc Tryz.prog W (fun _ => true) [] gs q := hV0
  rw [Tryz.params8] at hA hval
  obtain ⟨v0, vs0, d0, ds0, p0, q0, hargs, rfl, rfl, h0, r0⟩ := trodAll_cons hA
  obtain ⟨v1, vs1, d1, ds1, p1, q1, rfl, rfl, rfl, h1, r1⟩ := trodAll_cons r0
  obtain ⟨v2, vs2, d2, ds2, p2, q2, rfl, rfl, rfl, h2, r2⟩ := trodAll_cons r1
  obtain ⟨rfl, rfl, rfl⟩ := trodAll_nil r2
  obtain rfl : args = #[v0, v1, v2] := by cases args; simp_all
  obtain ⟨rfl, rfl⟩ : gs = [] ∧ q = [] := by
    cases gs with
    | nil => exact ⟨rfl, hV⟩
    | cons g r => exact absurd hV (by intro h; cases h)
  obtain ⟨a0, rfl, rfl, rfl, w0⟩ := open_int Tryz.underlying3 (hval 0 3 v0 rfl rfl) h0
  obtain ⟨a1, rfl, rfl, rfl, w1⟩ := open_int Tryz.underlying3 (hval 1 3 v1 rfl rfl) h1
  obtain ⟨a2, len2, cap2, rfl⟩ := okWide_slice Tryz.underlying22 (hval 2 22 v2 rfl rfl)
  have k2 := h2
  have lt2 : ∀ x ∈ p2, x.block < W.heap.size := by obtain ⟨m, hm⟩ := k2; exact DataW.trod_lt m _ _ _ hm
  obtain ⟨nods2, N2, I2⟩ : ∃ nods, Moves W W.heap.size a2 len2 nods ∧ True := by
    obtain ⟨fuel, hf⟩ := h2
    obtain ⟨l, hl⟩ := moves_of (a := a2) (len := len2) (cap := cap2) hf; exact ⟨l, hl, trivial⟩
  have hw := cw_of hL
  have hg := handle_of_laid hL
  have ht := tz_of hL
  clear hA0 hval0
  refine (walk a0 a1 a2 len2 cap2 nods2 W hw hg ht N2 I2).mono fun e W' ⟨he, bel⟩ => ?_
  subst he
  exact ⟨_, rfl, _, _, _, [], _, [], hW', trodAll_mk1 (shut_bool Tryz.underlying4 _), (trodAll_cons_mk (shut_int Tryz.underlying3 w0) (trodAll_cons_mk (shut_int Tryz.underlying3 w1) (trodAll_cons_mk (Below.trod laidOut (by kernel_rfl) (of_decide_eq_true (by kernel_rfl)) k2 bel lt2) trodAll_mk0))), rfl, bel.frame _, fun h => by cases h⟩

theorem over : Rows.TourneyLeavesSaid :=
  OpenClaim.holds_of_wide 8 Tryz.f8 rfl rfl rfl rfl rfl rfl rfl ⟨rfl, rfl, rfl, rfl, rfl⟩ rfl rfl rfl rfl rfl (by kernel_rfl) Tryz.func8 (by kernel_rfl)
    (of_decide_eq_true (by kernel_rfl)) (by unfold Func.isWrapper; first | (rw [if_pos (by decide +kernel)]; kernel_rfl) | (rw [if_neg (by decide +kernel)]; exact ⟨rfl, rfl⟩))
    (fun os started H enc _ => lifted os started H enc)

/-- The given statement: the tied card. -/
theorem proved : Rows.TourneyLeavesCardSaid :=
  Claim7.holds_tied_plain_at .later [] [.data, .data, .handle, .data] true (true, "c6f55d05b03cf7820801fe364c569ecbd73704b9e009a9d755c8ab487a07502a") true
    over (fun _ h => by cases h) (by kernel_rfl) (fun _ h => by cases h) tourneyLeaves_row_tie rfl ⟨rfl, rfl⟩ (by kernel_rfl) rfl
    (fun f fn hf hfn => by
      obtain rfl : f = 8 := Option.some.inj ((show Tryz.prog.funcNamed "quadrille/quadrillekeep.TourneyLeaves" = some 8 by kernel_rfl).symm.trans hf) |>.symm
      obtain rfl : fn = Tryz.f8 := (Option.some.inj (Tryz.func8.symm.trans hfn)).symm
      refine ⟨by kernel_rfl, fun j t ht => ?_⟩
      rw [Tryz.params8] at ht
      have hm : t ∈ [3, 3, 22] := by
        have := Array.mem_of_getElem? ht
        simpa using this
      have hall : ([3, 3, 22].all fun u => !Tryz.prog.wantsStandIn u) = true := by kernel_rfl
      exact (show Tryz.prog.wantsStandIn t = false by simpa using List.all_eq_true.1 hall t hm))
    (by kernel_rfl)
#print axioms proved
end Go.Proofs.YtjlhinjmnhpdaaaGreatDoor.tourneyLeaves
