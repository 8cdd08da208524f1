/-
  Never more than may: behind each move, what is left in the cell is the first number, one more for each who gave and one less for each who took, and it was never below nought. No conditions.
-/
import Derived.Test.YtdfljhechmanlaaDoorQL8
import Derived.Test.YtdfljhechmanlaaDoorRows
import Derived.Test.YtdfljhechmanlaaDoorCards
import Derived.Test.YtdfljhechmanlaaDoorTie
import Derived.WalkKit
import Derived.ProofKit
import Derived.OpenShut
import Derived.ChangeOld
import Derived.Below
import Derived.ChangeSame
import Derived.ChangeVars
import Derived.JoinedOf
import Derived.RowKitTokens
import Derived.LaidLaws
import Derived.LaidHandle
import Derived.Stop.Joined
import Derived.SevenTiedAt
import Derived.Lib.LaidTab
import Derived.Lib.LaidIn
import Derived.ChangeMaps5
import Derived.Test.YtdfljhechmanlaaDoorQE3
import Derived.Test.YtdfljhechmanlaaDoorQE
import Derived.Test.YtdfljhechmanlaaDoorQL2
namespace Go.Proofs.YtdfljhechmanlaaDoor
set_option maxRecDepth 100000
open Go.RowKit Go.Shelf Go.Sort
set_option linter.unusedVariables false
set_option linter.unusedSimpArgs false

theorem leftL_le : ∀ (a : List Act6) (f : Int), leftL f a ≤ f + (a.length : Int)
  | [], f => by simp [leftL]
  | x :: a, f => by
    have h := leftL_le a (leftA f x)
    have e : leftL f (x :: a) = leftL (leftA f x) a := rfl
    have hx : leftA f x ≤ f + 1 := by
      unfold leftA
      split
      · omega
      · split <;> omega
    rw [e, List.length_cons]
    omega
theorem left_next (f : Int) (a : List Act6) (i : Nat) (h : i < a.length) : leftL f (a.take (i + 1)) = leftA (leftL f (a.take i)) (a.getD i default) := by
  rw [List.take_add_one, List.getElem?_eq_getElem h, Option.toList_some, leftL_snoc, List.getD_eq_getElem?_getD, List.getElem?_eq_getElem h, Option.getD_some]
theorem se_bound {f p : Nat} {Ls : List (List Bool)} {h : SeOk f Ls} {m : Mach} (hm : SeM h p m) : ∃ v : Int, m.cells = [v] ∧ leftL f m.acts = v ∧ ∀ i, i ≤ m.acts.length → 0 ≤ leftL f (m.acts.take i) ∧ leftL f (m.acts.take i) ≤ (f : Int) + i := by
  obtain ⟨S, hS⟩ := hm
  have hI := seM_inv hS
  refine ⟨S.cell 0, seM_cells hS, hI.left.1, fun i hi => ⟨hI.left.2 i hi, ?_⟩⟩
  have := leftL_le (m.acts.take i) f
  rw [List.length_take] at this
  omega

set_option maxHeartbeats 4000000 in
theorem semaBound_any {w : World} (hw : CW w) (A : Option Addr) (n cap : Nat) (ls : List (List Int)) (hR : IRows w w.heap.size A n ls) (hcap : n ≤ cap) (first : Int) (D : Option Addr) (nm cm : Nat) (l : List (Int × Bool)) (hl : Moves w w.heap.size D nm l) :
    Calls Tryd.prog 7 #[.slice A n cap, .int .i64 first, .slice D nm cm] w fun e w' => e = .returned (.bool true) ∧ Below w.heap.size w w' := by
  have HLt := Lib.hid (counted_any hw)
  have HP := Lib.hid (fun w => pick_det first 5 5 w rfl (by decide) (by decide))
  have p1 := pickI_lo first 5
  have p2 := pickI_hi first 5 (by decide)
  obtain ⟨f, hf⟩ : ∃ f : Nat, pickI first 5 = (f : Int) := ⟨(pickI first 5).toNat, by omega⟩
  rw [hf] at HP p1 p2
  have HF12 := Lib.hid (show f ≤ 12 by omega)
  have HR := Lib.hid hR
  have HMv := Lib.hid hl
  have HW := Lib.hid hw
  have HCap := Lib.hid hcap
  clear hR hl hw hf p1 p2 hcap
  go_enter Tryd.func7, Tryd.ntmps7
  go_wp2_with fail
  refine HLt.out.mono ?_
  rintro e w1 ⟨rfl, hb1⟩
  have HB1 := Lib.hid hb1
  clear hb1 HLt
  by_cases h9 : 400 < nm
  · have h9' : (400 : Int) < (nm : Int) := by omega
    go_wp2
    go_ret
    exact ⟨rfl, HB1.out⟩
  have h9' : ¬ (400 : Int) < (nm : Int) := by omega
  have HN5 := Lib.hid (show nm ≤ 400 by omega)
  go_wp2_with fail
  refine (HP.out _).mono ?_
  rintro e w2 ⟨rfl, rfl⟩
  clear HP
  go_wp2_with fail
  refine (seasksN_any HB1.out A n cap 2 ls HR.out HCap.out [3, 4] (fun x hx => by simpa using hx) #[.int .i64 3, .int .i64 4] rfl rfl (by decide) (by decide)).mono ?_
  rintro e w2 ⟨A2, c2, k2, Ls, rfl, hN2, hLl, hk8, hLs⟩
  have hC := hN2.calls
  have hb2 := hN2.bel
  have hok : SeOk f Ls := ⟨by have := HF12.out; omega, by omega, fun L hL => by have := (hLs L hL).1; omega⟩
  have HMd := Lib.hid (semade3 (HW.out.old hb2) (Below.refl w2.heap.size w2) hok A2 none k2 c2 0 0 hC [] ⟨rfl, fun h => absurd h (by omega)⟩ (by omega))
  have HB2 := Lib.hid hb2
  clear hN2 hC hb2 hLl hk8 hLs HB1 HR HCap h9 h9'
  go_wp2_with fail
  rw [u64_small (by have := HF12.out; omega)]
  refine HMd.out.mono ?_
  rintro e w3 ⟨c, m0, rfl, hA, -⟩
  have HA := Lib.hid (show SeAt w2 c hok 0 m0 w3 from hA)
  clear hA HMd
  go_wp2
  --MA
  go_loopw [34] (fun j wr => ∃ i : Nat, i ≤ nm ∧ j = .int .i64 i ∧ At w2 c (behindM 20000 m0 (l.take i)) wr) (fun j _ => nm - (intOf j).toNat)
  case atStart => exact ⟨0, Nat.zero_le _, rfl, HA.out.at_⟩
  case round =>
    obtain ⟨i, hi, rfl, hm⟩ := hrel
    by_cases hlt : i < nm
    · have hkn : (i : Int) < (nm : Int) := by omega
      obtain ⟨g, off, hD, hcell⟩ := moves_at (HMv.out.old HB2.out) hm hlt
      subst hD
      have HTk := Lib.hid (behind_take l m0 i (by rw [HMv.out.len]; exact hlt))
      have HM := Lib.hid (fun w' (hg : wr.grownBy w' none) => kmove_any (hm.grow hg) (MBig.behind (l.take i) HA.out.big) (l.getD i default))
      rw [← HTk.out] at HM
      have hpk : pokesM (l.take (i + 1)) ≤ 500 := by
        have h1 := pokesM_le (l.take (i + 1))
        rw [List.length_take] at h1
        have := HN5.out
        omega
      have hla := se_moves HA.out.la (l.take (i + 1)) (by omega)
      have HBig := Lib.hid (MBig.behind (l.take (i + 1)) HA.out.big)
      obtain ⟨v, v1, v2, v3⟩ := se_bound hla
      have hi5 : i < 500 := by have := HN5.out; omega
      clear HTk hm hpk hla
      obtain ⟨m1, hM1⟩ : ∃ m1, behindM 20000 m0 (l.take (i + 1)) = m1 := ⟨_, rfl⟩
      rw [hM1] at HM HBig v1 v2 v3
      have HM1 := Lib.hid hM1
      clear hM1
      have HV := Lib.hid (And.intro v1 (And.intro v2 v3))
      clear v1 v2 v3
      obtain ⟨hc0, hc1⟩ := hcell
      generalize l.getD i default = mv at *
      obtain ⟨t, p⟩ := mv
      dsimp only at hc0 hc1 HM
      have HLa := Lib.hid (show m1.acts.length ≤ 20000 by have := HBig.out.acts; have := HBig.out.most; omega)
      have hf12 := HF12.out
      cases p
      · simp only [Bool.false_eq_true, ↓reduceIte] at HM
        go_wp2_with fail
        refine (HM.out _ (grown_a (World.grownBy.refl _ none) _)).mono ?_
        rintro e w4 ⟨rfl, hm2⟩
        have H2 := Lib.hid hm2
        generalize (errV (stepM 20000 (behindM 20000 m0 (List.take i l)) t).1) = RV
        clear hm2 HM hc0 hc1
        have HAc := Lib.hid (at_acts H2.out HLa.out)
        go_wp2_with fail
        refine HAc.out.mono ?_
        rintro e w5 ⟨A5, c5, rfl, ho5, hg5⟩
        have H5 := Lib.hid (H2.out.grow hg5)
        have HR5 := Lib.hid (actRow_own ho5 rfl)
        clear ho5 hg5 HAc H2
        obtain ⟨ac, hac⟩ : ∃ ac, m1.acts = ac := ⟨_, rfl⟩
        rw [hac] at HR5 HLa HV ⊢
        clear hac
        obtain ⟨na, hna⟩ : ∃ na, ac.length = na := ⟨_, rfl⟩
        rw [hna] at HR5 HLa HV ⊢
        have HNa := Lib.hid hna
        clear hna
        go_wp2
        --MARKB
        go_loopw [11, 52] (fun s j w8 => ∃ i : Nat, i ≤ na ∧ j = .int .i64 i ∧ s = .int .i64 (leftL f (ac.take i)) ∧ Below w5.heap.size w5 w8) (fun _ j _ => na - (intOf j).toNat)
        case atStart => exact ⟨0, Nat.zero_le _, rfl, rfl, Below.refl _ _⟩
        case round =>
          obtain ⟨i2, hi2, rfl, rfl, hm8⟩ := hrel
          by_cases hlt2 : i2 < na
          · have hin : (i2 : Int) < (na : Int) := by omega
            obtain ⟨b, off2, hA, x0, x1, x2, x3, x4, x5⟩ := (HR5.out.below hm8) i2 hlt2
            subst hA
            have hi20 : i2 < 20000 := by have := HLa.out; omega
            have HM8 := Lib.hid (fun o => hm8.alloc hm8.size o)
            have hnx : leftL f (ac.take (i2 + 1)) = leftA (leftL f (ac.take i2)) (ac.getD i2 default) := left_next f ac i2 (by rw [HNa.out]; exact hlt2)
            have k1 := HV.out.2.2 i2 (by omega)
            have k2 := HV.out.2.2 (i2 + 1) (by omega)
            obtain ⟨L, hL⟩ : ∃ L, leftL f (ac.take i2) = L := ⟨_, rfl⟩
            obtain ⟨L1, hL1⟩ : ∃ L1, leftL f (ac.take (i2 + 1)) = L1 := ⟨_, rfl⟩
            rw [hL1, hL] at hnx
            rw [hL1] at k2
            rw [hL] at k1 ⊢
            have HL1 := Lib.hid hL1
            clear hm8 hL hL1
            generalize ac.getD i2 default = x at *
            obtain ⟨v0, v1, v2, v3, v4, v5⟩ := x
            dsimp only at x0 x1 x2 x3 x4 x5
            unfold leftA at hnx
            dsimp only at hnx
            have hnn : ¬ L1 < 0 := by omega
            by_cases h8 : v2 = 8
            · subst h8
              rw [if_pos rfl] at hnx
              have hw1 : wrap64 (L + 1) = L1 := by unfold wrap64; omega
              clear hnx k1 k2
              go_wp2
              --MARKC
              go_roundw
              case rel => exact ⟨i2 + 1, by omega, by go_num, by rw [HL1.out, hw1], HM8.out _⟩
              case measure => simp [intOf]; omega
            · have hb8 : (v2 == 8) = false := by simp [h8]
              rw [if_neg h8] at hnx
              by_cases h9 : v2 = 9
              · subst h9
                by_cases he : v4 = v5
                · subst he
                  have hne : (v4 != v4) = false := by simp
                  rw [if_neg (fun h => h.2 rfl)] at hnx
                  subst hnx
                  clear k1 k2 h8
                  go_wp2
                  go_roundw
                  case rel => exact ⟨i2 + 1, by omega, by go_num, by rw [HL1.out], HM8.out _⟩
                  case measure => simp [intOf]; omega
                · have hne : (v4 != v5) = true := by simp [he]
                  rw [if_pos ⟨rfl, he⟩] at hnx
                  have hw1 : wrap64 (L - 1) = L1 := by unfold wrap64; omega
                  clear hnx k1 k2 h8 he
                  go_wp2
                  go_roundw
                  case rel => exact ⟨i2 + 1, by omega, by go_num, by rw [HL1.out, hw1], HM8.out _⟩
                  case measure => simp [intOf]; omega
              · have hb9 : (v2 == 9) = false := by simp [h9]
                rw [if_neg (fun h => h9 h.1)] at hnx
                subst hnx
                clear k1 k2 h8 h9
                go_wp2
                go_roundw
                case rel => exact ⟨i2 + 1, by omega, by go_num, by rw [HL1.out], HM8.out _⟩
                case measure => simp [intOf]; omega
          · have hin : ¬ (i2 : Int) < (na : Int) := by omega
            obtain rfl : i2 = na := by omega
            have hA8 := H5.out.keepB hm8
            have hlen1 : m1.cells.length = 1 := by rw [HV.out.1]; rfl
            have HCe := Lib.hid (at_cells hA8 (by rw [hlen1]; decide))
            rw [HV.out.1] at HCe
            have H8 := Lib.hid hA8
            have hlf : leftL f (ac.take i2) = v := by rw [List.take_of_length_le (by rw [HNa.out]; exact Nat.le_refl _)]; exact HV.out.2.1
            have k1 := HV.out.2.2 i2 (Nat.le_refl _)
            rw [hlf] at k1 ⊢
            have hla2 := HLa.out
            have hw1 : wrap64 v = v := by unfold wrap64; omega
            have hvv : (v != v) = false := by simp
            clear hA8 hlen1 hlf k1 hm8
            go_wp2_with fail
            refine HCe.out.mono ?_
            rintro e w9 ⟨A9, c9, rfl, ho9, hg9⟩
            have hI9 : Ints .u64 w9 w9.heap.size A9 1 [v] := Ints.of_own ho9
            obtain ⟨b9, off9, hA9, _, hx9⟩ := hI9.row (by decide)
            subst hA9
            have hc9 : w9.cell? ⟨b9, off9, none⟩ = some (.int .u64 v) := hx9 0 (by decide)
            have H9 := Lib.hid (H8.out.grow hg9)
            clear hI9 hx9 ho9 hg9 HCe H8
            --MARKD
            go_wp2
            go_roundw
            case rel => exact ⟨i + 1, by omega, by go_num, by rw [HM1.out]; exact H9.out⟩
            case measure => simp [intOf]; omega
      · simp only [↓reduceIte] at HM
        go_wp2_with fail
        refine (HM.out _ (grown_a (World.grownBy.refl _ none) _)).mono ?_
        rintro e w4 ⟨rfl, hm2⟩
        have H2 := Lib.hid hm2
        generalize (errV (pokeM (behindM 20000 m0 (List.take i l)) t).1) = RV
        clear hm2 HM hc0 hc1
        have HAc := Lib.hid (at_acts H2.out HLa.out)
        go_wp2_with fail
        refine HAc.out.mono ?_
        rintro e w5 ⟨A5, c5, rfl, ho5, hg5⟩
        have H5 := Lib.hid (H2.out.grow hg5)
        have HR5 := Lib.hid (actRow_own ho5 rfl)
        clear ho5 hg5 HAc H2
        obtain ⟨ac, hac⟩ : ∃ ac, m1.acts = ac := ⟨_, rfl⟩
        rw [hac] at HR5 HLa HV ⊢
        clear hac
        obtain ⟨na, hna⟩ : ∃ na, ac.length = na := ⟨_, rfl⟩
        rw [hna] at HR5 HLa HV ⊢
        have HNa := Lib.hid hna
        clear hna
        go_wp2
        --NARKB
        go_loopw [11, 52] (fun s j w8 => ∃ i : Nat, i ≤ na ∧ j = .int .i64 i ∧ s = .int .i64 (leftL f (ac.take i)) ∧ Below w5.heap.size w5 w8) (fun _ j _ => na - (intOf j).toNat)
        case atStart => exact ⟨0, Nat.zero_le _, rfl, rfl, Below.refl _ _⟩
        case round =>
          obtain ⟨i2, hi2, rfl, rfl, hm8⟩ := hrel
          by_cases hlt2 : i2 < na
          · have hin : (i2 : Int) < (na : Int) := by omega
            obtain ⟨b, off2, hA, x0, x1, x2, x3, x4, x5⟩ := (HR5.out.below hm8) i2 hlt2
            subst hA
            have hi20 : i2 < 20000 := by have := HLa.out; omega
            have HM8 := Lib.hid (fun o => hm8.alloc hm8.size o)
            have hnx : leftL f (ac.take (i2 + 1)) = leftA (leftL f (ac.take i2)) (ac.getD i2 default) := left_next f ac i2 (by rw [HNa.out]; exact hlt2)
            have k1 := HV.out.2.2 i2 (by omega)
            have k2 := HV.out.2.2 (i2 + 1) (by omega)
            obtain ⟨L, hL⟩ : ∃ L, leftL f (ac.take i2) = L := ⟨_, rfl⟩
            obtain ⟨L1, hL1⟩ : ∃ L1, leftL f (ac.take (i2 + 1)) = L1 := ⟨_, rfl⟩
            rw [hL1, hL] at hnx
            rw [hL1] at k2
            rw [hL] at k1 ⊢
            have HL1 := Lib.hid hL1
            clear hm8 hL hL1
            generalize ac.getD i2 default = x at *
            obtain ⟨v0, v1, v2, v3, v4, v5⟩ := x
            dsimp only at x0 x1 x2 x3 x4 x5
            unfold leftA at hnx
            dsimp only at hnx
            have hnn : ¬ L1 < 0 := by omega
            by_cases h8 : v2 = 8
            · subst h8
              rw [if_pos rfl] at hnx
              have hw1 : wrap64 (L + 1) = L1 := by unfold wrap64; omega
              clear hnx k1 k2
              go_wp2
              --NARKC
              go_roundw
              case rel => exact ⟨i2 + 1, by omega, by go_num, by rw [HL1.out, hw1], HM8.out _⟩
              case measure => simp [intOf]; omega
            · have hb8 : (v2 == 8) = false := by simp [h8]
              rw [if_neg h8] at hnx
              by_cases h9 : v2 = 9
              · subst h9
                by_cases he : v4 = v5
                · subst he
                  have hne : (v4 != v4) = false := by simp
                  rw [if_neg (fun h => h.2 rfl)] at hnx
                  subst hnx
                  clear k1 k2 h8
                  go_wp2
                  go_roundw
                  case rel => exact ⟨i2 + 1, by omega, by go_num, by rw [HL1.out], HM8.out _⟩
                  case measure => simp [intOf]; omega
                · have hne : (v4 != v5) = true := by simp [he]
                  rw [if_pos ⟨rfl, he⟩] at hnx
                  have hw1 : wrap64 (L - 1) = L1 := by unfold wrap64; omega
                  clear hnx k1 k2 h8 he
                  go_wp2
                  go_roundw
                  case rel => exact ⟨i2 + 1, by omega, by go_num, by rw [HL1.out, hw1], HM8.out _⟩
                  case measure => simp [intOf]; omega
              · have hb9 : (v2 == 9) = false := by simp [h9]
                rw [if_neg (fun h => h9 h.1)] at hnx
                subst hnx
                clear k1 k2 h8 h9
                go_wp2
                go_roundw
                case rel => exact ⟨i2 + 1, by omega, by go_num, by rw [HL1.out], HM8.out _⟩
                case measure => simp [intOf]; omega
          · have hin : ¬ (i2 : Int) < (na : Int) := by omega
            obtain rfl : i2 = na := by omega
            have hA8 := H5.out.keepB hm8
            have hlen1 : m1.cells.length = 1 := by rw [HV.out.1]; rfl
            have HCe := Lib.hid (at_cells hA8 (by rw [hlen1]; decide))
            rw [HV.out.1] at HCe
            have H8 := Lib.hid hA8
            have hlf : leftL f (ac.take i2) = v := by rw [List.take_of_length_le (by rw [HNa.out]; exact Nat.le_refl _)]; exact HV.out.2.1
            have k1 := HV.out.2.2 i2 (Nat.le_refl _)
            rw [hlf] at k1 ⊢
            have hla2 := HLa.out
            have hw1 : wrap64 v = v := by unfold wrap64; omega
            have hvv : (v != v) = false := by simp
            clear hA8 hlen1 hlf k1 hm8
            go_wp2_with fail
            refine HCe.out.mono ?_
            rintro e w9 ⟨A9, c9, rfl, ho9, hg9⟩
            have hI9 : Ints .u64 w9 w9.heap.size A9 1 [v] := Ints.of_own ho9
            obtain ⟨b9, off9, hA9, _, hx9⟩ := hI9.row (by decide)
            subst hA9
            have hc9 : w9.cell? ⟨b9, off9, none⟩ = some (.int .u64 v) := hx9 0 (by decide)
            have H9 := Lib.hid (H8.out.grow hg9)
            clear hI9 hx9 ho9 hg9 HCe H8
            --NARKD
            go_wp2
            go_roundw
            case rel => exact ⟨i + 1, by omega, by go_num, by rw [HM1.out]; exact H9.out⟩
            case measure => simp [intOf]; omega
    · have hkn : ¬ (i : Int) < (nm : Int) := by omega
      have HB3 := Lib.hid (HB2.out.trans (hm.bel.mono HB2.out.size))
      clear hm
      go_wp2
      go_ret
      exact ⟨rfl, HB3.out⟩
end Go.Proofs.YtdfljhechmanlaaDoor

namespace Go.Proofs.YtdfljhechmanlaaDoor.semaBound
open Go.ChangeShapes Go.WideShapes Go.ChangeAt Go.RowKit
set_option linter.unusedVariables false

theorem own : ownKnob Tryd.prog.godebug = none := by kernel_rfl
theorem laidOut : laidOutB Tryd.prog = true := by kernel_rfl
theorem tsize : Tryd.prog.types.size = 214 := by kernel_rfl

/-- What the listed variables give the walk. -/
theorem cw_of {W : World} (h : laidMetH Tryd.prog Rows.semaBoundRow.laid W) : CW W := by
  have h' : laidMet Tryd.prog (Rows.semaBoundRow.laid.filter fun x => x.2.handleName?.isNone) W ∧ handlesMet Tryd.prog (Rows.semaBoundRow.laid.filter fun x => x.2.handleName?.isSome) W := h
  exact cw_of_laid h'.1 (List.mem_filter.2 ⟨.tail _ (.head _), rfl⟩)

/-- So many blocks has the settled world. -/
noncomputable def low : Nat := (World.holding Tryd.prog default ⟨#[], #[], []⟩).heap.size
def put (o : Obj) (cs : Array Value) : Obj := match o with
  | .cells _ t frozen => .cells cs t frozen
  | o => o
def tab (k : IntKind) (zs : List Int) : Array Value := (zs.map fun z => Value.int k z).toArray
/-- A world that meets the condition. -/
noncomputable def laidWorld (os : Os) : World :=
  let w0 := World.holding Tryd.prog os ⟨#[], #[], []⟩
  { w0 with heap := ((w0.heap.modify 1 (put · #[.iface 172 (.agg #[.pointer (some ⟨2, 36, none⟩)])])).modify 0 (put · formCells)) }
theorem laidWorld_met (os : Os) (args : Array Value) : laidMetH Tryd.prog Rows.semaBoundRow.laid ((laidWorld os).forCall (fun _ _ => 0) ⟨#[], args, []⟩).memory :=
  laidMetH_of_parts (LaidIn.of_run [0] 8 (by kernel_rfl) (by kernel_rfl) (by kernel_rfl) (by kernel_rfl)).met (by kernel_rfl)

/-- The walk. -/
theorem walk (a0 : Option Addr) (len0 cap0 : Nat) (nods0 : List (List Int)) (a1 : Int) (a2 : Option Addr) (len2 cap2 : Nat) (nods2 : List (Int × Bool)) (w : World) (hw : CW w) (N0 : IRows w w.heap.size a0 len0 nods0) (I0 : len0 ≤ cap0) (N2 : Moves w w.heap.size a2 len2 nods2) (I2 : True) :
    Calls Tryd.prog 7 #[.slice a0 len0 cap0, .int .i64 a1, .slice a2 len2 cap2] w fun e w' => e = .returned (.bool true) ∧ Below w.heap.size w w' := by
  exact semaBound_any hw a0 len0 cap0 nods0 N0 I0 a1 a2 len2 cap2 nods2 N2

set_option maxRecDepth 100000 in
theorem lifted (os : Os) (started : os.Started) (H : Type) (enc : TypeId × Value → H) :
    ReturnsInHanded {} Tryd.checked os 7 .any (fun w args => (Rows.semaBoundSpec.pre enc Tryd.prog Tryd.f7 [] false w args ∧ laidMetH Tryd.prog Rows.semaBoundRow.laid w) ∧ sizedMet enc Tryd.prog Tryd.f7 (OpenSpec.ofChange Rows.semaBoundSpec) false w args)
      (Rows.semaBoundSpec.post enc Tryd.prog Tryd.f7 false true false false) := by
  refine returnsInHanded_of_change_and (C := Tryd.checked) (X := fun w _ => laidMetH Tryd.prog Rows.semaBoundRow.laid w) (fun _ _ _ hh h => h.of_heap hh) own started (by kernel_rfl) Tryd.func7
    (ChangeSpec.witness_at (enc := enc) (C := Tryd.checked) (os := os) (X := fun w _ => laidMetH Tryd.prog Rows.semaBoundRow.laid w) false (laidWorld os) #[.slice none 0 0, .int .i64 0, .slice none 0 0] 8 rfl (by kernel_rfl) (by kernel_rfl) (by kernel_rfl) (by kernel_rfl) (by kernel_rfl) (laidWorld_met os _)) ?_
  intro W base args ds gs before hval0 hW _ _ hL _
  have hval : ∀ (j : Nat) t v, Tryd.f7.params[j]? = some t → args[j]? = some v → Value.okWide Tryd.prog W .any base t v := hval0
  have hW' := hW
  obtain ⟨p, q, hA0, hV0, rfl, hfz, hnd⟩ := hW
  have hA : DataW.TrodAll enc Tryd.prog W 0 (fun _ => true) true Tryd.f7.params.toList args.toList ds p := hA0
  have hV : DataW.TrodVars enc Tryd.prog W (fun _ => true) [] gs q := hV0
  rw [Tryd.params7] at hA hval
  obtain ⟨v0, vs0, d0, ds0, p0, q0, hargs, rfl, rfl, h0, r0⟩ := trodAll_cons hA
  obtain ⟨v1, vs1, d1, ds1, p1, q1, rfl, rfl, rfl, h1, r1⟩ := trodAll_cons r0
  obtain ⟨v2, vs2, d2, ds2, p2, q2, rfl, rfl, rfl, h2, r2⟩ := trodAll_cons r1
  obtain ⟨rfl, rfl, rfl⟩ := trodAll_nil r2
  obtain rfl : args = #[v0, v1, v2] := by cases args; simp_all
  obtain ⟨rfl, rfl⟩ : gs = [] ∧ q = [] := by
    cases gs with
    | nil => exact ⟨rfl, hV⟩
    | cons g r => exact absurd hV (by intro h; cases h)
  obtain ⟨a0, len0, cap0, rfl⟩ := okWide_slice Tryd.underlying22 (hval 0 22 v0 rfl rfl)
  have k0 := h0
  have lt0 : ∀ x ∈ p0, x.block < W.heap.size := by obtain ⟨m, hm⟩ := k0; exact DataW.trod_lt m _ _ _ hm
  obtain ⟨nods0, N0, I0⟩ : ∃ nods, IRows W W.heap.size a0 len0 nods ∧ len0 ≤ cap0 := by
    obtain ⟨fuel, hf⟩ := h0
    obtain ⟨ls, hl⟩ := intss_of (a := a0) (len := len0) (cap := cap0) hf; exact ⟨ls, hl, cap_slice Tryd.underlying22 hf⟩
  obtain ⟨a1, rfl, rfl, rfl, w1⟩ := open_int Tryd.underlying3 (hval 1 3 v1 rfl rfl) h1
  obtain ⟨a2, len2, cap2, rfl⟩ := okWide_slice Tryd.underlying23 (hval 2 23 v2 rfl rfl)
  have k2 := h2
  have lt2 : ∀ x ∈ p2, x.block < W.heap.size := by obtain ⟨m, hm⟩ := k2; exact DataW.trod_lt m _ _ _ hm
  obtain ⟨nods2, N2, I2⟩ : ∃ nods, Moves W W.heap.size a2 len2 nods ∧ True := by
    obtain ⟨fuel, hf⟩ := h2
    obtain ⟨l, hl⟩ := moves_of (a := a2) (len := len2) (cap := cap2) hf; exact ⟨l, hl, trivial⟩
  have hw := cw_of hL
  clear hA0 hval0
  refine (walk a0 len0 cap0 nods0 a1 a2 len2 cap2 nods2 W hw N0 I0 N2 I2).mono fun e W' ⟨he, bel⟩ => ?_
  subst he
  exact ⟨_, rfl, _, _, _, [], _, [], hW', trodAll_mk1 (shut_bool Tryd.underlying4 _), (trodAll_cons_mk (Below.trod laidOut (by kernel_rfl) (of_decide_eq_true (by kernel_rfl)) k0 bel lt0) (trodAll_cons_mk (shut_int Tryd.underlying3 w1) (trodAll_cons_mk (Below.trod laidOut (by kernel_rfl) (of_decide_eq_true (by kernel_rfl)) k2 bel lt2) trodAll_mk0))), rfl, bel.frame _, fun h => by cases h⟩

theorem over : Rows.SemaBoundSaid :=
  OpenClaim.holds_of_wide 7 Tryd.f7 rfl rfl rfl rfl rfl rfl rfl ⟨rfl, rfl, rfl, rfl, rfl⟩ rfl rfl rfl rfl rfl (by kernel_rfl) Tryd.func7 (by kernel_rfl)
    (of_decide_eq_true (by kernel_rfl)) (by unfold Func.isWrapper; first | (rw [if_pos (by decide +kernel)]; kernel_rfl) | (rw [if_neg (by decide +kernel)]; exact ⟨rfl, rfl⟩))
    (fun os started H enc _ => lifted os started H enc)

/-- The given statement: the tied card. -/
theorem proved : Rows.SemaBoundCardSaid :=
  Claim7.holds_tied_plain_at .later [] [.handle, .data] true (true, "d47da573c139323a2d3ffb97e069444c56f44381508be9b6753f4f5b74787098") true
    over (fun _ h => by cases h) (by kernel_rfl) (fun _ h => by cases h) semaBound_row_tie rfl ⟨rfl, rfl⟩ (by kernel_rfl) rfl
    (fun f fn hf hfn => by
      obtain rfl : f = 7 := Option.some.inj ((show Tryd.prog.funcNamed "quadrille/quadrillekeep.SemaBound" = some 7 by kernel_rfl).symm.trans hf) |>.symm
      obtain rfl : fn = Tryd.f7 := (Option.some.inj (Tryd.func7.symm.trans hfn)).symm
      refine ⟨by kernel_rfl, fun j t ht => ?_⟩
      rw [Tryd.params7] at ht
      have hm : t ∈ [22, 3, 23] := by
        have := Array.mem_of_getElem? ht
        simpa using this
      have hall : ([22, 3, 23].all fun u => !Tryd.prog.wantsStandIn u) = true := by kernel_rfl
      exact (show Tryd.prog.wantsStandIn t = false by simpa using List.all_eq_true.1 hall t hm))
    (by kernel_rfl)
#print axioms proved
end Go.Proofs.YtdfljhechmanlaaDoor.semaBound
