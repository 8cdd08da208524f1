/-
  From above: in Combine the gate of a node is opened behind that of the node above, each round. No conditions.
-/
import Derived.Test.YtjlhinjmnhpdaaaGreatDoorQN2
import Derived.Test.YtjlhinjmnhpdaaaGreatDoorRows
import Derived.Test.YtjlhinjmnhpdaaaGreatDoorCards
import Derived.Test.YtjlhinjmnhpdaaaGreatDoorTie
import Derived.WalkKit
import Derived.ProofKit
import Derived.OpenShut
import Derived.ChangeOld
import Derived.Below
import Derived.ChangeSame
import Derived.ChangeVars
import Derived.JoinedOf
import Derived.RowKitTokens
import Derived.LaidLaws
import Derived.LaidHandle
import Derived.Stop.Joined
import Derived.SevenTiedAt
import Derived.Lib.LaidTab
import Derived.Lib.LaidIn
import Derived.Test.YtjlhinjmnhpdaaaGreatDoorQA
import Derived.ChangeMaps5
import Derived.Test.YtjlhinjmnhpdaaaGreatDoorQM2
import Derived.Test.YtjlhinjmnhpdaaaGreatDoorQE3
import Derived.Test.YtjlhinjmnhpdaaaGreatDoorQE
import Derived.Test.YtjlhinjmnhpdaaaGreatDoorQN
namespace Go.Proofs.YtjlhinjmnhpdaaaGreatDoor
set_option maxRecDepth 100000
open Go.RowKit Go.Shelf Go.Sort
set_option linter.unusedVariables false
set_option linter.unusedSimpArgs false

/-- Level by level: the first node, and how many there are. -/
def lev (n : Nat) : Nat → Nat × Nat
  | 0 => (0, (n + 1) / 2)
  | j + 1 => if (lev n j).2 ≤ 1 then lev n j else ((lev n j).1 + (lev n j).2, ((lev n j).2 + 1) / 2)
def chkDown (n : Nat) : Bool := (List.range 5).all fun j =>
  decide ((lev n j).1 ≤ 30) && decide (1 ≤ (lev n j).2) && decide ((lev n j).2 ≤ 8) && (decide ((lev n j).2 ≤ 1) || decide (j ≤ 3)) && (!decide ((lev n j).2 ≤ 1) || decide (2 * (lev n j).1 + 1 < kCells 2 n)) &&
  (decide ((lev n j).2 ≤ 1) || (List.range (lev n j).2).all fun i => decide (2 * ((lev n j).1 + i) + 1 < kCells 2 n) && decide (2 * ((lev n j).1 + (lev n j).2 + i / 2) + 1 < kCells 2 n) && kOrd 2 n (2 * ((lev n j).1 + (lev n j).2 + i / 2) + 1) (2 * ((lev n j).1 + i) + 1))
theorem down_chk : ((List.range 17).all fun n => n == 0 || chkDown n) = true := by decide +kernel
structure LevOK (n f m : Nat) : Prop where
  f30 : f ≤ 30
  m1 : 1 ≤ m
  m8 : m ≤ 8
  last : m ≤ 1 → 2 * f + 1 < kCells 2 n
  each : 1 < m → ∀ i, i < m → 2 * (f + i) + 1 < kCells 2 n ∧ 2 * (f + m + i / 2) + 1 < kCells 2 n ∧ kOrd 2 n (2 * (f + m + i / 2) + 1) (2 * (f + i) + 1) = true
theorem lev_ok {n j : Nat} (n1 : 1 ≤ n) (n16 : n ≤ 16) (hj : j ≤ 4) : LevOK n (lev n j).1 (lev n j).2 ∧ (1 < (lev n j).2 → j ≤ 3) := by
  have h := down_chk
  rw [List.all_eq_true] at h
  have h1 := h n (List.mem_range.2 (by omega))
  have h2 : chkDown n = true := by
    rw [Bool.or_eq_true] at h1
    rcases h1 with h1 | h1
    · have : n = 0 := by simpa using h1
      omega
    · exact h1
  unfold chkDown at h2
  rw [List.all_eq_true] at h2
  have h3 := h2 j (List.mem_range.2 (by omega))
  generalize lev n j = p at *
  obtain ⟨f, m⟩ := p
  dsimp only at h3 ⊢
  simp only [Bool.and_eq_true, Bool.or_eq_true, decide_eq_true_eq, Bool.not_eq_true', decide_eq_false_iff_not, List.all_eq_true, List.mem_range] at h3
  obtain ⟨⟨⟨⟨⟨a1, a2⟩, a3⟩, a4⟩, a5⟩, a6⟩ := h3
  refine ⟨⟨a1, a2, a3, fun h => a5.resolve_left (fun hn => hn h), fun h i hi => ?_⟩, fun h => a4.resolve_left (by omega)⟩
  have := (a6.resolve_left (by omega)) i hi
  exact ⟨this.1.1, this.1.2, this.2⟩
theorem odd_mono (n c : Nat) : kMono 2 n (2 * c + 1) = true := by
  unfold kMono
  rw [if_pos (by decide)]
  have : (2 * c + 1) % 2 = 1 := by omega
  rw [this]
  rfl
theorem wrap_n {z : Int} {n : Nat} (h : z = (n : Int)) (hn : n ≤ 1000) : wrap64 z = (n : Int) := by
  rw [h]
  exact wrap_small (by omega) (by omega)
theorem half_up {n : Nat} (h : n ≤ 16) : wrap64 (((n : Int) + 1).tdiv 2) = (((n + 1) / 2 : Nat) : Int) :=
  wrap_n (show ((n + 1 : Nat) : Int).tdiv ((2 : Nat) : Int) = (((n + 1) / 2 : Nat) : Int) from rfl) (by omega)
theorem lev_next {n j f m g : Nat} (h : (f, m) = lev n j) (hm : 1 < m) (hg : f + m = g) : (g, (m + 1) / 2) = lev n (j + 1) := by
  show _ = if (lev n j).2 ≤ 1 then lev n j else ((lev n j).1 + (lev n j).2, ((lev n j).2 + 1) / 2)
  rw [← h, if_neg (Nat.not_le.2 hm), ← hg]
theorem half_less {m : Nat} (h : 1 < m) : (intOf (Value.int IntKind.i64 (((m + 1) / 2 : Nat) : Int))).toNat < (intOf (Value.int IntKind.i64 (m : Int))).toNat := by
  show ((((m + 1) / 2 : Nat) : Int)).toNat < ((m : Int)).toNat
  rw [Int.toNat_natCast, Int.toNat_natCast]
  omega
theorem next_lessD {q n : Nat} (h : q < n) : n - (intOf (Value.int IntKind.i64 ((q + 1 : Nat) : Int))).toNat < n - (intOf (Value.int IntKind.i64 (q : Int))).toNat := by
  show n - (((q + 1 : Nat) : Int)).toNat < n - ((q : Int)).toNat
  rw [Int.toNat_natCast, Int.toNat_natCast]
  omega

set_option maxHeartbeats 2000000 in
theorem danceDown_any {w : World} (H : DanceOK) (hw : DW w) (n rounds : Int) (D : Option Addr) (nm cm : Nat) (l : List (Int × Bool)) (hl : Moves w w.heap.size D nm l) :
    Calls Tryz.prog 12 #[.int .i64 n, .int .i64 rounds, .slice D nm cm] w fun e w' => e = .returned (.bool true) ∧ Below w.heap.size w w' := by
  have HDn := Lib.hid (danced_any H hw)
  have HBall := Lib.hid (fun w => ball_is 0 n rounds w)
  have d : Dims 2 (ballN n) (ballR rounds) := ⟨by decide, by decide, (ball_dims 0 n rounds).n1, (ball_dims 0 n rounds).n16, (ball_dims 0 n rounds).r6⟩
  generalize ballK 0 = k0 at *
  generalize ballN n = n1 at *
  generalize ballR rounds = r1 at *
  have HFl := Lib.hid (fun w1 (hb : Below w.heap.size w w1) (h9 : nm ≤ 500) => floor_his (cm := cm) H hw hb d hl (by omega))
  have HLev := Lib.hid (fun j (hj : j ≤ 4) => lev_ok d.n1 d.n16 hj)
  have HD := Lib.hid d
  have hn16 := d.n16
  have HEN := Lib.hid (show wrap64 ((n1 : Int) + 1) = ((n1 + 1 : Nat) : Int) from wrap_n rfl (Nat.le_trans (Nat.succ_le_succ hn16) (by decide)))
  have HED := Lib.hid (half_up hn16)
  have HR6 := Lib.hid d.r6
  clear hl d hn16
  go_enter Tryz.func12, Tryz.ntmps12
  go_wp2_with fail
  refine HDn.out.mono ?_
  rintro e w1 ⟨rfl, hb1⟩
  have HB1 := Lib.hid hb1
  clear hb1 HDn
  by_cases h9 : 500 < nm
  · have h9' : (500 : Int) < (nm : Int) := by omega
    go_wp2
    go_ret
    exact ⟨rfl, HB1.out⟩
  have h9' : ¬ (500 : Int) < (nm : Int) := by omega
  have H9 := Lib.hid (show nm ≤ 500 by omega)
  clear h9
  go_wp2_with fail
  refine (HBall.out _).mono ?_
  rintro e w2 ⟨rfl, rfl⟩
  go_wp2_with fail
  refine (HFl.out _ HB1.out H9.out).mono ?_
  rintro e w3 ⟨c, m, p, rfl, hF, hp, hH⟩
  have HF := Lib.hid hF
  have HPk := Lib.hid hp
  have HH := Lib.hid hH
  clear hF HFl HBall hp hH h9' H9
  go_wp2_with fail
  refine (flo_fin H HD.out HF.out HPk.out).mono ?_
  rintro e w4 ⟨m', rfl, hF4, hE, hfin⟩
  have HF4 := Lib.hid hF4
  have HG := Lib.hid (fun g hg hm => hist_gates (c := g) HD.out HH.out HPk.out hfin hg hm)
  have HO := Lib.hid (fun a b hab => hist_ord (a := a) (b := b) HD.out HH.out HPk.out hfin hab)
  clear hF4 hE hfin HF HH
  generalize ((m'.steps : Int) - (m.steps : Int)) = dd at *
  have eN := HEN.out
  --MA
  go_wp2
  go_loopw [8, 9] (fun u v wr => ∃ (j f mm : Nat), j ≤ 4 ∧ u = .int .i64 (f : Nat) ∧ v = .int .i64 (mm : Nat) ∧ Hid ((f, mm) = lev n1 j ∧ Flo w c 2 n1 r1 p m' wr)) (fun _ v _ => (intOf v).toNat)
  case atStart => exact ⟨0, 0, (n1 + 1) / 2, by decide, rfl, congrArg _ HED.out, rfl, HF4.out⟩
  case round =>
    obtain ⟨j, f, mm, hj, rfl, rfl, hx⟩ := hrel
    have hlv := HLev.out j hj
    rw [← hx.out.1] at hlv
    dsimp only at hlv
    have HL := Lib.hid hlv.1
    have HJ3 := Lib.hid hlv.2
    have HX := Lib.hid hx.out
    have HJ4 := Lib.hid hj
    clear hlv hx hj HF4 eN
    by_cases hlt : 1 < mm
    · have hkn : (1 : Int) < (mm : Int) := Int.ofNat_lt.2 hlt
      have HLt := Lib.hid hlt
      obtain ⟨g, hg⟩ : ∃ g, f + mm = g := ⟨_, rfl⟩
      have hg60 : g ≤ 1000 := by have h1 := HL.out.f30; have h2 := HL.out.m8; omega
      have ef : wrap64 ((f : Int) + (mm : Int)) = (g : Int) := wrap_n (by rw [← hg]; rfl) hg60
      have HG1 := Lib.hid hg
      clear hlt hg hg60
      --MB
      go_wp2
      rw [ef]
      clear ef
      go_loopw [44] (fun i wr => ∃ q : Nat, q ≤ mm ∧ i = .int .i64 (q : Nat) ∧ Hid (Flo w c 2 n1 r1 p m' wr)) (fun i _ => mm - (intOf i).toNat)
      case atStart => exact ⟨0, Nat.zero_le _, rfl, HX.out.2⟩
      case round =>
        obtain ⟨q, hq, rfl, hF⟩ := hrel
        by_cases hqm : q < mm
        · have hkq : (q : Int) < (mm : Int) := Int.ofNat_lt.2 hqm
          obtain ⟨hb1, ha1, hord⟩ := HL.out.each HLt.out q hqm
          have hm8 := HL.out.m8
          have hf30 := HL.out.f30
          have hgg := HG1.out
          obtain ⟨x1, hx1⟩ : ∃ x1, f + q = x1 := ⟨_, rfl⟩
          obtain ⟨x2, hx2⟩ : ∃ x2, 2 * x1 = x2 := ⟨_, rfl⟩
          obtain ⟨q2, hq2⟩ : ∃ q2, q / 2 = q2 := ⟨_, rfl⟩
          obtain ⟨y1, hy1⟩ : ∃ y1, g + q2 = y1 := ⟨_, rfl⟩
          obtain ⟨y2, hy2⟩ : ∃ y2, 2 * y1 = y2 := ⟨_, rfl⟩
          have HE := Lib.hid (And.intro (wrap_n (z := (f : Int) + (q : Int)) (n := x1) (by omega) (by omega)) (And.intro (wrap_n (z := 2 * (x1 : Int)) (n := x2) (by omega) (by omega)) (And.intro (wrap_n (z := (x2 : Int) + 1) (n := x2 + 1) (by omega) (by omega)) (And.intro (And.intro (wrap_n (z := (q : Int) / 2) (n := q2) (by omega) (by omega)) (wrap_n (z := (g : Int) + (q2 : Int)) (n := y1) (by omega) (by omega))) (And.intro (wrap_n (z := 2 * (y1 : Int)) (n := y2) (by omega) (by omega)) (wrap_n (z := (y2 : Int) + 1) (n := y2 + 1) (by omega) (by omega)))))))
          rw [hgg, hx1, hq2, hy1, hx2, hy2] at hord
          rw [hx1, hx2] at hb1
          rw [hgg, hq2, hy1, hy2] at ha1
          have HSb := Lib.hid (HG.out (x2 + 1) hb1 (by rw [← hx2]; exact odd_mono n1 x1))
          have HSa := Lib.hid (HG.out (y2 + 1) ha1 (by rw [← hy2]; exact odd_mono n1 y1))
          have hbf := HO.out (y2 + 1) (x2 + 1) hord
          unfold Before at hbf
          rw [HSb.out] at hbf
          have HBf := Lib.hid hbf
          have HF5 := Lib.hid hF.out
          have hrr : ((r1 : Int) != (r1 : Int)) = false := by simp
          have HQ := Lib.hid hqm
          have hst := stores_any HF5.out (x2 + 1)
          rw [HSb.out] at hst
          have HStb := Lib.hid hst
          clear hst hbf hb1 ha1 hord hm8 hf30 hgg hx1 hx2 hy1 hy2 hq2 hF hqm hq
          obtain ⟨e1, e2, e3, ⟨e4a, e4⟩, e5, e6⟩ := HE.out
          --MC
          go_wp2_with fail
          --MD
          refine HStb.out.mono ?_
          rintro e w5 ⟨A5, c5, rfl, ho5, hb5⟩
          have HF6 := Lib.hid (HF5.out.keep hb5)
          have HI5 := Lib.hid (Ints.of_own ho5)
          have hst := stores_any HF6.out (y2 + 1)
          rw [HSa.out] at hst
          have HSta := Lib.hid hst
          clear ho5 hb5 HF5 HStb hst
          go_wp2_with fail
          --ME
          refine HSta.out.mono ?_
          rintro e w7 ⟨A7, c7, rfl, ho7, hb7⟩
          have HI7 := Lib.hid (And.intro (HF6.out.keep hb7) (And.intro (HI5.out.oldF hb7) (Ints.of_own ho7)))
          clear ho7 hb7 HF6 HI5 HSta
          go_wp2
          --MF
          clear e1 e2 e3 e4a e4 e5 e6
          go_loopw [74] (fun j wr => ∃ i : Nat, i ≤ r1 ∧ j = .int .i64 i ∧ Hid (Flo w c 2 n1 r1 p m' wr ∧ Ints .i64 wr wr.heap.size A5 r1 (st7 m'.acts (x2 + 1)) ∧ Ints .i64 wr wr.heap.size A7 r1 (st7 m'.acts (y2 + 1)))) (fun j _ => r1 - (intOf j).toNat)
          case atStart => exact ⟨0, Nat.zero_le _, rfl, HI7⟩
          case round =>
            obtain ⟨i, hi, rfl, hJ⟩ := hrel
            by_cases hir : i < r1
            · have hir' : (i : Int) < (r1 : Int) := Int.ofNat_lt.2 hir
              obtain ⟨g5, o5, rfl, _, hx⟩ := hJ.out.2.1.row (Nat.lt_of_le_of_lt (Nat.zero_le _) hir)
              obtain ⟨g7, o7, rfl, _, hy⟩ := hJ.out.2.2.row (Nat.lt_of_le_of_lt (Nat.zero_le _) hir)
              have hx5 := hx i hir
              have hy7 := hy i hir
              have hlt2 := HBf.out i hir
              generalize (st7 m'.acts (x2 + 1)).getD i 0 = x at *
              generalize (st7 m'.acts (y2 + 1)).getD i 0 = y at *
              have hge : ¬ x ≤ y := Int.not_le.2 hlt2
              have HG8 := Lib.hid (fun q => And.intro (hJ.out.1.grow (grown_drewF wr q)) (And.intro (hJ.out.2.1.oldF (grown_belF (grown_drewF wr q))) (hJ.out.2.2.oldF (grown_belF (grown_drewF wr q)))))
              have HWi := Lib.hid (show wrap64 ((i : Int) + 1) = ((i + 1 : Nat) : Int) from wrap_n rfl (Nat.le_trans (Nat.succ_le_succ (Nat.le_trans hi HR6.out)) (by decide)))
              have hirS := hir
              clear hx hy hJ HI7 hi hlt2
              go_wp2
              go_quiet (fail)
              go_wp2
              --MG
              first
              | (rw [HWi.out]; exact ⟨⟨i + 1, hirS, rfl, Lib.hid (HG8.out _)⟩, next_lessD hirS⟩)
              | exact ⟨⟨i + 1, hirS, rfl, Lib.hid (HG8.out _)⟩, next_lessD hirS⟩
            · have hir' : ¬ (i : Int) < (r1 : Int) := fun h => hir (Int.ofNat_lt.1 h)
              have HI8 := Lib.hid hJ.out.1
              have HWq := Lib.hid (show wrap64 ((q : Int) + 1) = ((q + 1 : Nat) : Int) from wrap_n rfl (Nat.le_trans (Nat.succ_le_succ (Nat.le_trans (Nat.le_of_lt HQ.out) HL.out.m8)) (by decide)))
              clear hJ HI7 hi hir
              go_wp2
              --MH
              go_roundw
              case rel => exact ⟨q + 1, HQ.out, by first | exact congrArg _ HWq.out | rfl, HI8⟩
              case measure => first | (rw [HWq.out]; exact next_lessD HQ.out) | exact next_lessD HQ.out
        · obtain rfl : mm = q := Nat.le_antisymm (Nat.le_of_not_lt hqm) hq
          have hkq : ¬ (mm : Int) < (mm : Int) := Int.lt_irrefl _
          have HF8 := Lib.hid hF.out
          have HM1 := Lib.hid (show wrap64 ((mm : Int) + 1) = ((mm + 1 : Nat) : Int) from wrap_n rfl (Nat.le_trans (Nat.succ_le_succ HL.out.m8) (by decide)))
          have HM2 := Lib.hid (show wrap64 (((mm : Int) + 1).tdiv 2) = (((mm + 1) / 2 : Nat) : Int) from half_up (Nat.le_trans HL.out.m8 (by decide)))
          have hm1 := HM1.out
          clear hF hqm hq
          go_wp2
          --MI
          rw [HM2.out]
          exact ⟨⟨j + 1, g, (mm + 1) / 2, Nat.succ_le_succ (HJ3.out HLt.out), rfl, rfl, lev_next HX.out.1 HLt.out HG1.out, HF8.out⟩, half_less HLt.out⟩
    · have hkn : ¬ (1 : Int) < (mm : Int) := fun h => hlt (Int.ofNat_lt.1 h)
      have hb1 := HL.out.last (Nat.le_of_not_lt hlt)
      have hf30 := HL.out.f30
      have HSb := Lib.hid (HG.out (2 * f + 1) hb1 (odd_mono n1 f))
      have hst := stores_any HX.out.2 (2 * f + 1)
      rw [HSb.out] at hst
      have HSt := Lib.hid hst
      have HB4 := Lib.hid HX.out.2
      obtain ⟨x2, hx2⟩ : ∃ x2, 2 * f = x2 := ⟨_, rfl⟩
      have e2 : wrap64 (2 * (f : Int)) = (x2 : Int) := wrap_n (by omega) (by omega)
      have HE2 := Lib.hid e2
      clear e2
      have e3 : wrap64 ((x2 : Int) + 1) = ((x2 + 1 : Nat) : Int) := wrap_n rfl (by omega)
      have HE3 := Lib.hid e3
      clear e3
      rw [hx2] at HSt
      have hrr : ((r1 : Int) == (r1 : Int)) = true := by simp
      have e2 := HE2.out
      have e3 := HE3.out
      clear hst hb1 hf30 hx2 hlt
      go_wp2_with fail
      --MJ
      refine HSt.out.mono ?_
      rintro e w5 ⟨A5, c5, rfl, ho5, hb5⟩
      have HBe := Lib.hid (HB4.out.keep hb5).bel
      clear ho5 hb5 HSt
      go_wp2
      go_ret
      exact ⟨rfl, HBe.out⟩
end Go.Proofs.YtjlhinjmnhpdaaaGreatDoor

namespace Go.Proofs.YtjlhinjmnhpdaaaGreatDoor.danceDown
open Go.ChangeShapes Go.WideShapes Go.ChangeAt Go.RowKit
set_option linter.unusedVariables false

theorem own : ownKnob Tryz.prog.godebug = none := by kernel_rfl
theorem laidOut : laidOutB Tryz.prog = true := by kernel_rfl
theorem tsize : Tryz.prog.types.size = 237 := by kernel_rfl

theorem et : Tryz.prog.globalNamed "errors.errorType" = some 1 := by kernel_rfl
theorem rt : (Tryz.prog.cutTypes.find? (·.1 == "internal/reflectlite.rtype")).map (·.2) = some 184 := by kernel_rfl
theorem oneRow : ((List.range 237).filter fun t => Tryz.prog.rowNamed t [101, 114, 114, 111, 114]) = [35] := by kernel_rfl

/-- What the listed variables give the walk. -/
theorem cw_of {W : World} (h : laidMetH Tryz.prog Rows.danceDownRow.laid W) : CW W := by
  have h' : laidMet Tryz.prog (Rows.danceDownRow.laid.filter fun x => x.2.handleName?.isNone) W ∧ handlesMet Tryz.prog (Rows.danceDownRow.laid.filter fun x => x.2.handleName?.isSome) W := h
  exact cw_of_laid h'.1 (List.mem_filter.2 ⟨.tail _ (.tail _ (.tail _ (.head _))), rfl⟩)
theorem handle_of_laid {W : World} (h : laidMetH Tryz.prog Rows.danceDownRow.laid W) : ErrVar W := by
  have h' : laidMet Tryz.prog (Rows.danceDownRow.laid.filter fun x => x.2.handleName?.isNone) W ∧ handlesMet Tryz.prog (Rows.danceDownRow.laid.filter fun x => x.2.handleName?.isSome) W := h
  obtain ⟨name, u, ty, e1, e2, e3, e4, e5⟩ := h'.2 ("errors.errorType", Rows.laid_errors_errorType) (List.mem_filter.2 ⟨.tail _ (.tail _ (.head _)), rfl⟩)
  have en : name = [101, 114, 114, 111, 114] := (Option.some.inj e1).symm
  subst en
  obtain rfl := Option.some.inj (rt.symm.trans e2)
  have hm : ty ∈ (List.range 237).filter fun t => Tryz.prog.rowNamed t [101, 114, 114, 111, 114] := List.mem_filter.2 ⟨List.mem_range.2 (by rw [← tsize]; exact e3), e4⟩
  rw [oneRow] at hm
  obtain rfl := List.mem_singleton.1 hm
  have hh : typeHandle Tryz.prog 35 = .pointer (some ⟨4, 35, none⟩) := by kernel_rfl
  rw [hh] at e5
  have := World.var?_cell et e5 0
  unfold ErrVar
  simpa using this
theorem tz_of {W : World} (h : laidMetH Tryz.prog Rows.danceDownRow.laid W) : TzVar W := by
  have h' : laidMet Tryz.prog (Rows.danceDownRow.laid.filter fun x => x.2.handleName?.isNone) W ∧ handlesMet Tryz.prog (Rows.danceDownRow.laid.filter fun x => x.2.handleName?.isSome) W := h
  exact tz_of_laid h'.1 (List.mem_filter.2 ⟨.tail _ (.head _), rfl⟩)

/-- So many blocks has the settled world. -/
noncomputable def low : Nat := (World.holding Tryz.prog default ⟨#[], #[], []⟩).heap.size
def put (o : Obj) (cs : Array Value) : Obj := match o with
  | .cells _ t frozen => .cells cs t frozen
  | o => o
def tab (k : IntKind) (zs : List Int) : Array Value := (zs.map fun z => Value.int k z).toArray
/-- A world that meets the condition. -/
noncomputable def laidWorld (os : Os) : World :=
  let w0 := World.holding Tryz.prog os ⟨#[], #[], []⟩
  { w0 with heap := ((((w0.heap.modify 1 (put · #[.iface 184 (.agg #[.pointer (some ⟨4, 35, none⟩)])])).modify 0 (put · formCells)).modify 2 (put · (tab .u8 [0, 1, 28, 2, 29, 14, 24, 3, 30, 22, 20, 15, 25, 17, 4, 8, 31, 27, 13, 23, 21, 19, 16, 7, 26, 12, 18, 6, 11, 5, 10, 9]))).modify 3 (put · (tab .u8 [0, 1, 56, 2, 57, 49, 28, 3, 61, 58, 42, 50, 38, 29, 17, 4, 62, 47, 59, 36, 45, 43, 51, 22, 53, 39, 33, 30, 24, 18, 12, 5, 63, 55, 48, 27, 60, 41, 37, 16, 46, 35, 44, 21, 52, 32, 23, 11, 54, 26, 40, 15, 34, 20, 31, 10, 25, 14, 19, 9, 13, 8, 7, 6]))) }
theorem laidWorld_met (os : Os) (args : Array Value) : laidMetH Tryz.prog Rows.danceDownRow.laid ((laidWorld os).forCall (fun _ _ => 0) ⟨#[], args, []⟩).memory :=
  laidMetH_of_parts (LaidIn.of_run [0, 2, 3] 8 (by kernel_rfl) (by kernel_rfl) (by kernel_rfl) (by kernel_rfl)).met (by kernel_rfl)

/-- The walk. -/
theorem walk (a0 : Int) (a1 : Int) (a2 : Option Addr) (len2 cap2 : Nat) (nods2 : List (Int × Bool)) (w : World) (hw : CW w) (hg : ErrVar w) (ht : TzVar w) (N2 : Moves w w.heap.size a2 len2 nods2) (I2 : True) :
    Calls Tryz.prog 12 #[.int .i64 a0, .int .i64 a1, .slice a2 len2 cap2] w fun e w' => e = .returned (.bool true) ∧ Below w.heap.size w w' := by
  exact danceDown_any danceOK ⟨hw, hg, ht⟩ a0 a1 a2 len2 cap2 nods2 N2

set_option maxRecDepth 100000 in
theorem lifted (os : Os) (started : os.Started) (H : Type) (enc : TypeId × Value → H) :
    ReturnsInHanded {} Tryz.checked os 12 .any (fun w args => (Rows.danceDownSpec.pre enc Tryz.prog Tryz.f12 [] false w args ∧ laidMetH Tryz.prog Rows.danceDownRow.laid w) ∧ sizedMet enc Tryz.prog Tryz.f12 (OpenSpec.ofChange Rows.danceDownSpec) false w args)
      (Rows.danceDownSpec.post enc Tryz.prog Tryz.f12 false true false false) := by
  refine returnsInHanded_of_change_and (C := Tryz.checked) (X := fun w _ => laidMetH Tryz.prog Rows.danceDownRow.laid w) (fun _ _ _ hh h => h.of_heap hh) own started (by kernel_rfl) Tryz.func12
    (ChangeSpec.witness_at (enc := enc) (C := Tryz.checked) (os := os) (X := fun w _ => laidMetH Tryz.prog Rows.danceDownRow.laid w) false (laidWorld os) #[.int .i64 0, .int .i64 0, .slice none 0 0] 8 rfl (by kernel_rfl) (by kernel_rfl) (by kernel_rfl) (by kernel_rfl) (by kernel_rfl) (laidWorld_met os _)) ?_
  intro W base args ds gs before hval0 hW _ _ hL _
  have hval : ∀ (j : Nat) t v, Tryz.f12.params[j]? = some t → args[j]? = some v → Value.okWide Tryz.prog W .any base t v := hval0
  have hW' := hW
  obtain ⟨p, q, hA0, hV0, rfl, hfz, hnd⟩ := hW
  have hA : DataW.TrodAll enc Tryz.prog W 0 (fun _ => true) true Tryz.f12.params.toList args.toList ds p := hA0
  have hV : DataW.TrodVars enc Tryz.prog W (fun _ => true) [] gs q := hV0
  rw [Tryz.params12] at hA hval
  obtain ⟨v0, vs0, d0, ds0, p0, q0, hargs, rfl, rfl, h0, r0⟩ := trodAll_cons hA
  obtain ⟨v1, vs1, d1, ds1, p1, q1, rfl, rfl, rfl, h1, r1⟩ := trodAll_cons r0
  obtain ⟨v2, vs2, d2, ds2, p2, q2, rfl, rfl, rfl, h2, r2⟩ := trodAll_cons r1
  obtain ⟨rfl, rfl, rfl⟩ := trodAll_nil r2
  obtain rfl : args = #[v0, v1, v2] := by cases args; simp_all
  obtain ⟨rfl, rfl⟩ : gs = [] ∧ q = [] := by
    cases gs with
    | nil => exact ⟨rfl, hV⟩
    | cons g r => exact absurd hV (by intro h; cases h)
  obtain ⟨a0, rfl, rfl, rfl, w0⟩ := open_int Tryz.underlying3 (hval 0 3 v0 rfl rfl) h0
  obtain ⟨a1, rfl, rfl, rfl, w1⟩ := open_int Tryz.underlying3 (hval 1 3 v1 rfl rfl) h1
  obtain ⟨a2, len2, cap2, rfl⟩ := okWide_slice Tryz.underlying22 (hval 2 22 v2 rfl rfl)
  have k2 := h2
  have lt2 : ∀ x ∈ p2, x.block < W.heap.size := by obtain ⟨m, hm⟩ := k2; exact DataW.trod_lt m _ _ _ hm
  obtain ⟨nods2, N2, I2⟩ : ∃ nods, Moves W W.heap.size a2 len2 nods ∧ True := by
    obtain ⟨fuel, hf⟩ := h2
    obtain ⟨l, hl⟩ := moves_of (a := a2) (len := len2) (cap := cap2) hf; exact ⟨l, hl, trivial⟩
  have hw := cw_of hL
  have hg := handle_of_laid hL
  have ht := tz_of hL
  clear hA0 hval0
  refine (walk a0 a1 a2 len2 cap2 nods2 W hw hg ht N2 I2).mono fun e W' ⟨he, bel⟩ => ?_
  subst he
  exact ⟨_, rfl, _, _, _, [], _, [], hW', trodAll_mk1 (shut_bool Tryz.underlying4 _), (trodAll_cons_mk (shut_int Tryz.underlying3 w0) (trodAll_cons_mk (shut_int Tryz.underlying3 w1) (trodAll_cons_mk (Below.trod laidOut (by kernel_rfl) (of_decide_eq_true (by kernel_rfl)) k2 bel lt2) trodAll_mk0))), rfl, bel.frame _, fun h => by cases h⟩

theorem over : Rows.DanceDownSaid :=
  OpenClaim.holds_of_wide 12 Tryz.f12 rfl rfl rfl rfl rfl rfl rfl ⟨rfl, rfl, rfl, rfl, rfl⟩ rfl rfl rfl rfl rfl (by kernel_rfl) Tryz.func12 (by kernel_rfl)
    (of_decide_eq_true (by kernel_rfl)) (by unfold Func.isWrapper; first | (rw [if_pos (by decide +kernel)]; kernel_rfl) | (rw [if_neg (by decide +kernel)]; exact ⟨rfl, rfl⟩))
    (fun os started H enc _ => lifted os started H enc)

/-- The given statement: the tied card. -/
theorem proved : Rows.DanceDownCardSaid :=
  Claim7.holds_tied_plain_at .later [] [.data, .data, .handle, .data] true (true, "c6f55d05b03cf7820801fe364c569ecbd73704b9e009a9d755c8ab487a07502a") true
    over (fun _ h => by cases h) (by kernel_rfl) (fun _ h => by cases h) danceDown_row_tie rfl ⟨rfl, rfl⟩ (by kernel_rfl) rfl
    (fun f fn hf hfn => by
      obtain rfl : f = 12 := Option.some.inj ((show Tryz.prog.funcNamed "quadrille/quadrillekeep.DanceDown" = some 12 by kernel_rfl).symm.trans hf) |>.symm
      obtain rfl : fn = Tryz.f12 := (Option.some.inj (Tryz.func12.symm.trans hfn)).symm
      refine ⟨by kernel_rfl, fun j t ht => ?_⟩
      rw [Tryz.params12] at ht
      have hm : t ∈ [3, 3, 22] := by
        have := Array.mem_of_getElem? ht
        simpa using this
      have hall : ([3, 3, 22].all fun u => !Tryz.prog.wantsStandIn u) = true := by kernel_rfl
      exact (show Tryz.prog.wantsStandIn t = false by simpa using List.all_eq_true.1 hall t hm))
    (by kernel_rfl)
#print axioms proved
end Go.Proofs.YtjlhinjmnhpdaaaGreatDoor.danceDown
