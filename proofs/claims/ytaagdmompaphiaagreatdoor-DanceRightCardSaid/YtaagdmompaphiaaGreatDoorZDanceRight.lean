/-
  All are right: of any kind each party has a right program, on as many cells as there are, and, if there are two parties, on no fewer. No conditions.
-/
import Derived.Test.YtaagdmompaphiaaGreatDoorQN2
import Derived.Test.YtaagdmompaphiaaGreatDoorQM2
import Derived.Test.YtaagdmompaphiaaGreatDoorQB
import Derived.Test.YtaagdmompaphiaaGreatDoorQH5
import Derived.Test.YtaagdmompaphiaaGreatDoorRows
import Derived.Test.YtaagdmompaphiaaGreatDoorCards
import Derived.Test.YtaagdmompaphiaaGreatDoorTie
import Derived.WalkKit
import Derived.ProofKit
import Derived.OpenShut
import Derived.ChangeOld
import Derived.Below
import Derived.ChangeSame
import Derived.ChangeVars
import Derived.JoinedOf
import Derived.RowKitTokens
import Derived.LaidLaws
import Derived.LaidHandle
import Derived.Stop.Joined
import Derived.SevenTiedAt
import Derived.Lib.LaidTab
import Derived.Lib.LaidIn
import Derived.Test.YtaagdmompaphiaaGreatDoorQA
import Derived.ChangeMaps5
import Derived.Test.YtaagdmompaphiaaGreatDoorQE
import Derived.Test.YtaagdmompaphiaaGreatDoorQN
namespace Go.Proofs.YtaagdmompaphiaaGreatDoor
set_option maxRecDepth 100000
open Go.RowKit Go.Shelf Go.Sort
set_option linter.unusedVariables false
set_option linter.unusedSimpArgs false

theorem next_lessRt {q n : Nat} (h : q < n) : n - (intOf (Value.int IntKind.i64 ((q + 1 : Nat) : Int))).toNat < n - (intOf (Value.int IntKind.i64 (q : Int))).toNat := by
  show n - (((q + 1 : Nat) : Int)).toNat < n - ((q : Int)).toNat
  rw [Int.toNat_natCast, Int.toNat_natCast]
  omega
/-- Too few cells for one of the first q parties? -/
def FewP (k n rounds q : Nat) : Prop := kCells k n = 0 ∨ ∃ id, id < q ∧ ¬ RightL (barP rounds (kOps k n id)) ((kCells k n : Int) - 1)
theorem FewP.more {k n rounds q : Nat} (h : FewP k n rounds q) : FewP k n rounds (q + 1) := by
  rcases h with h | ⟨id, h1, h2⟩
  · exact .inl h
  · exact .inr ⟨id, by omega, h2⟩
theorem FewP.same {k n rounds q : Nat} (h : ¬ FewP k n rounds q) (hq : RightL (barP rounds (kOps k n q)) ((kCells k n : Int) - 1)) : ¬ FewP k n rounds (q + 1) := by
  rintro (h1 | ⟨id, h1, h2⟩)
  · exact h (.inl h1)
  · by_cases e : id = q
    · subst e
      exact h2 hq
    · exact h (.inr ⟨id, by omega, h2⟩)
set_option maxHeartbeats 4000000 in
theorem danceRight_any {w : World} (H : DanceOK) (hw : DW w) (k n rounds : Int) :
    Calls Tryz.prog 4 #[.int .i64 k, .int .i64 n, .int .i64 rounds] w fun e w' => e = .returned (.bool true) ∧ Below w.heap.size w w' := by
  have HDn := Lib.hid (danced_any H hw)
  have HWr := Lib.hid (fun w1 (hb : Below w.heap.size w w1) => written_true w1 (hw.old hb).cw)
  have HBall := Lib.hid (fun w => ball_is k n rounds w)
  have d := ball_dims k n rounds
  generalize ballK k = k1 at *
  generalize ballN n = n1 at *
  generalize ballR rounds = r1 at *
  have HD := Lib.hid d
  have HW := Lib.hid hw
  have hk := kind_right (rounds := r1) d.k1 d.k6 d.n1 d.n16 (by have := d.r6; omega)
  have HK := Lib.hid hk
  have HCl := Lib.hid (fun w1 (hb : Below w.heap.size w w1) => dcells_any (hw.old hb) d)
  have HCo := Lib.hid (fun w1 (hb : Below w.heap.size w w1) id (hid : id < n1) => dcode_any (hw.old hb) d hid)
  clear hw d hk
  go_enter Tryz.func4, Tryz.ntmps4
  go_wp2_with fail
  refine HDn.out.mono ?_
  rintro e w1 ⟨rfl, hb1⟩
  have HB1 := Lib.hid hb1
  clear hb1 HDn
  go_wp2_with fail
  --MA
  refine (HWr.out _ HB1.out).mono ?_
  rintro e w2 ⟨rfl, hb2⟩
  have HB2 := Lib.hid (HB1.out.trans (hb2.mono HB1.out.size))
  clear hb2 HWr HB1
  go_wp2_with fail
  refine (HBall.out _).mono ?_
  rintro e w3 ⟨rfl, rfl⟩
  clear HBall
  go_wp2_with fail
  --MB
  refine (HCl.out _ HB2.out).mono ?_
  rintro e w4 ⟨rfl, hb4⟩
  have HB4 := Lib.hid (HB2.out.trans (hb4.mono HB2.out.size))
  have h3 := HK.out.1
  have HFew := Lib.hid (fun q => show FewP k1 n1 r1 q ↔ (kCells k1 n1 = 0 ∨ ∃ id, id < q ∧ ¬ RightL (barP r1 (kOps k1 n1 id)) ((kCells k1 n1 : Int) - 1)) from Iff.rfl)
  have HMo := Lib.hid (fun q => @FewP.more k1 n1 r1 q)
  have HSa := Lib.hid (fun q => @FewP.same k1 n1 r1 q)
  clear hb4 HB2 HCl
  generalize FewP k1 n1 r1 = P at *
  generalize kCells k1 n1 = kc at *
  have hk0 : ¬ (kc : Int) < 0 := by omega
  have hk3 : ¬ (300 : Int) < (kc : Int) := by omega
  obtain ⟨fb, hfb⟩ : ∃ fb : Bool, fb = ((kc : Int) == 0) := ⟨_, rfl⟩
  have HFb := Lib.hid (show fb = true ↔ P 0 by
    rw [hfb, HFew.out 0]
    constructor
    · intro h; exact .inl (by have : (kc : Int) = 0 := by simpa using h
                              omega)
    · rintro (h | ⟨id, h, _⟩)
      · rw [h]; rfl
      · omega)
  clear h3
  go_wp2
  --MC
  rw [← hfb]
  clear hfb hk3
  go_loopw [9, 46] (fun f j wr => ∃ (q : Nat) (fb : Bool), q ≤ n1 ∧ f = .bool fb ∧ j = .int .i64 q ∧ Hid ((fb = true ↔ P q) ∧ Below w.heap.size w wr)) (fun _ j _ => n1 - (intOf j).toNat)
  case atStart => exact ⟨0, fb, Nat.zero_le _, rfl, rfl, HFb.out, HB4.out⟩
  case round =>
    obtain ⟨q, fb, hq, rfl, rfl, hx⟩ := hrel
    by_cases hlt : q < n1
    · have hkn : (q : Int) < (n1 : Int) := Int.ofNat_lt.2 hlt
      have HX := Lib.hid hx.out
      have HQ := Lib.hid hlt
      clear hx hq hlt
      go_wp2_with fail
      --MD
      refine (HCo.out _ HX.out.2 q HQ.out).mono ?_
      rintro e w5 ⟨A1, cap1, rfl, hown, hb5⟩
      have HB5 := Lib.hid (HX.out.2.trans (hb5.mono HX.out.2.size))
      have hRt := HK.out.2.1 q HQ.out
      have HRt := Lib.hid (fun (u : World) (hb : Below w5.heap.size w5 u) (cells : Int) => right_any (barP r1 (kOps k1 n1 q)) A1 (barP r1 (kOps k1 n1 q)).length cap1 cells u (HW.out.old (HB5.out.trans (hb.mono HB5.out.size))).cw ((Inss.of_own hown rfl).old hb))
      have HR1 := Lib.hid hRt
      have HSq := Lib.hid (HSa.out q)
      have HAdd := Lib.hid (fun (h : ¬ RightL (barP r1 (kOps k1 n1 q)) ((kc : Int) - 1)) => (HFew.out (q + 1)).2 (.inr ⟨q, Nat.lt_succ_self q, h⟩))
      clear hown hb5 hRt
      generalize barP r1 (kOps k1 n1 q) = pq at *
      generalize pq.length = pl at *
      go_wp2_with fail
      --ME
      refine (HRt.out _ (Below.refl _ _) _).mono ?_
      rintro e w6 ⟨hb6, ⟨rfl, _⟩ | ⟨t6, p6, rfl, hno⟩⟩
      case inr => exact absurd HR1.out hno
      have HB6 := Lib.hid hb6
      have HB7 := Lib.hid (HB5.out.trans (hb6.mono HB5.out.size))
      clear hb6
      have HWq := Lib.hid (show wrap64 ((q : Int) + 1) = ((q + 1 : Nat) : Int) from by have h1 := HQ.out; have h2 := HD.out.n16; unfold wrap64; omega)
      cases fb with
      | true =>
        clear HRt
        go_wp2_with fail
        --MF
        rw [HWq.out]
        exact ⟨⟨q + 1, true, HQ.out, rfl, rfl, ⟨fun _ => HMo.out q (by first | exact HX.out.1.1 rfl | exact HX.out.1.1 trivial | exact HX.out.1), fun _ => rfl⟩, HB7.out⟩, next_lessRt HQ.out⟩
      | false =>
        have hnP : ¬ P q := fun h => by have := HX.out.1.2 h; cases this
        have hkc : kc ≠ 0 := fun h => hnP ((HFew.out q).2 (.inl h))
        have HnP := Lib.hid hnP
        have hkp : (0 : Int) < (kc : Int) := by omega
        have HWk := Lib.hid (show wrap64 ((kc : Int) - 1) = (kc : Int) - 1 by have := HK.out.1; clear HRt; unfold wrap64; omega)
        clear hnP hkc
        go_wp2_with fail
        --MG
        try rw [HWk.out]
        refine (HRt.out _ HB6.out _).mono ?_
        rintro e w8 ⟨hb8, ⟨rfl, hyes⟩ | ⟨t6, p6, rfl, hno⟩⟩
        · have HN := Lib.hid (show (false = true ↔ P (q + 1)) ∧ Below w.heap.size w w8 from ⟨⟨fun h => (by cases h), fun h => absurd h (HSq.out HnP.out hyes)⟩, HB7.out.trans (hb8.mono HB7.out.size)⟩)
          clear hb8 hyes HRt HB6
          go_wp2_with fail
          --MH
          rw [HWq.out]
          exact ⟨⟨q + 1, false, HQ.out, rfl, rfl, ⟨fun h => (by cases h), fun h => absurd (HN.out.1.2 h) (by simp)⟩, HN.out.2⟩, next_lessRt HQ.out⟩
        · have HN := Lib.hid (show (true = true ↔ P (q + 1)) ∧ Below w.heap.size w w8 from ⟨⟨fun _ => HAdd.out hno, fun _ => rfl⟩, HB7.out.trans (hb8.mono HB7.out.size)⟩)
          clear hb8 hno HRt HB6
          go_wp2_with fail
          rw [HWq.out]
          exact ⟨⟨q + 1, true, HQ.out, rfl, rfl, ⟨fun _ => HN.out.1.1 (by trivial), fun _ => rfl⟩, HN.out.2⟩, next_lessRt HQ.out⟩
    · have hkn : ¬ (q : Int) < (n1 : Int) := fun h => hlt (Int.ofNat_lt.1 h)
      obtain rfl : n1 = q := Nat.le_antisymm (Nat.le_of_not_lt hlt) hq
      have HF := Lib.hid hx.out.2
      have hP := hx.out.1
      by_cases h1 : n1 = 1
      · subst h1
        clear hP hx hq hlt
        cases fb <;> (go_wp2; go_ret; exact ⟨rfl, HF.out⟩)
      · obtain rfl : fb = true := hP.2 ((HFew.out n1).2 (.inr (HK.out.2.2 h1).2))
        clear hP hx hq hlt
        go_wp2
        go_ret
        exact ⟨rfl, HF.out⟩
end Go.Proofs.YtaagdmompaphiaaGreatDoor

namespace Go.Proofs.YtaagdmompaphiaaGreatDoor.danceRight
open Go.ChangeShapes Go.WideShapes Go.ChangeAt Go.RowKit
set_option linter.unusedVariables false

theorem own : ownKnob Tryz.prog.godebug = none := by kernel_rfl
theorem laidOut : laidOutB Tryz.prog = true := by kernel_rfl
theorem tsize : Tryz.prog.types.size = 265 := by kernel_rfl

theorem et : Tryz.prog.globalNamed "errors.errorType" = some 1 := by kernel_rfl
theorem rt : (Tryz.prog.cutTypes.find? (·.1 == "internal/reflectlite.rtype")).map (·.2) = some 183 := by kernel_rfl
theorem oneRow : ((List.range 265).filter fun t => Tryz.prog.rowNamed t [101, 114, 114, 111, 114]) = [29] := by kernel_rfl

/-- What the listed variables give the walk. -/
theorem cw_of {W : World} (h : laidMetH Tryz.prog Rows.danceRightRow.laid W) : CW W := by
  have h' : laidMet Tryz.prog (Rows.danceRightRow.laid.filter fun x => x.2.handleName?.isNone) W ∧ handlesMet Tryz.prog (Rows.danceRightRow.laid.filter fun x => x.2.handleName?.isSome) W := h
  refine cw_of_laid h'.1 (nm1 := "*errors.errorString") (nm2 := "*errors.errorString") (d1 := .ptr (.agg [.lit (.string [105, 110, 118, 97, 108, 105, 100, 32, 115, 121, 110, 116, 97, 120])])) (d2 := .ptr (.agg [.lit (.string [118, 97, 108, 117, 101, 32, 111, 117, 116, 32, 111, 102, 32, 114, 97, 110, 103, 101])])) ?_ ?_ ?_ ?_
  · exact List.mem_filter.2 ⟨.tail _ (.tail _ (.tail _ (.tail _ (.tail _ (.tail _ (.head _)))))), rfl⟩
  · exact List.mem_filter.2 ⟨.tail _ (.tail _ (.head _)), rfl⟩
  · exact List.mem_filter.2 ⟨.tail _ (.tail _ (.tail _ (.tail _ (.tail _ (.head _))))), rfl⟩
  · exact List.mem_filter.2 ⟨.tail _ (.tail _ (.tail _ (.tail _ (.head _)))), rfl⟩
theorem handle_of_laid {W : World} (h : laidMetH Tryz.prog Rows.danceRightRow.laid W) : ErrVar W := by
  have h' : laidMet Tryz.prog (Rows.danceRightRow.laid.filter fun x => x.2.handleName?.isNone) W ∧ handlesMet Tryz.prog (Rows.danceRightRow.laid.filter fun x => x.2.handleName?.isSome) W := h
  obtain ⟨name, u, ty, e1, e2, e3, e4, e5⟩ := h'.2 ("errors.errorType", Rows.laid_errors_errorType) (List.mem_filter.2 ⟨.tail _ (.tail _ (.tail _ (.head _))), rfl⟩)
  have en : name = [101, 114, 114, 111, 114] := (Option.some.inj e1).symm
  subst en
  obtain rfl := Option.some.inj (rt.symm.trans e2)
  have hm : ty ∈ (List.range 265).filter fun t => Tryz.prog.rowNamed t [101, 114, 114, 111, 114] := List.mem_filter.2 ⟨List.mem_range.2 (by rw [← tsize]; exact e3), e4⟩
  rw [oneRow] at hm
  obtain rfl := List.mem_singleton.1 hm
  have hh : typeHandle Tryz.prog 29 = .pointer (some ⟨8, 29, none⟩) := by kernel_rfl
  rw [hh] at e5
  have := World.var?_cell et e5 0
  unfold ErrVar
  simpa using this
theorem tz_of {W : World} (h : laidMetH Tryz.prog Rows.danceRightRow.laid W) : TzVar W := by
  have h' : laidMet Tryz.prog (Rows.danceRightRow.laid.filter fun x => x.2.handleName?.isNone) W ∧ handlesMet Tryz.prog (Rows.danceRightRow.laid.filter fun x => x.2.handleName?.isSome) W := h
  exact tz_of_laid h'.1 (List.mem_filter.2 ⟨.tail _ (.head _), rfl⟩)

/-- So many blocks has the settled world. -/
noncomputable def low : Nat := (World.holding Tryz.prog default ⟨#[], #[], []⟩).heap.size
def put (o : Obj) (cs : Array Value) : Obj := match o with
  | .cells _ t frozen => .cells cs t frozen
  | o => o
def tab (k : IntKind) (zs : List Int) : Array Value := (zs.map fun z => Value.int k z).toArray
/-- A world that meets the condition. -/
noncomputable def laidWorld (os : Os) : World :=
  let w0 := World.holding Tryz.prog os ⟨#[.cells #[.string ⟨#[118, 97, 108, 117, 101, 32, 111, 117, 116, 32, 111, 102, 32, 114, 97, 110, 103, 101]⟩] 232, .cells #[.string ⟨#[105, 110, 118, 97, 108, 105, 100, 32, 115, 121, 110, 116, 97, 120]⟩] 232], #[], []⟩
  { w0 with heap := (((((((w0.heap.modify 1 (put · #[.iface 183 (.agg #[.pointer (some ⟨8, 29, none⟩)])])).modify 0 (put · formCells)).modify 5 (put · (tab .u64 Lib.pow10Tab))).modify 3 (put · #[.iface 230 (.pointer (some ⟨low + 1, 0, none⟩))])).modify 4 (put · #[.iface 230 (.pointer (some ⟨low, 0, none⟩))])).modify 6 (put · (tab .u8 [0, 1, 28, 2, 29, 14, 24, 3, 30, 22, 20, 15, 25, 17, 4, 8, 31, 27, 13, 23, 21, 19, 16, 7, 26, 12, 18, 6, 11, 5, 10, 9]))).modify 7 (put · (tab .u8 [0, 1, 56, 2, 57, 49, 28, 3, 61, 58, 42, 50, 38, 29, 17, 4, 62, 47, 59, 36, 45, 43, 51, 22, 53, 39, 33, 30, 24, 18, 12, 5, 63, 55, 48, 27, 60, 41, 37, 16, 46, 35, 44, 21, 52, 32, 23, 11, 54, 26, 40, 15, 34, 20, 31, 10, 25, 14, 19, 9, 13, 8, 7, 6]))) }
theorem laidWorld_met (os : Os) (args : Array Value) : laidMetH Tryz.prog Rows.danceRightRow.laid ((laidWorld os).forCall (fun _ _ => 0) ⟨#[], args, []⟩).memory :=
  laidMetH_of_parts (LaidIn.of_run [0, 5, 3, 4, 6, 7, low, low + 1] 8 (by kernel_rfl) (by kernel_rfl) (by kernel_rfl) (by kernel_rfl)).met (by kernel_rfl)

/-- The walk. -/
theorem walk (a0 : Int) (a1 : Int) (a2 : Int) (w : World) (hw : CW w) (hg : ErrVar w) (ht : TzVar w)  :
    Calls Tryz.prog 4 #[.int .i64 a0, .int .i64 a1, .int .i64 a2] w fun e w' => e = .returned (.bool true) ∧ Below w.heap.size w w' := by
  exact danceRight_any danceOK ⟨hw, hg, ht⟩ a0 a1 a2

set_option maxRecDepth 100000 in
theorem lifted (os : Os) (started : os.Started) (H : Type) (enc : TypeId × Value → H) :
    ReturnsInHanded {} Tryz.checked os 4 .any (fun w args => (Rows.danceRightSpec.pre enc Tryz.prog Tryz.f4 [] false w args ∧ laidMetH Tryz.prog Rows.danceRightRow.laid w) ∧ sizedMet enc Tryz.prog Tryz.f4 (OpenSpec.ofChange Rows.danceRightSpec) false w args)
      (Rows.danceRightSpec.post enc Tryz.prog Tryz.f4 false true false false) := by
  refine returnsInHanded_of_change_and (C := Tryz.checked) (X := fun w _ => laidMetH Tryz.prog Rows.danceRightRow.laid w) (fun _ _ _ hh h => h.of_heap hh) own started (by kernel_rfl) Tryz.func4
    (ChangeSpec.witness_at (enc := enc) (C := Tryz.checked) (os := os) (X := fun w _ => laidMetH Tryz.prog Rows.danceRightRow.laid w) false (laidWorld os) #[.int .i64 0, .int .i64 0, .int .i64 0] 8 rfl (by kernel_rfl) (by kernel_rfl) (by kernel_rfl) (by kernel_rfl) (by kernel_rfl) (laidWorld_met os _)) ?_
  intro W base args ds gs before hval0 hW _ _ hL _
  have hval : ∀ (j : Nat) t v, Tryz.f4.params[j]? = some t → args[j]? = some v → Value.okWide Tryz.prog W .any base t v := hval0
  have hW' := hW
  obtain ⟨p, q, hA0, hV0, rfl, hfz, hnd⟩ := hW
  have hA : DataW.TrodAll enc Tryz.prog W 0 (fun _ => true) true Tryz.f4.params.toList args.toList ds p := hA0
  have hV : DataW.TrodVars enc Tryz.prog W (fun _ => true) [] gs q := hV0
  rw [Tryz.params4] at hA hval
  obtain ⟨v0, vs0, d0, ds0, p0, q0, hargs, rfl, rfl, h0, r0⟩ := trodAll_cons hA
  obtain ⟨v1, vs1, d1, ds1, p1, q1, rfl, rfl, rfl, h1, r1⟩ := trodAll_cons r0
  obtain ⟨v2, vs2, d2, ds2, p2, q2, rfl, rfl, rfl, h2, r2⟩ := trodAll_cons r1
  obtain ⟨rfl, rfl, rfl⟩ := trodAll_nil r2
  obtain rfl : args = #[v0, v1, v2] := by cases args; simp_all
  obtain ⟨rfl, rfl⟩ : gs = [] ∧ q = [] := by
    cases gs with
    | nil => exact ⟨rfl, hV⟩
    | cons g r => exact absurd hV (by intro h; cases h)
  obtain ⟨a0, rfl, rfl, rfl, w0⟩ := open_int Tryz.underlying3 (hval 0 3 v0 rfl rfl) h0
  obtain ⟨a1, rfl, rfl, rfl, w1⟩ := open_int Tryz.underlying3 (hval 1 3 v1 rfl rfl) h1
  obtain ⟨a2, rfl, rfl, rfl, w2⟩ := open_int Tryz.underlying3 (hval 2 3 v2 rfl rfl) h2
  have hw := cw_of hL
  have hg := handle_of_laid hL
  have ht := tz_of hL
  clear hA0 hval0
  refine (walk a0 a1 a2 W hw hg ht ).mono fun e W' ⟨he, bel⟩ => ?_
  subst he
  exact ⟨_, rfl, _, _, _, [], _, [], hW', trodAll_mk1 (shut_bool Tryz.underlying4 _), (trodAll_cons_mk (shut_int Tryz.underlying3 w0) (trodAll_cons_mk (shut_int Tryz.underlying3 w1) (trodAll_cons_mk (shut_int Tryz.underlying3 w2) trodAll_mk0))), rfl, bel.frame _, fun h => by cases h⟩

theorem over : Rows.DanceRightSaid :=
  OpenClaim.holds_of_wide 4 Tryz.f4 rfl rfl rfl rfl rfl rfl rfl ⟨rfl, rfl, rfl, rfl, rfl⟩ rfl rfl rfl rfl rfl (by kernel_rfl) Tryz.func4 (by kernel_rfl)
    (of_decide_eq_true (by kernel_rfl)) (by unfold Func.isWrapper; first | (rw [if_pos (by decide +kernel)]; kernel_rfl) | (rw [if_neg (by decide +kernel)]; exact ⟨rfl, rfl⟩))
    (fun os started H enc _ => lifted os started H enc)

/-- The given statement: the tied card. -/
theorem proved : Rows.DanceRightCardSaid :=
  Claim7.holds_tied_plain_at .later [] [.data, .data, .data, .handle, .sentinel, .sentinel, .data] true (true, "f3e498f15f0599c51ef48d4ca70d22bb4f2448dde73826260ef777617b4d9a2b") true
    over (fun _ h => by cases h) (by kernel_rfl) (fun _ h => by cases h) danceRight_row_tie rfl ⟨rfl, rfl⟩ (by kernel_rfl) rfl
    (fun f fn hf hfn => by
      obtain rfl : f = 4 := Option.some.inj ((show Tryz.prog.funcNamed "quadrille/quadrillekeep.DanceRight" = some 4 by kernel_rfl).symm.trans hf) |>.symm
      obtain rfl : fn = Tryz.f4 := (Option.some.inj (Tryz.func4.symm.trans hfn)).symm
      refine ⟨by kernel_rfl, fun j t ht => ?_⟩
      rw [Tryz.params4] at ht
      have hm : t ∈ [3, 3, 3] := by
        have := Array.mem_of_getElem? ht
        simpa using this
      have hall : ([3, 3, 3].all fun u => !Tryz.prog.wantsStandIn u) = true := by kernel_rfl
      exact (show Tryz.prog.wantsStandIn t = false by simpa using List.all_eq_true.1 hall t hm))
    (by kernel_rfl)
#print axioms proved
end Go.Proofs.YtaagdmompaphiaaGreatDoor.danceRight
