/-
  Who is alone never waits: a barrier for one is gone through without sleeping. No conditions.
-/
import Derived.Test.YtmkgmpfpemiaaaaGreatDoorQN2
import Derived.Test.YtmkgmpfpemiaaaaGreatDoorQN4
import Derived.Test.YtmkgmpfpemiaaaaGreatDoorRows
import Derived.Test.YtmkgmpfpemiaaaaGreatDoorCards
import Derived.Test.YtmkgmpfpemiaaaaGreatDoorTie
import Derived.WalkKit
import Derived.ProofKit
import Derived.OpenShut
import Derived.ChangeOld
import Derived.Below
import Derived.ChangeSame
import Derived.ChangeVars
import Derived.JoinedOf
import Derived.RowKitTokens
import Derived.LaidLaws
import Derived.LaidHandle
import Derived.Stop.Joined
import Derived.SevenTiedAt
import Derived.Lib.LaidTab
import Derived.Lib.LaidIn
import Derived.Test.YtmkgmpfpemiaaaaGreatDoorQA
import Derived.ChangeMaps5
import Derived.Test.YtmkgmpfpemiaaaaGreatDoorQM2
import Derived.Test.YtmkgmpfpemiaaaaGreatDoorQE
import Derived.Test.YtmkgmpfpemiaaaaGreatDoorQN
namespace Go.Proofs.YtmkgmpfpemiaaaaGreatDoor
set_option maxRecDepth 100000
open Go.RowKit Go.Shelf Go.Sort
set_option linter.unusedVariables false
set_option linter.unusedSimpArgs false

theorem kind_nat (k : Int) : ∃ u : Nat, 1 ≤ u ∧ u ≤ 6 ∧ ∀ w, Calls Tryz.prog 34 #[.int .i64 k] w fun e w' => e = .returned (.int .i64 (u : Nat)) ∧ w = w' := by
  have h1 := pickI_lo k 6
  have h2 := pickI_hi k 6 (by decide)
  refine ⟨(1 + pickI k 6).toNat, by omega, by omega, fun w => ?_⟩
  have := kind_is k w
  rwa [show (((1 + pickI k 6).toNat : Nat) : Int) = 1 + pickI k 6 by omega]
theorem alone_at {k rounds p : Nat} {m : Mach} (h : Dn k 1 rounds p m) {cells0 : List Int} (hm : MOk cells0 m) : ((atM m 0).2.2 = 6 ∧ m.ended.getD 0 false = true) ∨ ((atM m 0).2.1 = -1 ∧ (atM m 0).2.2 = 0 ∧ m.ended.getD 0 false = false) := by
  have hl := h.plen
  have hn : ¬ ((0 : Int) < 0 ∨ (m.progs.length : Int) ≤ 0) := by omega
  cases he : m.ended.getD 0 false with
  | true =>
    have e : underE m 0 = 6 := by
      unfold underE
      rw [if_neg hn, if_pos (by simpa using he)]
    unfold atM
    rw [if_neg (by rw [e]; decide)]
    exact .inl ⟨e, rfl⟩
  | false =>
    have e : underE m 0 = 0 := by
      unfold underE
      rw [if_neg hn, if_neg (by rw [show ((0 : Int)).toNat = 0 from rfl, he]; decide)]
    unfold atM
    rw [if_pos e]
    exact .inr ⟨alone_cell h hm, rfl, rfl⟩
theorem wrap_bound {sz r : Nat} (hs : sz ≤ 9600) (hr : r ≤ 6) : ∃ N : Nat, 3 * sz * (r + 1) = N ∧ N ≤ 201600 ∧ wrap64 (wrap64 (3 * (sz : Int)) * ((r : Int) + 1)) = (N : Int) := by
  have h2 : 3 * sz * (r + 1) ≤ 3 * 9600 * 7 := Nat.mul_le_mul (Nat.mul_le_mul_left 3 hs) (by omega)
  refine ⟨_, rfl, by omega, ?_⟩
  have e1 : wrap64 (3 * (sz : Int)) = 3 * (sz : Int) := by unfold wrap64; omega
  have e : 3 * (sz : Int) * ((r : Int) + 1) = ((3 * sz * (r + 1) : Nat) : Int) := by push_cast; rfl
  rw [e1, e]
  generalize 3 * sz * (r + 1) = q at *
  unfold wrap64
  omega

set_option maxHeartbeats 2000000 in
theorem danceAlone_any {w : World} (H : DanceOK) (HC : CodeOK) (hw : DW w) (k rounds : Int) :
    Calls Tryz.prog 10 #[.int .i64 k, .int .i64 rounds] w fun e w' => e = .returned (.bool true) ∧ Below w.heap.size w w' := by
  have HDn := Lib.hid (danced_any H hw)
  obtain ⟨k1, hk1, hk6, hK⟩ := kind_nat k
  obtain ⟨r1, hr1, _, hR⟩ := pick_nat rounds 7 (by decide) (by decide)
  have d : Dims k1 1 r1 := ⟨hk1, hk6, by decide, by decide, by omega⟩
  have HK := Lib.hid hK
  have HR := Lib.hid hR
  have HFl := Lib.hid (fun w1 (hb : Below w.heap.size w w1) => floor_nil H hw hb d)
  have HSz := Lib.hid (fun w1 (hb : Below w.heap.size w w1) => size_any HC (hw.old hb) d)
  obtain ⟨N, hN, hN2, hwN⟩ := wrap_bound (kSize_le d) (show r1 ≤ 6 by omega)
  have HDone := Lib.hid (fun (m : Mach) (h : Dn k1 1 r1 0 m) (cells0 : List Int) (hm : MOk cells0 m) (hs : m.ended.getD 0 false = true ∨ N ≤ m.steps) => alone_done d h hm (by rw [hN]; exact hs))
  clear hN
  generalize kSize k1 1 = sz at *
  have HD := Lib.hid d
  clear hK hR d
  go_enter Tryz.func10, Tryz.ntmps10
  go_wp2_with fail
  refine HDn.out.mono ?_
  rintro e w1 ⟨rfl, hb1⟩
  have HB1 := Lib.hid hb1
  clear hb1 HDn
  go_wp2_with fail
  refine (HK.out _).mono ?_
  rintro e w2 ⟨rfl, rfl⟩
  go_wp2_with fail
  refine (HR.out _).mono ?_
  rintro e w2 ⟨rfl, rfl⟩
  go_wp2_with fail
  refine (HFl.out _ HB1.out).mono ?_
  rintro e w2 ⟨c, m0, rfl, hF, hm0⟩
  have HF := Lib.hid hF
  clear hF HB1 HFl hm0
  go_wp2_with fail
  refine (HSz.out _ HF.out.bel).mono ?_
  rintro e w3 ⟨rfl, hb3⟩
  have HF3 := Lib.hid (HF.out.keep hb3)
  clear hb3 HF HSz
  go_wp2
  rw [hwN]
  clear hwN
  go_loopw [6, 7, 8, 29] (fun _ _ _ j wr => ∃ q : Nat, q ≤ N ∧ j = .int .i64 q ∧ ∃ m, Hid (Flo w c k1 1 r1 0 m wr ∧ (m.ended.getD 0 false = true ∨ q ≤ m.steps))) (fun _ _ _ j _ => N - (intOf j).toNat)
  case atStart => exact ⟨0, Nat.zero_le _, rfl, m0, ⟨HF3.out, .inr (Nat.zero_le _)⟩⟩
  case round =>
    obtain ⟨q, hq, rfl, m, hF⟩ := hrel
    by_cases hlt : q < N
    · have hkn : (q : Int) < (N : Int) := by omega
      have HF4 := Lib.hid hF.out
      have HAT := Lib.hid (at_at HF4.out.1.at_ 0)
      clear hF HF3
      rcases alone_at HF4.out.1.dn HF4.out.1.big.ok with ⟨h1, he⟩ | ⟨h1, h2, he⟩
      · rw [h1, errV_pos (by decide)] at HAT
        generalize (atM m 0).1 = z1 at *
        generalize (atM m 0).2.1 = z2 at *
        have HE := Lib.hid he
        clear h1 he
        go_wp2_with fail
        refine HAT.out.mono ?_
        rintro e w5 ⟨rfl, hg5⟩
        have HF5 := Lib.hid (HF4.out.1.grow hg5)
        clear hg5 HAT HF4
        go_wp2_with fail
        refine (flo_step HD.out HF5.out (by decide) (t := 0) (by decide)).mono ?_
        rintro e w6 ⟨rfl, hF6⟩
        have HF6 := Lib.hid (And.intro hF6 (show (stepM 20000 m ((0 : Nat) : Int)).2.ended.getD 0 false = true ∨ q + 1 ≤ (stepM 20000 m ((0 : Nat) : Int)).2.steps from by rw [step_ended HE.out]; exact .inl HE.out))
        generalize errV (stepM 20000 m ((0 : Nat) : Int)).1 = RV
        clear hF6 HF5
        go_wp2
        go_roundw
        case rel => exact ⟨q + 1, by omega, by go_num, _, HF6⟩
        case measure => simp [intOf]; omega
      · rw [h1, h2] at HAT
        have hE0 : errV 0 = .nilIface := rfl
        rw [hE0] at HAT
        generalize (atM m 0).1 = z1 at *
        have HE := Lib.hid he
        clear h1 h2 he hE0
        go_wp2_with fail
        refine HAT.out.mono ?_
        rintro e w5 ⟨rfl, hg5⟩
        have HF5 := Lib.hid (And.intro (HF4.out.1.grow hg5) HF4.out.2)
        clear hg5 HAT HF4
        go_wp2_with fail
        refine (flo_step HD.out HF5.out.1 (by decide) (t := 0) (by decide)).mono ?_
        rintro e w6 ⟨rfl, hF6⟩
        have HF6 := Lib.hid (And.intro hF6 (show (stepM 20000 m ((0 : Nat) : Int)).2.ended.getD 0 false = true ∨ q + 1 ≤ (stepM 20000 m ((0 : Nat) : Int)).2.steps from by
          rw [alone_step HF5.out.1.dn HF5.out.1.big.ok (HF5.out.1.dn.steps HD.out (by omega)) HE.out]
          rcases HF5.out.2 with h | h
          · rw [HE.out] at h
            cases h
          · exact .inr (by omega)))
        generalize errV (stepM 20000 m ((0 : Nat) : Int)).1 = RV
        clear hF6 HF5
        go_wp2
        go_roundw
        case rel => exact ⟨q + 1, by omega, by go_num, _, HF6⟩
        case measure => simp [intOf]; omega
    · have hkn : ¬ (q : Int) < (N : Int) := by omega
      obtain rfl : q = N := by omega
      have hE := HDone.out m hF.out.1.dn _ hF.out.1.big.ok hF.out.2
      have HF4 := Lib.hid hF.out.1
      have HEn := Lib.hid (flo_ends HD.out HF4.out)
      rw [hE.ends] at HEn
      have hlen := hE.len
      rw [Nat.mul_one] at hlen
      have hw2 : wrap64 (2 * (r1 : Int)) = ((2 * r1 : Nat) : Int) := by unfold wrap64; omega
      have hee : (((2 * r1 : Nat) : Int) == ((2 * r1 : Nat) : Int)) = true := by simp
      have HEv := Lib.hid (fun w5 (hg : wr.grownBy w5 none) => flo_events (HF4.out.grow hg))
      rw [hlen] at HEv
      clear hF HF3 hE hlen HDone
      go_wp2_with fail
      refine HEn.out.mono ?_
      rintro e w5 ⟨rfl, hg5⟩
      have HF5 := Lib.hid (HF4.out.grow hg5)
      have HEv5 := Lib.hid (HEv.out _ hg5)
      clear hg5 HF4 HEn HEv
      go_wp2_with fail
      refine HEv5.out.mono ?_
      rintro e w6 ⟨A6, c6, rfl, _, hg6⟩
      have HB6 := Lib.hid (HF5.out.grow hg6).bel
      clear hg6 HF5 HEv5
      go_wp2
      go_ret
      exact ⟨rfl, HB6.out⟩
end Go.Proofs.YtmkgmpfpemiaaaaGreatDoor

namespace Go.Proofs.YtmkgmpfpemiaaaaGreatDoor.danceAlone
open Go.ChangeShapes Go.WideShapes Go.ChangeAt Go.RowKit
set_option linter.unusedVariables false

theorem own : ownKnob Tryz.prog.godebug = none := by kernel_rfl
theorem laidOut : laidOutB Tryz.prog = true := by kernel_rfl
theorem tsize : Tryz.prog.types.size = 238 := by kernel_rfl

theorem et : Tryz.prog.globalNamed "errors.errorType" = some 1 := by kernel_rfl
theorem rt : (Tryz.prog.cutTypes.find? (·.1 == "internal/reflectlite.rtype")).map (·.2) = some 191 := by kernel_rfl
theorem oneRow : ((List.range 238).filter fun t => Tryz.prog.rowNamed t [101, 114, 114, 111, 114]) = [29] := by kernel_rfl

/-- What the listed variables give the walk. -/
theorem cw_of {W : World} (h : laidMetH Tryz.prog Rows.danceAloneRow.laid W) : CW W := by
  have h' : laidMet Tryz.prog (Rows.danceAloneRow.laid.filter fun x => x.2.handleName?.isNone) W ∧ handlesMet Tryz.prog (Rows.danceAloneRow.laid.filter fun x => x.2.handleName?.isSome) W := h
  exact cw_of_laid h'.1 (List.mem_filter.2 ⟨.tail _ (.tail _ (.tail _ (.head _))), rfl⟩)
theorem handle_of_laid {W : World} (h : laidMetH Tryz.prog Rows.danceAloneRow.laid W) : ErrVar W := by
  have h' : laidMet Tryz.prog (Rows.danceAloneRow.laid.filter fun x => x.2.handleName?.isNone) W ∧ handlesMet Tryz.prog (Rows.danceAloneRow.laid.filter fun x => x.2.handleName?.isSome) W := h
  obtain ⟨name, u, ty, e1, e2, e3, e4, e5⟩ := h'.2 ("errors.errorType", Rows.laid_errors_errorType) (List.mem_filter.2 ⟨.tail _ (.tail _ (.head _)), rfl⟩)
  have en : name = [101, 114, 114, 111, 114] := (Option.some.inj e1).symm
  subst en
  obtain rfl := Option.some.inj (rt.symm.trans e2)
  have hm : ty ∈ (List.range 238).filter fun t => Tryz.prog.rowNamed t [101, 114, 114, 111, 114] := List.mem_filter.2 ⟨List.mem_range.2 (by rw [← tsize]; exact e3), e4⟩
  rw [oneRow] at hm
  obtain rfl := List.mem_singleton.1 hm
  have hh : typeHandle Tryz.prog 29 = .pointer (some ⟨4, 29, none⟩) := by kernel_rfl
  rw [hh] at e5
  have := World.var?_cell et e5 0
  unfold ErrVar
  simpa using this
theorem tz_of {W : World} (h : laidMetH Tryz.prog Rows.danceAloneRow.laid W) : TzVar W := by
  have h' : laidMet Tryz.prog (Rows.danceAloneRow.laid.filter fun x => x.2.handleName?.isNone) W ∧ handlesMet Tryz.prog (Rows.danceAloneRow.laid.filter fun x => x.2.handleName?.isSome) W := h
  exact tz_of_laid h'.1 (List.mem_filter.2 ⟨.tail _ (.head _), rfl⟩)

/-- So many blocks has the settled world. -/
noncomputable def low : Nat := (World.holding Tryz.prog default ⟨#[], #[], []⟩).heap.size
def put (o : Obj) (cs : Array Value) : Obj := match o with
  | .cells _ t frozen => .cells cs t frozen
  | o => o
def tab (k : IntKind) (zs : List Int) : Array Value := (zs.map fun z => Value.int k z).toArray
/-- A world that meets the condition. -/
noncomputable def laidWorld (os : Os) : World :=
  let w0 := World.holding Tryz.prog os ⟨#[], #[], []⟩
  { w0 with heap := ((((w0.heap.modify 1 (put · #[.iface 191 (.agg #[.pointer (some ⟨4, 29, none⟩)])])).modify 0 (put · formCells)).modify 2 (put · (tab .u8 [0, 1, 28, 2, 29, 14, 24, 3, 30, 22, 20, 15, 25, 17, 4, 8, 31, 27, 13, 23, 21, 19, 16, 7, 26, 12, 18, 6, 11, 5, 10, 9]))).modify 3 (put · (tab .u8 [0, 1, 56, 2, 57, 49, 28, 3, 61, 58, 42, 50, 38, 29, 17, 4, 62, 47, 59, 36, 45, 43, 51, 22, 53, 39, 33, 30, 24, 18, 12, 5, 63, 55, 48, 27, 60, 41, 37, 16, 46, 35, 44, 21, 52, 32, 23, 11, 54, 26, 40, 15, 34, 20, 31, 10, 25, 14, 19, 9, 13, 8, 7, 6]))) }
theorem laidWorld_met (os : Os) (args : Array Value) : laidMetH Tryz.prog Rows.danceAloneRow.laid ((laidWorld os).forCall (fun _ _ => 0) ⟨#[], args, []⟩).memory :=
  laidMetH_of_parts (LaidIn.of_run [0, 2, 3] 8 (by kernel_rfl) (by kernel_rfl) (by kernel_rfl) (by kernel_rfl)).met (by kernel_rfl)

/-- The walk. -/
theorem walk (a0 : Int) (a1 : Int) (w : World) (hw : CW w) (hg : ErrVar w) (ht : TzVar w)  :
    Calls Tryz.prog 10 #[.int .i64 a0, .int .i64 a1] w fun e w' => e = .returned (.bool true) ∧ Below w.heap.size w w' := by
  exact danceAlone_any danceOK codeOK ⟨hw, hg, ht⟩ a0 a1

set_option maxRecDepth 100000 in
theorem lifted (os : Os) (started : os.Started) (H : Type) (enc : TypeId × Value → H) :
    ReturnsInHanded {} Tryz.checked os 10 .any (fun w args => (Rows.danceAloneSpec.pre enc Tryz.prog Tryz.f10 [] false w args ∧ laidMetH Tryz.prog Rows.danceAloneRow.laid w) ∧ sizedMet enc Tryz.prog Tryz.f10 (OpenSpec.ofChange Rows.danceAloneSpec) false w args)
      (Rows.danceAloneSpec.post enc Tryz.prog Tryz.f10 false true false false) := by
  refine returnsInHanded_of_change_and (C := Tryz.checked) (X := fun w _ => laidMetH Tryz.prog Rows.danceAloneRow.laid w) (fun _ _ _ hh h => h.of_heap hh) own started (by kernel_rfl) Tryz.func10
    (ChangeSpec.witness_at (enc := enc) (C := Tryz.checked) (os := os) (X := fun w _ => laidMetH Tryz.prog Rows.danceAloneRow.laid w) false (laidWorld os) #[.int .i64 0, .int .i64 0] 8 rfl (by kernel_rfl) (by kernel_rfl) (by kernel_rfl) (by kernel_rfl) (by kernel_rfl) (laidWorld_met os _)) ?_
  intro W base args ds gs before hval0 hW _ _ hL _
  have hval : ∀ (j : Nat) t v, Tryz.f10.params[j]? = some t → args[j]? = some v → Value.okWide Tryz.prog W .any base t v := hval0
  have hW' := hW
  obtain ⟨p, q, hA0, hV0, rfl, hfz, hnd⟩ := hW
  have hA : DataW.TrodAll enc Tryz.prog W 0 (fun _ => true) true Tryz.f10.params.toList args.toList ds p := hA0
  have hV : DataW.TrodVars enc Tryz.prog W (fun _ => true) [] gs q := hV0
  rw [Tryz.params10] at hA hval
  obtain ⟨v0, vs0, d0, ds0, p0, q0, hargs, rfl, rfl, h0, r0⟩ := trodAll_cons hA
  obtain ⟨v1, vs1, d1, ds1, p1, q1, rfl, rfl, rfl, h1, r1⟩ := trodAll_cons r0
  obtain ⟨rfl, rfl, rfl⟩ := trodAll_nil r1
  obtain rfl : args = #[v0, v1] := by cases args; simp_all
  obtain ⟨rfl, rfl⟩ : gs = [] ∧ q = [] := by
    cases gs with
    | nil => exact ⟨rfl, hV⟩
    | cons g r => exact absurd hV (by intro h; cases h)
  obtain ⟨a0, rfl, rfl, rfl, w0⟩ := open_int Tryz.underlying3 (hval 0 3 v0 rfl rfl) h0
  obtain ⟨a1, rfl, rfl, rfl, w1⟩ := open_int Tryz.underlying3 (hval 1 3 v1 rfl rfl) h1
  have hw := cw_of hL
  have hg := handle_of_laid hL
  have ht := tz_of hL
  clear hA0 hval0
  refine (walk a0 a1 W hw hg ht ).mono fun e W' ⟨he, bel⟩ => ?_
  subst he
  exact ⟨_, rfl, _, _, _, [], _, [], hW', trodAll_mk1 (shut_bool Tryz.underlying4 _), (trodAll_cons_mk (shut_int Tryz.underlying3 w0) (trodAll_cons_mk (shut_int Tryz.underlying3 w1) trodAll_mk0)), rfl, bel.frame _, fun h => by cases h⟩

theorem over : Rows.DanceAloneSaid :=
  OpenClaim.holds_of_wide 10 Tryz.f10 rfl rfl rfl rfl rfl rfl rfl ⟨rfl, rfl, rfl, rfl, rfl⟩ rfl rfl rfl rfl rfl (by kernel_rfl) Tryz.func10 (by kernel_rfl)
    (of_decide_eq_true (by kernel_rfl)) (by unfold Func.isWrapper; first | (rw [if_pos (by decide +kernel)]; kernel_rfl) | (rw [if_neg (by decide +kernel)]; exact ⟨rfl, rfl⟩))
    (fun os started H enc _ => lifted os started H enc)

/-- The given statement: the tied card. -/
theorem proved : Rows.DanceAloneCardSaid :=
  Claim7.holds_tied_plain_at .later [] [.data, .data, .handle, .data] true (true, "249a662f9a3a8032d6ea0f3d6c35fd3df0894eb53275f03e084101a5f9d50289") true
    over (fun _ h => by cases h) (by kernel_rfl) (fun _ h => by cases h) danceAlone_row_tie rfl ⟨rfl, rfl⟩ (by kernel_rfl) rfl
    (fun f fn hf hfn => by
      obtain rfl : f = 10 := Option.some.inj ((show Tryz.prog.funcNamed "quadrille/quadrillekeep.DanceAlone" = some 10 by kernel_rfl).symm.trans hf) |>.symm
      obtain rfl : fn = Tryz.f10 := (Option.some.inj (Tryz.func10.symm.trans hfn)).symm
      refine ⟨by kernel_rfl, fun j t ht => ?_⟩
      rw [Tryz.params10] at ht
      have hm : t ∈ [3, 3] := by
        have := Array.mem_of_getElem? ht
        simpa using this
      have hall : ([3, 3].all fun u => !Tryz.prog.wantsStandIn u) = true := by kernel_rfl
      exact (show Tryz.prog.wantsStandIn t = false by simpa using List.all_eq_true.1 hall t hm))
    (by kernel_rfl)
#print axioms proved
end Go.Proofs.YtmkgmpfpemiaaaaGreatDoor.danceAlone
