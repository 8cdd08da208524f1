/-
  Nobody is left behind: whoever goes on when, nobody goes of a round to which the slowest one did not come. No conditions.
-/
import Derived.Test.YtmkgmpfpemiaaaaGreatDoorQI2
import Derived.Test.YtmkgmpfpemiaaaaGreatDoorRows
import Derived.Test.YtmkgmpfpemiaaaaGreatDoorCards
import Derived.Test.YtmkgmpfpemiaaaaGreatDoorTie
import Derived.WalkKit
import Derived.ProofKit
import Derived.OpenShut
import Derived.ChangeOld
import Derived.Below
import Derived.ChangeSame
import Derived.ChangeVars
import Derived.JoinedOf
import Derived.RowKitTokens
import Derived.LaidLaws
import Derived.LaidHandle
import Derived.Stop.Joined
import Derived.SevenTiedAt
import Derived.Lib.LaidTab
import Derived.Lib.LaidIn
import Derived.Test.YtmkgmpfpemiaaaaGreatDoorQA
import Derived.ChangeMaps5
import Derived.Test.YtmkgmpfpemiaaaaGreatDoorQM2
import Derived.Test.YtmkgmpfpemiaaaaGreatDoorQE3
import Derived.Test.YtmkgmpfpemiaaaaGreatDoorQE
import Derived.Test.YtmkgmpfpemiaaaaGreatDoorQN
namespace Go.Proofs.YtmkgmpfpemiaaaaGreatDoor
set_option maxRecDepth 100000
open Go.RowKit Go.Shelf Go.Sort
set_option linter.unusedVariables false
set_option linter.unusedSimpArgs false

set_option maxHeartbeats 2000000 in
theorem danceLag_any {w : World} (H : DanceOK) (hw : DW w) (k : Int) (n rounds : Int) (who : Int) (D : Option Addr) (nm cm : Nat) (l : List (Int × Bool)) (hl : Moves w w.heap.size D nm l) :
    Calls Tryz.prog 6 #[.int .i64 k, .int .i64 n, .int .i64 rounds, .int .i64 who, .slice D nm cm] w fun e w' => e = .returned (.bool true) ∧ Below w.heap.size w w' := by
  have HDn := Lib.hid (danced_any H hw)
  have HBall := Lib.hid (fun w => ball_is k n rounds w)
  have d := ball_dims k n rounds
  generalize ballK k = k1 at *
  generalize ballN n = n1 at *
  generalize ballR rounds = r1 at *
  obtain ⟨u, hu, _, HWh⟩ := pick_nat who n1 (by have := d.n1; omega) (by have := d.n16; omega)
  have HWh := Lib.hid HWh
  have HFl := Lib.hid (fun w1 (hb : Below w.heap.size w w1) (h9 : nm ≤ 800) => floor_flo (cm := cm) H hw hb d hl (by omega))
  have HD := Lib.hid d
  clear hl d
  go_enter Tryz.func6, Tryz.ntmps6
  go_wp2_with fail
  refine HDn.out.mono ?_
  rintro e w1 ⟨rfl, hb1⟩
  have HB1 := Lib.hid hb1
  clear hb1 HDn
  by_cases h9 : 800 < nm
  · have h9' : (800 : Int) < (nm : Int) := by omega
    go_wp2
    go_ret
    exact ⟨rfl, HB1.out⟩
  have h9' : ¬ (800 : Int) < (nm : Int) := by omega
  go_wp2_with fail
  refine (HBall.out _).mono ?_
  rintro e w2 ⟨rfl, rfl⟩
  go_wp2_with fail
  refine (HWh.out _).mono ?_
  rintro e w2 ⟨rfl, rfl⟩
  go_wp2_with fail
  refine (HFl.out _ HB1.out (by omega)).mono ?_
  rintro e w2 ⟨c, m, rfl, hF, hp⟩
  have HF := Lib.hid hF
  have HPk := Lib.hid hp
  generalize pokesM (pickL n1 l) = p at *
  clear hF HB1 HFl HBall hp
  have hn16 := HD.out.n16
  have hr6 := HD.out.r6
  go_wp2_with fail
  refine (flo_events HF.out).mono ?_
  rintro e w3 ⟨A3, c3, rfl, ho3, hg3⟩
  have HF3 := Lib.hid (HF.out.grow hg3)
  have HE := Lib.hid (evRow_own ho3 rfl)
  have HOk := Lib.hid HF.out.dn.ok
  have HNe := Lib.hid HF.out.few.1
  clear ho3 hg3 HF
  obtain ⟨L, hL⟩ : ∃ L, m.events = L := ⟨_, rfl⟩
  rw [hL] at HE HOk HNe
  rw [hL]
  clear hL
  go_wp2
  go_loopw [12, 41] (fun i j wr => ∃ q : Nat, q ≤ L.length ∧ i = .int .i64 (((cntEv (L.take q) u + 1) / 2 : Nat) : Int) ∧ j = .int .i64 q ∧ Flo w c k1 n1 r1 p m wr ∧ EvRow wr A3 L.length L) (fun _ j _ => L.length - (intOf j).toNat)
  case atStart => exact ⟨0, Nat.zero_le _, by simp [cntEv], rfl, HF3.out, HE.out⟩
  case round =>
    obtain ⟨q, hq, rfl, rfl, hF, hE⟩ := hrel
    by_cases hlt : q < L.length
    · have hkn : (q : Int) < (L.length : Int) := by omega
      obtain ⟨b, off, rfl, x1, x2, x3, x4⟩ := hE q hlt
      obtain ⟨ew, t, ht, ee, hall, hc⟩ := ev_next HOk.out hlt
      rw [ee] at x1 x2 x3 x4
      have HF4 := Lib.hid hF
      have HE4 := Lib.hid hE
      have HC := Lib.hid (hc u)
      have hne := HNe.out
      have HT := Lib.hid ee
      clear ee hc hF hE HF3 HE
      have hallu := fun hk => hall hk u hu
      clear hall
      generalize hk : cntEv (L.take q) t = k at *
      generalize hku : cntEv (L.take q) u = ku at *
      unfold evAt at x1 x2 x3 x4
      dsimp only at x1 x2 x3 x4
      have HG := Lib.hid (fun o => And.intro (HF4.out.grow (grown_a (World.grownBy.refl _ none) o)) (HE4.out.old ((Below.refl _ _).alloc (Nat.le_refl _) o)))
      generalize L.length = nL at *
      rcases (by omega : k % 2 = 0 ∨ k % 2 = 1) with hp0 | hp1
      · rw [hp0] at x2
        by_cases htu : u = t
        · subst htu
          have hkk : k = ku := hk.symm.trans hku
          subst hkk
          have hC := HC.out
          rw [if_pos rfl] at hC
          go_wp2
          go_roundw
          case rel => exact ⟨q + 1, by omega, by rw [hC]; exact congrArg _ (by omega), by go_num, (HG.out _).1, (HG.out _).2⟩
          case measure => simp [intOf]; omega
        · have hC := HC.out
          rw [if_neg htu] at hC
          have htz : ¬ (t : Int) = (u : Int) := by omega
          go_wp2
          go_roundw
          case rel => exact ⟨q + 1, by omega, by rw [hC], by go_num, (HG.out _).1, (HG.out _).2⟩
          case measure => simp [intOf]; omega
      · rw [hp1] at x2
        have hle := hallu hp1
        have hv : ¬ (((ku + 1) / 2 : Nat) : Int) < ((1 + k / 2 : Nat) : Int) := by omega
        have hC := HC.out
        have hC2 : (cntEv (L.take (q + 1)) u + 1) / 2 = (ku + 1) / 2 := by
          rw [hC]
          by_cases htu : u = t
          · subst htu
            rw [if_pos rfl]
            have hkk : k = ku := hk.symm.trans hku
            omega
          · rw [if_neg htu]
        go_wp2
        go_roundw
        case rel => exact ⟨q + 1, by omega, by rw [hC2], by go_num, (HG.out _).1, (HG.out _).2⟩
        case measure => simp [intOf]; omega
    · have hkn : ¬ (q : Int) < (L.length : Int) := by omega
      have HF4 := Lib.hid hF
      clear hF hE HF3 HE
      go_wp2
      go_ret
      exact ⟨rfl, HF4.out.bel⟩
end Go.Proofs.YtmkgmpfpemiaaaaGreatDoor

namespace Go.Proofs.YtmkgmpfpemiaaaaGreatDoor.danceLag
open Go.ChangeShapes Go.WideShapes Go.ChangeAt Go.RowKit
set_option linter.unusedVariables false

theorem own : ownKnob Tryz.prog.godebug = none := by kernel_rfl
theorem laidOut : laidOutB Tryz.prog = true := by kernel_rfl
theorem tsize : Tryz.prog.types.size = 238 := by kernel_rfl

theorem et : Tryz.prog.globalNamed "errors.errorType" = some 1 := by kernel_rfl
theorem rt : (Tryz.prog.cutTypes.find? (·.1 == "internal/reflectlite.rtype")).map (·.2) = some 191 := by kernel_rfl
theorem oneRow : ((List.range 238).filter fun t => Tryz.prog.rowNamed t [101, 114, 114, 111, 114]) = [29] := by kernel_rfl

/-- What the listed variables give the walk. -/
theorem cw_of {W : World} (h : laidMetH Tryz.prog Rows.danceLagRow.laid W) : CW W := by
  have h' : laidMet Tryz.prog (Rows.danceLagRow.laid.filter fun x => x.2.handleName?.isNone) W ∧ handlesMet Tryz.prog (Rows.danceLagRow.laid.filter fun x => x.2.handleName?.isSome) W := h
  exact cw_of_laid h'.1 (List.mem_filter.2 ⟨.tail _ (.tail _ (.tail _ (.head _))), rfl⟩)
theorem handle_of_laid {W : World} (h : laidMetH Tryz.prog Rows.danceLagRow.laid W) : ErrVar W := by
  have h' : laidMet Tryz.prog (Rows.danceLagRow.laid.filter fun x => x.2.handleName?.isNone) W ∧ handlesMet Tryz.prog (Rows.danceLagRow.laid.filter fun x => x.2.handleName?.isSome) W := h
  obtain ⟨name, u, ty, e1, e2, e3, e4, e5⟩ := h'.2 ("errors.errorType", Rows.laid_errors_errorType) (List.mem_filter.2 ⟨.tail _ (.tail _ (.head _)), rfl⟩)
  have en : name = [101, 114, 114, 111, 114] := (Option.some.inj e1).symm
  subst en
  obtain rfl := Option.some.inj (rt.symm.trans e2)
  have hm : ty ∈ (List.range 238).filter fun t => Tryz.prog.rowNamed t [101, 114, 114, 111, 114] := List.mem_filter.2 ⟨List.mem_range.2 (by rw [← tsize]; exact e3), e4⟩
  rw [oneRow] at hm
  obtain rfl := List.mem_singleton.1 hm
  have hh : typeHandle Tryz.prog 29 = .pointer (some ⟨4, 29, none⟩) := by kernel_rfl
  rw [hh] at e5
  have := World.var?_cell et e5 0
  unfold ErrVar
  simpa using this
theorem tz_of {W : World} (h : laidMetH Tryz.prog Rows.danceLagRow.laid W) : TzVar W := by
  have h' : laidMet Tryz.prog (Rows.danceLagRow.laid.filter fun x => x.2.handleName?.isNone) W ∧ handlesMet Tryz.prog (Rows.danceLagRow.laid.filter fun x => x.2.handleName?.isSome) W := h
  exact tz_of_laid h'.1 (List.mem_filter.2 ⟨.tail _ (.head _), rfl⟩)

/-- So many blocks has the settled world. -/
noncomputable def low : Nat := (World.holding Tryz.prog default ⟨#[], #[], []⟩).heap.size
def put (o : Obj) (cs : Array Value) : Obj := match o with
  | .cells _ t frozen => .cells cs t frozen
  | o => o
def tab (k : IntKind) (zs : List Int) : Array Value := (zs.map fun z => Value.int k z).toArray
/-- A world that meets the condition. -/
noncomputable def laidWorld (os : Os) : World :=
  let w0 := World.holding Tryz.prog os ⟨#[], #[], []⟩
  { w0 with heap := ((((w0.heap.modify 1 (put · #[.iface 191 (.agg #[.pointer (some ⟨4, 29, none⟩)])])).modify 0 (put · formCells)).modify 2 (put · (tab .u8 [0, 1, 28, 2, 29, 14, 24, 3, 30, 22, 20, 15, 25, 17, 4, 8, 31, 27, 13, 23, 21, 19, 16, 7, 26, 12, 18, 6, 11, 5, 10, 9]))).modify 3 (put · (tab .u8 [0, 1, 56, 2, 57, 49, 28, 3, 61, 58, 42, 50, 38, 29, 17, 4, 62, 47, 59, 36, 45, 43, 51, 22, 53, 39, 33, 30, 24, 18, 12, 5, 63, 55, 48, 27, 60, 41, 37, 16, 46, 35, 44, 21, 52, 32, 23, 11, 54, 26, 40, 15, 34, 20, 31, 10, 25, 14, 19, 9, 13, 8, 7, 6]))) }
theorem laidWorld_met (os : Os) (args : Array Value) : laidMetH Tryz.prog Rows.danceLagRow.laid ((laidWorld os).forCall (fun _ _ => 0) ⟨#[], args, []⟩).memory :=
  laidMetH_of_parts (LaidIn.of_run [0, 2, 3] 8 (by kernel_rfl) (by kernel_rfl) (by kernel_rfl) (by kernel_rfl)).met (by kernel_rfl)

/-- The walk. -/
theorem walk (a0 : Int) (a1 : Int) (a2 : Int) (a3 : Int) (a4 : Option Addr) (len4 cap4 : Nat) (nods4 : List (Int × Bool)) (w : World) (hw : CW w) (hg : ErrVar w) (ht : TzVar w) (N4 : Moves w w.heap.size a4 len4 nods4) (I4 : True) :
    Calls Tryz.prog 6 #[.int .i64 a0, .int .i64 a1, .int .i64 a2, .int .i64 a3, .slice a4 len4 cap4] w fun e w' => e = .returned (.bool true) ∧ Below w.heap.size w w' := by
  exact danceLag_any danceOK ⟨hw, hg, ht⟩ a0 a1 a2 a3 a4 len4 cap4 nods4 N4

set_option maxRecDepth 100000 in
theorem lifted (os : Os) (started : os.Started) (H : Type) (enc : TypeId × Value → H) :
    ReturnsInHanded {} Tryz.checked os 6 .any (fun w args => (Rows.danceLagSpec.pre enc Tryz.prog Tryz.f6 [] false w args ∧ laidMetH Tryz.prog Rows.danceLagRow.laid w) ∧ sizedMet enc Tryz.prog Tryz.f6 (OpenSpec.ofChange Rows.danceLagSpec) false w args)
      (Rows.danceLagSpec.post enc Tryz.prog Tryz.f6 false true false false) := by
  refine returnsInHanded_of_change_and (C := Tryz.checked) (X := fun w _ => laidMetH Tryz.prog Rows.danceLagRow.laid w) (fun _ _ _ hh h => h.of_heap hh) own started (by kernel_rfl) Tryz.func6
    (ChangeSpec.witness_at (enc := enc) (C := Tryz.checked) (os := os) (X := fun w _ => laidMetH Tryz.prog Rows.danceLagRow.laid w) false (laidWorld os) #[.int .i64 0, .int .i64 0, .int .i64 0, .int .i64 0, .slice none 0 0] 8 rfl (by kernel_rfl) (by kernel_rfl) (by kernel_rfl) (by kernel_rfl) (by kernel_rfl) (laidWorld_met os _)) ?_
  intro W base args ds gs before hval0 hW _ _ hL _
  have hval : ∀ (j : Nat) t v, Tryz.f6.params[j]? = some t → args[j]? = some v → Value.okWide Tryz.prog W .any base t v := hval0
  have hW' := hW
  obtain ⟨p, q, hA0, hV0, rfl, hfz, hnd⟩ := hW
  have hA : DataW.TrodAll enc Tryz.prog W 0 (fun _ => true) true Tryz.f6.params.toList args.toList ds p := hA0
  have hV : DataW.TrodVars enc Tryz.prog W (fun _ => true) [] gs q := hV0
  rw [Tryz.params6] at hA hval
  obtain ⟨v0, vs0, d0, ds0, p0, q0, hargs, rfl, rfl, h0, r0⟩ := trodAll_cons hA
  obtain ⟨v1, vs1, d1, ds1, p1, q1, rfl, rfl, rfl, h1, r1⟩ := trodAll_cons r0
  obtain ⟨v2, vs2, d2, ds2, p2, q2, rfl, rfl, rfl, h2, r2⟩ := trodAll_cons r1
  obtain ⟨v3, vs3, d3, ds3, p3, q3, rfl, rfl, rfl, h3, r3⟩ := trodAll_cons r2
  obtain ⟨v4, vs4, d4, ds4, p4, q4, rfl, rfl, rfl, h4, r4⟩ := trodAll_cons r3
  obtain ⟨rfl, rfl, rfl⟩ := trodAll_nil r4
  obtain rfl : args = #[v0, v1, v2, v3, v4] := by cases args; simp_all
  obtain ⟨rfl, rfl⟩ : gs = [] ∧ q = [] := by
    cases gs with
    | nil => exact ⟨rfl, hV⟩
    | cons g r => exact absurd hV (by intro h; cases h)
  obtain ⟨a0, rfl, rfl, rfl, w0⟩ := open_int Tryz.underlying3 (hval 0 3 v0 rfl rfl) h0
  obtain ⟨a1, rfl, rfl, rfl, w1⟩ := open_int Tryz.underlying3 (hval 1 3 v1 rfl rfl) h1
  obtain ⟨a2, rfl, rfl, rfl, w2⟩ := open_int Tryz.underlying3 (hval 2 3 v2 rfl rfl) h2
  obtain ⟨a3, rfl, rfl, rfl, w3⟩ := open_int Tryz.underlying3 (hval 3 3 v3 rfl rfl) h3
  obtain ⟨a4, len4, cap4, rfl⟩ := okWide_slice Tryz.underlying22 (hval 4 22 v4 rfl rfl)
  have k4 := h4
  have lt4 : ∀ x ∈ p4, x.block < W.heap.size := by obtain ⟨m, hm⟩ := k4; exact DataW.trod_lt m _ _ _ hm
  obtain ⟨nods4, N4, I4⟩ : ∃ nods, Moves W W.heap.size a4 len4 nods ∧ True := by
    obtain ⟨fuel, hf⟩ := h4
    obtain ⟨l, hl⟩ := moves_of (a := a4) (len := len4) (cap := cap4) hf; exact ⟨l, hl, trivial⟩
  have hw := cw_of hL
  have hg := handle_of_laid hL
  have ht := tz_of hL
  clear hA0 hval0
  refine (walk a0 a1 a2 a3 a4 len4 cap4 nods4 W hw hg ht N4 I4).mono fun e W' ⟨he, bel⟩ => ?_
  subst he
  exact ⟨_, rfl, _, _, _, [], _, [], hW', trodAll_mk1 (shut_bool Tryz.underlying4 _), (trodAll_cons_mk (shut_int Tryz.underlying3 w0) (trodAll_cons_mk (shut_int Tryz.underlying3 w1) (trodAll_cons_mk (shut_int Tryz.underlying3 w2) (trodAll_cons_mk (shut_int Tryz.underlying3 w3) (trodAll_cons_mk (Below.trod laidOut (by kernel_rfl) (of_decide_eq_true (by kernel_rfl)) k4 bel lt4) trodAll_mk0))))), rfl, bel.frame _, fun h => by cases h⟩

theorem over : Rows.DanceLagSaid :=
  OpenClaim.holds_of_wide 6 Tryz.f6 rfl rfl rfl rfl rfl rfl rfl ⟨rfl, rfl, rfl, rfl, rfl⟩ rfl rfl rfl rfl rfl (by kernel_rfl) Tryz.func6 (by kernel_rfl)
    (of_decide_eq_true (by kernel_rfl)) (by unfold Func.isWrapper; first | (rw [if_pos (by decide +kernel)]; kernel_rfl) | (rw [if_neg (by decide +kernel)]; exact ⟨rfl, rfl⟩))
    (fun os started H enc _ => lifted os started H enc)

/-- The given statement: the tied card. -/
theorem proved : Rows.DanceLagCardSaid :=
  Claim7.holds_tied_plain_at .later [] [.data, .data, .handle, .data] true (true, "249a662f9a3a8032d6ea0f3d6c35fd3df0894eb53275f03e084101a5f9d50289") true
    over (fun _ h => by cases h) (by kernel_rfl) (fun _ h => by cases h) danceLag_row_tie rfl ⟨rfl, rfl⟩ (by kernel_rfl) rfl
    (fun f fn hf hfn => by
      obtain rfl : f = 6 := Option.some.inj ((show Tryz.prog.funcNamed "quadrille/quadrillekeep.DanceLag" = some 6 by kernel_rfl).symm.trans hf) |>.symm
      obtain rfl : fn = Tryz.f6 := (Option.some.inj (Tryz.func6.symm.trans hfn)).symm
      refine ⟨by kernel_rfl, fun j t ht => ?_⟩
      rw [Tryz.params6] at ht
      have hm : t ∈ [3, 3, 3, 3, 22] := by
        have := Array.mem_of_getElem? ht
        simpa using this
      have hall : ([3, 3, 3, 3, 22].all fun u => !Tryz.prog.wantsStandIn u) = true := by kernel_rfl
      exact (show Tryz.prog.wantsStandIn t = false by simpa using List.all_eq_true.1 hall t hm))
    (by kernel_rfl)
#print axioms proved
end Go.Proofs.YtmkgmpfpemiaaaaGreatDoor.danceLag
