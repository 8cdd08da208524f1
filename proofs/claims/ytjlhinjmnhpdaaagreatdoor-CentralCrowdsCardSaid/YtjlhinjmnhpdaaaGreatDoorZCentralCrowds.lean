/-
  At one cell: all come to the count, each once a round, and to the gate; elsewhere there is nothing. No conditions.
-/
import Derived.Test.YtjlhinjmnhpdaaaGreatDoorQN2
import Derived.Test.YtjlhinjmnhpdaaaGreatDoorRows
import Derived.Test.YtjlhinjmnhpdaaaGreatDoorCards
import Derived.Test.YtjlhinjmnhpdaaaGreatDoorTie
import Derived.WalkKit
import Derived.ProofKit
import Derived.OpenShut
import Derived.ChangeOld
import Derived.Below
import Derived.ChangeSame
import Derived.ChangeVars
import Derived.JoinedOf
import Derived.RowKitTokens
import Derived.LaidLaws
import Derived.LaidHandle
import Derived.Stop.Joined
import Derived.SevenTiedAt
import Derived.Lib.LaidTab
import Derived.Lib.LaidIn
import Derived.Test.YtjlhinjmnhpdaaaGreatDoorQA
import Derived.ChangeMaps5
import Derived.Test.YtjlhinjmnhpdaaaGreatDoorQM2
import Derived.Test.YtjlhinjmnhpdaaaGreatDoorQE
import Derived.Test.YtjlhinjmnhpdaaaGreatDoorQN
import Derived.Test.YtjlhinjmnhpdaaaGreatDoorQE3
namespace Go.Proofs.YtjlhinjmnhpdaaaGreatDoor
set_option maxRecDepth 100000
open Go.RowKit Go.Shelf Go.Sort
set_option linter.unusedVariables false
set_option linter.unusedSimpArgs false

set_option maxHeartbeats 2000000 in
theorem centralCrowds_any {w : World} (H : DanceOK) (hw : DW w) (n rounds : Int) (D : Option Addr) (nm cm : Nat) (l : List Int) (hl : Ints .i64 w w.heap.size D nm l) :
    Calls Tryz.prog 10 #[.int .i64 n, .int .i64 rounds, .slice D nm cm] w fun e w' => e = .returned (.bool true) ∧ Below w.heap.size w w' := by
  have HDn := Lib.hid (danced_any H hw)
  have HBall := Lib.hid (fun w => ball_is 0 n rounds w)
  have d : Dims 1 (ballN n) (ballR rounds) := ⟨by decide, by decide, (ball_dims 0 n rounds).n1, (ball_dims 0 n rounds).n16, (ball_dims 0 n rounds).r6⟩
  generalize ballK 0 = k0 at *
  generalize ballN n = n1 at *
  generalize ballR rounds = r1 at *
  have HFl := Lib.hid (fun w1 (hb : Below w.heap.size w w1) => floor_nil H hw hb d)
  have HPk := Lib.hid (fun a => pick_nat a n1 (by have := d.n1; omega) (by have := d.n16; omega))
  have HI := Lib.hid (fun w1 (hb : Below w.heap.size w w1) => hl.old hb)
  have HD := Lib.hid d
  have hn16 := d.n16
  have hr6 := d.r6
  clear hl d
  go_enter Tryz.func10, Tryz.ntmps10
  go_wp2_with fail
  refine HDn.out.mono ?_
  rintro e w1 ⟨rfl, hb1⟩
  have HB1 := Lib.hid hb1
  clear hb1 HDn
  by_cases h9 : 600 < nm
  · have h9' : (600 : Int) < (nm : Int) := by omega
    go_wp2
    go_ret
    exact ⟨rfl, HB1.out⟩
  have h9' : ¬ (600 : Int) < (nm : Int) := by omega
  go_wp2_with fail
  refine (HBall.out _).mono ?_
  rintro e w2 ⟨rfl, rfl⟩
  go_wp2_with fail
  refine (HFl.out _ HB1.out).mono ?_
  rintro e w2 ⟨c, m0, rfl, hF, hm0⟩
  have HF := Lib.hid hF
  have HH0 := Lib.hid (show Hist 1 n1 r1 0 m0 by rw [hm0]; exact hist_new)
  clear hF HB1 HFl HBall hm0
  go_wp2
  --MARKL
  go_loopw [32] (fun j wr => ∃ q : Nat, q ≤ nm ∧ j = .int .i64 q ∧ ∃ m, Hid (Flo w c 1 n1 r1 0 m wr ∧ Hist 1 n1 r1 0 m)) (fun j _ => nm - (intOf j).toNat)
  case atStart => exact ⟨0, Nat.zero_le _, rfl, m0, ⟨HF.out, HH0.out⟩⟩
  case round =>
    obtain ⟨q, hq, rfl, m, hF⟩ := hrel
    by_cases hlt : q < nm
    · have hkn : (q : Int) < (nm : Int) := by omega
      have HF4 := Lib.hid hF.out
      obtain ⟨b, off, rfl, _, hx⟩ := (HI.out _ HF4.out.1.bel).row (by omega)
      have hz := hx q hlt
      clear hx
      generalize l.getD q 0 = z at hz
      obtain ⟨u, hu, _, HPu⟩ := HPk.out z
      have HPu := Lib.hid HPu
      have HU := Lib.hid hu
      clear hF HF
      go_wp2_with fail
      refine (HPu.out _).mono ?_
      rintro e w5 ⟨rfl, rfl⟩
      go_wp2_with fail
      refine (flo_step HD.out HF4.out.1 (by decide) hu).mono ?_
      rintro e w5 ⟨rfl, hF5⟩
      have HF5 := Lib.hid (And.intro hF5 (hist_step HF4.out.2 HU.out))
      generalize errV (stepM 20000 m (u : Int)).1 = RV
      clear hF5 HF4
      go_wp2
      go_roundw
      case rel => exact ⟨q + 1, by omega, by go_num, _, HF5⟩
      case measure => simp [intOf]; omega
    · have hkn : ¬ (q : Int) < (nm : Int) := by omega
      have HF4 := Lib.hid hF.out.1
      have HH := Lib.hid hF.out.2
      clear hF HF HI
      go_wp2_with fail
      refine (flo_fin H HD.out HF4.out (by decide)).mono ?_
      rintro e w5 ⟨m', rfl, hF5, hE, hfin⟩
      have HF5 := Lib.hid hF5
      have HFin := Lib.hid hfin
      clear hF5 hE hfin HF4
      generalize ((m'.steps : Int) - (m.steps : Int)) = dd at *
      obtain ⟨hc1, hc2⟩ := hist_crowd HD.out HH.out HFin.out
      have HC1 := Lib.hid hc1
      have HC2 := Lib.hid hc2
      have HNe := Lib.hid HF5.out.few.2
      clear hc1 hc2 HFin
      go_wp2_with fail
      refine (flo_acts HF5.out).mono ?_
      rintro e w6 ⟨A6, c6, rfl, hr6', hg6⟩
      have HF6 := Lib.hid (HF5.out.grow hg6)
      have HR := Lib.hid hr6'
      clear hg6 hr6' HF5
      obtain ⟨L, hL⟩ : ∃ L, m'.acts = L := ⟨_, rfl⟩
      rw [hL] at HR HC1 HC2 HNe
      rw [hL]
      clear hL
      obtain ⟨nr, hnr⟩ : ∃ nr, nr = n1 * r1 := ⟨_, rfl⟩
      have hnr2 : nr ≤ 16 * 6 := by rw [hnr]; exact Nat.mul_le_mul hn16 hr6
      have hw1 : wrap64 ((n1 : Int) * (r1 : Int)) = (nr : Int) := by rw [← Int.natCast_mul, ← hnr]; unfold wrap64; omega
      rw [← hnr] at HC2
      have HW1 := Lib.hid hw1
      clear hnr hw1
      go_wp2
      go_loopw [10, 47] (fun i j wr => ∃ q : Nat, q ≤ L.length ∧ i = .int .i64 (opN (L.take q) 8 0 : Nat) ∧ j = .int .i64 q ∧ Hid (Flo w c 1 n1 r1 0 m' wr ∧ ActRow wr A6 L.length L)) (fun _ j _ => L.length - (intOf j).toNat)
      case atStart => exact ⟨0, Nat.zero_le _, rfl, rfl, ⟨HF6.out, HR.out⟩⟩
      case round =>
        obtain ⟨q, hq, rfl, rfl, hF⟩ := hrel
        by_cases hlt : q < L.length
        · have hkn : (q : Int) < (L.length : Int) := by omega
          obtain ⟨b, off, rfl, x1, x2, x3, x4, x5, x6⟩ := hF.out.2 q hlt
          have HT := Lib.hid (opN_take hlt 8 0)
          have hle := opN_len (L.take q) 8 0
          rw [List.length_take] at hle
          have hne := HNe.out
          obtain ⟨z, hz, hz1⟩ := HC1.out (L.getD q default) (by rw [List.getD_eq_getElem?_getD, List.getElem?_eq_getElem hlt]; exact List.getElem_mem _)
          generalize L.getD q default = a at *
          obtain ⟨a1, a2, a3, a4, a5, a6⟩ := a
          dsimp only at x1 x2 x3 x4 x5 x6 HT hz
          subst hz
          generalize opN (L.take q) 8 0 = f at *
          have hz1' : ¬ (1 : Int) < (z : Int) := by omega
          have HG := Lib.hid (fun o => And.intro (hF.out.1.grow (grown_a (World.grownBy.refl _ none) o)) (hF.out.2.old ((Below.refl _ _).alloc (Nat.le_refl _) o)))
          clear hF HF6 HR
          by_cases h8 : a3 = 8
          · subst h8
            by_cases hz0 : z = 0
            · subst hz0
              have hT := HT.out
              rw [if_pos ⟨rfl, rfl⟩] at hT
              go_wp2
              go_roundw
              case rel => exact ⟨q + 1, by omega, by rw [hT]; go_num, by go_num, ⟨(HG.out _).1, (HG.out _).2⟩⟩
              case measure => simp [intOf]; omega
            · have hT := HT.out
              rw [if_neg (fun e => hz0 (by have := e.2; omega))] at hT
              have hz0' : ¬ (z : Int) = 0 := by omega
              go_wp2
              go_roundw
              case rel => exact ⟨q + 1, by omega, by rw [hT]; rfl, by go_num, ⟨(HG.out _).1, (HG.out _).2⟩⟩
              case measure => simp [intOf]; omega
          · have hT := HT.out
            rw [if_neg (fun e => h8 e.1)] at hT
            go_wp2
            go_roundw
            case rel => exact ⟨q + 1, by omega, by rw [hT]; rfl, by go_num, ⟨(HG.out _).1, (HG.out _).2⟩⟩
            case measure => simp [intOf]; omega
        · have hkn : ¬ (q : Int) < (L.length : Int) := by omega
          obtain rfl : q = L.length := by omega
          rw [List.take_length, HC2.out]
          have HB := Lib.hid hF.out.1.bel
          have hw1 := HW1.out
          have hee : ((nr : Int) == (nr : Int)) = true := by simp
          clear hF HF6 HR
          go_wp2
          go_ret
          exact ⟨rfl, HB.out⟩
end Go.Proofs.YtjlhinjmnhpdaaaGreatDoor

namespace Go.Proofs.YtjlhinjmnhpdaaaGreatDoor.centralCrowds
open Go.ChangeShapes Go.WideShapes Go.ChangeAt Go.RowKit
set_option linter.unusedVariables false

theorem own : ownKnob Tryz.prog.godebug = none := by kernel_rfl
theorem laidOut : laidOutB Tryz.prog = true := by kernel_rfl
theorem tsize : Tryz.prog.types.size = 237 := by kernel_rfl

theorem et : Tryz.prog.globalNamed "errors.errorType" = some 1 := by kernel_rfl
theorem rt : (Tryz.prog.cutTypes.find? (·.1 == "internal/reflectlite.rtype")).map (·.2) = some 184 := by kernel_rfl
theorem oneRow : ((List.range 237).filter fun t => Tryz.prog.rowNamed t [101, 114, 114, 111, 114]) = [35] := by kernel_rfl

/-- What the listed variables give the walk. -/
theorem cw_of {W : World} (h : laidMetH Tryz.prog Rows.centralCrowdsRow.laid W) : CW W := by
  have h' : laidMet Tryz.prog (Rows.centralCrowdsRow.laid.filter fun x => x.2.handleName?.isNone) W ∧ handlesMet Tryz.prog (Rows.centralCrowdsRow.laid.filter fun x => x.2.handleName?.isSome) W := h
  exact cw_of_laid h'.1 (List.mem_filter.2 ⟨.tail _ (.tail _ (.tail _ (.head _))), rfl⟩)
theorem handle_of_laid {W : World} (h : laidMetH Tryz.prog Rows.centralCrowdsRow.laid W) : ErrVar W := by
  have h' : laidMet Tryz.prog (Rows.centralCrowdsRow.laid.filter fun x => x.2.handleName?.isNone) W ∧ handlesMet Tryz.prog (Rows.centralCrowdsRow.laid.filter fun x => x.2.handleName?.isSome) W := h
  obtain ⟨name, u, ty, e1, e2, e3, e4, e5⟩ := h'.2 ("errors.errorType", Rows.laid_errors_errorType) (List.mem_filter.2 ⟨.tail _ (.tail _ (.head _)), rfl⟩)
  have en : name = [101, 114, 114, 111, 114] := (Option.some.inj e1).symm
  subst en
  obtain rfl := Option.some.inj (rt.symm.trans e2)
  have hm : ty ∈ (List.range 237).filter fun t => Tryz.prog.rowNamed t [101, 114, 114, 111, 114] := List.mem_filter.2 ⟨List.mem_range.2 (by rw [← tsize]; exact e3), e4⟩
  rw [oneRow] at hm
  obtain rfl := List.mem_singleton.1 hm
  have hh : typeHandle Tryz.prog 35 = .pointer (some ⟨4, 35, none⟩) := by kernel_rfl
  rw [hh] at e5
  have := World.var?_cell et e5 0
  unfold ErrVar
  simpa using this
theorem tz_of {W : World} (h : laidMetH Tryz.prog Rows.centralCrowdsRow.laid W) : TzVar W := by
  have h' : laidMet Tryz.prog (Rows.centralCrowdsRow.laid.filter fun x => x.2.handleName?.isNone) W ∧ handlesMet Tryz.prog (Rows.centralCrowdsRow.laid.filter fun x => x.2.handleName?.isSome) W := h
  exact tz_of_laid h'.1 (List.mem_filter.2 ⟨.tail _ (.head _), rfl⟩)

/-- So many blocks has the settled world. -/
noncomputable def low : Nat := (World.holding Tryz.prog default ⟨#[], #[], []⟩).heap.size
def put (o : Obj) (cs : Array Value) : Obj := match o with
  | .cells _ t frozen => .cells cs t frozen
  | o => o
def tab (k : IntKind) (zs : List Int) : Array Value := (zs.map fun z => Value.int k z).toArray
/-- A world that meets the condition. -/
noncomputable def laidWorld (os : Os) : World :=
  let w0 := World.holding Tryz.prog os ⟨#[], #[], []⟩
  { w0 with heap := ((((w0.heap.modify 1 (put · #[.iface 184 (.agg #[.pointer (some ⟨4, 35, none⟩)])])).modify 0 (put · formCells)).modify 2 (put · (tab .u8 [0, 1, 28, 2, 29, 14, 24, 3, 30, 22, 20, 15, 25, 17, 4, 8, 31, 27, 13, 23, 21, 19, 16, 7, 26, 12, 18, 6, 11, 5, 10, 9]))).modify 3 (put · (tab .u8 [0, 1, 56, 2, 57, 49, 28, 3, 61, 58, 42, 50, 38, 29, 17, 4, 62, 47, 59, 36, 45, 43, 51, 22, 53, 39, 33, 30, 24, 18, 12, 5, 63, 55, 48, 27, 60, 41, 37, 16, 46, 35, 44, 21, 52, 32, 23, 11, 54, 26, 40, 15, 34, 20, 31, 10, 25, 14, 19, 9, 13, 8, 7, 6]))) }
theorem laidWorld_met (os : Os) (args : Array Value) : laidMetH Tryz.prog Rows.centralCrowdsRow.laid ((laidWorld os).forCall (fun _ _ => 0) ⟨#[], args, []⟩).memory :=
  laidMetH_of_parts (LaidIn.of_run [0, 2, 3] 8 (by kernel_rfl) (by kernel_rfl) (by kernel_rfl) (by kernel_rfl)).met (by kernel_rfl)

/-- The walk. -/
theorem walk (a0 : Int) (a1 : Int) (a2 : Option Addr) (len2 cap2 : Nat) (nods2 : List Int) (w : World) (hw : CW w) (hg : ErrVar w) (ht : TzVar w) (N2 : Ints .i64 w w.heap.size a2 len2 nods2) (I2 : len2 ≤ cap2) :
    Calls Tryz.prog 10 #[.int .i64 a0, .int .i64 a1, .slice a2 len2 cap2] w fun e w' => e = .returned (.bool true) ∧ Below w.heap.size w w' := by
  exact centralCrowds_any danceOK ⟨hw, hg, ht⟩ a0 a1 a2 len2 cap2 nods2 N2

set_option maxRecDepth 100000 in
theorem lifted (os : Os) (started : os.Started) (H : Type) (enc : TypeId × Value → H) :
    ReturnsInHanded {} Tryz.checked os 10 .any (fun w args => (Rows.centralCrowdsSpec.pre enc Tryz.prog Tryz.f10 [] false w args ∧ laidMetH Tryz.prog Rows.centralCrowdsRow.laid w) ∧ sizedMet enc Tryz.prog Tryz.f10 (OpenSpec.ofChange Rows.centralCrowdsSpec) false w args)
      (Rows.centralCrowdsSpec.post enc Tryz.prog Tryz.f10 false true false false) := by
  refine returnsInHanded_of_change_and (C := Tryz.checked) (X := fun w _ => laidMetH Tryz.prog Rows.centralCrowdsRow.laid w) (fun _ _ _ hh h => h.of_heap hh) own started (by kernel_rfl) Tryz.func10
    (ChangeSpec.witness_at (enc := enc) (C := Tryz.checked) (os := os) (X := fun w _ => laidMetH Tryz.prog Rows.centralCrowdsRow.laid w) false (laidWorld os) #[.int .i64 0, .int .i64 0, .slice none 0 0] 8 rfl (by kernel_rfl) (by kernel_rfl) (by kernel_rfl) (by kernel_rfl) (by kernel_rfl) (laidWorld_met os _)) ?_
  intro W base args ds gs before hval0 hW _ _ hL _
  have hval : ∀ (j : Nat) t v, Tryz.f10.params[j]? = some t → args[j]? = some v → Value.okWide Tryz.prog W .any base t v := hval0
  have hW' := hW
  obtain ⟨p, q, hA0, hV0, rfl, hfz, hnd⟩ := hW
  have hA : DataW.TrodAll enc Tryz.prog W 0 (fun _ => true) true Tryz.f10.params.toList args.toList ds p := hA0
  have hV : DataW.TrodVars enc Tryz.prog W (fun _ => true) [] gs q := hV0
  rw [Tryz.params10] at hA hval
  obtain ⟨v0, vs0, d0, ds0, p0, q0, hargs, rfl, rfl, h0, r0⟩ := trodAll_cons hA
  obtain ⟨v1, vs1, d1, ds1, p1, q1, rfl, rfl, rfl, h1, r1⟩ := trodAll_cons r0
  obtain ⟨v2, vs2, d2, ds2, p2, q2, rfl, rfl, rfl, h2, r2⟩ := trodAll_cons r1
  obtain ⟨rfl, rfl, rfl⟩ := trodAll_nil r2
  obtain rfl : args = #[v0, v1, v2] := by cases args; simp_all
  obtain ⟨rfl, rfl⟩ : gs = [] ∧ q = [] := by
    cases gs with
    | nil => exact ⟨rfl, hV⟩
    | cons g r => exact absurd hV (by intro h; cases h)
  obtain ⟨a0, rfl, rfl, rfl, w0⟩ := open_int Tryz.underlying3 (hval 0 3 v0 rfl rfl) h0
  obtain ⟨a1, rfl, rfl, rfl, w1⟩ := open_int Tryz.underlying3 (hval 1 3 v1 rfl rfl) h1
  obtain ⟨a2, len2, cap2, rfl⟩ := okWide_slice Tryz.underlying31 (hval 2 31 v2 rfl rfl)
  have k2 := h2
  have lt2 : ∀ x ∈ p2, x.block < W.heap.size := by obtain ⟨m, hm⟩ := k2; exact DataW.trod_lt m _ _ _ hm
  obtain ⟨nods2, N2, I2⟩ : ∃ nods, Ints .i64 W W.heap.size a2 len2 nods ∧ len2 ≤ cap2 := by
    obtain ⟨fuel, hf⟩ := h2
    obtain ⟨xs, hx, _⟩ := ints_of (a := a2) (len := len2) (cap := cap2) hf; exact ⟨xs, hx, cap_slice Tryz.underlying31 hf⟩
  have hw := cw_of hL
  have hg := handle_of_laid hL
  have ht := tz_of hL
  clear hA0 hval0
  refine (walk a0 a1 a2 len2 cap2 nods2 W hw hg ht N2 I2).mono fun e W' ⟨he, bel⟩ => ?_
  subst he
  exact ⟨_, rfl, _, _, _, [], _, [], hW', trodAll_mk1 (shut_bool Tryz.underlying4 _), (trodAll_cons_mk (shut_int Tryz.underlying3 w0) (trodAll_cons_mk (shut_int Tryz.underlying3 w1) (trodAll_cons_mk (Below.trod laidOut (by kernel_rfl) (of_decide_eq_true (by kernel_rfl)) k2 bel lt2) trodAll_mk0))), rfl, bel.frame _, fun h => by cases h⟩

theorem over : Rows.CentralCrowdsSaid :=
  OpenClaim.holds_of_wide 10 Tryz.f10 rfl rfl rfl rfl rfl rfl rfl ⟨rfl, rfl, rfl, rfl, rfl⟩ rfl rfl rfl rfl rfl (by kernel_rfl) Tryz.func10 (by kernel_rfl)
    (of_decide_eq_true (by kernel_rfl)) (by unfold Func.isWrapper; first | (rw [if_pos (by decide +kernel)]; kernel_rfl) | (rw [if_neg (by decide +kernel)]; exact ⟨rfl, rfl⟩))
    (fun os started H enc _ => lifted os started H enc)

/-- The given statement: the tied card. -/
theorem proved : Rows.CentralCrowdsCardSaid :=
  Claim7.holds_tied_plain_at .later [] [.data, .data, .handle, .data] true (true, "c6f55d05b03cf7820801fe364c569ecbd73704b9e009a9d755c8ab487a07502a") true
    over (fun _ h => by cases h) (by kernel_rfl) (fun _ h => by cases h) centralCrowds_row_tie rfl ⟨rfl, rfl⟩ (by kernel_rfl) rfl
    (fun f fn hf hfn => by
      obtain rfl : f = 10 := Option.some.inj ((show Tryz.prog.funcNamed "quadrille/quadrillekeep.CentralCrowds" = some 10 by kernel_rfl).symm.trans hf) |>.symm
      obtain rfl : fn = Tryz.f10 := (Option.some.inj (Tryz.func10.symm.trans hfn)).symm
      refine ⟨by kernel_rfl, fun j t ht => ?_⟩
      rw [Tryz.params10] at ht
      have hm : t ∈ [3, 3, 31] := by
        have := Array.mem_of_getElem? ht
        simpa using this
      have hall : ([3, 3, 31].all fun u => !Tryz.prog.wantsStandIn u) = true := by kernel_rfl
      exact (show Tryz.prog.wantsStandIn t = false by simpa using List.all_eq_true.1 hall t hm))
    (by kernel_rfl)
#print axioms proved
end Go.Proofs.YtjlhinjmnhpdaaaGreatDoor.centralCrowds
