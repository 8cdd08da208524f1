/-
  As much as it is told: each kind has as many cells as there are, and none beyond is ever touched. No conditions.
-/
import Derived.Test.YtmkgmpfpemiaaaaGreatDoorQN3
import Derived.Test.YtmkgmpfpemiaaaaGreatDoorRows
import Derived.Test.YtmkgmpfpemiaaaaGreatDoorCards
import Derived.Test.YtmkgmpfpemiaaaaGreatDoorTie
import Derived.WalkKit
import Derived.ProofKit
import Derived.OpenShut
import Derived.ChangeOld
import Derived.Below
import Derived.ChangeSame
import Derived.ChangeVars
import Derived.JoinedOf
import Derived.RowKitTokens
import Derived.LaidLaws
import Derived.LaidHandle
import Derived.Stop.Joined
import Derived.SevenTiedAt
import Derived.Lib.LaidTab
import Derived.Lib.LaidIn
import Derived.Test.YtmkgmpfpemiaaaaGreatDoorQA
import Derived.ChangeMaps5
import Derived.Test.YtmkgmpfpemiaaaaGreatDoorQN4
import Derived.Test.YtmkgmpfpemiaaaaGreatDoorQE3
import Derived.Test.YtmkgmpfpemiaaaaGreatDoorQE
import Derived.Test.YtmkgmpfpemiaaaaGreatDoorQN
namespace Go.Proofs.YtmkgmpfpemiaaaaGreatDoor
set_option maxRecDepth 100000
open Go.RowKit Go.Shelf Go.Sort
set_option linter.unusedVariables false
set_option linter.unusedSimpArgs false

theorem danceWordsc_any {w : World} {b kc : Nat} (hb : w.cell? ⟨b, 0, none⟩ = some (.int .i64 (kc : Nat))) (t : Act6) :
    Calls Tryz.prog 33 #[actV t, .pointer (some ⟨b, 0, none⟩)] w fun e w' => e = .returned (.bool (decide (t.2.2.2.1 < 0) || decide ((kc : Int) ≤ t.2.2.2.1))) ∧ w.grownBy w' none := by
  have hb2 : (w.alloc (.cells #[.int .i64 t.1, .int .i64 t.2.1, .int .i64 t.2.2.1, .int .i64 t.2.2.2.1, .int .u64 t.2.2.2.2.1, .int .u64 t.2.2.2.2.2] 59)).cell? ⟨b, 0, none⟩ = some (.int .i64 (kc : Nat)) := (grown_a (World.grownBy.refl w none) _).cell hb (by simp)
  have HG := Lib.hid (grown_a (World.grownBy.refl w none) (.cells #[.int .i64 t.1, .int .i64 t.2.1, .int .i64 t.2.2.1, .int .i64 t.2.2.2.1, .int .u64 t.2.2.2.2.1, .int .u64 t.2.2.2.2.2] 59))
  unfold actV
  obtain ⟨t1, t2, t3, t4, t5, t6⟩ := t
  dsimp only at hb2 HG
  go_enter Tryz.func33, Tryz.ntmps33
  by_cases h2 : t4 < 0
  · go_wp2
    go_ret
    exact ⟨by simp [h2], HG.out⟩
  · go_wp2
    go_ret
    refine ⟨?_, HG.out⟩
    have e : decide (t4 < 0) = false := by simpa using h2
    simp [e]

set_option maxHeartbeats 2000000 in
theorem danceWords_any {w : World} (H : DanceOK) (HCE : CellsOK) (hw : DW w) (k : Int) (n rounds : Int) (D : Option Addr) (nm cm : Nat) (l : List (Int × Bool)) (hl : Moves w w.heap.size D nm l) :
    Calls Tryz.prog 9 #[.int .i64 k, .int .i64 n, .int .i64 rounds, .slice D nm cm] w fun e w' => e = .returned (.bool true) ∧ Below w.heap.size w w' := by
  have HDn := Lib.hid (danced_any H hw)
  have HBall := Lib.hid (fun w => ball_is k n rounds w)
  have d := ball_dims k n rounds
  generalize ballK k = k1 at *
  generalize ballN n = n1 at *
  generalize ballR rounds = r1 at *
  have HFl := Lib.hid (fun w1 (hb : Below w.heap.size w w1) (h9 : nm ≤ 500) => floor_his (cm := cm) H hw hb d hl (by omega))
  have HD := Lib.hid d
  clear hl d
  go_enter Tryz.func9, Tryz.ntmps9
  go_wp2_with fail
  refine HDn.out.mono ?_
  rintro e w1 ⟨rfl, hb1⟩
  have HB1 := Lib.hid hb1
  clear hb1 HDn
  by_cases h9 : 500 < nm
  · have h9' : (500 : Int) < (nm : Int) := by omega
    go_wp2
    go_ret
    exact ⟨rfl, HB1.out⟩
  have h9' : ¬ (500 : Int) < (nm : Int) := by omega
  go_wp2_with fail
  refine (HBall.out _).mono ?_
  rintro e w2 ⟨rfl, rfl⟩
  go_wp2_with fail
  refine (HFl.out _ HB1.out (by omega)).mono ?_
  rintro e w2 ⟨c, m, p, rfl, hF, hp, hH⟩
  have HF := Lib.hid hF
  have HPk := Lib.hid hp
  have HH := Lib.hid hH
  clear hF HB1 HFl HBall hp hH
  have hn16 := HD.out.n16
  have hr6 := HD.out.r6
  have HCl := Lib.hid (fun w1 (hb : Below w.heap.size w w1) => HCE.cells (hw.old hb) HD.out)
  have hk3 := kCells_le HD.out.k1 HD.out.k6 HD.out.n1 HD.out.n16
  go_wp2_with fail
  refine (HCl.out _ HF.out.bel).mono ?_
  rintro e w3 ⟨rfl, hb3⟩
  have HF3 := Lib.hid (HF.out.keep hb3)
  have HNo := Lib.hid (hist_words HD.out HH.out HPk.out)
  have hcl := HF.out.dn.clen
  clear hb3 HF HCl
  go_wp2_with fail
  have hat := heap_alloc_new w3 (.cells #[.int .i64 (kCells k1 n1 : Nat)] 3)
  have HF4 := Lib.hid (HF3.out.grow (grown_a (World.grownBy.refl _ none) (.cells #[.int .i64 (kCells k1 n1 : Nat)] 3)))
  generalize w3.alloc (.cells #[.int .i64 (kCells k1 n1 : Nat)] 3) = w4 at *
  have hc4 : w4.cell? ⟨w3.heap.size, 0, none⟩ = some (.int .i64 (kCells k1 n1 : Nat)) := (cell_in hat 0).trans rfl
  have hCs : ∀ u, w4.grownBy u none → Calls Tryz.prog 30 #[.pointer (some ⟨c, 0, none⟩)] u fun e w' => ∃ A cap, e = .returned (.slice A m.cells.length cap) ∧ w4.grownBy w' none := fun u hg => (at_cells (HF4.out.grow hg).at_ (by rw [hcl]; exact hk3)).mono fun e w' ⟨A, cap, he, _, hg2⟩ => ⟨A, cap, he, hg.andThen hg2 (by intro j hj; cases hj)⟩
  have HCs := Lib.hid hCs
  rw [hcl] at HCs
  have hAs : ∀ u, w4.grownBy u none → Calls Tryz.prog 32 #[.pointer (some ⟨c, 0, none⟩)] u fun e w' => ∃ A cap, e = .returned (.slice A m.acts.length cap) ∧ ActRow w' A m.acts.length m.acts ∧ w4.grownBy w' none := fun u hg => (flo_acts (HF4.out.grow hg)).mono fun e w' ⟨A, cap, he, hr, hg2⟩ => ⟨A, cap, he, hr, hg.andThen hg2 (by intro j hj; cases hj)⟩
  have HAs := Lib.hid hAs
  have hany : (m.acts.any fun t => decide (t.2.2.2.1 < 0) || decide ((kCells k1 n1 : Int) ≤ t.2.2.2.1)) = false := by
    rw [List.any_eq_false]
    intro t ht
    obtain ⟨z, e, hz⟩ := HNo.out t ht
    rw [e]
    simp
    omega
  have hCF : ∀ u A cap, w4.grownBy u none → ActRow u A m.acts.length m.acts → Calls Tryz.prog 31 #[.slice A m.acts.length cap, .func (.func 33) #[] #[.pointer (some ⟨w3.heap.size, 0, none⟩)]] u fun e w' => e = .returned (.bool false) ∧ w4.grownBy w' none := fun u A cap hg hr => (containsFuncA_any A cap m.acts hr HF4.out.few.2 (fun t => decide (t.2.2.2.1 < 0) || decide ((kCells k1 n1 : Int) ≤ t.2.2.2.1)) 33 #[.pointer (some ⟨w3.heap.size, 0, none⟩)] (fun args w => by kernel_rfl) (fun W t hg2 => danceWordsc_any (hg2.cell (hg.cell hc4 (by simp)) (by simp)) t)).mono fun e w' ⟨he, hg2⟩ => ⟨by rw [he, hany], hg.andThen hg2 (by intro j hj; cases hj)⟩
  have HCF := Lib.hid hCF
  have HS := Lib.hid (fun u (hg : w4.grownBy u none) => hg.cell hc4 (by simp))
  have HB4 := Lib.hid (fun u (hg : w4.grownBy u none) => (HF4.out.grow hg).bel)
  clear hany HNo HF4 hat hc4 hcl hCs hAs hCF
  generalize kCells k1 n1 = kc at *
  have hkk : ((kc : Int) == (kc : Int)) = true := by simp
  generalize w3.heap.size = q at *
  go_region_held3 (fun u => u.cell? ⟨q, 0, none⟩ = some (.int .i64 (kc : Nat)))
    (first | exact HS.out _ (by repeat (first | assumption | exact World.grownBy.refl _ none | refine grown_d ?_ | refine grown_a ?_ _)))
    (first
      | (go_at_call 30; refine (HCs.out _ (by repeat (first | assumption | exact World.grownBy.refl _ none | refine grown_d ?_ | refine grown_a ?_ _))).mono ?_; rintro e w5 ⟨A5, c5, rfl, hg5⟩)
      | (go_at_call 32; refine (HAs.out _ (by repeat (first | assumption | exact World.grownBy.refl _ none | refine grown_d ?_ | refine grown_a ?_ _))).mono ?_; rintro e w6 ⟨A6, c6, rfl, hr6', hg6⟩)
      | (go_at_call 31; refine (HCF.out _ _ _ (by repeat (first | assumption | exact World.grownBy.refl _ none | refine grown_d ?_ | refine grown_a ?_ _)) (by assumption)).mono ?_; rintro e w7 ⟨rfl, hg7⟩))
  --MARK
  all_goals (go_wp2_with fail; go_ret; exact ⟨rfl, HB4.out _ (by repeat (first | assumption | exact World.grownBy.refl _ none | refine grown_d ?_ | refine grown_a ?_ _))⟩)
end Go.Proofs.YtmkgmpfpemiaaaaGreatDoor

namespace Go.Proofs.YtmkgmpfpemiaaaaGreatDoor.danceWords
open Go.ChangeShapes Go.WideShapes Go.ChangeAt Go.RowKit
set_option linter.unusedVariables false

theorem own : ownKnob Tryz.prog.godebug = none := by kernel_rfl
theorem laidOut : laidOutB Tryz.prog = true := by kernel_rfl
theorem tsize : Tryz.prog.types.size = 238 := by kernel_rfl

theorem et : Tryz.prog.globalNamed "errors.errorType" = some 1 := by kernel_rfl
theorem rt : (Tryz.prog.cutTypes.find? (·.1 == "internal/reflectlite.rtype")).map (·.2) = some 191 := by kernel_rfl
theorem oneRow : ((List.range 238).filter fun t => Tryz.prog.rowNamed t [101, 114, 114, 111, 114]) = [29] := by kernel_rfl

/-- What the listed variables give the walk. -/
theorem cw_of {W : World} (h : laidMetH Tryz.prog Rows.danceWordsRow.laid W) : CW W := by
  have h' : laidMet Tryz.prog (Rows.danceWordsRow.laid.filter fun x => x.2.handleName?.isNone) W ∧ handlesMet Tryz.prog (Rows.danceWordsRow.laid.filter fun x => x.2.handleName?.isSome) W := h
  exact cw_of_laid h'.1 (List.mem_filter.2 ⟨.tail _ (.tail _ (.tail _ (.head _))), rfl⟩)
theorem handle_of_laid {W : World} (h : laidMetH Tryz.prog Rows.danceWordsRow.laid W) : ErrVar W := by
  have h' : laidMet Tryz.prog (Rows.danceWordsRow.laid.filter fun x => x.2.handleName?.isNone) W ∧ handlesMet Tryz.prog (Rows.danceWordsRow.laid.filter fun x => x.2.handleName?.isSome) W := h
  obtain ⟨name, u, ty, e1, e2, e3, e4, e5⟩ := h'.2 ("errors.errorType", Rows.laid_errors_errorType) (List.mem_filter.2 ⟨.tail _ (.tail _ (.head _)), rfl⟩)
  have en : name = [101, 114, 114, 111, 114] := (Option.some.inj e1).symm
  subst en
  obtain rfl := Option.some.inj (rt.symm.trans e2)
  have hm : ty ∈ (List.range 238).filter fun t => Tryz.prog.rowNamed t [101, 114, 114, 111, 114] := List.mem_filter.2 ⟨List.mem_range.2 (by rw [← tsize]; exact e3), e4⟩
  rw [oneRow] at hm
  obtain rfl := List.mem_singleton.1 hm
  have hh : typeHandle Tryz.prog 29 = .pointer (some ⟨4, 29, none⟩) := by kernel_rfl
  rw [hh] at e5
  have := World.var?_cell et e5 0
  unfold ErrVar
  simpa using this
theorem tz_of {W : World} (h : laidMetH Tryz.prog Rows.danceWordsRow.laid W) : TzVar W := by
  have h' : laidMet Tryz.prog (Rows.danceWordsRow.laid.filter fun x => x.2.handleName?.isNone) W ∧ handlesMet Tryz.prog (Rows.danceWordsRow.laid.filter fun x => x.2.handleName?.isSome) W := h
  exact tz_of_laid h'.1 (List.mem_filter.2 ⟨.tail _ (.head _), rfl⟩)

/-- So many blocks has the settled world. -/
noncomputable def low : Nat := (World.holding Tryz.prog default ⟨#[], #[], []⟩).heap.size
def put (o : Obj) (cs : Array Value) : Obj := match o with
  | .cells _ t frozen => .cells cs t frozen
  | o => o
def tab (k : IntKind) (zs : List Int) : Array Value := (zs.map fun z => Value.int k z).toArray
/-- A world that meets the condition. -/
noncomputable def laidWorld (os : Os) : World :=
  let w0 := World.holding Tryz.prog os ⟨#[], #[], []⟩
  { w0 with heap := ((((w0.heap.modify 1 (put · #[.iface 191 (.agg #[.pointer (some ⟨4, 29, none⟩)])])).modify 0 (put · formCells)).modify 2 (put · (tab .u8 [0, 1, 28, 2, 29, 14, 24, 3, 30, 22, 20, 15, 25, 17, 4, 8, 31, 27, 13, 23, 21, 19, 16, 7, 26, 12, 18, 6, 11, 5, 10, 9]))).modify 3 (put · (tab .u8 [0, 1, 56, 2, 57, 49, 28, 3, 61, 58, 42, 50, 38, 29, 17, 4, 62, 47, 59, 36, 45, 43, 51, 22, 53, 39, 33, 30, 24, 18, 12, 5, 63, 55, 48, 27, 60, 41, 37, 16, 46, 35, 44, 21, 52, 32, 23, 11, 54, 26, 40, 15, 34, 20, 31, 10, 25, 14, 19, 9, 13, 8, 7, 6]))) }
theorem laidWorld_met (os : Os) (args : Array Value) : laidMetH Tryz.prog Rows.danceWordsRow.laid ((laidWorld os).forCall (fun _ _ => 0) ⟨#[], args, []⟩).memory :=
  laidMetH_of_parts (LaidIn.of_run [0, 2, 3] 8 (by kernel_rfl) (by kernel_rfl) (by kernel_rfl) (by kernel_rfl)).met (by kernel_rfl)

/-- The walk. -/
theorem walk (a0 : Int) (a1 : Int) (a2 : Int) (a3 : Option Addr) (len3 cap3 : Nat) (nods3 : List (Int × Bool)) (w : World) (hw : CW w) (hg : ErrVar w) (ht : TzVar w) (N3 : Moves w w.heap.size a3 len3 nods3) (I3 : True) :
    Calls Tryz.prog 9 #[.int .i64 a0, .int .i64 a1, .int .i64 a2, .slice a3 len3 cap3] w fun e w' => e = .returned (.bool true) ∧ Below w.heap.size w w' := by
  exact danceWords_any danceOK cellsOK ⟨hw, hg, ht⟩ a0 a1 a2 a3 len3 cap3 nods3 N3

set_option maxRecDepth 100000 in
theorem lifted (os : Os) (started : os.Started) (H : Type) (enc : TypeId × Value → H) :
    ReturnsInHanded {} Tryz.checked os 9 .any (fun w args => (Rows.danceWordsSpec.pre enc Tryz.prog Tryz.f9 [] false w args ∧ laidMetH Tryz.prog Rows.danceWordsRow.laid w) ∧ sizedMet enc Tryz.prog Tryz.f9 (OpenSpec.ofChange Rows.danceWordsSpec) false w args)
      (Rows.danceWordsSpec.post enc Tryz.prog Tryz.f9 false true false false) := by
  refine returnsInHanded_of_change_and (C := Tryz.checked) (X := fun w _ => laidMetH Tryz.prog Rows.danceWordsRow.laid w) (fun _ _ _ hh h => h.of_heap hh) own started (by kernel_rfl) Tryz.func9
    (ChangeSpec.witness_at (enc := enc) (C := Tryz.checked) (os := os) (X := fun w _ => laidMetH Tryz.prog Rows.danceWordsRow.laid w) false (laidWorld os) #[.int .i64 0, .int .i64 0, .int .i64 0, .slice none 0 0] 8 rfl (by kernel_rfl) (by kernel_rfl) (by kernel_rfl) (by kernel_rfl) (by kernel_rfl) (laidWorld_met os _)) ?_
  intro W base args ds gs before hval0 hW _ _ hL _
  have hval : ∀ (j : Nat) t v, Tryz.f9.params[j]? = some t → args[j]? = some v → Value.okWide Tryz.prog W .any base t v := hval0
  have hW' := hW
  obtain ⟨p, q, hA0, hV0, rfl, hfz, hnd⟩ := hW
  have hA : DataW.TrodAll enc Tryz.prog W 0 (fun _ => true) true Tryz.f9.params.toList args.toList ds p := hA0
  have hV : DataW.TrodVars enc Tryz.prog W (fun _ => true) [] gs q := hV0
  rw [Tryz.params9] at hA hval
  obtain ⟨v0, vs0, d0, ds0, p0, q0, hargs, rfl, rfl, h0, r0⟩ := trodAll_cons hA
  obtain ⟨v1, vs1, d1, ds1, p1, q1, rfl, rfl, rfl, h1, r1⟩ := trodAll_cons r0
  obtain ⟨v2, vs2, d2, ds2, p2, q2, rfl, rfl, rfl, h2, r2⟩ := trodAll_cons r1
  obtain ⟨v3, vs3, d3, ds3, p3, q3, rfl, rfl, rfl, h3, r3⟩ := trodAll_cons r2
  obtain ⟨rfl, rfl, rfl⟩ := trodAll_nil r3
  obtain rfl : args = #[v0, v1, v2, v3] := by cases args; simp_all
  obtain ⟨rfl, rfl⟩ : gs = [] ∧ q = [] := by
    cases gs with
    | nil => exact ⟨rfl, hV⟩
    | cons g r => exact absurd hV (by intro h; cases h)
  obtain ⟨a0, rfl, rfl, rfl, w0⟩ := open_int Tryz.underlying3 (hval 0 3 v0 rfl rfl) h0
  obtain ⟨a1, rfl, rfl, rfl, w1⟩ := open_int Tryz.underlying3 (hval 1 3 v1 rfl rfl) h1
  obtain ⟨a2, rfl, rfl, rfl, w2⟩ := open_int Tryz.underlying3 (hval 2 3 v2 rfl rfl) h2
  obtain ⟨a3, len3, cap3, rfl⟩ := okWide_slice Tryz.underlying22 (hval 3 22 v3 rfl rfl)
  have k3 := h3
  have lt3 : ∀ x ∈ p3, x.block < W.heap.size := by obtain ⟨m, hm⟩ := k3; exact DataW.trod_lt m _ _ _ hm
  obtain ⟨nods3, N3, I3⟩ : ∃ nods, Moves W W.heap.size a3 len3 nods ∧ True := by
    obtain ⟨fuel, hf⟩ := h3
    obtain ⟨l, hl⟩ := moves_of (a := a3) (len := len3) (cap := cap3) hf; exact ⟨l, hl, trivial⟩
  have hw := cw_of hL
  have hg := handle_of_laid hL
  have ht := tz_of hL
  clear hA0 hval0
  refine (walk a0 a1 a2 a3 len3 cap3 nods3 W hw hg ht N3 I3).mono fun e W' ⟨he, bel⟩ => ?_
  subst he
  exact ⟨_, rfl, _, _, _, [], _, [], hW', trodAll_mk1 (shut_bool Tryz.underlying4 _), (trodAll_cons_mk (shut_int Tryz.underlying3 w0) (trodAll_cons_mk (shut_int Tryz.underlying3 w1) (trodAll_cons_mk (shut_int Tryz.underlying3 w2) (trodAll_cons_mk (Below.trod laidOut (by kernel_rfl) (of_decide_eq_true (by kernel_rfl)) k3 bel lt3) trodAll_mk0)))), rfl, bel.frame _, fun h => by cases h⟩

theorem over : Rows.DanceWordsSaid :=
  OpenClaim.holds_of_wide 9 Tryz.f9 rfl rfl rfl rfl rfl rfl rfl ⟨rfl, rfl, rfl, rfl, rfl⟩ rfl rfl rfl rfl rfl (by kernel_rfl) Tryz.func9 (by kernel_rfl)
    (of_decide_eq_true (by kernel_rfl)) (by unfold Func.isWrapper; first | (rw [if_pos (by decide +kernel)]; kernel_rfl) | (rw [if_neg (by decide +kernel)]; exact ⟨rfl, rfl⟩))
    (fun os started H enc _ => lifted os started H enc)

/-- The given statement: the tied card. -/
theorem proved : Rows.DanceWordsCardSaid :=
  Claim7.holds_tied_plain_at .later [] [.data, .data, .handle, .data] true (true, "249a662f9a3a8032d6ea0f3d6c35fd3df0894eb53275f03e084101a5f9d50289") true
    over (fun _ h => by cases h) (by kernel_rfl) (fun _ h => by cases h) danceWords_row_tie rfl ⟨rfl, rfl⟩ (by kernel_rfl) rfl
    (fun f fn hf hfn => by
      obtain rfl : f = 9 := Option.some.inj ((show Tryz.prog.funcNamed "quadrille/quadrillekeep.DanceWords" = some 9 by kernel_rfl).symm.trans hf) |>.symm
      obtain rfl : fn = Tryz.f9 := (Option.some.inj (Tryz.func9.symm.trans hfn)).symm
      refine ⟨by kernel_rfl, fun j t ht => ?_⟩
      rw [Tryz.params9] at ht
      have hm : t ∈ [3, 3, 3, 22] := by
        have := Array.mem_of_getElem? ht
        simpa using this
      have hall : ([3, 3, 3, 22].all fun u => !Tryz.prog.wantsStandIn u) = true := by kernel_rfl
      exact (show Tryz.prog.wantsStandIn t = false by simpa using List.all_eq_true.1 hall t hm))
    (by kernel_rfl)
#print axioms proved
end Go.Proofs.YtmkgmpfpemiaaaaGreatDoor.danceWords
