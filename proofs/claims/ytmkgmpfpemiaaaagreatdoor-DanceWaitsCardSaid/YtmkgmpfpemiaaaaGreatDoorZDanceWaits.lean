/-
  Without one nobody goes: as long as a party does not go on at all, nobody goes of the first round. No conditions.
-/
import Derived.Test.YtmkgmpfpemiaaaaGreatDoorQN3
import Derived.Test.YtmkgmpfpemiaaaaGreatDoorRows
import Derived.Test.YtmkgmpfpemiaaaaGreatDoorCards
import Derived.Test.YtmkgmpfpemiaaaaGreatDoorTie
import Derived.WalkKit
import Derived.ProofKit
import Derived.OpenShut
import Derived.ChangeOld
import Derived.Below
import Derived.ChangeSame
import Derived.ChangeVars
import Derived.JoinedOf
import Derived.RowKitTokens
import Derived.LaidLaws
import Derived.LaidHandle
import Derived.Stop.Joined
import Derived.SevenTiedAt
import Derived.Lib.LaidTab
import Derived.Lib.LaidIn
import Derived.Test.YtmkgmpfpemiaaaaGreatDoorQA
import Derived.ChangeMaps5
import Derived.Test.YtmkgmpfpemiaaaaGreatDoorQM2
import Derived.Test.YtmkgmpfpemiaaaaGreatDoorQE
import Derived.Test.YtmkgmpfpemiaaaaGreatDoorQN
import Derived.Test.YtmkgmpfpemiaaaaGreatDoorQE3
namespace Go.Proofs.YtmkgmpfpemiaaaaGreatDoor
set_option maxRecDepth 100000
open Go.RowKit Go.Shelf Go.Sort
set_option linter.unusedVariables false
set_option linter.unusedSimpArgs false

theorem danceWaitsc_any {w : World} {b who : Nat} (hb : w.cell? ⟨b, 0, none⟩ = some (.int .i64 (who : Nat))) (t : Ev4) :
    Calls Tryz.prog 28 #[evD t, .pointer (some ⟨b, 0, none⟩)] w fun e w' => e = .returned (.bool (t.2.1 == 2 || t.2.2.1 == (who : Int))) ∧ w.grownBy w' none := by
  have hb2 : (w.alloc (.cells #[.int .i64 t.1, .int .i64 t.2.1, .int .i64 t.2.2.1, .int .i64 t.2.2.2] 41)).cell? ⟨b, 0, none⟩ = some (.int .i64 (who : Nat)) := (grown_a (World.grownBy.refl w none) _).cell hb (by simp)
  have HG := Lib.hid (grown_a (World.grownBy.refl w none) (.cells #[.int .i64 t.1, .int .i64 t.2.1, .int .i64 t.2.2.1, .int .i64 t.2.2.2] 41))
  unfold evD
  obtain ⟨t1, t2, t3, t4⟩ := t
  dsimp only at hb2 HG
  go_enter Tryz.func28, Tryz.ntmps28
  by_cases h2 : t2 = 2
  · subst h2
    go_wp2
    go_ret
    exact ⟨by simp, HG.out⟩
  · go_wp2
    go_ret
    exact ⟨by simp [h2], HG.out⟩

set_option maxHeartbeats 2000000 in
theorem danceWaits_any {w : World} (H : DanceOK) (hw : DW w) (k n rounds who : Int) (D : Option Addr) (nm cm : Nat) (l : List Int) (hl : Ints .i64 w w.heap.size D nm l) :
    Calls Tryz.prog 8 #[.int .i64 k, .int .i64 n, .int .i64 rounds, .int .i64 who, .slice D nm cm] w fun e w' => e = .returned (.bool true) ∧ Below w.heap.size w w' := by
  have HDn := Lib.hid (fun w1 (hb : Below w.heap.size w w1) => danced_any H (hw.old hb))
  have HBall := Lib.hid (fun w => ball_is k n rounds w)
  have d := ball_dims k n rounds
  generalize ballK k = k1 at *
  generalize ballN n = n1 at *
  generalize ballR rounds = r1 at *
  obtain ⟨u, hu, _, HWh⟩ := pick_nat who n1 (by have := d.n1; omega) (by have := d.n16; omega)
  have HWh := Lib.hid HWh
  have HFl := Lib.hid (fun w1 (hb : Below w.heap.size w w1) => floor_nil H (hw.old hb) (Below.refl _ _) d)
  have HPk := Lib.hid (fun a => pick_nat a n1 (by have := d.n1; omega) (by have := d.n16; omega))
  have HI := Lib.hid (fun w1 (hb : Below w.heap.size w w1) => hl.old hb)
  have HD := Lib.hid d
  have hn16 := d.n16
  have hr6 := d.r6
  clear hl d
  go_enter Tryz.func8, Tryz.ntmps8
  go_wp2_with fail
  have hat := heap_alloc_new w (.cells #[.int .i64 who] 3)
  have hb0 := (Below.refl w.heap.size w).alloc (Nat.le_refl _) (.cells #[.int .i64 who] 3)
  have hs0 : (w.alloc (.cells #[.int .i64 who] 3)).heap.size = w.heap.size + 1 := by simp
  clear HDn
  generalize w.alloc (.cells #[.int .i64 who] 3) = w0 at *
  refine (danced_any H (hw.old hb0)).mono ?_
  rintro e w1 ⟨rfl, hb1⟩
  have hat1 := (hb1.block w.heap.size (by omega)).trans hat
  have hc1 : w1.cell? ⟨w.heap.size, 0, none⟩ = some (.int .i64 who) := (cell_in hat1 0).trans rfl
  have HB1 := Lib.hid (hb0.trans (hb1.mono hb0.size))
  have HA1 := Lib.hid hat1
  have hfr1 := frozen_of_row w1 w.heap.size 0 _ _ hat1
  clear hb1 hb0 hat hs0 hat1
  by_cases h9 : 900 < nm
  · have h9' : (900 : Int) < (nm : Int) := by omega
    go_wp2
    go_ret
    exact ⟨rfl, HB1.out⟩
  have h9' : ¬ (900 : Int) < (nm : Int) := by omega
  go_wp2_with fail
  refine (HBall.out _).mono ?_
  rintro e w2 ⟨rfl, rfl⟩
  go_wp2_with fail
  refine (HWh.out _).mono ?_
  rintro e w2 ⟨rfl, rfl⟩
  go_wp2_with fail
  have hat2 := one_setCell (u := .int .i64 (u : Nat)) HA1.out
  have hb2 := HB1.out.setCell (p := ⟨w.heap.size, 0, none⟩) (Nat.le_refl _) (.int .i64 (u : Nat))
  generalize w1.setCell ⟨w.heap.size, 0, none⟩ (.int .i64 (u : Nat)) = w2 at *
  have hc2 : w2.cell? ⟨w.heap.size, 0, none⟩ = some (.int .i64 (u : Nat)) := (cell_in hat2 0).trans rfl
  have hs2 : w.heap.size < w2.heap.size := World.block_lt_of_cell? w2 _ hc2
  refine (HFl.out _ hb2).mono ?_
  rintro e w3 ⟨c, m0, rfl, hF, hm0⟩
  have HF := Lib.hid hF
  have HB2 := Lib.hid hb2
  have HC := Lib.hid (fun (w4 : World) (hb : Below w2.heap.size w2 w4) => (hb.cell (p := ⟨w.heap.size, 0, none⟩) hs2).trans hc2)
  have HM0 := Lib.hid (show cntEv m0.events u = 0 by rw [hm0]; rfl)
  have HI2 := Lib.hid (HI.out _ hb2)
  clear hF HB1 HFl HBall hm0 hat2 hb2 hc2 hc1 HA1 HI hfr1
  go_wp2
  go_loopw [39] (fun j wr => ∃ q : Nat, q ≤ nm ∧ j = .int .i64 q ∧ ∃ m, Hid (Flo w2 c k1 n1 r1 0 m wr ∧ cntEv m.events u = 0)) (fun j _ => nm - (intOf j).toNat)
  case atStart => exact ⟨0, Nat.zero_le _, rfl, m0, ⟨HF.out, HM0.out⟩⟩
  case round =>
    obtain ⟨q, hq, rfl, m, hF⟩ := hrel
    by_cases hlt : q < nm
    · have hkn : (q : Int) < (nm : Int) := by omega
      obtain ⟨b, off, rfl, _, hx⟩ := (HI2.out.old hF.out.1.bel).row (by omega)
      have hz := hx q hlt
      clear hx
      generalize l.getD q 0 = z at hz
      obtain ⟨x, hx, _, HPx⟩ := HPk.out z
      have HPx := Lib.hid HPx
      have hcw := HC.out wr hF.out.1.bel
      have HF4 := Lib.hid hF.out
      clear hF HF
      by_cases hxu : x = u
      · subst hxu
        go_wp2_with fail
        refine (HPx.out _).mono ?_
        rintro e w5 ⟨rfl, rfl⟩
        go_wp2
        go_roundw
        case rel => exact ⟨q + 1, by omega, by go_num, m, HF4⟩
        case measure => simp [intOf]; omega
      · have hne : ¬ (x : Int) = (u : Int) := by omega
        have HN := Lib.hid hxu
        go_wp2_with fail
        refine (HPx.out _).mono ?_
        rintro e w5 ⟨rfl, rfl⟩
        go_wp2_with fail
        refine (flo_step HD.out HF4.out.1 (by decide) hx).mono ?_
        rintro e w6 ⟨rfl, hF6⟩
        have HF6 := Lib.hid (And.intro hF6 ((step_cnt (m := m) HN.out).trans HF4.out.2))
        generalize errV (stepM 20000 m (x : Int)).1 = RV
        clear hF6 HF4 hcw
        go_wp2
        go_roundw
        case rel => exact ⟨q + 1, by omega, by go_num, _, HF6⟩
        case measure => simp [intOf]; omega
    · have hkn : ¬ (q : Int) < (nm : Int) := by omega
      have HF4 := Lib.hid hF.out
      clear hF HF HI2
      go_wp2_with fail
      refine (flo_events HF4.out.1).mono ?_
      rintro e w5 ⟨A5, c5, rfl, ho5, hg5⟩
      have HF5 := Lib.hid (HF4.out.1.grow hg5)
      have HE := Lib.hid (evRow_own ho5 rfl)
      have hcw := HC.out w5 HF5.out.bel
      have hall := HF4.out.1.dn.ok.zero hu HF4.out.2
      have HCF := Lib.hid (containsFuncE_any A5 c5 m.events HE.out HF4.out.1.few.1 (fun t => t.2.1 == 2 || t.2.2.1 == (u : Int)) 28 #[.pointer (some ⟨w.heap.size, 0, none⟩)] (fun args w => by kernel_rfl) (fun W t hg => danceWaitsc_any (hg.cell hcw (by simp)) t))
      have hany : (m.events.any fun t => t.2.1 == 2 || t.2.2.1 == (u : Int)) = false := by
        rw [List.any_eq_false]
        intro t ht
        have := hall t ht
        simp [this.1, this.2]
      rw [hany] at HCF
      clear ho5 hg5 hall hany HF4
      go_wp2_with fail
      refine HCF.out.mono ?_
      rintro e w6 ⟨rfl, hg6⟩
      have HB6 := Lib.hid (HB2.out.trans ((HF5.out.grow hg6).bel.mono HB2.out.size))
      clear hg6 HCF HF5 HE
      go_wp2
      go_ret
      exact ⟨rfl, HB6.out⟩
end Go.Proofs.YtmkgmpfpemiaaaaGreatDoor

namespace Go.Proofs.YtmkgmpfpemiaaaaGreatDoor.danceWaits
open Go.ChangeShapes Go.WideShapes Go.ChangeAt Go.RowKit
set_option linter.unusedVariables false

theorem own : ownKnob Tryz.prog.godebug = none := by kernel_rfl
theorem laidOut : laidOutB Tryz.prog = true := by kernel_rfl
theorem tsize : Tryz.prog.types.size = 238 := by kernel_rfl

theorem et : Tryz.prog.globalNamed "errors.errorType" = some 1 := by kernel_rfl
theorem rt : (Tryz.prog.cutTypes.find? (·.1 == "internal/reflectlite.rtype")).map (·.2) = some 191 := by kernel_rfl
theorem oneRow : ((List.range 238).filter fun t => Tryz.prog.rowNamed t [101, 114, 114, 111, 114]) = [29] := by kernel_rfl

/-- What the listed variables give the walk. -/
theorem cw_of {W : World} (h : laidMetH Tryz.prog Rows.danceWaitsRow.laid W) : CW W := by
  have h' : laidMet Tryz.prog (Rows.danceWaitsRow.laid.filter fun x => x.2.handleName?.isNone) W ∧ handlesMet Tryz.prog (Rows.danceWaitsRow.laid.filter fun x => x.2.handleName?.isSome) W := h
  exact cw_of_laid h'.1 (List.mem_filter.2 ⟨.tail _ (.tail _ (.tail _ (.head _))), rfl⟩)
theorem handle_of_laid {W : World} (h : laidMetH Tryz.prog Rows.danceWaitsRow.laid W) : ErrVar W := by
  have h' : laidMet Tryz.prog (Rows.danceWaitsRow.laid.filter fun x => x.2.handleName?.isNone) W ∧ handlesMet Tryz.prog (Rows.danceWaitsRow.laid.filter fun x => x.2.handleName?.isSome) W := h
  obtain ⟨name, u, ty, e1, e2, e3, e4, e5⟩ := h'.2 ("errors.errorType", Rows.laid_errors_errorType) (List.mem_filter.2 ⟨.tail _ (.tail _ (.head _)), rfl⟩)
  have en : name = [101, 114, 114, 111, 114] := (Option.some.inj e1).symm
  subst en
  obtain rfl := Option.some.inj (rt.symm.trans e2)
  have hm : ty ∈ (List.range 238).filter fun t => Tryz.prog.rowNamed t [101, 114, 114, 111, 114] := List.mem_filter.2 ⟨List.mem_range.2 (by rw [← tsize]; exact e3), e4⟩
  rw [oneRow] at hm
  obtain rfl := List.mem_singleton.1 hm
  have hh : typeHandle Tryz.prog 29 = .pointer (some ⟨4, 29, none⟩) := by kernel_rfl
  rw [hh] at e5
  have := World.var?_cell et e5 0
  unfold ErrVar
  simpa using this
theorem tz_of {W : World} (h : laidMetH Tryz.prog Rows.danceWaitsRow.laid W) : TzVar W := by
  have h' : laidMet Tryz.prog (Rows.danceWaitsRow.laid.filter fun x => x.2.handleName?.isNone) W ∧ handlesMet Tryz.prog (Rows.danceWaitsRow.laid.filter fun x => x.2.handleName?.isSome) W := h
  exact tz_of_laid h'.1 (List.mem_filter.2 ⟨.tail _ (.head _), rfl⟩)

/-- So many blocks has the settled world. -/
noncomputable def low : Nat := (World.holding Tryz.prog default ⟨#[], #[], []⟩).heap.size
def put (o : Obj) (cs : Array Value) : Obj := match o with
  | .cells _ t frozen => .cells cs t frozen
  | o => o
def tab (k : IntKind) (zs : List Int) : Array Value := (zs.map fun z => Value.int k z).toArray
/-- A world that meets the condition. -/
noncomputable def laidWorld (os : Os) : World :=
  let w0 := World.holding Tryz.prog os ⟨#[], #[], []⟩
  { w0 with heap := ((((w0.heap.modify 1 (put · #[.iface 191 (.agg #[.pointer (some ⟨4, 29, none⟩)])])).modify 0 (put · formCells)).modify 2 (put · (tab .u8 [0, 1, 28, 2, 29, 14, 24, 3, 30, 22, 20, 15, 25, 17, 4, 8, 31, 27, 13, 23, 21, 19, 16, 7, 26, 12, 18, 6, 11, 5, 10, 9]))).modify 3 (put · (tab .u8 [0, 1, 56, 2, 57, 49, 28, 3, 61, 58, 42, 50, 38, 29, 17, 4, 62, 47, 59, 36, 45, 43, 51, 22, 53, 39, 33, 30, 24, 18, 12, 5, 63, 55, 48, 27, 60, 41, 37, 16, 46, 35, 44, 21, 52, 32, 23, 11, 54, 26, 40, 15, 34, 20, 31, 10, 25, 14, 19, 9, 13, 8, 7, 6]))) }
theorem laidWorld_met (os : Os) (args : Array Value) : laidMetH Tryz.prog Rows.danceWaitsRow.laid ((laidWorld os).forCall (fun _ _ => 0) ⟨#[], args, []⟩).memory :=
  laidMetH_of_parts (LaidIn.of_run [0, 2, 3] 8 (by kernel_rfl) (by kernel_rfl) (by kernel_rfl) (by kernel_rfl)).met (by kernel_rfl)

/-- The walk. -/
theorem walk (a0 : Int) (a1 : Int) (a2 : Int) (a3 : Int) (a4 : Option Addr) (len4 cap4 : Nat) (nods4 : List Int) (w : World) (hw : CW w) (hg : ErrVar w) (ht : TzVar w) (N4 : Ints .i64 w w.heap.size a4 len4 nods4) (I4 : len4 ≤ cap4) :
    Calls Tryz.prog 8 #[.int .i64 a0, .int .i64 a1, .int .i64 a2, .int .i64 a3, .slice a4 len4 cap4] w fun e w' => e = .returned (.bool true) ∧ Below w.heap.size w w' := by
  exact danceWaits_any danceOK ⟨hw, hg, ht⟩ a0 a1 a2 a3 a4 len4 cap4 nods4 N4

set_option maxRecDepth 100000 in
theorem lifted (os : Os) (started : os.Started) (H : Type) (enc : TypeId × Value → H) :
    ReturnsInHanded {} Tryz.checked os 8 .any (fun w args => (Rows.danceWaitsSpec.pre enc Tryz.prog Tryz.f8 [] false w args ∧ laidMetH Tryz.prog Rows.danceWaitsRow.laid w) ∧ sizedMet enc Tryz.prog Tryz.f8 (OpenSpec.ofChange Rows.danceWaitsSpec) false w args)
      (Rows.danceWaitsSpec.post enc Tryz.prog Tryz.f8 false true false false) := by
  refine returnsInHanded_of_change_and (C := Tryz.checked) (X := fun w _ => laidMetH Tryz.prog Rows.danceWaitsRow.laid w) (fun _ _ _ hh h => h.of_heap hh) own started (by kernel_rfl) Tryz.func8
    (ChangeSpec.witness_at (enc := enc) (C := Tryz.checked) (os := os) (X := fun w _ => laidMetH Tryz.prog Rows.danceWaitsRow.laid w) false (laidWorld os) #[.int .i64 0, .int .i64 0, .int .i64 0, .int .i64 0, .slice none 0 0] 8 rfl (by kernel_rfl) (by kernel_rfl) (by kernel_rfl) (by kernel_rfl) (by kernel_rfl) (laidWorld_met os _)) ?_
  intro W base args ds gs before hval0 hW _ _ hL _
  have hval : ∀ (j : Nat) t v, Tryz.f8.params[j]? = some t → args[j]? = some v → Value.okWide Tryz.prog W .any base t v := hval0
  have hW' := hW
  obtain ⟨p, q, hA0, hV0, rfl, hfz, hnd⟩ := hW
  have hA : DataW.TrodAll enc Tryz.prog W 0 (fun _ => true) true Tryz.f8.params.toList args.toList ds p := hA0
  have hV : DataW.TrodVars enc Tryz.prog W (fun _ => true) [] gs q := hV0
  rw [Tryz.params8] at hA hval
  obtain ⟨v0, vs0, d0, ds0, p0, q0, hargs, rfl, rfl, h0, r0⟩ := trodAll_cons hA
  obtain ⟨v1, vs1, d1, ds1, p1, q1, rfl, rfl, rfl, h1, r1⟩ := trodAll_cons r0
  obtain ⟨v2, vs2, d2, ds2, p2, q2, rfl, rfl, rfl, h2, r2⟩ := trodAll_cons r1
  obtain ⟨v3, vs3, d3, ds3, p3, q3, rfl, rfl, rfl, h3, r3⟩ := trodAll_cons r2
  obtain ⟨v4, vs4, d4, ds4, p4, q4, rfl, rfl, rfl, h4, r4⟩ := trodAll_cons r3
  obtain ⟨rfl, rfl, rfl⟩ := trodAll_nil r4
  obtain rfl : args = #[v0, v1, v2, v3, v4] := by cases args; simp_all
  obtain ⟨rfl, rfl⟩ : gs = [] ∧ q = [] := by
    cases gs with
    | nil => exact ⟨rfl, hV⟩
    | cons g r => exact absurd hV (by intro h; cases h)
  obtain ⟨a0, rfl, rfl, rfl, w0⟩ := open_int Tryz.underlying3 (hval 0 3 v0 rfl rfl) h0
  obtain ⟨a1, rfl, rfl, rfl, w1⟩ := open_int Tryz.underlying3 (hval 1 3 v1 rfl rfl) h1
  obtain ⟨a2, rfl, rfl, rfl, w2⟩ := open_int Tryz.underlying3 (hval 2 3 v2 rfl rfl) h2
  obtain ⟨a3, rfl, rfl, rfl, w3⟩ := open_int Tryz.underlying3 (hval 3 3 v3 rfl rfl) h3
  obtain ⟨a4, len4, cap4, rfl⟩ := okWide_slice Tryz.underlying43 (hval 4 43 v4 rfl rfl)
  have k4 := h4
  have lt4 : ∀ x ∈ p4, x.block < W.heap.size := by obtain ⟨m, hm⟩ := k4; exact DataW.trod_lt m _ _ _ hm
  obtain ⟨nods4, N4, I4⟩ : ∃ nods, Ints .i64 W W.heap.size a4 len4 nods ∧ len4 ≤ cap4 := by
    obtain ⟨fuel, hf⟩ := h4
    obtain ⟨xs, hx, _⟩ := ints_of (a := a4) (len := len4) (cap := cap4) hf; exact ⟨xs, hx, cap_slice Tryz.underlying43 hf⟩
  have hw := cw_of hL
  have hg := handle_of_laid hL
  have ht := tz_of hL
  clear hA0 hval0
  refine (walk a0 a1 a2 a3 a4 len4 cap4 nods4 W hw hg ht N4 I4).mono fun e W' ⟨he, bel⟩ => ?_
  subst he
  exact ⟨_, rfl, _, _, _, [], _, [], hW', trodAll_mk1 (shut_bool Tryz.underlying4 _), (trodAll_cons_mk (shut_int Tryz.underlying3 w0) (trodAll_cons_mk (shut_int Tryz.underlying3 w1) (trodAll_cons_mk (shut_int Tryz.underlying3 w2) (trodAll_cons_mk (shut_int Tryz.underlying3 w3) (trodAll_cons_mk (Below.trod laidOut (by kernel_rfl) (of_decide_eq_true (by kernel_rfl)) k4 bel lt4) trodAll_mk0))))), rfl, bel.frame _, fun h => by cases h⟩

theorem over : Rows.DanceWaitsSaid :=
  OpenClaim.holds_of_wide 8 Tryz.f8 rfl rfl rfl rfl rfl rfl rfl ⟨rfl, rfl, rfl, rfl, rfl⟩ rfl rfl rfl rfl rfl (by kernel_rfl) Tryz.func8 (by kernel_rfl)
    (of_decide_eq_true (by kernel_rfl)) (by unfold Func.isWrapper; first | (rw [if_pos (by decide +kernel)]; kernel_rfl) | (rw [if_neg (by decide +kernel)]; exact ⟨rfl, rfl⟩))
    (fun os started H enc _ => lifted os started H enc)

/-- The given statement: the tied card. -/
theorem proved : Rows.DanceWaitsCardSaid :=
  Claim7.holds_tied_plain_at .later [] [.data, .data, .handle, .data] true (true, "249a662f9a3a8032d6ea0f3d6c35fd3df0894eb53275f03e084101a5f9d50289") true
    over (fun _ h => by cases h) (by kernel_rfl) (fun _ h => by cases h) danceWaits_row_tie rfl ⟨rfl, rfl⟩ (by kernel_rfl) rfl
    (fun f fn hf hfn => by
      obtain rfl : f = 8 := Option.some.inj ((show Tryz.prog.funcNamed "quadrille/quadrillekeep.DanceWaits" = some 8 by kernel_rfl).symm.trans hf) |>.symm
      obtain rfl : fn = Tryz.f8 := (Option.some.inj (Tryz.func8.symm.trans hfn)).symm
      refine ⟨by kernel_rfl, fun j t ht => ?_⟩
      rw [Tryz.params8] at ht
      have hm : t ∈ [3, 3, 3, 3, 43] := by
        have := Array.mem_of_getElem? ht
        simpa using this
      have hall : ([3, 3, 3, 3, 43].all fun u => !Tryz.prog.wantsStandIn u) = true := by kernel_rfl
      exact (show Tryz.prog.wantsStandIn t = false by simpa using List.all_eq_true.1 hall t hm))
    (by kernel_rfl)
#print axioms proved
end Go.Proofs.YtmkgmpfpemiaaaaGreatDoor.danceWaits
