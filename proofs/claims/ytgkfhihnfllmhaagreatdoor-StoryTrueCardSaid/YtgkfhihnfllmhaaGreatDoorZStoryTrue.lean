/-
  What a machine said can be written, and read again: of whatever kind a barrier is, whoever goes on when, and whoever is woken for nothing. No conditions.
-/
import Derived.Test.YtgkfhihnfllmhaaGreatDoorQXI2
import Derived.Test.YtgkfhihnfllmhaaGreatDoorQXS
import Derived.Test.YtgkfhihnfllmhaaGreatDoorQXT2
import Derived.Test.YtgkfhihnfllmhaaGreatDoorRows
import Derived.Test.YtgkfhihnfllmhaaGreatDoorCards
import Derived.Test.YtgkfhihnfllmhaaGreatDoorTie
import Derived.WalkKit
import Derived.ProofKit
import Derived.OpenShut
import Derived.ChangeOld
import Derived.Below
import Derived.ChangeSame
import Derived.ChangeVars
import Derived.JoinedOf
import Derived.RowKitTokens
import Derived.LaidLaws
import Derived.LaidHandle
import Derived.Stop.Joined
import Derived.SevenTiedAt
import Derived.Lib.LaidTab
import Derived.Lib.LaidIn
import Derived.Test.YtgkfhihnfllmhaaGreatDoorQXA
import Derived.ChangeMaps5
import Derived.Test.YtgkfhihnfllmhaaGreatDoorQXM2
import Derived.Test.YtgkfhihnfllmhaaGreatDoorQXE3
import Derived.Test.YtgkfhihnfllmhaaGreatDoorQXE
import Derived.Test.YtgkfhihnfllmhaaGreatDoorQXT3
import Derived.Test.YtgkfhihnfllmhaaGreatDoorQXN
namespace Go.Proofs.YtgkfhihnfllmhaaGreatDoor
set_option maxRecDepth 100000
open Go.RowKit Go.Shelf Go.Sort
set_option linter.unusedVariables false
set_option linter.unusedSimpArgs false

set_option maxHeartbeats 2000000 in
theorem storyTrue_any {w : World} (H : DanceOK) (hw : DW w) (hs : SR w) (k : Int) (n rounds : Int) (D : Option Addr) (nm cm : Nat) (l : List (Int × Bool)) (hl : Moves w w.heap.size D nm l) :
    Calls Tryz.prog 5 #[.int .i64 k, .int .i64 n, .int .i64 rounds, .slice D nm cm] w fun e w' => e = .returned (.bool true) ∧ Below w.heap.size w w' := by
  have HST := Lib.hid (storied_true w hs)
  have HW := Lib.hid hw
  have HS := Lib.hid hs
  have HBall := Lib.hid (fun w => ball_is k n rounds w)
  have d := ball_dims k n rounds
  generalize ballK k = k1 at *
  generalize ballN n = n1 at *
  generalize ballR rounds = r1 at *
  have HD := Lib.hid d
  have HL := Lib.hid hl
  clear hl d hw hs
  go_enter Tryz.func5, Tryz.ntmps5
  go_wp2_with fail
  refine HST.out.mono ?_
  rintro e w1 ⟨rfl, hb1⟩
  have HB1 := Lib.hid hb1
  clear hb1 HST
  have HDn := Lib.hid (danced_any H (HW.out.old HB1.out))
  go_wp2_with fail
  refine HDn.out.mono ?_
  rintro e w2 ⟨rfl, hb2⟩
  have HB2 := Lib.hid (HB1.out.trans (hb2.mono HB1.out.size))
  clear hb2 HDn
  by_cases h9 : 500 < nm
  · have h9' : (500 : Int) < (nm : Int) := by omega
    go_wp2
    go_ret
    exact ⟨rfl, HB2.out⟩
  have h9' : ¬ (500 : Int) < (nm : Int) := by omega
  have HNM := Lib.hid (show nm ≤ 500 by omega)
  clear h9
  go_wp2_with fail
  refine (HBall.out _).mono ?_
  rintro e w3 ⟨rfl, rfl⟩
  go_wp2_with fail
  refine (floor_any H (HW.out.old HB2.out) HD.out D nm cm l (HL.out.old HB2.out) (by have := HNM.out; omega)).mono ?_
  rintro e w3 ⟨c, rfl, hA⟩
  have hp : pokesM (pickL n1 l) ≤ 900 := by
    have h1 := pokesM_le (pickL n1 l)
    have h2 : (pickL n1 l).length = nm := by unfold pickL; rw [List.length_map, HL.out.len]
    have := HNM.out
    omega
  have hDn := dn_moves HD.out (pickL_lt (by have := HD.out.n1; omega) l) (dn_new HD.out) (by omega)
  have hU : UpM (behindM 20000 (kM k1 n1 r1) (pickL n1 l)) := up_behind _ (up_none rfl)
  have hFl : Flo w c k1 n1 r1 (0 + pokesM (pickL n1 l)) (behindM 20000 (kM k1 n1 r1) (pickL n1 l)) w3 := ⟨hA.old HB2.out, (kM_big HD.out).behind _, hDn⟩
  have hR := said_right HD.out.n16 hDn.ok hU hFl.big.most hFl.few.1
  have HF := Lib.hid hFl
  have HR := Lib.hid hR
  have hln : (behindM 20000 (kM k1 n1 r1) (pickL n1 l)).events.length ≤ 192 := by
    rw [hDn.ok.len]
    have h1 := sumN_le (n := n1) (f := cntEv (behindM 20000 (kM k1 n1 r1) (pickL n1 l)).events) (g := fun _ => 2 * r1) (fun u hu => hDn.cnt hu)
    rw [sumN_const] at h1
    have h2 : n1 * (2 * r1) ≤ 16 * 12 := Nat.mul_le_mul HD.out.n16 (by have := HD.out.r6; omega)
    omega
  have HLN := Lib.hid hln
  clear hA hp hDn hU hFl hR hln HBall h9' HNM HL
  generalize behindM 20000 (kM k1 n1 r1) (pickL n1 l) = m at *
  go_wp2_with fail
  refine (flo_events HF.out).mono ?_
  rintro e w4 ⟨A4, c4, rfl, ho4, hg4⟩
  have HF4 := Lib.hid (HF.out.grow hg4)
  have hE := evRow_own ho4 rfl
  have hbel := HF4.out.bel
  have HP := Lib.hid (st_print m.events A4 m.events.length c4 w4 (HS.out.old hbel).sp hE rfl HR.out.2 (by have := HLN.out; omega))
  have hle := storyL_le m.events HR.out.2
  have HQ := Lib.hid (fun w h => st_parse (storyL m.events) (by have := HLN.out; omega) w h)
  have hwh := storyP_whole HR.out.1 HR.out.2
  have HE := Lib.hid hE
  have HBE := Lib.hid hbel
  unfold ToldStories at HQ
  rw [hwh] at HQ
  clear hg4 ho4 hE hbel HF hle hwh
  unfold ToldStory strV at HP
  unfold strV at HQ
  go_wp2_with fail
  refine HP.out.mono ?_
  rintro e w5 ⟨hb5, ⟨rfl, _⟩ | ⟨rfl, hno⟩⟩
  · have HB5 := Lib.hid (HBE.out.trans (hb5.mono HBE.out.size))
    have HE5 := Lib.hid (HE.out.of hb5)
    clear hb5 HP HE
    generalize (⟨(storyL m.events).toArray⟩ : ByteArray) = TB1 at *
    go_wp2_with fail
    refine (HQ.out w5 (HS.out.old HB5.out)).mono ?_
    rintro e w6 ⟨hb6, ⟨A6, c6, rfl, hE6, _⟩ | ⟨_, _, _, _, hno⟩⟩
    · have HB6 := Lib.hid (HB5.out.trans (hb6.mono HB5.out.size))
      have HEQ := Lib.hid (equalE_same A4 A6 m.events.length c4 c6 m.events w6 (by have := HLN.out; omega) (HE5.out.of hb6) hE6)
      clear hb6 hE6 HQ HE5
      go_wp2_with fail
      refine HEQ.out.mono ?_
      rintro e w7 ⟨rfl, q, rfl⟩
      go_wp2
      go_ret
      exact ⟨rfl, below_drewN HB6.out q⟩
    · cases hno
  · exact absurd HR.out.1 hno
end Go.Proofs.YtgkfhihnfllmhaaGreatDoor

namespace Go.Proofs.YtgkfhihnfllmhaaGreatDoor.storyTrue
open Go.ChangeShapes Go.WideShapes Go.ChangeAt Go.RowKit
set_option linter.unusedVariables false

theorem own : ownKnob Tryz.prog.godebug = none := by kernel_rfl
theorem laidOut : laidOutB Tryz.prog = true := by kernel_rfl
theorem tsize : Tryz.prog.types.size = 364 := by kernel_rfl

theorem et : Tryz.prog.globalNamed "errors.errorType" = some 1 := by kernel_rfl
theorem rt : (Tryz.prog.cutTypes.find? (·.1 == "internal/reflectlite.rtype")).map (·.2) = some 246 := by kernel_rfl
theorem oneRow : ((List.range 364).filter fun t => Tryz.prog.rowNamed t [101, 114, 114, 111, 114]) = [29] := by kernel_rfl

/-- What the listed variables give the walk. -/
theorem cw_of {W : World} (h : laidMetH Tryz.prog Rows.storyTrueRow.laid W) : CW W := by
  have h' : laidMet Tryz.prog (Rows.storyTrueRow.laid.filter fun x => x.2.handleName?.isNone) W ∧ handlesMet Tryz.prog (Rows.storyTrueRow.laid.filter fun x => x.2.handleName?.isSome) W := h
  exact cw_of_laid h'.1 (List.mem_filter.2 ⟨.tail _ (.tail _ (.tail _ (.tail _ (.tail _ (.tail _ (.tail _ (.head _))))))), rfl⟩)
theorem st_of {W : World} (h : laidMetH Tryz.prog Rows.storyTrueRow.laid W) : SR W := by
  have h' : laidMet Tryz.prog (Rows.storyTrueRow.laid.filter fun x => x.2.handleName?.isNone) W ∧ handlesMet Tryz.prog (Rows.storyTrueRow.laid.filter fun x => x.2.handleName?.isSome) W := h
  refine sr_of_laid h'.1 (nm1 := "*errors.errorString") (nm2 := "*errors.errorString") (d1 := .ptr (.agg [.lit (.string [105, 110, 118, 97, 108, 105, 100, 32, 115, 121, 110, 116, 97, 120])])) (d2 := .ptr (.agg [.lit (.string [118, 97, 108, 117, 101, 32, 111, 117, 116, 32, 111, 102, 32, 114, 97, 110, 103, 101])])) ?_ ?_ ?_ ?_
  · exact List.mem_filter.2 ⟨.tail _ (.tail _ (.tail _ (.tail _ (.tail _ (.tail _ (.tail _ (.tail _ (.head _)))))))), rfl⟩
  · exact List.mem_filter.2 ⟨.tail _ (.tail _ (.head _)), rfl⟩
  · exact List.mem_filter.2 ⟨.tail _ (.tail _ (.tail _ (.tail _ (.tail _ (.tail _ (.head _)))))), rfl⟩
  · exact List.mem_filter.2 ⟨.tail _ (.tail _ (.tail _ (.tail _ (.tail _ (.head _))))), rfl⟩
theorem handle_of_laid {W : World} (h : laidMetH Tryz.prog Rows.storyTrueRow.laid W) : ErrVar W := by
  have h' : laidMet Tryz.prog (Rows.storyTrueRow.laid.filter fun x => x.2.handleName?.isNone) W ∧ handlesMet Tryz.prog (Rows.storyTrueRow.laid.filter fun x => x.2.handleName?.isSome) W := h
  obtain ⟨name, u, ty, e1, e2, e3, e4, e5⟩ := h'.2 ("errors.errorType", Rows.laid_errors_errorType) (List.mem_filter.2 ⟨.tail _ (.tail _ (.tail _ (.tail _ (.head _)))), rfl⟩)
  have en : name = [101, 114, 114, 111, 114] := (Option.some.inj e1).symm
  subst en
  obtain rfl := Option.some.inj (rt.symm.trans e2)
  have hm : ty ∈ (List.range 364).filter fun t => Tryz.prog.rowNamed t [101, 114, 114, 111, 114] := List.mem_filter.2 ⟨List.mem_range.2 (by rw [← tsize]; exact e3), e4⟩
  rw [oneRow] at hm
  obtain rfl := List.mem_singleton.1 hm
  have hh : typeHandle Tryz.prog 29 = .pointer (some ⟨11, 29, none⟩) := by kernel_rfl
  rw [hh] at e5
  have := World.var?_cell et e5 0
  unfold ErrVar
  simpa using this
theorem tz_of {W : World} (h : laidMetH Tryz.prog Rows.storyTrueRow.laid W) : TzVar W := by
  have h' : laidMet Tryz.prog (Rows.storyTrueRow.laid.filter fun x => x.2.handleName?.isNone) W ∧ handlesMet Tryz.prog (Rows.storyTrueRow.laid.filter fun x => x.2.handleName?.isSome) W := h
  exact tz_of_laid h'.1 (List.mem_filter.2 ⟨.tail _ (.head _), rfl⟩)

/-- So many blocks has the settled world. -/
noncomputable def low : Nat := (World.holding Tryz.prog default ⟨#[], #[], []⟩).heap.size
def put (o : Obj) (cs : Array Value) : Obj := match o with
  | .cells _ t frozen => .cells cs t frozen
  | o => o
def tab (k : IntKind) (zs : List Int) : Array Value := (zs.map fun z => Value.int k z).toArray
/-- A world that meets the condition. -/
noncomputable def laidWorld (os : Os) : World :=
  let w0 := World.holding Tryz.prog os ⟨#[.cells #[.string ⟨#[118, 97, 108, 117, 101, 32, 111, 117, 116, 32, 111, 102, 32, 114, 97, 110, 103, 101]⟩] 334, .cells #[.string ⟨#[105, 110, 118, 97, 108, 105, 100, 32, 115, 121, 110, 116, 97, 120]⟩] 334], #[], []⟩
  { w0 with heap := ((((((((((w0.heap.modify 1 (put · #[.iface 246 (.agg #[.pointer (some ⟨11, 29, none⟩)])])).modify 3 (put · formCells)).modify 4 (put · (tab .u64 Lib.pow10Tab))).modify 5 (put · #[.iface 332 (.pointer (some ⟨low + 1, 0, none⟩))])).modify 6 (put · #[.iface 332 (.pointer (some ⟨low, 0, none⟩))])).modify 9 (put · (tab .u8 [0, 1, 28, 2, 29, 14, 24, 3, 30, 22, 20, 15, 25, 17, 4, 8, 31, 27, 13, 23, 21, 19, 16, 7, 26, 12, 18, 6, 11, 5, 10, 9]))).modify 10 (put · (tab .u8 [0, 1, 56, 2, 57, 49, 28, 3, 61, 58, 42, 50, 38, 29, 17, 4, 62, 47, 59, 36, 45, 43, 51, 22, 53, 39, 33, 30, 24, 18, 12, 5, 63, 55, 48, 27, 60, 41, 37, 16, 46, 35, 44, 21, 52, 32, 23, 11, 54, 26, 40, 15, 34, 20, 31, 10, 25, 14, 19, 9, 13, 8, 7, 6]))).modify 0 (put · sayCells)).modify 8 (put · #[.int .u8 128, .int .u8 191, .int .u8 160, .int .u8 191, .int .u8 128, .int .u8 159, .int .u8 144, .int .u8 191, .int .u8 128, .int .u8 143, .int .u8 0, .int .u8 0, .int .u8 0, .int .u8 0, .int .u8 0, .int .u8 0, .int .u8 0, .int .u8 0, .int .u8 0, .int .u8 0, .int .u8 0, .int .u8 0, .int .u8 0, .int .u8 0, .int .u8 0, .int .u8 0, .int .u8 0, .int .u8 0, .int .u8 0, .int .u8 0, .int .u8 0, .int .u8 0])).modify 7 (put · ((Go.Pinned.utf8FirstZ.map fun (z : Nat) => Value.int .u8 (z : Int)).toArray))) }
theorem laidWorld_met (os : Os) (args : Array Value) : laidMetH Tryz.prog Rows.storyTrueRow.laid ((laidWorld os).forCall (fun _ _ => 0) ⟨#[], args, []⟩).memory :=
  laidMetH_of_parts (LaidIn.of_run [3, 4, 5, 6, 9, 10, 0, 8, 7, low, low + 1] 8 (by kernel_rfl) (by kernel_rfl) (by kernel_rfl) (by kernel_rfl)).met (by kernel_rfl)

/-- The walk. -/
theorem walk (a0 : Int) (a1 : Int) (a2 : Int) (a3 : Option Addr) (len3 cap3 : Nat) (nods3 : List (Int × Bool)) (w : World) (hw : CW w) (hs : SR w) (hg : ErrVar w) (ht : TzVar w) (N3 : Moves w w.heap.size a3 len3 nods3) (I3 : True) :
    Calls Tryz.prog 5 #[.int .i64 a0, .int .i64 a1, .int .i64 a2, .slice a3 len3 cap3] w fun e w' => e = .returned (.bool true) ∧ Below w.heap.size w w' := by
  exact storyTrue_any danceOK ⟨hw, hg, ht⟩ hs a0 a1 a2 a3 len3 cap3 nods3 N3

set_option maxRecDepth 100000 in
theorem lifted (os : Os) (started : os.Started) (H : Type) (enc : TypeId × Value → H) :
    ReturnsInHanded {} Tryz.checked os 5 .any (fun w args => (Rows.storyTrueSpec.pre enc Tryz.prog Tryz.f5 [] false w args ∧ laidMetH Tryz.prog Rows.storyTrueRow.laid w) ∧ sizedMet enc Tryz.prog Tryz.f5 (OpenSpec.ofChange Rows.storyTrueSpec) false w args)
      (Rows.storyTrueSpec.post enc Tryz.prog Tryz.f5 false true false false) := by
  refine returnsInHanded_of_change_and (C := Tryz.checked) (X := fun w _ => laidMetH Tryz.prog Rows.storyTrueRow.laid w) (fun _ _ _ hh h => h.of_heap hh) own started (by kernel_rfl) Tryz.func5
    (ChangeSpec.witness_at (enc := enc) (C := Tryz.checked) (os := os) (X := fun w _ => laidMetH Tryz.prog Rows.storyTrueRow.laid w) false (laidWorld os) #[.int .i64 0, .int .i64 0, .int .i64 0, .slice none 0 0] 8 rfl (by kernel_rfl) (by kernel_rfl) (by kernel_rfl) (by kernel_rfl) (by kernel_rfl) (laidWorld_met os _)) ?_
  intro W base args ds gs before hval0 hW _ _ hL _
  have hval : ∀ (j : Nat) t v, Tryz.f5.params[j]? = some t → args[j]? = some v → Value.okWide Tryz.prog W .any base t v := hval0
  have hW' := hW
  obtain ⟨p, q, hA0, hV0, rfl, hfz, hnd⟩ := hW
  have hA : DataW.TrodAll enc Tryz.prog W 0 (fun _ => true) true Tryz.f5.params.toList args.toList ds p := hA0
  have hV : DataW.TrodVars enc Tryz.prog W (fun _ => true) [] gs q := hV0
  rw [Tryz.params5] at hA hval
  obtain ⟨v0, vs0, d0, ds0, p0, q0, hargs, rfl, rfl, h0, r0⟩ := trodAll_cons hA
  obtain ⟨v1, vs1, d1, ds1, p1, q1, rfl, rfl, rfl, h1, r1⟩ := trodAll_cons r0
  obtain ⟨v2, vs2, d2, ds2, p2, q2, rfl, rfl, rfl, h2, r2⟩ := trodAll_cons r1
  obtain ⟨v3, vs3, d3, ds3, p3, q3, rfl, rfl, rfl, h3, r3⟩ := trodAll_cons r2
  obtain ⟨rfl, rfl, rfl⟩ := trodAll_nil r3
  obtain rfl : args = #[v0, v1, v2, v3] := by cases args; simp_all
  obtain ⟨rfl, rfl⟩ : gs = [] ∧ q = [] := by
    cases gs with
    | nil => exact ⟨rfl, hV⟩
    | cons g r => exact absurd hV (by intro h; cases h)
  obtain ⟨a0, rfl, rfl, rfl, w0⟩ := open_int Tryz.underlying3 (hval 0 3 v0 rfl rfl) h0
  obtain ⟨a1, rfl, rfl, rfl, w1⟩ := open_int Tryz.underlying3 (hval 1 3 v1 rfl rfl) h1
  obtain ⟨a2, rfl, rfl, rfl, w2⟩ := open_int Tryz.underlying3 (hval 2 3 v2 rfl rfl) h2
  obtain ⟨a3, len3, cap3, rfl⟩ := okWide_slice Tryz.underlying23 (hval 3 23 v3 rfl rfl)
  have k3 := h3
  have lt3 : ∀ x ∈ p3, x.block < W.heap.size := by obtain ⟨m, hm⟩ := k3; exact DataW.trod_lt m _ _ _ hm
  obtain ⟨nods3, N3, I3⟩ : ∃ nods, Moves W W.heap.size a3 len3 nods ∧ True := by
    obtain ⟨fuel, hf⟩ := h3
    obtain ⟨l, hl⟩ := moves_of (a := a3) (len := len3) (cap := cap3) hf; exact ⟨l, hl, trivial⟩
  have hw := cw_of hL
  have hs := st_of hL
  have hg := handle_of_laid hL
  have ht := tz_of hL
  clear hA0 hval0
  refine (walk a0 a1 a2 a3 len3 cap3 nods3 W hw hs hg ht N3 I3).mono fun e W' ⟨he, bel⟩ => ?_
  subst he
  exact ⟨_, rfl, _, _, _, [], _, [], hW', trodAll_mk1 (shut_bool Tryz.underlying4 _), (trodAll_cons_mk (shut_int Tryz.underlying3 w0) (trodAll_cons_mk (shut_int Tryz.underlying3 w1) (trodAll_cons_mk (shut_int Tryz.underlying3 w2) (trodAll_cons_mk (Below.trod laidOut (by kernel_rfl) (of_decide_eq_true (by kernel_rfl)) k3 bel lt3) trodAll_mk0)))), rfl, bel.frame _, fun h => by cases h⟩

theorem over : Rows.StoryTrueSaid :=
  OpenClaim.holds_of_wide 5 Tryz.f5 rfl rfl rfl rfl rfl rfl rfl ⟨rfl, rfl, rfl, rfl, rfl⟩ rfl rfl rfl rfl rfl (by kernel_rfl) Tryz.func5 (by kernel_rfl)
    (of_decide_eq_true (by kernel_rfl)) (by unfold Func.isWrapper; first | (rw [if_pos (by decide +kernel)]; kernel_rfl) | (rw [if_neg (by decide +kernel)]; exact ⟨rfl, rfl⟩))
    (fun os started H enc _ => lifted os started H enc)

/-- The given statement: the tied card. -/
theorem proved : Rows.StoryTrueCardSaid :=
  Claim7.holds_tied_plain_at .later [] [.data, .data, .data, .data, .handle, .sentinel, .sentinel, .data, .data, .pinned] true (true, "772fc1c225ab256eb22d7d69b4c871bafaea52d771a33a78aa0386c0f25e3886") true
    over (fun _ h => by cases h) (by kernel_rfl) (fun _ h => by cases h) storyTrue_row_tie rfl ⟨rfl, rfl⟩ (by kernel_rfl) rfl
    (fun f fn hf hfn => by
      obtain rfl : f = 5 := Option.some.inj ((show Tryz.prog.funcNamed "quadrille/quadrillekeep.StoryTrue" = some 5 by kernel_rfl).symm.trans hf) |>.symm
      obtain rfl : fn = Tryz.f5 := (Option.some.inj (Tryz.func5.symm.trans hfn)).symm
      refine ⟨by kernel_rfl, fun j t ht => ?_⟩
      rw [Tryz.params5] at ht
      have hm : t ∈ [3, 3, 3, 23] := by
        have := Array.mem_of_getElem? ht
        simpa using this
      have hall : ([3, 3, 3, 23].all fun u => !Tryz.prog.wantsStandIn u) = true := by kernel_rfl
      exact (show Tryz.prog.wantsStandIn t = false by simpa using List.all_eq_true.1 hall t hm))
    (by kernel_rfl)
#print axioms proved
end Go.Proofs.YtgkfhihnfllmhaaGreatDoor.storyTrue
