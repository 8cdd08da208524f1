/-
  For nothing is for nothing: whoever is woken for nothing, in the end all cells are as if nobody had been. No conditions.
-/
import Derived.Test.YtjlhinjmnhpdaaaGreatDoorQL
import Derived.Test.YtjlhinjmnhpdaaaGreatDoorQN6
import Derived.Test.YtjlhinjmnhpdaaaGreatDoorRows
import Derived.Test.YtjlhinjmnhpdaaaGreatDoorCards
import Derived.Test.YtjlhinjmnhpdaaaGreatDoorTie
import Derived.WalkKit
import Derived.ProofKit
import Derived.OpenShut
import Derived.ChangeOld
import Derived.Below
import Derived.ChangeSame
import Derived.ChangeVars
import Derived.JoinedOf
import Derived.RowKitTokens
import Derived.LaidLaws
import Derived.LaidHandle
import Derived.Stop.Joined
import Derived.SevenTiedAt
import Derived.Lib.LaidTab
import Derived.Lib.LaidIn
import Derived.Test.YtjlhinjmnhpdaaaGreatDoorQA
import Derived.ChangeMaps5
import Derived.Test.YtjlhinjmnhpdaaaGreatDoorQM2
import Derived.Test.YtjlhinjmnhpdaaaGreatDoorQE3
import Derived.Test.YtjlhinjmnhpdaaaGreatDoorQE
import Derived.Test.YtjlhinjmnhpdaaaGreatDoorQN
namespace Go.Proofs.YtjlhinjmnhpdaaaGreatDoor
set_option maxRecDepth 100000
open Go.RowKit Go.Shelf Go.Sort
set_option linter.unusedVariables false
set_option linter.unusedSimpArgs false

theorem pokesc_any (s : Int × Bool) (w : World) : Calls Tryz.prog 26 #[.agg #[.int .i64 s.1, .bool s.2]] w fun e w' => e = .returned (.bool s.2) ∧ w.grownBy w' none := by
  go_enter Tryz.func26, Tryz.ntmps26
  go_wp2
  go_ret
  exact ⟨rfl, World.grownBy_alloc _ _ _⟩
/-- Moves without those that wake for nothing. -/
def stillL (l : List (Int × Bool)) : List (Int × Bool) := keepM (fun s => s.2) l
theorem stillL_le (l : List (Int × Bool)) : (stillL l).length ≤ l.length := List.length_filter_le _ _
/-- A row of moves that was copied, without those that wake for nothing. -/
theorem still_any {w : World} {v : Value} {l : List (Int × Bool)} {n : Nat} {B : Nat} (hB : B ≤ w.heap.size) (hown : w.ownsRow B 48 2 v n (cellsM l)) (hl : l.length = n) :
    Calls Tryz.prog 24 #[v, .func (.func 26) #[] #[]] w fun e w' => ∃ A c, e = .returned (.slice A (stillL l).length c) ∧ Moves w' w'.heap.size A (stillL l).length (stillL l) ∧ Below B w w' := by
  subst hl
  have eg : ∀ args w, (callFunc 26 args).run Tryz.prog w = .ok (.enter 26 args) w := enters_of Tryz.func26 (by kernel_rfl) rfl
  rcases hown.2 with ⟨rfl, h0⟩ | ⟨g, cap, cur, rfl, hlo, rest⟩
  · have hl0 : l.length = 0 := h0
    obtain rfl : l = [] := List.eq_nil_of_length_eq_zero hl0
    refine (deleteFuncM_nil (fun s => s.2) 26 #[] eg (fun W s hW => pokesc_any s W)).mono ?_
    rintro e w' ⟨rfl, hg⟩
    exact ⟨none, 0, rfl, ⟨rfl, fun h => absurd h (by decide)⟩, (Below.refl B w).grown hg hB (by intro k hk; cases hk)⟩
  · refine (deleteFuncM_any hown (fun s => s.2) 26 #[] eg (fun W s hW => pokesc_any s W)).mono ?_
    rintro e w' ⟨rfl, ho, hg⟩
    exact ⟨_, _, rfl, moves_own ho rfl, (Below.refl B w).grown hg hB (fun k hk => by injection hk with hk; omega)⟩
theorem kCells_some {k n : Nat} (k1 : 1 ≤ k) (k6 : k ≤ 6) (n1 : 1 ≤ n) (n16 : n ≤ 16) : 0 < kCells k n ∨ (k = 4 ∧ n = 1) := by
  have h : ((List.range 6).all fun i => (List.range 16).all fun j => decide (0 < kCells (i + 1) (j + 1)) || (i == 3 && j == 0)) = true := by decide +kernel
  rw [List.all_eq_true] at h
  have h2 := h (k - 1) (List.mem_range.2 (by omega))
  rw [List.all_eq_true] at h2
  have h3 := h2 (n - 1) (List.mem_range.2 (by omega))
  rw [show k - 1 + 1 = k by omega, show n - 1 + 1 = n by omega, Bool.or_eq_true, decide_eq_true_eq, Bool.and_eq_true] at h3
  rcases h3 with h3 | ⟨h3, h4⟩
  · exact .inl h3
  · have h5 : k - 1 = 3 := by simpa using h3
    have h6 : n - 1 = 0 := by simpa using h4
    exact .inr ⟨by omega, by omega⟩

set_option maxHeartbeats 1000000 in
theorem dancePokes_any {w : World} (H : DanceOK) (hw : DW w) (k n rounds : Int) (D : Option Addr) (nm cm : Nat) (l : List (Int × Bool)) (hl : Moves w w.heap.size D nm l) :
    Calls Tryz.prog 11 #[.int .i64 k, .int .i64 n, .int .i64 rounds, .slice D nm cm] w fun e w' => e = .returned (.bool true) ∧ Below w.heap.size w w' := by
  have HDn := Lib.hid (danced_any H hw)
  have HBall := Lib.hid (fun w => ball_is k n rounds w)
  have d := ball_dims k n rounds
  generalize ballK k = k1 at *
  generalize ballN n = n1 at *
  generalize ballR rounds = r1 at *
  have HLeft := Lib.hid (fun (w1 : World) (hb : Below w.heap.size w w1) (A : Option Addr) (len c : Nat) (ms : List (Int × Bool)) (hm : Moves w1 w1.heap.size A len ms) (h9 : len ≤ 500) => left_any (cm := c) H (hw.old hb) d hm (by omega))
  have hpos := kCells_some d.k1 d.k6 d.n1 d.n16
  have hmax := kCells_le d.k1 d.k6 d.n1 d.n16
  have HMv := Lib.hid (fun w1 (hb : Below w.heap.size w w1) => hl.old hb)
  have HLl := Lib.hid hl.len
  have HLe := Lib.hid (stillL_le l)
  clear hl d
  generalize leafL k1 n1 r1 = LL at *
  generalize kCells k1 n1 = nc at *
  have HPos := Lib.hid hpos
  have HMax := Lib.hid hmax
  clear hpos hmax
  go_enter Tryz.func11, Tryz.ntmps11
  go_wp2_with fail
  refine HDn.out.mono ?_
  rintro e w1 ⟨rfl, hb1⟩
  have HB1 := Lib.hid hb1
  clear hb1 HDn
  by_cases h9 : 500 < nm
  · have h9' : (500 : Int) < (nm : Int) := by omega
    go_wp2
    go_ret
    exact ⟨rfl, HB1.out⟩
  have h9' : ¬ (500 : Int) < (nm : Int) := by omega
  go_wp2_with fail
  refine (HBall.out _).mono ?_
  rintro e w2 ⟨rfl, rfl⟩
  have HM1 := Lib.hid (HMv.out _ HB1.out)
  have HN := Lib.hid (show nm ≤ 500 by omega)
  clear h9
  go_wp2_with fail
  --MA
  refine (cloneM_any D nm cm l HM1.out (Nat.le_trans HN.out (by decide))).mono ?_
  rintro e w2 ⟨v, rfl, ho2, hg2⟩
  have HB2 := Lib.hid (HB1.out.grown hg2 HB1.out.size (by intro k hk; cases hk))
  have HSt := Lib.hid (still_any (B := w1.heap.size) hg2.size ho2 HLl.out)
  clear ho2 hg2
  go_wp2_with fail
  refine HSt.out.mono ?_
  rintro e w3 ⟨A3, c3, rfl, hm3, hb3⟩
  have HB3 := Lib.hid (HB2.out.trans (hb3.mono HB1.out.size))
  have HM3 := Lib.hid (HMv.out _ HB3.out)
  have HS3 := Lib.hid hm3
  have hle : (stillL l).length ≤ 500 := Nat.le_trans HLe.out (HLl.out ▸ HN.out)
  have HSL := Lib.hid hle
  clear hm3 hb3 HSt HB1 hle
  generalize (stillL l).length = ns at *
  generalize stillL l = ls at *
  --MB
  go_wp2_with fail
  refine (HLeft.out _ HB3.out _ _ _ _ HM3.out HN.out).mono ?_
  rintro e w4 ⟨A4, c4, rfl, ho4, hb4⟩
  have HB4 := Lib.hid (HB3.out.trans (hb4.mono HB3.out.size))
  have HS4 := Lib.hid (HS3.out.old hb4)
  have HO4 := Lib.hid ho4
  clear ho4 hb4 HS3 HM3
  go_wp2_with fail
  refine (HLeft.out _ HB4.out _ _ _ _ HS4.out HSL.out).mono ?_
  rintro e w5 ⟨A5, c5, rfl, ho5, hb5⟩
  have HB5 := Lib.hid (HB4.out.trans (hb5.mono HB4.out.size))
  have HI4 := Lib.hid ((Ints.of_own HO4.out).oldF hb5)
  have HI5 := Lib.hid (Ints.of_own ho5)
  clear ho5 hb5 HO4 HS4 HB4 HLeft
  --MC
  go_wp2_with fail
  refine (equalU_same A4 A5 nc c4 c5 LL w5 (Nat.le_trans HMax.out (by decide)) _ HI4.out HI5.out).mono ?_
  rintro e w6 ⟨rfl, q, rfl⟩
  have HB6 := Lib.hid (HB5.out.trans ((grown_belF (grown_drewF w5 q)).mono HB5.out.size))
  clear HI4 HI5 HB5
  by_cases hp : 0 < nc
  · have hp' : (0 : Int) < (nc : Int) := Int.ofNat_lt.2 hp
    clear HPos hp
    go_wp2
    go_ret
    exact ⟨rfl, HB6.out⟩
  · have hp' : ¬ (0 : Int) < (nc : Int) := fun h => hp (Int.ofNat_lt.1 h)
    obtain ⟨rfl, rfl⟩ := HPos.out.resolve_left hp
    clear HPos hp
    go_wp2
    go_ret
    exact ⟨rfl, HB6.out⟩
end Go.Proofs.YtjlhinjmnhpdaaaGreatDoor

namespace Go.Proofs.YtjlhinjmnhpdaaaGreatDoor.dancePokes
open Go.ChangeShapes Go.WideShapes Go.ChangeAt Go.RowKit
set_option linter.unusedVariables false

theorem own : ownKnob Tryz.prog.godebug = none := by kernel_rfl
theorem laidOut : laidOutB Tryz.prog = true := by kernel_rfl
theorem tsize : Tryz.prog.types.size = 237 := by kernel_rfl

theorem et : Tryz.prog.globalNamed "errors.errorType" = some 1 := by kernel_rfl
theorem rt : (Tryz.prog.cutTypes.find? (·.1 == "internal/reflectlite.rtype")).map (·.2) = some 184 := by kernel_rfl
theorem oneRow : ((List.range 237).filter fun t => Tryz.prog.rowNamed t [101, 114, 114, 111, 114]) = [35] := by kernel_rfl

/-- What the listed variables give the walk. -/
theorem cw_of {W : World} (h : laidMetH Tryz.prog Rows.dancePokesRow.laid W) : CW W := by
  have h' : laidMet Tryz.prog (Rows.dancePokesRow.laid.filter fun x => x.2.handleName?.isNone) W ∧ handlesMet Tryz.prog (Rows.dancePokesRow.laid.filter fun x => x.2.handleName?.isSome) W := h
  exact cw_of_laid h'.1 (List.mem_filter.2 ⟨.tail _ (.tail _ (.tail _ (.head _))), rfl⟩)
theorem handle_of_laid {W : World} (h : laidMetH Tryz.prog Rows.dancePokesRow.laid W) : ErrVar W := by
  have h' : laidMet Tryz.prog (Rows.dancePokesRow.laid.filter fun x => x.2.handleName?.isNone) W ∧ handlesMet Tryz.prog (Rows.dancePokesRow.laid.filter fun x => x.2.handleName?.isSome) W := h
  obtain ⟨name, u, ty, e1, e2, e3, e4, e5⟩ := h'.2 ("errors.errorType", Rows.laid_errors_errorType) (List.mem_filter.2 ⟨.tail _ (.tail _ (.head _)), rfl⟩)
  have en : name = [101, 114, 114, 111, 114] := (Option.some.inj e1).symm
  subst en
  obtain rfl := Option.some.inj (rt.symm.trans e2)
  have hm : ty ∈ (List.range 237).filter fun t => Tryz.prog.rowNamed t [101, 114, 114, 111, 114] := List.mem_filter.2 ⟨List.mem_range.2 (by rw [← tsize]; exact e3), e4⟩
  rw [oneRow] at hm
  obtain rfl := List.mem_singleton.1 hm
  have hh : typeHandle Tryz.prog 35 = .pointer (some ⟨4, 35, none⟩) := by kernel_rfl
  rw [hh] at e5
  have := World.var?_cell et e5 0
  unfold ErrVar
  simpa using this
theorem tz_of {W : World} (h : laidMetH Tryz.prog Rows.dancePokesRow.laid W) : TzVar W := by
  have h' : laidMet Tryz.prog (Rows.dancePokesRow.laid.filter fun x => x.2.handleName?.isNone) W ∧ handlesMet Tryz.prog (Rows.dancePokesRow.laid.filter fun x => x.2.handleName?.isSome) W := h
  exact tz_of_laid h'.1 (List.mem_filter.2 ⟨.tail _ (.head _), rfl⟩)

/-- So many blocks has the settled world. -/
noncomputable def low : Nat := (World.holding Tryz.prog default ⟨#[], #[], []⟩).heap.size
def put (o : Obj) (cs : Array Value) : Obj := match o with
  | .cells _ t frozen => .cells cs t frozen
  | o => o
def tab (k : IntKind) (zs : List Int) : Array Value := (zs.map fun z => Value.int k z).toArray
/-- A world that meets the condition. -/
noncomputable def laidWorld (os : Os) : World :=
  let w0 := World.holding Tryz.prog os ⟨#[], #[], []⟩
  { w0 with heap := ((((w0.heap.modify 1 (put · #[.iface 184 (.agg #[.pointer (some ⟨4, 35, none⟩)])])).modify 0 (put · formCells)).modify 2 (put · (tab .u8 [0, 1, 28, 2, 29, 14, 24, 3, 30, 22, 20, 15, 25, 17, 4, 8, 31, 27, 13, 23, 21, 19, 16, 7, 26, 12, 18, 6, 11, 5, 10, 9]))).modify 3 (put · (tab .u8 [0, 1, 56, 2, 57, 49, 28, 3, 61, 58, 42, 50, 38, 29, 17, 4, 62, 47, 59, 36, 45, 43, 51, 22, 53, 39, 33, 30, 24, 18, 12, 5, 63, 55, 48, 27, 60, 41, 37, 16, 46, 35, 44, 21, 52, 32, 23, 11, 54, 26, 40, 15, 34, 20, 31, 10, 25, 14, 19, 9, 13, 8, 7, 6]))) }
theorem laidWorld_met (os : Os) (args : Array Value) : laidMetH Tryz.prog Rows.dancePokesRow.laid ((laidWorld os).forCall (fun _ _ => 0) ⟨#[], args, []⟩).memory :=
  laidMetH_of_parts (LaidIn.of_run [0, 2, 3] 8 (by kernel_rfl) (by kernel_rfl) (by kernel_rfl) (by kernel_rfl)).met (by kernel_rfl)

/-- The walk. -/
theorem walk (a0 : Int) (a1 : Int) (a2 : Int) (a3 : Option Addr) (len3 cap3 : Nat) (nods3 : List (Int × Bool)) (w : World) (hw : CW w) (hg : ErrVar w) (ht : TzVar w) (N3 : Moves w w.heap.size a3 len3 nods3) (I3 : True) :
    Calls Tryz.prog 11 #[.int .i64 a0, .int .i64 a1, .int .i64 a2, .slice a3 len3 cap3] w fun e w' => e = .returned (.bool true) ∧ Below w.heap.size w w' := by
  exact dancePokes_any danceOK ⟨hw, hg, ht⟩ a0 a1 a2 a3 len3 cap3 nods3 N3

set_option maxRecDepth 100000 in
theorem lifted (os : Os) (started : os.Started) (H : Type) (enc : TypeId × Value → H) :
    ReturnsInHanded {} Tryz.checked os 11 .any (fun w args => (Rows.dancePokesSpec.pre enc Tryz.prog Tryz.f11 [] false w args ∧ laidMetH Tryz.prog Rows.dancePokesRow.laid w) ∧ sizedMet enc Tryz.prog Tryz.f11 (OpenSpec.ofChange Rows.dancePokesSpec) false w args)
      (Rows.dancePokesSpec.post enc Tryz.prog Tryz.f11 false true false false) := by
  refine returnsInHanded_of_change_and (C := Tryz.checked) (X := fun w _ => laidMetH Tryz.prog Rows.dancePokesRow.laid w) (fun _ _ _ hh h => h.of_heap hh) own started (by kernel_rfl) Tryz.func11
    (ChangeSpec.witness_at (enc := enc) (C := Tryz.checked) (os := os) (X := fun w _ => laidMetH Tryz.prog Rows.dancePokesRow.laid w) false (laidWorld os) #[.int .i64 0, .int .i64 0, .int .i64 0, .slice none 0 0] 8 rfl (by kernel_rfl) (by kernel_rfl) (by kernel_rfl) (by kernel_rfl) (by kernel_rfl) (laidWorld_met os _)) ?_
  intro W base args ds gs before hval0 hW _ _ hL _
  have hval : ∀ (j : Nat) t v, Tryz.f11.params[j]? = some t → args[j]? = some v → Value.okWide Tryz.prog W .any base t v := hval0
  have hW' := hW
  obtain ⟨p, q, hA0, hV0, rfl, hfz, hnd⟩ := hW
  have hA : DataW.TrodAll enc Tryz.prog W 0 (fun _ => true) true Tryz.f11.params.toList args.toList ds p := hA0
  have hV : DataW.TrodVars enc Tryz.prog W (fun _ => true) [] gs q := hV0
  rw [Tryz.params11] at hA hval
  obtain ⟨v0, vs0, d0, ds0, p0, q0, hargs, rfl, rfl, h0, r0⟩ := trodAll_cons hA
  obtain ⟨v1, vs1, d1, ds1, p1, q1, rfl, rfl, rfl, h1, r1⟩ := trodAll_cons r0
  obtain ⟨v2, vs2, d2, ds2, p2, q2, rfl, rfl, rfl, h2, r2⟩ := trodAll_cons r1
  obtain ⟨v3, vs3, d3, ds3, p3, q3, rfl, rfl, rfl, h3, r3⟩ := trodAll_cons r2
  obtain ⟨rfl, rfl, rfl⟩ := trodAll_nil r3
  obtain rfl : args = #[v0, v1, v2, v3] := by cases args; simp_all
  obtain ⟨rfl, rfl⟩ : gs = [] ∧ q = [] := by
    cases gs with
    | nil => exact ⟨rfl, hV⟩
    | cons g r => exact absurd hV (by intro h; cases h)
  obtain ⟨a0, rfl, rfl, rfl, w0⟩ := open_int Tryz.underlying3 (hval 0 3 v0 rfl rfl) h0
  obtain ⟨a1, rfl, rfl, rfl, w1⟩ := open_int Tryz.underlying3 (hval 1 3 v1 rfl rfl) h1
  obtain ⟨a2, rfl, rfl, rfl, w2⟩ := open_int Tryz.underlying3 (hval 2 3 v2 rfl rfl) h2
  obtain ⟨a3, len3, cap3, rfl⟩ := okWide_slice Tryz.underlying22 (hval 3 22 v3 rfl rfl)
  have k3 := h3
  have lt3 : ∀ x ∈ p3, x.block < W.heap.size := by obtain ⟨m, hm⟩ := k3; exact DataW.trod_lt m _ _ _ hm
  obtain ⟨nods3, N3, I3⟩ : ∃ nods, Moves W W.heap.size a3 len3 nods ∧ True := by
    obtain ⟨fuel, hf⟩ := h3
    obtain ⟨l, hl⟩ := moves_of (a := a3) (len := len3) (cap := cap3) hf; exact ⟨l, hl, trivial⟩
  have hw := cw_of hL
  have hg := handle_of_laid hL
  have ht := tz_of hL
  clear hA0 hval0
  refine (walk a0 a1 a2 a3 len3 cap3 nods3 W hw hg ht N3 I3).mono fun e W' ⟨he, bel⟩ => ?_
  subst he
  exact ⟨_, rfl, _, _, _, [], _, [], hW', trodAll_mk1 (shut_bool Tryz.underlying4 _), (trodAll_cons_mk (shut_int Tryz.underlying3 w0) (trodAll_cons_mk (shut_int Tryz.underlying3 w1) (trodAll_cons_mk (shut_int Tryz.underlying3 w2) (trodAll_cons_mk (Below.trod laidOut (by kernel_rfl) (of_decide_eq_true (by kernel_rfl)) k3 bel lt3) trodAll_mk0)))), rfl, bel.frame _, fun h => by cases h⟩

theorem over : Rows.DancePokesSaid :=
  OpenClaim.holds_of_wide 11 Tryz.f11 rfl rfl rfl rfl rfl rfl rfl ⟨rfl, rfl, rfl, rfl, rfl⟩ rfl rfl rfl rfl rfl (by kernel_rfl) Tryz.func11 (by kernel_rfl)
    (of_decide_eq_true (by kernel_rfl)) (by unfold Func.isWrapper; first | (rw [if_pos (by decide +kernel)]; kernel_rfl) | (rw [if_neg (by decide +kernel)]; exact ⟨rfl, rfl⟩))
    (fun os started H enc _ => lifted os started H enc)

/-- The given statement: the tied card. -/
theorem proved : Rows.DancePokesCardSaid :=
  Claim7.holds_tied_plain_at .later [] [.data, .data, .handle, .data] true (true, "c6f55d05b03cf7820801fe364c569ecbd73704b9e009a9d755c8ab487a07502a") true
    over (fun _ h => by cases h) (by kernel_rfl) (fun _ h => by cases h) dancePokes_row_tie rfl ⟨rfl, rfl⟩ (by kernel_rfl) rfl
    (fun f fn hf hfn => by
      obtain rfl : f = 11 := Option.some.inj ((show Tryz.prog.funcNamed "quadrille/quadrillekeep.DancePokes" = some 11 by kernel_rfl).symm.trans hf) |>.symm
      obtain rfl : fn = Tryz.f11 := (Option.some.inj (Tryz.func11.symm.trans hfn)).symm
      refine ⟨by kernel_rfl, fun j t ht => ?_⟩
      rw [Tryz.params11] at ht
      have hm : t ∈ [3, 3, 3, 22] := by
        have := Array.mem_of_getElem? ht
        simpa using this
      have hall : ([3, 3, 3, 22].all fun u => !Tryz.prog.wantsStandIn u) = true := by kernel_rfl
      exact (show Tryz.prog.wantsStandIn t = false by simpa using List.all_eq_true.1 hall t hm))
    (by kernel_rfl)
#print axioms proved
end Go.Proofs.YtjlhinjmnhpdaaaGreatDoor.dancePokes
