/-
  WHO IS AT ITS END STAYS THERE, whoever goes on; at whatever programs, cells and moves.
-/
import Derived.Test.YtbcbahoplfgimaaGreatDoorRows
import Derived.Test.YtbcbahoplfgimaaGreatDoorCards
import Derived.Test.YtbcbahoplfgimaaGreatDoorTie
import Derived.WalkKit
import Derived.ProofKit
import Derived.OpenShut
import Derived.ChangeOld
import Derived.Below
import Derived.ChangeSame
import Derived.ChangeVars
import Derived.JoinedOf
import Derived.RowKitTokens
import Derived.LaidLaws
import Derived.LaidHandle
import Derived.Stop.Joined
import Derived.SevenTiedAt
import Derived.Lib.LaidTab
import Derived.Lib.LaidIn
import Derived.Test.YtbcbahoplfgimaaGreatDoorErr
import Derived.ChangeMaps5
import Derived.SizedLaws
import Derived.Test.YtbcbahoplfgimaaGreatDoorLEnds
import Derived.Test.YtbcbahoplfgimaaGreatDoorKOpenM
import Derived.Test.YtbcbahoplfgimaaGreatDoorCLaid
import Derived.Test.YtbcbahoplfgimaaGreatDoorKOpenC
namespace Go.Proofs.YtbcbahoplfgimaaGreatDoor.coreEnds
open Go.ChangeShapes Go.WideShapes Go.ChangeAt Go.RowKit
set_option linter.unusedVariables false

theorem own : ownKnob Tryz.prog.godebug = none := by kernel_rfl
theorem laidOut : laidOutB Tryz.prog = true := by kernel_rfl
theorem tsize : Tryz.prog.types.size = 235 := by kernel_rfl

theorem et : Tryz.prog.globalNamed "errors.errorType" = some 0 := by kernel_rfl
theorem rt : (Tryz.prog.cutTypes.find? (·.1 == "internal/reflectlite.rtype")).map (·.2) = some 153 := by kernel_rfl
theorem oneRow : ((List.range 235).filter fun t => Tryz.prog.rowNamed t [101, 114, 114, 111, 114]) = [31] := by kernel_rfl

/-- What the listed variables give the walk. -/
theorem cw_of {W : World} (h : laidMetH Tryz.prog Rows.coreEndsRow.laid W) : CW W := by
  have h' : laidMet Tryz.prog (Rows.coreEndsRow.laid.filter fun x => x.2.handleName?.isNone) W ∧ handlesMet Tryz.prog (Rows.coreEndsRow.laid.filter fun x => x.2.handleName?.isSome) W := h
  refine cw_of_laid h'.1 (nm1 := "*errors.errorString") (nm2 := "*errors.errorString") (d1 := .ptr (.agg [.lit (.string [105, 110, 118, 97, 108, 105, 100, 32, 115, 121, 110, 116, 97, 120])])) (d2 := .ptr (.agg [.lit (.string [118, 97, 108, 117, 101, 32, 111, 117, 116, 32, 111, 102, 32, 114, 97, 110, 103, 101])])) ?_ ?_ ?_ ?_
  · exact List.mem_filter.2 ⟨.tail _ (.tail _ (.tail _ (.tail _ (.tail _ (.tail _ (.head _)))))), rfl⟩
  · exact List.mem_filter.2 ⟨.tail _ (.tail _ (.head _)), rfl⟩
  · exact List.mem_filter.2 ⟨.tail _ (.tail _ (.tail _ (.tail _ (.tail _ (.head _))))), rfl⟩
  · exact List.mem_filter.2 ⟨.tail _ (.tail _ (.tail _ (.tail _ (.head _)))), rfl⟩
theorem handle_of_laid {W : World} (h : laidMetH Tryz.prog Rows.coreEndsRow.laid W) : ErrVar W := by
  have h' : laidMet Tryz.prog (Rows.coreEndsRow.laid.filter fun x => x.2.handleName?.isNone) W ∧ handlesMet Tryz.prog (Rows.coreEndsRow.laid.filter fun x => x.2.handleName?.isSome) W := h
  obtain ⟨name, u, ty, e1, e2, e3, e4, e5⟩ := h'.2 ("errors.errorType", Rows.laid_errors_errorType) (List.mem_filter.2 ⟨.tail _ (.tail _ (.tail _ (.head _))), rfl⟩)
  have en : name = [101, 114, 114, 111, 114] := (Option.some.inj e1).symm
  subst en
  obtain rfl := Option.some.inj (rt.symm.trans e2)
  have hm : ty ∈ (List.range 235).filter fun t => Tryz.prog.rowNamed t [101, 114, 114, 111, 114] := List.mem_filter.2 ⟨List.mem_range.2 (by rw [← tsize]; exact e3), e4⟩
  rw [oneRow] at hm
  obtain rfl := List.mem_singleton.1 hm
  have hh : typeHandle Tryz.prog 31 = .pointer (some ⟨8, 31, none⟩) := by kernel_rfl
  rw [hh] at e5
  have := World.var?_cell et e5 0
  unfold ErrVar
  simpa using this

/-- So many blocks has the settled world. -/
noncomputable def low : Nat := (World.holding Tryz.prog default ⟨#[], #[], []⟩).heap.size
def put (o : Obj) (cs : Array Value) : Obj := match o with
  | .cells _ t frozen => .cells cs t frozen
  | o => o
def tab (k : IntKind) (zs : List Int) : Array Value := (zs.map fun z => Value.int k z).toArray
/-- A world that meets the condition. -/
noncomputable def laidWorld (os : Os) : World :=
  let w0 := World.holding Tryz.prog os ⟨#[.cells #[.string ⟨#[118, 97, 108, 117, 101, 32, 111, 117, 116, 32, 111, 102, 32, 114, 97, 110, 103, 101]⟩] 200, .cells #[.string ⟨#[105, 110, 118, 97, 108, 105, 100, 32, 115, 121, 110, 116, 97, 120]⟩] 200], #[], []⟩
  { w0 with heap := (((((((w0.heap.modify 0 (put · #[.iface 153 (.agg #[.pointer (some ⟨8, 31, none⟩)])])).modify 1 (put · formCells)).modify 5 (put · (tab .u64 Lib.pow10Tab))).modify 3 (put · #[.iface 198 (.pointer (some ⟨low + 1, 0, none⟩))])).modify 4 (put · #[.iface 198 (.pointer (some ⟨low, 0, none⟩))])).modify 6 (put · (tab .u8 [0, 1, 28, 2, 29, 14, 24, 3, 30, 22, 20, 15, 25, 17, 4, 8, 31, 27, 13, 23, 21, 19, 16, 7, 26, 12, 18, 6, 11, 5, 10, 9]))).modify 7 (put · (tab .u8 [0, 1, 56, 2, 57, 49, 28, 3, 61, 58, 42, 50, 38, 29, 17, 4, 62, 47, 59, 36, 45, 43, 51, 22, 53, 39, 33, 30, 24, 18, 12, 5, 63, 55, 48, 27, 60, 41, 37, 16, 46, 35, 44, 21, 52, 32, 23, 11, 54, 26, 40, 15, 34, 20, 31, 10, 25, 14, 19, 9, 13, 8, 7, 6]))) }
theorem laidWorld_met (os : Os) (args : Array Value) : laidMetH Tryz.prog Rows.coreEndsRow.laid ((laidWorld os).forCall (fun _ _ => 0) ⟨#[], args, []⟩).memory :=
  laidMetH_of_parts (LaidIn.of_run [1, 5, 3, 4, 6, 7, low, low + 1] 8 (by kernel_rfl) (by kernel_rfl) (by kernel_rfl) (by kernel_rfl)).met (by kernel_rfl)

/-- The walk. -/
theorem walk (a0 : Option Addr) (len0 cap0 : Nat) (big0 : len0 ≤ 17592186044416) (nods0 : List (List In5)) (a1 : Option Addr) (len1 cap1 : Nat) (big1 : len1 ≤ 17592186044416) (nods1 : List Int) (a2 : Option Addr) (len2 cap2 : Nat) (big2 : len2 ≤ 17592186044416) (nods2 : List (Int × Bool)) (a3 : Option Addr) (len3 cap3 : Nat) (big3 : len3 ≤ 17592186044416) (nods3 : List (Int × Bool)) (w : World) (hw : CW w) (hg : ErrVar w) (N0 : Progs w w.heap.size a0 len0 nods0) (I0 : len0 ≤ 9223372036854775807) (N1 : Ints .u64 w w.heap.size a1 len1 nods1) (I1 : ∀ x ∈ nods1, okU x) (N2 : Moves w w.heap.size a2 len2 nods2) (I2 : True) (N3 : Moves w w.heap.size a3 len3 nods3) (I3 : True) :
    Calls Tryz.prog 6 #[.slice a0 len0 cap0, .slice a1 len1 cap1, .slice a2 len2 cap2, .slice a3 len3 cap3] w fun e w' => e = .returned (.bool true) ∧ Below w.heap.size w w' := by
  exact coreEnds_any hw hg a0 a1 a2 a3 len0 cap0 len1 cap1 len2 cap2 len3 cap3 nods0 nods1 nods2 nods3 I0 N0 N1 I1 N2 N3 big2 big3

set_option maxRecDepth 100000 in
theorem lifted (os : Os) (started : os.Started) (H : Type) (enc : TypeId × Value → H) :
    ReturnsInHanded {} Tryz.checked os 6 .any (fun w args => (Rows.coreEndsSpec.pre enc Tryz.prog Tryz.f6 [] false w args ∧ laidMetH Tryz.prog Rows.coreEndsRow.laid w) ∧ sizedMet enc Tryz.prog Tryz.f6 (OpenSpec.ofChange Rows.coreEndsSpec) false w args)
      (Rows.coreEndsSpec.post enc Tryz.prog Tryz.f6 false true false false) := by
  refine returnsInHanded_of_change_and (C := Tryz.checked) (X := fun w _ => laidMetH Tryz.prog Rows.coreEndsRow.laid w) (fun _ _ _ hh h => h.of_heap hh) own started (by kernel_rfl) Tryz.func6
    (ChangeSpec.witness_at (enc := enc) (C := Tryz.checked) (os := os) (X := fun w _ => laidMetH Tryz.prog Rows.coreEndsRow.laid w) false (laidWorld os) #[.slice none 0 0, .slice none 0 0, .slice none 0 0, .slice none 0 0] 8 rfl (by kernel_rfl) (by kernel_rfl) (by kernel_rfl) (by kernel_rfl) (by kernel_rfl) (laidWorld_met os _)) ?_
  intro W base args ds gs before hval0 hW _ hsz0 hL _
  have hval : ∀ (j : Nat) t v, Tryz.f6.params[j]? = some t → args[j]? = some v → Value.okWide Tryz.prog W .any base t v := hval0
  have hW' := hW
  have hsz : (DataW.weightsEach Tryz.prog (Tryz.f6.params.toList ++ Rows.coreEndsSpec.plain.varTypes Tryz.prog) (ds ++ gs)).all (· ≤ reachBytes) = true := hsz0
  clear hsz0
  obtain ⟨p, q, hA0, hV0, rfl, hfz, hnd⟩ := hW
  have hA : DataW.TrodAll enc Tryz.prog W 0 (fun _ => true) true Tryz.f6.params.toList args.toList ds p := hA0
  have hV : DataW.TrodVars enc Tryz.prog W (fun _ => true) [] gs q := hV0
  rw [Tryz.params6] at hA hval hsz
  obtain ⟨v0, vs0, d0, ds0, p0, q0, hargs, rfl, rfl, h0, r0⟩ := trodAll_cons hA
  obtain ⟨v1, vs1, d1, ds1, p1, q1, rfl, rfl, rfl, h1, r1⟩ := trodAll_cons r0
  obtain ⟨v2, vs2, d2, ds2, p2, q2, rfl, rfl, rfl, h2, r2⟩ := trodAll_cons r1
  obtain ⟨v3, vs3, d3, ds3, p3, q3, rfl, rfl, rfl, h3, r3⟩ := trodAll_cons r2
  obtain ⟨rfl, rfl, rfl⟩ := trodAll_nil r3
  obtain rfl : args = #[v0, v1, v2, v3] := by cases args; simp_all
  obtain ⟨rfl, rfl⟩ : gs = [] ∧ q = [] := by
    cases gs with
    | nil => exact ⟨rfl, hV⟩
    | cons g r => exact absurd hV (by intro h; cases h)
  obtain ⟨a0, len0, cap0, rfl⟩ := okWide_slice Tryz.underlying22 (hval 0 22 v0 rfl rfl)
  have k0 := h0
  have lt0 : ∀ x ∈ p0, x.block < W.heap.size := by obtain ⟨m, hm⟩ := k0; exact DataW.trod_lt m _ _ _ hm
  obtain ⟨nods0, N0, I0⟩ : ∃ nods, Progs W W.heap.size a0 len0 nods ∧ len0 ≤ 9223372036854775807 := by
    obtain ⟨fuel, hf⟩ := h0
    obtain ⟨ps, hp, _⟩ := progs_of (a := a0) (len := len0) (cap := cap0) hf; exact ⟨ps, hp, len_slice Tryz.underlying22 hf⟩
  obtain ⟨a1, len1, cap1, rfl⟩ := okWide_slice Tryz.underlying23 (hval 1 23 v1 rfl rfl)
  have k1 := h1
  have lt1 : ∀ x ∈ p1, x.block < W.heap.size := by obtain ⟨m, hm⟩ := k1; exact DataW.trod_lt m _ _ _ hm
  obtain ⟨nods1, N1, I1⟩ : ∃ nods, Ints .u64 W W.heap.size a1 len1 nods ∧ ∀ x ∈ nods, okU x := by
    obtain ⟨fuel, hf⟩ := h1
    exact words_of (a := a1) (len := len1) (cap := cap1) hf
  obtain ⟨a2, len2, cap2, rfl⟩ := okWide_slice Tryz.underlying24 (hval 2 24 v2 rfl rfl)
  have k2 := h2
  have lt2 : ∀ x ∈ p2, x.block < W.heap.size := by obtain ⟨m, hm⟩ := k2; exact DataW.trod_lt m _ _ _ hm
  obtain ⟨nods2, N2, I2⟩ : ∃ nods, Moves W W.heap.size a2 len2 nods ∧ True := by
    obtain ⟨fuel, hf⟩ := h2
    obtain ⟨l, hl⟩ := moves_of (a := a2) (len := len2) (cap := cap2) hf; exact ⟨l, hl, trivial⟩
  obtain ⟨a3, len3, cap3, rfl⟩ := okWide_slice Tryz.underlying24 (hval 3 24 v3 rfl rfl)
  have k3 := h3
  have lt3 : ∀ x ∈ p3, x.block < W.heap.size := by obtain ⟨m, hm⟩ := k3; exact DataW.trod_lt m _ _ _ hm
  obtain ⟨nods3, N3, I3⟩ : ∃ nods, Moves W W.heap.size a3 len3 nods ∧ True := by
    obtain ⟨fuel, hf⟩ := h3
    obtain ⟨l, hl⟩ := moves_of (a := a3) (len := len3) (cap := cap3) hf; exact ⟨l, hl, trivial⟩
  have hw := cw_of hL
  have hg := handle_of_laid hL
  have big0 : len0 ≤ 17592186044416 := by
    obtain ⟨fuel, hf⟩ := k0
    rcases len_of_any (t := 22) (e := 63) Tryz.underlying22 (a := a0) (len := len0) (cap := cap0) hf with h0 | ⟨es, sp, hd, hl⟩
    · omega
    · have hr := sized_slice hsz (j := 0) (t := 22) (e := 63) rfl (by rw [← hd]; rfl) Tryz.underlying22
      rw [show Tryz.prog.bytesOf 63 = 24 from by kernel_rfl] at hr
      simp only [reachBytes] at hr
      omega
  have big1 : len1 ≤ 17592186044416 := by
    obtain ⟨fuel, hf⟩ := k1
    rcases len_of_any (t := 23) (e := 41) Tryz.underlying23 (a := a1) (len := len1) (cap := cap1) hf with h0 | ⟨es, sp, hd, hl⟩
    · omega
    · have hr := sized_slice hsz (j := 1) (t := 23) (e := 41) rfl (by rw [← hd]; rfl) Tryz.underlying23
      rw [show Tryz.prog.bytesOf 41 = 8 from by kernel_rfl] at hr
      simp only [reachBytes] at hr
      omega
  have big2 : len2 ≤ 17592186044416 := by
    obtain ⟨fuel, hf⟩ := k2
    rcases len_of_any (t := 24) (e := 59) Tryz.underlying24 (a := a2) (len := len2) (cap := cap2) hf with h0 | ⟨es, sp, hd, hl⟩
    · omega
    · have hr := sized_slice hsz (j := 2) (t := 24) (e := 59) rfl (by rw [← hd]; rfl) Tryz.underlying24
      rw [show Tryz.prog.bytesOf 59 = 16 from by kernel_rfl] at hr
      simp only [reachBytes] at hr
      omega
  have big3 : len3 ≤ 17592186044416 := by
    obtain ⟨fuel, hf⟩ := k3
    rcases len_of_any (t := 24) (e := 59) Tryz.underlying24 (a := a3) (len := len3) (cap := cap3) hf with h0 | ⟨es, sp, hd, hl⟩
    · omega
    · have hr := sized_slice hsz (j := 3) (t := 24) (e := 59) rfl (by rw [← hd]; rfl) Tryz.underlying24
      rw [show Tryz.prog.bytesOf 59 = 16 from by kernel_rfl] at hr
      simp only [reachBytes] at hr
      omega
  clear hA0 hval0
  refine (walk a0 len0 cap0 big0 nods0 a1 len1 cap1 big1 nods1 a2 len2 cap2 big2 nods2 a3 len3 cap3 big3 nods3 W hw hg N0 I0 N1 I1 N2 I2 N3 I3).mono fun e W' ⟨he, bel⟩ => ?_
  subst he
  exact ⟨_, rfl, _, _, _, [], _, [], hW', trodAll_mk1 (shut_bool Tryz.underlying4 _), (trodAll_cons_mk (Below.trod laidOut (by kernel_rfl) (of_decide_eq_true (by kernel_rfl)) k0 bel lt0) (trodAll_cons_mk (Below.trod laidOut (by kernel_rfl) (of_decide_eq_true (by kernel_rfl)) k1 bel lt1) (trodAll_cons_mk (Below.trod laidOut (by kernel_rfl) (of_decide_eq_true (by kernel_rfl)) k2 bel lt2) (trodAll_cons_mk (Below.trod laidOut (by kernel_rfl) (of_decide_eq_true (by kernel_rfl)) k3 bel lt3) trodAll_mk0)))), rfl, bel.frame _, fun h => by cases h⟩

theorem over : Rows.CoreEndsSaid :=
  OpenClaim.holds_of_wide 6 Tryz.f6 rfl rfl rfl rfl rfl rfl rfl ⟨rfl, rfl, rfl, rfl, rfl⟩ rfl rfl rfl rfl rfl (by kernel_rfl) Tryz.func6 (by kernel_rfl)
    (of_decide_eq_true (by kernel_rfl)) (by unfold Func.isWrapper; first | (rw [if_pos (by decide +kernel)]; kernel_rfl) | (rw [if_neg (by decide +kernel)]; exact ⟨rfl, rfl⟩))
    (fun os started H enc _ => lifted os started H enc)

/-- The given statement: the tied card. -/
theorem proved : Rows.CoreEndsCardSaid :=
  Claim7.holds_tied_plain_at .later [] [.data, .data, .data, .handle, .sentinel, .sentinel, .data] true (true, "0f7e755956609285d2b493d6b3360e4ab0c0593c0a1cc8258ad1526ebd8d387f") true
    over (fun _ h => by cases h) (by kernel_rfl) (fun _ h => by cases h) coreEnds_row_tie rfl ⟨rfl, rfl⟩ (by kernel_rfl) rfl
    (fun f fn hf hfn => by
      obtain rfl : f = 6 := Option.some.inj ((show Tryz.prog.funcNamed "quadrille/quadrillekeep.CoreEnds" = some 6 by kernel_rfl).symm.trans hf) |>.symm
      obtain rfl : fn = Tryz.f6 := (Option.some.inj (Tryz.func6.symm.trans hfn)).symm
      refine ⟨by kernel_rfl, fun j t ht => ?_⟩
      rw [Tryz.params6] at ht
      have hm : t ∈ [22, 23, 24, 24] := by
        have := Array.mem_of_getElem? ht
        simpa using this
      have hall : ([22, 23, 24, 24].all fun u => !Tryz.prog.wantsStandIn u) = true := by kernel_rfl
      exact (show Tryz.prog.wantsStandIn t = false by simpa using List.all_eq_true.1 hall t hm))
    (by kernel_rfl)
#print axioms proved
end Go.Proofs.YtbcbahoplfgimaaGreatDoor.coreEnds
