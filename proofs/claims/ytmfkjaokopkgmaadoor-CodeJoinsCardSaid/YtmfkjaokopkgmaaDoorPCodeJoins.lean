/-
  CodeJoins: for every two slices of instructions the law returns true, with no panic, and each argument reads afterwards as it read before; on the condition that the listed variables of the program and of the library are laid as their texts lay them, which the card ties.
-/
import Derived.Test.YtmfkjaokopkgmaaDoorRows
import Derived.Test.YtmfkjaokopkgmaaDoorCards
import Derived.Test.YtmfkjaokopkgmaaDoorTie
import Derived.WalkKit
import Derived.ProofKit
import Derived.OpenShut
import Derived.ChangeOld
import Derived.Below
import Derived.ChangeSame
import Derived.ChangeVars
import Derived.JoinedOf
import Derived.RowKitTokens
import Derived.LaidLaws
import Derived.LaidHandle
import Derived.Stop.Joined
import Derived.SevenTiedAt
import Derived.Test.YtmfkjaokopkgmaaDoorCLaid
import Derived.ChangeMaps5
import Derived.SizedLaws
import Derived.Test.YtmfkjaokopkgmaaDoorCJoinsW
namespace Go.Proofs.YtmfkjaokopkgmaaDoor.codeJoins
open Go.ChangeShapes Go.WideShapes Go.ChangeAt Go.RowKit
set_option linter.unusedVariables false

theorem own : ownKnob Tryd.prog.godebug = none := by kernel_rfl
theorem laidOut : laidOutB Tryd.prog = true := by kernel_rfl
theorem tsize : Tryd.prog.types.size = 128 := by kernel_rfl

/-- What the listed variables give the walk. -/
theorem cw_of {W : World} (h : laidMetH Tryd.prog Rows.codeJoinsRow.laid W) : CW W := by
  have h' : laidMet Tryd.prog Rows.codeJoinsRow.laid W := h
  refine cw_of_laid h' (nm1 := "*errors.errorString") (nm2 := "*errors.errorString") (d1 := .ptr (.agg [.lit (.string [105, 110, 118, 97, 108, 105, 100, 32, 115, 121, 110, 116, 97, 120])])) (d2 := .ptr (.agg [.lit (.string [118, 97, 108, 117, 101, 32, 111, 117, 116, 32, 111, 102, 32, 114, 97, 110, 103, 101])])) ?_ ?_ ?_ ?_
  · exact .tail _ (.tail _ (.tail _ (.tail _ (.tail _ (.head _)))))
  · exact .tail _ (.tail _ (.head _))
  · exact .tail _ (.tail _ (.tail _ (.tail _ (.head _))))
  · exact .tail _ (.tail _ (.tail _ (.head _)))

/-- So many blocks has the settled world. -/
noncomputable def low : Nat := (World.holding Tryd.prog default ⟨#[], #[], []⟩).heap.size
def put (o : Obj) (cs : Array Value) : Obj := match o with
  | .cells _ t frozen => .cells cs t frozen
  | o => o
def tab (k : IntKind) (zs : List Int) : Array Value := (zs.map fun z => Value.int k z).toArray
/-- A world that meets the condition. -/
noncomputable def laidWorld (os : Os) : World :=
  let w0 := World.holding Tryd.prog os ⟨#[.cells #[.string ⟨#[118, 97, 108, 117, 101, 32, 111, 117, 116, 32, 111, 102, 32, 114, 97, 110, 103, 101]⟩] 112, .cells #[.string ⟨#[105, 110, 118, 97, 108, 105, 100, 32, 115, 121, 110, 116, 97, 120]⟩] 112], #[], []⟩
  { w0 with heap := (((((w0.heap.modify 0 (put · formCells)).modify 2 (put · (tab .u64 Lib.pow10Tab))).modify 3 (put · #[.iface 110 (.pointer (some ⟨low + 1, 0, none⟩))])).modify 4 (put · #[.iface 110 (.pointer (some ⟨low, 0, none⟩))])).modify 5 (put · (tab .u8 [0, 1, 28, 2, 29, 14, 24, 3, 30, 22, 20, 15, 25, 17, 4, 8, 31, 27, 13, 23, 21, 19, 16, 7, 26, 12, 18, 6, 11, 5, 10, 9]))).modify 6 (put · (tab .u8 [0, 1, 56, 2, 57, 49, 28, 3, 61, 58, 42, 50, 38, 29, 17, 4, 62, 47, 59, 36, 45, 43, 51, 22, 53, 39, 33, 30, 24, 18, 12, 5, 63, 55, 48, 27, 60, 41, 37, 16, 46, 35, 44, 21, 52, 32, 23, 11, 54, 26, 40, 15, 34, 20, 31, 10, 25, 14, 19, 9, 13, 8, 7, 6])) }
theorem laidWorld_met (os : Os) (args : Array Value) : laidMetH Tryd.prog Rows.codeJoinsRow.laid ((laidWorld os).forCall (fun _ _ => 0) ⟨#[], args, []⟩).memory :=
  (LaidIn.of_run [0, 2, 3, 4, 5, 6, low, low + 1] 8 (by kernel_rfl) (by kernel_rfl) (by kernel_rfl) (by kernel_rfl)).met

/-- The walk. -/
theorem walk (a0 : Option Addr) (len0 cap0 : Nat) (big0 : len0 ≤ 4398046511104) (nods0 : List In5) (a1 : Option Addr) (len1 cap1 : Nat) (big1 : len1 ≤ 4398046511104) (nods1 : List In5) (w : World) (hg : CW w) (N0 : Inss w w.heap.size a0 len0 nods0) (I0 : ∀ i, i < len0 → ints5 (nods0.getD i default)) (N1 : Inss w w.heap.size a1 len1 nods1) (I1 : ∀ i, i < len1 → ints5 (nods1.getD i default)) :
    Calls Tryd.prog 5 #[.slice a0 len0 cap0, .slice a1 len1 cap1] w fun e w' => e = .returned (.bool true) ∧ Below w.heap.size w w' := by
  exact codeJoins_any hg a0 len0 cap0 nods0 N0 I0 a1 len1 cap1 nods1 N1 I1 big0 big1

set_option maxRecDepth 100000 in
theorem lifted (os : Os) (started : os.Started) (H : Type) (enc : TypeId × Value → H) :
    ReturnsInHanded {} Tryd.checked os 5 .any (fun w args => (Rows.codeJoinsSpec.pre enc Tryd.prog Tryd.f5 [] false w args ∧ laidMetH Tryd.prog Rows.codeJoinsRow.laid w) ∧ sizedMet enc Tryd.prog Tryd.f5 (OpenSpec.ofChange Rows.codeJoinsSpec) false w args)
      (Rows.codeJoinsSpec.post enc Tryd.prog Tryd.f5 false true false false) := by
  refine returnsInHanded_of_change_and (C := Tryd.checked) (X := fun w _ => laidMetH Tryd.prog Rows.codeJoinsRow.laid w) (fun _ _ _ hh h => h.of_heap hh) own started (by kernel_rfl) Tryd.func5
    (ChangeSpec.witness_at (enc := enc) (C := Tryd.checked) (os := os) (X := fun w _ => laidMetH Tryd.prog Rows.codeJoinsRow.laid w) false (laidWorld os) #[.slice none 0 0, .slice none 0 0] 8 rfl (by kernel_rfl) (by kernel_rfl) (by kernel_rfl) (by kernel_rfl) (by kernel_rfl) (laidWorld_met os _)) ?_
  intro W base args ds gs before hval0 hW _ hsz0 hL _
  have hval : ∀ (j : Nat) t v, Tryd.f5.params[j]? = some t → args[j]? = some v → Value.okWide Tryd.prog W .any base t v := hval0
  have hW' := hW
  have hsz : (DataW.weightsEach Tryd.prog (Tryd.f5.params.toList ++ Rows.codeJoinsSpec.plain.varTypes Tryd.prog) (ds ++ gs)).all (· ≤ reachBytes) = true := hsz0
  clear hsz0
  obtain ⟨p, q, hA0, hV0, rfl, hfz, hnd⟩ := hW
  have hA : DataW.TrodAll enc Tryd.prog W 0 (fun _ => true) true Tryd.f5.params.toList args.toList ds p := hA0
  have hV : DataW.TrodVars enc Tryd.prog W (fun _ => true) [] gs q := hV0
  rw [Tryd.params5] at hA hval hsz
  obtain ⟨v0, vs0, d0, ds0, p0, q0, hargs, rfl, rfl, h0, r0⟩ := trodAll_cons hA
  obtain ⟨v1, vs1, d1, ds1, p1, q1, rfl, rfl, rfl, h1, r1⟩ := trodAll_cons r0
  obtain ⟨rfl, rfl, rfl⟩ := trodAll_nil r1
  obtain rfl : args = #[v0, v1] := by cases args; simp_all
  obtain ⟨rfl, rfl⟩ : gs = [] ∧ q = [] := by
    cases gs with
    | nil => exact ⟨rfl, hV⟩
    | cons g r => exact absurd hV (by intro h; cases h)
  obtain ⟨a0, len0, cap0, rfl⟩ := okWide_slice Tryd.underlying22 (hval 0 22 v0 rfl rfl)
  have k0 := h0
  have lt0 : ∀ x ∈ p0, x.block < W.heap.size := by obtain ⟨m, hm⟩ := k0; exact DataW.trod_lt m _ _ _ hm
  obtain ⟨nods0, N0, I0⟩ : ∃ nods, Inss W W.heap.size a0 len0 nods ∧ ∀ i, i < len0 → ints5 (nods.getD i default) := by
    obtain ⟨fuel, hf⟩ := h0
    exact inss_of (a := a0) (len := len0) (cap := cap0) hf
  obtain ⟨a1, len1, cap1, rfl⟩ := okWide_slice Tryd.underlying22 (hval 1 22 v1 rfl rfl)
  have k1 := h1
  have lt1 : ∀ x ∈ p1, x.block < W.heap.size := by obtain ⟨m, hm⟩ := k1; exact DataW.trod_lt m _ _ _ hm
  obtain ⟨nods1, N1, I1⟩ : ∃ nods, Inss W W.heap.size a1 len1 nods ∧ ∀ i, i < len1 → ints5 (nods.getD i default) := by
    obtain ⟨fuel, hf⟩ := h1
    exact inss_of (a := a1) (len := len1) (cap := cap1) hf
  have big0 : len0 ≤ 4398046511104 := by
    obtain ⟨fuel, hf⟩ := k0
    rcases len_of_slice (a := a0) (len := len0) (cap := cap0) hf with h0 | ⟨es, sp, hd, hl⟩
    · omega
    · have hr := sized_slice hsz (j := 0) (t := 22) (e := 33) rfl (by rw [← hd]; rfl) Tryd.underlying22
      rw [show Tryd.prog.bytesOf 33 = 40 from by kernel_rfl] at hr
      simp only [reachBytes] at hr
      omega
  have big1 : len1 ≤ 4398046511104 := by
    obtain ⟨fuel, hf⟩ := k1
    rcases len_of_slice (a := a1) (len := len1) (cap := cap1) hf with h0 | ⟨es, sp, hd, hl⟩
    · omega
    · have hr := sized_slice hsz (j := 1) (t := 22) (e := 33) rfl (by rw [← hd]; rfl) Tryd.underlying22
      rw [show Tryd.prog.bytesOf 33 = 40 from by kernel_rfl] at hr
      simp only [reachBytes] at hr
      omega
  have hg := cw_of hL
  clear hA0 hval0
  refine (walk a0 len0 cap0 big0 nods0 a1 len1 cap1 big1 nods1 W hg N0 I0 N1 I1).mono fun e W' ⟨he, bel⟩ => ?_
  subst he
  exact ⟨_, rfl, _, _, _, [], _, [], hW', trodAll_mk1 (shut_bool Tryd.underlying4 _), (trodAll_cons_mk (Below.trod laidOut (by kernel_rfl) (of_decide_eq_true (by kernel_rfl)) k0 bel lt0) (trodAll_cons_mk (Below.trod laidOut (by kernel_rfl) (of_decide_eq_true (by kernel_rfl)) k1 bel lt1) trodAll_mk0)), rfl, bel.frame _, fun h => by cases h⟩

theorem over : Rows.CodeJoinsSaid :=
  OpenClaim.holds_of_wide 5 Tryd.f5 rfl rfl rfl rfl rfl rfl rfl ⟨rfl, rfl, rfl, rfl, rfl⟩ rfl rfl rfl rfl rfl (by kernel_rfl) Tryd.func5 (by kernel_rfl)
    (of_decide_eq_true (by kernel_rfl)) (by unfold Func.isWrapper; first | (rw [if_pos (by decide +kernel)]; kernel_rfl) | (rw [if_neg (by decide +kernel)]; exact ⟨rfl, rfl⟩))
    (fun os started H enc _ => lifted os started H enc)

/-- The given statement: the tied card. -/
theorem proved : Rows.CodeJoinsCardSaid :=
  Claim7.holds_tied_plain_at .later [] [.data, .data, .data, .sentinel, .sentinel, .data] true (true, "68b971e4f25b7a33e42d943bd161198b627d5ddb18b81c120478482af47564ca") true
    over (fun _ h => by cases h) (by kernel_rfl) (fun _ h => by cases h) codeJoins_row_tie rfl ⟨rfl, rfl⟩ (by kernel_rfl) rfl
    (fun f fn hf hfn => by
      obtain rfl : f = 5 := Option.some.inj ((show Tryd.prog.funcNamed "quadrille/quadrillekeep.CodeJoins" = some 5 by kernel_rfl).symm.trans hf) |>.symm
      obtain rfl : fn = Tryd.f5 := (Option.some.inj (Tryd.func5.symm.trans hfn)).symm
      refine ⟨by kernel_rfl, fun j t ht => ?_⟩
      rw [Tryd.params5] at ht
      have hm : t ∈ [22, 22] := by
        have := Array.mem_of_getElem? ht
        simpa using this
      have hall : ([22, 22].all fun u => !Tryd.prog.wantsStandIn u) = true := by kernel_rfl
      exact (show Tryd.prog.wantsStandIn t = false by simpa using List.all_eq_true.1 hall t hm))
    (by kernel_rfl)
#print axioms proved
end Go.Proofs.YtmfkjaokopkgmaaDoor.codeJoins
