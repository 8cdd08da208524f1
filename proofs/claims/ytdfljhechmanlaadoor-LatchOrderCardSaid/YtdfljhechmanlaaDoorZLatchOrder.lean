/-
  One by one: the count of a latch goes down by one at a time, to nought, and never up, whoever goes on when. No conditions.
-/
import Derived.Test.YtdfljhechmanlaaDoorQL3
import Derived.Test.YtdfljhechmanlaaDoorRows
import Derived.Test.YtdfljhechmanlaaDoorCards
import Derived.Test.YtdfljhechmanlaaDoorTie
import Derived.WalkKit
import Derived.ProofKit
import Derived.OpenShut
import Derived.ChangeOld
import Derived.Below
import Derived.ChangeSame
import Derived.ChangeVars
import Derived.JoinedOf
import Derived.RowKitTokens
import Derived.LaidLaws
import Derived.LaidHandle
import Derived.Stop.Joined
import Derived.SevenTiedAt
import Derived.Lib.LaidTab
import Derived.Lib.LaidIn
import Derived.ChangeMaps5
import Derived.Test.YtdfljhechmanlaaDoorQE3
import Derived.Test.YtdfljhechmanlaaDoorQE
import Derived.Test.YtdfljhechmanlaaDoorQL2
namespace Go.Proofs.YtdfljhechmanlaaDoor
set_option maxRecDepth 100000
open Go.RowKit Go.Shelf Go.Sort
set_option linter.unusedVariables false
set_option linter.unusedSimpArgs false

theorem la_order {f : Nat} {Ls : List (List Bool)} {h : LaOk f Ls} {p : Nat} {m m' : Mach} (hm : LaM h p m) (hp : p ≤ 500) (hf : Fin m m') : ∀ x ∈ m'.acts, x.2.2.2.2.1 ≠ x.2.2.2.2.2 → x.2.2.1 = 9 ∧ (0 < x.2.2.2.2.1 ∧ x.2.2.2.2.1 ≤ (f : Int)) ∧ x.2.2.2.2.2 = x.2.2.2.2.1 - 1 := by
  obtain ⟨S, hS, _⟩ := la_fin hm hp hf
  exact (laM_inv hS).acts

set_option maxHeartbeats 2000000 in
theorem latchOrder_any {w : World} (hw : CW w) (A : Option Addr) (n cap : Nat) (ls : List (List Int)) (hR : IRows w w.heap.size A n ls) (hcap : n ≤ cap) (first : Int) (D : Option Addr) (nm cm : Nat) (l : List (Int × Bool)) (hl : Moves w w.heap.size D nm l) :
    Calls Tryd.prog 6 #[.slice A n cap, .int .i64 first, .slice D nm cm] w fun e w' => e = .returned (.bool true) ∧ Below w.heap.size w w' := by
  have HLt := Lib.hid (latched_any hw)
  have HP := Lib.hid (fun w => pick_det first 12 12 w rfl (by decide) (by decide))
  have p1 := pickI_lo first 12
  have p2 := pickI_hi first 12 (by decide)
  obtain ⟨f, hf⟩ : ∃ f : Nat, pickI first 12 = (f : Int) := ⟨(pickI first 12).toNat, by omega⟩
  rw [hf] at HP p1 p2
  have HF12 := Lib.hid (show f ≤ 12 by omega)
  have HR := Lib.hid hR
  have HMv := Lib.hid hl
  have HW := Lib.hid hw
  have HCap := Lib.hid hcap
  clear hR hl hw hf p1 p2 hcap
  go_enter Tryd.func6, Tryd.ntmps6
  go_wp2_with fail
  refine HLt.out.mono ?_
  rintro e w1 ⟨rfl, hb1⟩
  have HB1 := Lib.hid hb1
  clear hb1 HLt
  by_cases h9 : 500 < nm
  · have h9' : (500 : Int) < (nm : Int) := by omega
    go_wp2
    go_ret
    exact ⟨rfl, HB1.out⟩
  have h9' : ¬ (500 : Int) < (nm : Int) := by omega
  have HN5 := Lib.hid (show nm ≤ 500 by omega)
  go_wp2_with fail
  refine (HP.out _).mono ?_
  rintro e w2 ⟨rfl, rfl⟩
  clear HP
  go_wp2_with fail
  refine (laasks_any HB1.out A n cap 2 ls HR.out HCap.out [1, 2] (fun x hx => by simpa using hx) #[.int .i64 1, .int .i64 2] rfl rfl (by decide) (by decide)).mono ?_
  rintro e w2 ⟨A2, c2, k2, Ls, rfl, hC, hb2, hLl, hk8, hLs⟩
  have hok := la_ok_of (f := f) HF12.out hLl hk8 hLs
  have HMd := Lib.hid (lamade2 HW.out hb2 hok A2 D k2 c2 nm cm hC l HMv.out HN5.out)
  clear hC hb2 hLl hk8 hLs HB1 HR HCap
  go_wp2_with fail
  --MB
  rw [u64_small (by have := HF12.out; omega)]
  refine HMd.out.mono ?_
  rintro e w3 ⟨c, m, rfl, hA, -⟩
  have HF := Lib.hid (at_finish hA.at_ hA.big)
  have HL := Lib.hid hA.la
  clear hA HMd
  go_wp2_with fail
  refine HF.out.mono ?_
  rintro e w4 ⟨m', hf, rfl, hA2, hb2⟩
  have HO := Lib.hid (la_order HL.out (by have := pokesM_le l; have := HMv.out.len; have := HN5.out; omega) hf)
  generalize ((m'.steps : Int) - (m.steps : Int)) = dd
  have HA2 := Lib.hid hA2
  have HAc := Lib.hid (at_acts hA2 (by have := hb2.acts; have := hb2.most; omega))
  have HLa := Lib.hid (by have := hb2.acts; have := hb2.most; omega : m'.acts.length ≤ 20000)
  clear hf hA2 hb2 HF HL
  go_wp2_with fail
  refine HAc.out.mono ?_
  rintro e w5 ⟨A5, c5, rfl, ho5, hg5⟩
  have HB5 := Lib.hid (HA2.out.grow hg5).bel
  have HR5 := Lib.hid (actRow_own ho5 rfl)
  clear ho5 hg5 HAc HA2
  generalize m'.acts = ac at *
  obtain ⟨na, hna⟩ : ∃ na, ac.length = na := ⟨_, rfl⟩
  rw [hna] at HR5 HLa ⊢
  have HNa := Lib.hid hna
  clear hna
  go_wp2
  go_loopw [34] (fun j wr => ∃ i : Nat, i ≤ na ∧ j = .int .i64 i ∧ Below w5.heap.size w5 wr) (fun j _ => na - (intOf j).toNat)
  case atStart => exact ⟨0, Nat.zero_le _, rfl, Below.refl _ _⟩
  case round =>
    obtain ⟨i, hi, rfl, hm⟩ := hrel
    by_cases hlt : i < na
    · have hin : (i : Int) < (na : Int) := by omega
      obtain ⟨b, off, hA, x0, x1, x2, x3, x4, x5⟩ := (HR5.out.below hm) i hlt
      subst hA
      have hmem : ac.getD i default ∈ ac := by rw [List.getD_eq_getElem?_getD, List.getElem?_eq_getElem (by rw [HNa.out]; exact hlt)]; exact List.getElem_mem _
      have ho := HO.out _ hmem
      have HM := Lib.hid (fun o => hm.alloc hm.size o)
      have HI := Lib.hid (by have := HLa.out; omega : i < 20000)
      have hf12 := HF12.out
      generalize ac.getD i default = x at *
      obtain ⟨v0, v1, v2, v3, v4, v5⟩ := x
      dsimp only at x0 x1 x2 x3 x4 x5 ho
      clear hm hmem
      by_cases he : v4 = v5
      · subst he
        have hne : (v4 != v4) = false := by simp
        clear ho
        have hi2 := HI.out
        go_wp2
        go_roundw
        case rel => exact ⟨i + 1, by omega, by go_num, HM.out _⟩
        case measure => simp [intOf]; omega
      · obtain ⟨rfl, ⟨o1, o2⟩, rfl⟩ := ho he
        have hne : ((v4 - 1) != v4) = true := by simp; omega
        have h9 : ((9 : Int) != 9) = false := by decide
        have h0 : (v4 == 0) = false := by simp; omega
        have hw' : IntKind.u64.wrap (v4 - 1) = v4 - 1 := by show (v4 - 1) % 18446744073709551616 = _; omega
        have hs : ((v4 - 1) != (v4 - 1)) = false := by simp
        have HW' := Lib.hid hw'
        clear he ho
        have hi2 := HI.out
        go_wp2
        go_roundw
        case rel => exact ⟨i + 1, by omega, by go_num, HM.out _⟩
        case measure => simp [intOf]; omega
    · have hin : ¬ (i : Int) < (na : Int) := by omega
      have HM := Lib.hid hm
      have HLc := Lib.hid (lacode_in [] (by decide) (w := wr) none 0 0 ⟨rfl, fun h => absurd h (by omega)⟩)
      clear hm
      go_wp2_with fail
      refine HLc.out.mono ?_
      rintro e w6 ⟨A6, c6, rfl, -, hb6⟩
      have HB6 := Lib.hid (HB5.out.trans ((HM.out.trans (hb6.mono HM.out.size)).mono HB5.out.size))
      clear hb6 HLc HM
      --MF
      have hone : (wholeK latchF []).length = 1 := rfl
      rw [hone]
      go_wp2
      go_ret
      exact ⟨rfl, HB6.out⟩
end Go.Proofs.YtdfljhechmanlaaDoor

namespace Go.Proofs.YtdfljhechmanlaaDoor.latchOrder
open Go.ChangeShapes Go.WideShapes Go.ChangeAt Go.RowKit
set_option linter.unusedVariables false

theorem own : ownKnob Tryd.prog.godebug = none := by kernel_rfl
theorem laidOut : laidOutB Tryd.prog = true := by kernel_rfl
theorem tsize : Tryd.prog.types.size = 214 := by kernel_rfl

/-- What the listed variables give the walk. -/
theorem cw_of {W : World} (h : laidMetH Tryd.prog Rows.latchOrderRow.laid W) : CW W := by
  have h' : laidMet Tryd.prog (Rows.latchOrderRow.laid.filter fun x => x.2.handleName?.isNone) W ∧ handlesMet Tryd.prog (Rows.latchOrderRow.laid.filter fun x => x.2.handleName?.isSome) W := h
  exact cw_of_laid h'.1 (List.mem_filter.2 ⟨.tail _ (.head _), rfl⟩)

/-- So many blocks has the settled world. -/
noncomputable def low : Nat := (World.holding Tryd.prog default ⟨#[], #[], []⟩).heap.size
def put (o : Obj) (cs : Array Value) : Obj := match o with
  | .cells _ t frozen => .cells cs t frozen
  | o => o
def tab (k : IntKind) (zs : List Int) : Array Value := (zs.map fun z => Value.int k z).toArray
/-- A world that meets the condition. -/
noncomputable def laidWorld (os : Os) : World :=
  let w0 := World.holding Tryd.prog os ⟨#[], #[], []⟩
  { w0 with heap := ((w0.heap.modify 1 (put · #[.iface 172 (.agg #[.pointer (some ⟨2, 36, none⟩)])])).modify 0 (put · formCells)) }
theorem laidWorld_met (os : Os) (args : Array Value) : laidMetH Tryd.prog Rows.latchOrderRow.laid ((laidWorld os).forCall (fun _ _ => 0) ⟨#[], args, []⟩).memory :=
  laidMetH_of_parts (LaidIn.of_run [0] 8 (by kernel_rfl) (by kernel_rfl) (by kernel_rfl) (by kernel_rfl)).met (by kernel_rfl)

/-- The walk. -/
theorem walk (a0 : Option Addr) (len0 cap0 : Nat) (nods0 : List (List Int)) (a1 : Int) (a2 : Option Addr) (len2 cap2 : Nat) (nods2 : List (Int × Bool)) (w : World) (hw : CW w) (N0 : IRows w w.heap.size a0 len0 nods0) (I0 : len0 ≤ cap0) (N2 : Moves w w.heap.size a2 len2 nods2) (I2 : True) :
    Calls Tryd.prog 6 #[.slice a0 len0 cap0, .int .i64 a1, .slice a2 len2 cap2] w fun e w' => e = .returned (.bool true) ∧ Below w.heap.size w w' := by
  exact latchOrder_any hw a0 len0 cap0 nods0 N0 I0 a1 a2 len2 cap2 nods2 N2

set_option maxRecDepth 100000 in
theorem lifted (os : Os) (started : os.Started) (H : Type) (enc : TypeId × Value → H) :
    ReturnsInHanded {} Tryd.checked os 6 .any (fun w args => (Rows.latchOrderSpec.pre enc Tryd.prog Tryd.f6 [] false w args ∧ laidMetH Tryd.prog Rows.latchOrderRow.laid w) ∧ sizedMet enc Tryd.prog Tryd.f6 (OpenSpec.ofChange Rows.latchOrderSpec) false w args)
      (Rows.latchOrderSpec.post enc Tryd.prog Tryd.f6 false true false false) := by
  refine returnsInHanded_of_change_and (C := Tryd.checked) (X := fun w _ => laidMetH Tryd.prog Rows.latchOrderRow.laid w) (fun _ _ _ hh h => h.of_heap hh) own started (by kernel_rfl) Tryd.func6
    (ChangeSpec.witness_at (enc := enc) (C := Tryd.checked) (os := os) (X := fun w _ => laidMetH Tryd.prog Rows.latchOrderRow.laid w) false (laidWorld os) #[.slice none 0 0, .int .i64 0, .slice none 0 0] 8 rfl (by kernel_rfl) (by kernel_rfl) (by kernel_rfl) (by kernel_rfl) (by kernel_rfl) (laidWorld_met os _)) ?_
  intro W base args ds gs before hval0 hW _ _ hL _
  have hval : ∀ (j : Nat) t v, Tryd.f6.params[j]? = some t → args[j]? = some v → Value.okWide Tryd.prog W .any base t v := hval0
  have hW' := hW
  obtain ⟨p, q, hA0, hV0, rfl, hfz, hnd⟩ := hW
  have hA : DataW.TrodAll enc Tryd.prog W 0 (fun _ => true) true Tryd.f6.params.toList args.toList ds p := hA0
  have hV : DataW.TrodVars enc Tryd.prog W (fun _ => true) [] gs q := hV0
  rw [Tryd.params6] at hA hval
  obtain ⟨v0, vs0, d0, ds0, p0, q0, hargs, rfl, rfl, h0, r0⟩ := trodAll_cons hA
  obtain ⟨v1, vs1, d1, ds1, p1, q1, rfl, rfl, rfl, h1, r1⟩ := trodAll_cons r0
  obtain ⟨v2, vs2, d2, ds2, p2, q2, rfl, rfl, rfl, h2, r2⟩ := trodAll_cons r1
  obtain ⟨rfl, rfl, rfl⟩ := trodAll_nil r2
  obtain rfl : args = #[v0, v1, v2] := by cases args; simp_all
  obtain ⟨rfl, rfl⟩ : gs = [] ∧ q = [] := by
    cases gs with
    | nil => exact ⟨rfl, hV⟩
    | cons g r => exact absurd hV (by intro h; cases h)
  obtain ⟨a0, len0, cap0, rfl⟩ := okWide_slice Tryd.underlying22 (hval 0 22 v0 rfl rfl)
  have k0 := h0
  have lt0 : ∀ x ∈ p0, x.block < W.heap.size := by obtain ⟨m, hm⟩ := k0; exact DataW.trod_lt m _ _ _ hm
  obtain ⟨nods0, N0, I0⟩ : ∃ nods, IRows W W.heap.size a0 len0 nods ∧ len0 ≤ cap0 := by
    obtain ⟨fuel, hf⟩ := h0
    obtain ⟨ls, hl⟩ := intss_of (a := a0) (len := len0) (cap := cap0) hf; exact ⟨ls, hl, cap_slice Tryd.underlying22 hf⟩
  obtain ⟨a1, rfl, rfl, rfl, w1⟩ := open_int Tryd.underlying3 (hval 1 3 v1 rfl rfl) h1
  obtain ⟨a2, len2, cap2, rfl⟩ := okWide_slice Tryd.underlying23 (hval 2 23 v2 rfl rfl)
  have k2 := h2
  have lt2 : ∀ x ∈ p2, x.block < W.heap.size := by obtain ⟨m, hm⟩ := k2; exact DataW.trod_lt m _ _ _ hm
  obtain ⟨nods2, N2, I2⟩ : ∃ nods, Moves W W.heap.size a2 len2 nods ∧ True := by
    obtain ⟨fuel, hf⟩ := h2
    obtain ⟨l, hl⟩ := moves_of (a := a2) (len := len2) (cap := cap2) hf; exact ⟨l, hl, trivial⟩
  have hw := cw_of hL
  clear hA0 hval0
  refine (walk a0 len0 cap0 nods0 a1 a2 len2 cap2 nods2 W hw N0 I0 N2 I2).mono fun e W' ⟨he, bel⟩ => ?_
  subst he
  exact ⟨_, rfl, _, _, _, [], _, [], hW', trodAll_mk1 (shut_bool Tryd.underlying4 _), (trodAll_cons_mk (Below.trod laidOut (by kernel_rfl) (of_decide_eq_true (by kernel_rfl)) k0 bel lt0) (trodAll_cons_mk (shut_int Tryd.underlying3 w1) (trodAll_cons_mk (Below.trod laidOut (by kernel_rfl) (of_decide_eq_true (by kernel_rfl)) k2 bel lt2) trodAll_mk0))), rfl, bel.frame _, fun h => by cases h⟩

theorem over : Rows.LatchOrderSaid :=
  OpenClaim.holds_of_wide 6 Tryd.f6 rfl rfl rfl rfl rfl rfl rfl ⟨rfl, rfl, rfl, rfl, rfl⟩ rfl rfl rfl rfl rfl (by kernel_rfl) Tryd.func6 (by kernel_rfl)
    (of_decide_eq_true (by kernel_rfl)) (by unfold Func.isWrapper; first | (rw [if_pos (by decide +kernel)]; kernel_rfl) | (rw [if_neg (by decide +kernel)]; exact ⟨rfl, rfl⟩))
    (fun os started H enc _ => lifted os started H enc)

/-- The given statement: the tied card. -/
theorem proved : Rows.LatchOrderCardSaid :=
  Claim7.holds_tied_plain_at .later [] [.handle, .data] true (true, "d47da573c139323a2d3ffb97e069444c56f44381508be9b6753f4f5b74787098") true
    over (fun _ h => by cases h) (by kernel_rfl) (fun _ h => by cases h) latchOrder_row_tie rfl ⟨rfl, rfl⟩ (by kernel_rfl) rfl
    (fun f fn hf hfn => by
      obtain rfl : f = 6 := Option.some.inj ((show Tryd.prog.funcNamed "quadrille/quadrillekeep.LatchOrder" = some 6 by kernel_rfl).symm.trans hf) |>.symm
      obtain rfl : fn = Tryd.f6 := (Option.some.inj (Tryd.func6.symm.trans hfn)).symm
      refine ⟨by kernel_rfl, fun j t ht => ?_⟩
      rw [Tryd.params6] at ht
      have hm : t ∈ [22, 3, 23] := by
        have := Array.mem_of_getElem? ht
        simpa using this
      have hall : ([22, 3, 23].all fun u => !Tryd.prog.wantsStandIn u) = true := by kernel_rfl
      exact (show Tryd.prog.wantsStandIn t = false by simpa using List.all_eq_true.1 hall t hm))
    (by kernel_rfl)
#print axioms proved
end Go.Proofs.YtdfljhechmanlaaDoor.latchOrder
