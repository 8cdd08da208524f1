/-
  ONE OFFER AT A TIME: whichever threads trade, and whoever goes on when, where the first one leaves what it has there is nothing, or what somebody has who isn't answered yet: for all arguments, without conditions.
-/
import Derived.Test.YtlcffeiolpggfaaDoorQN3
import Derived.Laws.Bits64b
import Derived.Test.YtlcffeiolpggfaaDoorRows
import Derived.Test.YtlcffeiolpggfaaDoorCards
import Derived.Test.YtlcffeiolpggfaaDoorTie
import Derived.WalkKit
import Derived.ProofKit
import Derived.OpenShut
import Derived.ChangeOld
import Derived.Below
import Derived.ChangeSame
import Derived.ChangeVars
import Derived.JoinedOf
import Derived.RowKitTokens
import Derived.LaidLaws
import Derived.LaidHandle
import Derived.Stop.Joined
import Derived.SevenTiedAt
import Derived.Lib.LaidTab
import Derived.Lib.LaidIn
import Derived.ChangeMaps5
import Derived.Test.YtlcffeiolpggfaaDoorQE3
import Derived.Test.YtlcffeiolpggfaaDoorQE
import Derived.Test.YtlcffeiolpggfaaDoorQL2
namespace Go.Proofs.YtlcffeiolpggfaaDoor
set_option maxRecDepth 100000
open Go.RowKit Go.Shelf Go.Sort
set_option linter.unusedVariables false
set_option linter.unusedSimpArgs false

theorem and16 {v : Int} (h0 : 0 ≤ v) (h1 : v < 100000000) : bits BinOp.and IntKind.u64 v 65535 = v % 65536 := by
  obtain ⟨n, rfl⟩ : ∃ n : Nat, v = n := ⟨v.toNat, by omega⟩
  have h := bits_and_u64_nat n 65535 (by omega) (by omega)
  have e : n &&& 65535 = n % 65536 := Nat.and_two_pow_sub_one_eq_mod n 16
  rw [e] at h
  exact h
theorem td_slots {Ls : List (List Trd)} {h : TdOk Ls} {p : Nat} {m : Mach} (hm : TdM h p m) : ∀ x ∈ m.acts, actT x := by
  obtain ⟨S, hS⟩ := hm
  exact (tdM_inv hS).acts
set_option maxHeartbeats 4000000 in
theorem tradeSlots_any {w : World} (hw : CW w) (A : Option Addr) (n cap : Nat) (ls : List (List Int)) (hR : IRows w w.heap.size A n ls) (hcap : n ≤ cap) (D : Option Addr) (nm cm : Nat) (l : List (Int × Bool)) (hl : Moves w w.heap.size D nm l) :
    Calls Tryd.prog 5 #[.slice A n cap, .slice D nm cm] w fun e w' => e = .returned (.bool true) ∧ Below w.heap.size w w' := by
  have HLt := Lib.hid (swapped_any hw)
  have HR := Lib.hid hR
  have HMv := Lib.hid hl
  have HW := Lib.hid hw
  have HCap := Lib.hid hcap
  obtain ⟨C, hC, hmk⟩ := make_words
  have HC := Lib.hid hC
  clear hR hl hw hcap hC
  go_enter Tryd.func5, Tryd.ntmps5
  go_wp2_with fail
  refine HLt.out.mono ?_
  rintro e w1 ⟨rfl, hb1⟩
  have HB1 := Lib.hid hb1
  clear hb1 HLt
  by_cases h9 : 500 < nm
  · have h9' : (500 : Int) < (nm : Int) := by omega
    go_wp2
    go_ret
    exact ⟨rfl, HB1.out⟩
  have h9' : ¬ (500 : Int) < (nm : Int) := by omega
  have HN5 := Lib.hid (show nm ≤ 500 by omega)
  go_wp2_with fail
  refine (trades_any A n cap ls (HR.out.old HB1.out) HCap.out).mono ?_
  rintro e w2 ⟨k2, v2, hk8, rfl, ⟨A2, c2, qs, rfl, hN, hqs, hq6⟩⟩
  have hok := tdLs_ok (qs := qs) (by omega) hq6
  have hb2 := HB1.out.trans (hN.bel.mono HB1.out.size)
  have HMd := Lib.hid (tdmade3 HW.out hb2 hok A2 D k2 c2 nm cm hN.calls l HMv.out HN5.out C HC.out)
  have HB2 := Lib.hid hb2
  clear hN hb2 hqs hq6 HB1 HR HCap
  go_wp2_with fail
  --MB
  refine HMd.out.mono ?_
  rintro e w3 ⟨c, m, rfl, hA, -⟩
  have HO := Lib.hid (td_slots hA.la)
  have hla : m.acts.length ≤ 20000 := by have := hA.big.acts; have := hA.big.most; omega
  have HAc := Lib.hid (at_acts hA.at_ hla)
  have HLa := Lib.hid hla
  have HA2 := Lib.hid hA.at_
  clear hA HMd hla hmk
  go_wp2_with fail
  refine HAc.out.mono ?_
  rintro e w5 ⟨A5, c5, rfl, ho5, hg5⟩
  have HB5 := Lib.hid (HB2.out.trans ((HA2.out.grow hg5).bel.mono HB2.out.size))
  have HR5 := Lib.hid (actRow_own ho5 rfl)
  clear ho5 hg5 HAc HA2 HB2
  generalize m.acts = ac at *
  obtain ⟨na, hna⟩ : ∃ na, ac.length = na := ⟨_, rfl⟩
  rw [hna] at HR5 HLa ⊢
  have HNa := Lib.hid hna
  clear hna
  go_wp2
  --MC
  go_loopw [26] (fun j wr => ∃ i : Nat, i ≤ na ∧ j = .int .i64 i ∧ Below w5.heap.size w5 wr) (fun j _ => na - (intOf j).toNat)
  case atStart => exact ⟨0, Nat.zero_le _, rfl, Below.refl _ _⟩
  case round =>
    obtain ⟨i, hi, rfl, hm⟩ := hrel
    by_cases hlt : i < na
    · have hin : (i : Int) < (na : Int) := by omega
      obtain ⟨b, off, hA, x0, x1, x2, x3, x4, x5⟩ := (HR5.out.below hm) i hlt
      subst hA
      have hmem : ac.getD i default ∈ ac := by rw [List.getD_eq_getElem?_getD, List.getElem?_eq_getElem (by rw [HNa.out]; exact hlt)]; exact List.getElem_mem _
      have ho := HO.out _ hmem
      have HM := Lib.hid (fun o => hm.alloc hm.size o)
      have HI := Lib.hid (by have := HLa.out; omega : i < 20000)
      generalize ac.getD i default = x at *
      obtain ⟨v0, v1, v2, v3, v4, v5⟩ := x
      unfold actT at ho
      dsimp only at x0 x1 x2 x3 x4 x5 ho
      clear hm hmem
      by_cases hz : v3 = 0
      · subst hz
        by_cases he : v4 = v5
        · subst he
          have hne : (v4 == v4) = true := by simp
          clear ho
          have hi2 := HI.out
          go_wp2
          go_roundw
          case rel => exact ⟨i + 1, by omega, by go_num, HM.out _⟩
          case measure => simp [intOf]; omega
        · obtain ⟨rfl, o1, o2, o3, o4, o5, o6, o7⟩ := ho rfl he
          have hne : (v4 == v5) = false := by simpa using he
          have h9b : ((9 : Int) != 9) = false := by decide
          rcases o1 with rfl | rfl
          · have hz5 : (v5 != 0) = true := by simpa using Ne.symm he
            have HA5 := Lib.hid (and16 o6 o7)
            have ht := o2 (Ne.symm he)
            obtain ⟨t, htt⟩ : ∃ t, v5 % 65536 = t := ⟨_, rfl⟩
            rw [htt] at HA5 ht
            have htb : 0 ≤ t ∧ t < 65536 := by omega
            have HW1 := Lib.hid (show wrap64 t = t by unfold wrap64; omega)
            have HW2 := Lib.hid (show wrap64 (t - 1) = v1 by unfold wrap64; omega)
            have hvv : (v1 != v1) = false := by simp
            clear o2 o3 o4 o5 o6 o7 he htb ht htt
            have hi2 := HI.out
            have ha5 := HA5.out
            have hw1 := HW1.out
            have hw2 := HW2.out
            --MD
            go_wp2
            --ME
            go_roundw
            case rel => exact ⟨i + 1, by omega, by go_num, HM.out _⟩
            case measure => simp [intOf]; omega
          · have hz4 : (v4 != 0) = true := by simpa using he
            have HA4 := Lib.hid (and16 o4 o5)
            have ht := o3 he
            obtain ⟨t, htt⟩ : ∃ t, v4 % 65536 = t := ⟨_, rfl⟩
            rw [htt] at HA4 ht
            have htb : 0 ≤ t ∧ t < 65536 := by omega
            have HW1 := Lib.hid (show wrap64 t = t by unfold wrap64; omega)
            obtain ⟨u, hu⟩ : ∃ u, t - 1 = u := ⟨_, rfl⟩
            rw [hu] at ht
            have HW2 := Lib.hid (show wrap64 (t - 1) = u by unfold wrap64; omega)
            have hvv : (u == v1) = false := by simpa using ht
            have HA0 := Lib.hid (show bits BinOp.and IntKind.u64 0 65535 = 0 from and16 (by decide) (by decide))
            clear o2 o3 o4 o5 o6 o7 he htb ht htt hu
            have hi2 := HI.out
            have ha4 := HA4.out
            have ha0 := HA0.out
            have hw1 := HW1.out
            have hw2 := HW2.out
            go_wp2
            go_roundw
            case rel => exact ⟨i + 1, by omega, by go_num, HM.out _⟩
            case measure => simp [intOf]; omega
      · have hz3 : (v3 != 0) = true := by simpa using hz
        clear ho
        have hi2 := HI.out
        go_wp2
        go_roundw
        case rel => exact ⟨i + 1, by omega, by go_num, HM.out _⟩
        case measure => simp [intOf]; omega
    · have hin : ¬ (i : Int) < (na : Int) := by omega
      have HM := Lib.hid (HB5.out.trans (hm.mono HB5.out.size))
      clear hm
      go_wp2
      go_ret
      exact ⟨rfl, HM.out⟩
end Go.Proofs.YtlcffeiolpggfaaDoor

namespace Go.Proofs.YtlcffeiolpggfaaDoor.tradeSlots
open Go.ChangeShapes Go.WideShapes Go.ChangeAt Go.RowKit
set_option linter.unusedVariables false

theorem own : ownKnob Tryd.prog.godebug = none := by kernel_rfl
theorem laidOut : laidOutB Tryd.prog = true := by kernel_rfl
theorem tsize : Tryd.prog.types.size = 203 := by kernel_rfl

/-- What the listed variables give the walk. -/
theorem cw_of {W : World} (h : laidMetH Tryd.prog Rows.tradeSlotsRow.laid W) : CW W := by
  have h' : laidMet Tryd.prog (Rows.tradeSlotsRow.laid.filter fun x => x.2.handleName?.isNone) W ∧ handlesMet Tryd.prog (Rows.tradeSlotsRow.laid.filter fun x => x.2.handleName?.isSome) W := h
  exact cw_of_laid h'.1 (List.mem_filter.2 ⟨.tail _ (.head _), rfl⟩)

/-- So many blocks has the settled world. -/
noncomputable def low : Nat := (World.holding Tryd.prog default ⟨#[], #[], []⟩).heap.size
def put (o : Obj) (cs : Array Value) : Obj := match o with
  | .cells _ t frozen => .cells cs t frozen
  | o => o
def tab (k : IntKind) (zs : List Int) : Array Value := (zs.map fun z => Value.int k z).toArray
/-- A world that meets the condition. -/
noncomputable def laidWorld (os : Os) : World :=
  let w0 := World.holding Tryd.prog os ⟨#[], #[], []⟩
  { w0 with heap := ((w0.heap.modify 1 (put · #[.iface 157 (.agg #[.pointer (some ⟨2, 39, none⟩)])])).modify 0 (put · formCells)) }
theorem laidWorld_met (os : Os) (args : Array Value) : laidMetH Tryd.prog Rows.tradeSlotsRow.laid ((laidWorld os).forCall (fun _ _ => 0) ⟨#[], args, []⟩).memory :=
  laidMetH_of_parts (LaidIn.of_run [0] 8 (by kernel_rfl) (by kernel_rfl) (by kernel_rfl) (by kernel_rfl)).met (by kernel_rfl)

/-- The walk. -/
theorem walk (a0 : Option Addr) (len0 cap0 : Nat) (nods0 : List (List Int)) (a1 : Option Addr) (len1 cap1 : Nat) (nods1 : List (Int × Bool)) (w : World) (hw : CW w) (N0 : IRows w w.heap.size a0 len0 nods0) (I0 : len0 ≤ cap0) (N1 : Moves w w.heap.size a1 len1 nods1) (I1 : True) :
    Calls Tryd.prog 5 #[.slice a0 len0 cap0, .slice a1 len1 cap1] w fun e w' => e = .returned (.bool true) ∧ Below w.heap.size w w' := by
  exact tradeSlots_any hw a0 len0 cap0 nods0 N0 I0 a1 len1 cap1 nods1 N1

set_option maxRecDepth 100000 in
theorem lifted (os : Os) (started : os.Started) (H : Type) (enc : TypeId × Value → H) :
    ReturnsInHanded {} Tryd.checked os 5 .any (fun w args => (Rows.tradeSlotsSpec.pre enc Tryd.prog Tryd.f5 [] false w args ∧ laidMetH Tryd.prog Rows.tradeSlotsRow.laid w) ∧ sizedMet enc Tryd.prog Tryd.f5 (OpenSpec.ofChange Rows.tradeSlotsSpec) false w args)
      (Rows.tradeSlotsSpec.post enc Tryd.prog Tryd.f5 false true false false) := by
  refine returnsInHanded_of_change_and (C := Tryd.checked) (X := fun w _ => laidMetH Tryd.prog Rows.tradeSlotsRow.laid w) (fun _ _ _ hh h => h.of_heap hh) own started (by kernel_rfl) Tryd.func5
    (ChangeSpec.witness_at (enc := enc) (C := Tryd.checked) (os := os) (X := fun w _ => laidMetH Tryd.prog Rows.tradeSlotsRow.laid w) false (laidWorld os) #[.slice none 0 0, .slice none 0 0] 8 rfl (by kernel_rfl) (by kernel_rfl) (by kernel_rfl) (by kernel_rfl) (by kernel_rfl) (laidWorld_met os _)) ?_
  intro W base args ds gs before hval0 hW _ _ hL _
  have hval : ∀ (j : Nat) t v, Tryd.f5.params[j]? = some t → args[j]? = some v → Value.okWide Tryd.prog W .any base t v := hval0
  have hW' := hW
  obtain ⟨p, q, hA0, hV0, rfl, hfz, hnd⟩ := hW
  have hA : DataW.TrodAll enc Tryd.prog W 0 (fun _ => true) true Tryd.f5.params.toList args.toList ds p := hA0
  have hV : DataW.TrodVars enc Tryd.prog W (fun _ => true) [] gs q := hV0
  rw [Tryd.params5] at hA hval
  obtain ⟨v0, vs0, d0, ds0, p0, q0, hargs, rfl, rfl, h0, r0⟩ := trodAll_cons hA
  obtain ⟨v1, vs1, d1, ds1, p1, q1, rfl, rfl, rfl, h1, r1⟩ := trodAll_cons r0
  obtain ⟨rfl, rfl, rfl⟩ := trodAll_nil r1
  obtain rfl : args = #[v0, v1] := by cases args; simp_all
  obtain ⟨rfl, rfl⟩ : gs = [] ∧ q = [] := by
    cases gs with
    | nil => exact ⟨rfl, hV⟩
    | cons g r => exact absurd hV (by intro h; cases h)
  obtain ⟨a0, len0, cap0, rfl⟩ := okWide_slice Tryd.underlying22 (hval 0 22 v0 rfl rfl)
  have k0 := h0
  have lt0 : ∀ x ∈ p0, x.block < W.heap.size := by obtain ⟨m, hm⟩ := k0; exact DataW.trod_lt m _ _ _ hm
  obtain ⟨nods0, N0, I0⟩ : ∃ nods, IRows W W.heap.size a0 len0 nods ∧ len0 ≤ cap0 := by
    obtain ⟨fuel, hf⟩ := h0
    obtain ⟨ls, hl⟩ := intss_of (a := a0) (len := len0) (cap := cap0) hf; exact ⟨ls, hl, cap_slice Tryd.underlying22 hf⟩
  obtain ⟨a1, len1, cap1, rfl⟩ := okWide_slice Tryd.underlying23 (hval 1 23 v1 rfl rfl)
  have k1 := h1
  have lt1 : ∀ x ∈ p1, x.block < W.heap.size := by obtain ⟨m, hm⟩ := k1; exact DataW.trod_lt m _ _ _ hm
  obtain ⟨nods1, N1, I1⟩ : ∃ nods, Moves W W.heap.size a1 len1 nods ∧ True := by
    obtain ⟨fuel, hf⟩ := h1
    obtain ⟨l, hl⟩ := moves_of (a := a1) (len := len1) (cap := cap1) hf; exact ⟨l, hl, trivial⟩
  have hw := cw_of hL
  clear hA0 hval0
  refine (walk a0 len0 cap0 nods0 a1 len1 cap1 nods1 W hw N0 I0 N1 I1).mono fun e W' ⟨he, bel⟩ => ?_
  subst he
  exact ⟨_, rfl, _, _, _, [], _, [], hW', trodAll_mk1 (shut_bool Tryd.underlying4 _), (trodAll_cons_mk (Below.trod laidOut (by kernel_rfl) (of_decide_eq_true (by kernel_rfl)) k0 bel lt0) (trodAll_cons_mk (Below.trod laidOut (by kernel_rfl) (of_decide_eq_true (by kernel_rfl)) k1 bel lt1) trodAll_mk0)), rfl, bel.frame _, fun h => by cases h⟩

theorem over : Rows.TradeSlotsSaid :=
  OpenClaim.holds_of_wide 5 Tryd.f5 rfl rfl rfl rfl rfl rfl rfl ⟨rfl, rfl, rfl, rfl, rfl⟩ rfl rfl rfl rfl rfl (by kernel_rfl) Tryd.func5 (by kernel_rfl)
    (of_decide_eq_true (by kernel_rfl)) (by unfold Func.isWrapper; first | (rw [if_pos (by decide +kernel)]; kernel_rfl) | (rw [if_neg (by decide +kernel)]; exact ⟨rfl, rfl⟩))
    (fun os started H enc _ => lifted os started H enc)

/-- The given statement: the tied card. -/
theorem proved : Rows.TradeSlotsCardSaid :=
  Claim7.holds_tied_plain_at .later [] [.handle, .data] true (true, "2b77dcc38a4182b78a73dd2631583c6f797fb6ae126ce060a626d783a5fb59f6") true
    over (fun _ h => by cases h) (by kernel_rfl) (fun _ h => by cases h) tradeSlots_row_tie rfl ⟨rfl, rfl⟩ (by kernel_rfl) rfl
    (fun f fn hf hfn => by
      obtain rfl : f = 5 := Option.some.inj ((show Tryd.prog.funcNamed "quadrille/quadrillekeep.TradeSlots" = some 5 by kernel_rfl).symm.trans hf) |>.symm
      obtain rfl : fn = Tryd.f5 := (Option.some.inj (Tryd.func5.symm.trans hfn)).symm
      refine ⟨by kernel_rfl, fun j t ht => ?_⟩
      rw [Tryd.params5] at ht
      have hm : t ∈ [22, 23] := by
        have := Array.mem_of_getElem? ht
        simpa using this
      have hall : ([22, 23].all fun u => !Tryd.prog.wantsStandIn u) = true := by kernel_rfl
      exact (show Tryd.prog.wantsStandIn t = false by simpa using List.all_eq_true.1 hall t hm))
    (by kernel_rfl)
#print axioms proved
end Go.Proofs.YtlcffeiolpggfaaDoor.tradeSlots
