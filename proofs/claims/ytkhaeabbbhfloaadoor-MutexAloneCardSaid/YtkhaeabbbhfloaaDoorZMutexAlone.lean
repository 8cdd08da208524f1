/-
  WHO IS ALONE PAYS LITTLE: it never sleeps, nobody may wait, and a lock is six steps, and freeing it seven: so at all arguments.
-/
import Derived.Test.YtkhaeabbbhfloaaDoorQN4
import Derived.Test.YtkhaeabbbhfloaaDoorRows
import Derived.Test.YtkhaeabbbhfloaaDoorCards
import Derived.Test.YtkhaeabbbhfloaaDoorTie
import Derived.WalkKit
import Derived.ProofKit
import Derived.OpenShut
import Derived.ChangeOld
import Derived.Below
import Derived.ChangeSame
import Derived.ChangeVars
import Derived.JoinedOf
import Derived.RowKitTokens
import Derived.LaidLaws
import Derived.LaidHandle
import Derived.Stop.Joined
import Derived.SevenTiedAt
import Derived.Lib.LaidTab
import Derived.Lib.LaidIn
import Derived.ChangeMaps5
import Derived.Test.YtkhaeabbbhfloaaDoorQE
namespace Go.Proofs.YtkhaeabbbhfloaaDoor
set_option maxRecDepth 100000
open Go.RowKit Go.Shelf Go.Sort
set_option linter.unusedVariables false
set_option linter.unusedSimpArgs false

set_option maxHeartbeats 4000000 in
theorem mutexAlone_any {w : World} (hw : CW w) (times : Int) :
    Calls Tryd.prog 5 #[.int .i64 times] w fun e w' => e = .returned (.bool true) ∧ Below w.heap.size w w' := by
  have HLt := Lib.hid (locked_any hw)
  have HP2 := Lib.hid (fun w => pick_det times 6 6 w rfl (by decide) (by decide))
  have p3 := pickI_lo times 6
  have p4 := pickI_hi times 6 (by decide)
  obtain ⟨d, hd⟩ : ∃ d : Nat, pickI times 6 = (d : Int) := ⟨(pickI times 6).toNat, by omega⟩
  rw [hd] at HP2 p3 p4
  have HD := Lib.hid (show d ≤ 5 by omega)
  have HW := Lib.hid hw
  clear hw hd p3 p4
  go_enter Tryd.func5, Tryd.ntmps5
  go_wp2_with fail
  refine HLt.out.mono ?_
  rintro e w1 ⟨rfl, hb1⟩
  have HB1 := Lib.hid hb1
  clear hb1 HLt
  go_wp2_with fail
  refine (HP2.out _).mono ?_
  rintro e w2 ⟨rfl, rfl⟩
  clear HP2
  go_wp2_with fail
  refine (lockers_any 1 d (by decide) HD.out w1).mono ?_
  rintro e wr ⟨Av, cv, rfl, hNs⟩
  have hb2 := hNs.bel
  have HMd := Lib.hid (mumade3 (HW.out.old HB1.out) hb2 (loLs 1 d) (by rw [loLs_len]; decide) (loLs_few HD.out) Av none 1 cv 0 0 hNs.calls [] ⟨rfl, fun h => absurd h (by omega)⟩ (by decide))
  have HB2 := Lib.hid hb2
  clear hNs hb2
  go_wp2_with fail
  --MARKC
  refine HMd.out.mono ?_
  rintro e w3 ⟨c, rfl, hA⟩
  have HA3 := Lib.hid (show At wr c (soloM 0 (muM0 1 d)) w3 ∧ MBig [0] (soloM 0 (muM0 1 d)) from ⟨hA.at_, hA.big⟩)
  obtain ⟨K, hK⟩ : ∃ K : Nat, 13 * d = K := ⟨_, rfl⟩
  obtain ⟨g1, g2, g3, g4⟩ := mu_alone HD.out
  rw [hK] at g1 g2 g3 g4
  have hk1 : wrap64 (13 * (d : Int)) = (K : Int) := by have := HD.out; unfold wrap64; omega
  have HK := Lib.hid (show K ≤ 65 by have := HD.out; omega)
  have HG := Lib.hid (And.intro g1 (And.intro g2 (And.intro g3 g4)))
  obtain ⟨m0, hm0⟩ : ∃ m0, muM0 1 d = m0 := ⟨_, rfl⟩
  rw [hm0] at HG HA3
  clear hA HMd hK g1 g2 g3 g4 hm0
  go_wp2
  rw [hk1]
  clear hk1
  go_loopw [17] (fun j w4 => ∃ i : Nat, i ≤ K ∧ j = .int .i64 i ∧ At wr c (soloM i m0) w4 ∧ MBig [0] (soloM i m0)) (fun j _ => K - (intOf j).toNat)
  case atStart => exact ⟨0, Nat.zero_le _, rfl, HA3.out⟩
  case round =>
    obtain ⟨i, hi, rfl, hA, hbig⟩ := hrel
    by_cases hlt : i < K
    · have hin : (i : Int) < (K : Int) := by omega
      have hi65 : i < 65 := by have := HK.out; omega
      obtain ⟨e0, hlow⟩ := alone_at K m0 i HG.out.1 hlt
      obtain ⟨v, hv, hv0, hv1⟩ := low_is hlow
      have HS := Lib.hid (at_step hA hbig 0)
      rw [e0, ← soloM_snoc, show errV 0 = Value.nilIface from rfl] at HS
      have HBig := Lib.hid (show MBig [0] (soloM (i + 1) m0) by rw [soloM_snoc]; exact hbig.step 0)
      have HV := Lib.hid hv
      have hv2 : ¬ (1 : Int) < v := by omega
      clear hA hbig hlow e0 hv hv0 hv1 HA3
      go_wp2_with fail
      refine HS.out.mono ?_
      rintro e w5 ⟨rfl, hA5⟩
      have HA5 := Lib.hid hA5
      have HCe := Lib.hid (at_cells HA5.out (by rw [HV.out]; exact Nat.le_of_ble_eq_true rfl))
      rw [HV.out] at HCe
      clear hA5 HS
      go_wp2_with fail
      refine HCe.out.mono ?_
      rintro e w6 ⟨A6, c6, rfl, ho6, hg6⟩
      have HA6 := Lib.hid (HA5.out.grow hg6)
      have hI6 : Ints .u64 w6 w6.heap.size A6 1 [v] := Ints.of_own ho6
      obtain ⟨b6, off6, hA6, _, hx6⟩ := hI6.row (by decide)
      subst hA6
      have hc6 : w6.cell? ⟨b6, off6, none⟩ = some (.int .u64 v) := hx6 0 (by decide)
      clear hI6 hx6 ho6 hg6 HCe HA5
      go_wp2
      go_roundw
      case rel => exact ⟨i + 1, by omega, by go_num, HA6.out, HBig.out⟩
      case measure => simp [intOf]; omega
    · have hin : ¬ (i : Int) < (K : Int) := by omega
      obtain rfl : i = K := by omega
      have HA4 := Lib.hid hA
      have HBg := Lib.hid hbig
      have HEv := Lib.hid (at_events hA (by rw [HG.out.2.1]; have := HD.out; omega))
      rw [HG.out.2.1] at HEv
      obtain ⟨z, hz⟩ : ∃ z : Nat, 2 * d = z := ⟨_, rfl⟩
      rw [hz] at HEv
      have hz1 : wrap64 (2 * (d : Int)) = (z : Int) := by have := HD.out; unfold wrap64; omega
      have hz10 : z ≤ 10 := by have := HD.out; omega
      have hzz : ((z : Int) == (z : Int)) = true := by simp
      clear hA hbig hz HA3
      go_wp2_with fail
      refine HEv.out.mono ?_
      rintro e w5 ⟨A5, c5, rfl, -, hg5⟩
      have HS := Lib.hid (at_step (HA4.out.grow hg5) HBg.out 0)
      rw [HG.out.2.2.1, show errV 0 = Value.nilIface from rfl] at HS
      clear hg5 HA4 HEv
      go_wp2_with fail
      refine HS.out.mono ?_
      rintro e w6 ⟨rfl, hA6⟩
      have HS2 := Lib.hid (at_step hA6 (HBg.out.step 0) 0)
      rw [HG.out.2.2.2, show errV 6 = Value.iface 80 (.int .i64 6) from rfl] at HS2
      clear hA6 HS
      go_wp2_with fail
      refine HS2.out.mono ?_
      rintro e w7 ⟨rfl, hA7⟩
      have HB7 := Lib.hid (HB1.out.trans ((HB2.out.trans (hA7.bel.mono HB2.out.size)).mono HB1.out.size))
      clear hA7 HS2
      go_wp2
      go_ret
      exact ⟨rfl, HB7.out⟩
end Go.Proofs.YtkhaeabbbhfloaaDoor

namespace Go.Proofs.YtkhaeabbbhfloaaDoor.mutexAlone
open Go.ChangeShapes Go.WideShapes Go.ChangeAt Go.RowKit
set_option linter.unusedVariables false

theorem own : ownKnob Tryd.prog.godebug = none := by kernel_rfl
theorem laidOut : laidOutB Tryd.prog = true := by kernel_rfl
theorem tsize : Tryd.prog.types.size = 203 := by kernel_rfl

/-- What the listed variables give the walk. -/
theorem cw_of {W : World} (h : laidMetH Tryd.prog Rows.mutexAloneRow.laid W) : CW W := by
  have h' : laidMet Tryd.prog (Rows.mutexAloneRow.laid.filter fun x => x.2.handleName?.isNone) W ∧ handlesMet Tryd.prog (Rows.mutexAloneRow.laid.filter fun x => x.2.handleName?.isSome) W := h
  exact cw_of_laid h'.1 (List.mem_filter.2 ⟨.tail _ (.head _), rfl⟩)

/-- So many blocks has the settled world. -/
noncomputable def low : Nat := (World.holding Tryd.prog default ⟨#[], #[], []⟩).heap.size
def put (o : Obj) (cs : Array Value) : Obj := match o with
  | .cells _ t frozen => .cells cs t frozen
  | o => o
def tab (k : IntKind) (zs : List Int) : Array Value := (zs.map fun z => Value.int k z).toArray
/-- A world that meets the condition. -/
noncomputable def laidWorld (os : Os) : World :=
  let w0 := World.holding Tryd.prog os ⟨#[], #[], []⟩
  { w0 with heap := ((w0.heap.modify 1 (put · #[.iface 160 (.agg #[.pointer (some ⟨2, 46, none⟩)])])).modify 0 (put · formCells)) }
theorem laidWorld_met (os : Os) (args : Array Value) : laidMetH Tryd.prog Rows.mutexAloneRow.laid ((laidWorld os).forCall (fun _ _ => 0) ⟨#[], args, []⟩).memory :=
  laidMetH_of_parts (LaidIn.of_run [0] 8 (by kernel_rfl) (by kernel_rfl) (by kernel_rfl) (by kernel_rfl)).met (by kernel_rfl)

/-- The walk. -/
theorem walk (a0 : Int) (w : World) (hw : CW w)  :
    Calls Tryd.prog 5 #[.int .i64 a0] w fun e w' => e = .returned (.bool true) ∧ Below w.heap.size w w' := by
  exact mutexAlone_any hw a0

set_option maxRecDepth 100000 in
theorem lifted (os : Os) (started : os.Started) (H : Type) (enc : TypeId × Value → H) :
    ReturnsInHanded {} Tryd.checked os 5 .any (fun w args => (Rows.mutexAloneSpec.pre enc Tryd.prog Tryd.f5 [] false w args ∧ laidMetH Tryd.prog Rows.mutexAloneRow.laid w) ∧ sizedMet enc Tryd.prog Tryd.f5 (OpenSpec.ofChange Rows.mutexAloneSpec) false w args)
      (Rows.mutexAloneSpec.post enc Tryd.prog Tryd.f5 false true false false) := by
  refine returnsInHanded_of_change_and (C := Tryd.checked) (X := fun w _ => laidMetH Tryd.prog Rows.mutexAloneRow.laid w) (fun _ _ _ hh h => h.of_heap hh) own started (by kernel_rfl) Tryd.func5
    (ChangeSpec.witness_at (enc := enc) (C := Tryd.checked) (os := os) (X := fun w _ => laidMetH Tryd.prog Rows.mutexAloneRow.laid w) false (laidWorld os) #[.int .i64 0] 8 rfl (by kernel_rfl) (by kernel_rfl) (by kernel_rfl) (by kernel_rfl) (by kernel_rfl) (laidWorld_met os _)) ?_
  intro W base args ds gs before hval0 hW _ _ hL _
  have hval : ∀ (j : Nat) t v, Tryd.f5.params[j]? = some t → args[j]? = some v → Value.okWide Tryd.prog W .any base t v := hval0
  have hW' := hW
  obtain ⟨p, q, hA0, hV0, rfl, hfz, hnd⟩ := hW
  have hA : DataW.TrodAll enc Tryd.prog W 0 (fun _ => true) true Tryd.f5.params.toList args.toList ds p := hA0
  have hV : DataW.TrodVars enc Tryd.prog W (fun _ => true) [] gs q := hV0
  rw [Tryd.params5] at hA hval
  obtain ⟨v0, vs0, d0, ds0, p0, q0, hargs, rfl, rfl, h0, r0⟩ := trodAll_cons hA
  obtain ⟨rfl, rfl, rfl⟩ := trodAll_nil r0
  obtain rfl : args = #[v0] := by cases args; simp_all
  obtain ⟨rfl, rfl⟩ : gs = [] ∧ q = [] := by
    cases gs with
    | nil => exact ⟨rfl, hV⟩
    | cons g r => exact absurd hV (by intro h; cases h)
  obtain ⟨a0, rfl, rfl, rfl, w0⟩ := open_int Tryd.underlying3 (hval 0 3 v0 rfl rfl) h0
  have hw := cw_of hL
  clear hA0 hval0
  refine (walk a0 W hw ).mono fun e W' ⟨he, bel⟩ => ?_
  subst he
  exact ⟨_, rfl, _, _, _, [], _, [], hW', trodAll_mk1 (shut_bool Tryd.underlying4 _), (trodAll_cons_mk (shut_int Tryd.underlying3 w0) trodAll_mk0), rfl, bel.frame _, fun h => by cases h⟩

theorem over : Rows.MutexAloneSaid :=
  OpenClaim.holds_of_wide 5 Tryd.f5 rfl rfl rfl rfl rfl rfl rfl ⟨rfl, rfl, rfl, rfl, rfl⟩ rfl rfl rfl rfl rfl (by kernel_rfl) Tryd.func5 (by kernel_rfl)
    (of_decide_eq_true (by kernel_rfl)) (by unfold Func.isWrapper; first | (rw [if_pos (by decide +kernel)]; kernel_rfl) | (rw [if_neg (by decide +kernel)]; exact ⟨rfl, rfl⟩))
    (fun os started H enc _ => lifted os started H enc)

/-- The given statement: the tied card. -/
theorem proved : Rows.MutexAloneCardSaid :=
  Claim7.holds_tied_plain_at .later [] [.handle, .data] true (true, "2608b3033910442297c65e2168a80dfa3332f49bdf4635b148b5ba119a09d328") true
    over (fun _ h => by cases h) (by kernel_rfl) (fun _ h => by cases h) mutexAlone_row_tie rfl ⟨rfl, rfl⟩ (by kernel_rfl) rfl
    (fun f fn hf hfn => by
      obtain rfl : f = 5 := Option.some.inj ((show Tryd.prog.funcNamed "quadrille/quadrillekeep.MutexAlone" = some 5 by kernel_rfl).symm.trans hf) |>.symm
      obtain rfl : fn = Tryd.f5 := (Option.some.inj (Tryd.func5.symm.trans hfn)).symm
      refine ⟨by kernel_rfl, fun j t ht => ?_⟩
      rw [Tryd.params5] at ht
      have hm : t ∈ [3] := by
        have := Array.mem_of_getElem? ht
        simpa using this
      have hall : ([3].all fun u => !Tryd.prog.wantsStandIn u) = true := by kernel_rfl
      exact (show Tryd.prog.wantsStandIn t = false by simpa using List.all_eq_true.1 hall t hm))
    (by kernel_rfl)
#print axioms proved
end Go.Proofs.YtkhaeabbbhfloaaDoor.mutexAlone
