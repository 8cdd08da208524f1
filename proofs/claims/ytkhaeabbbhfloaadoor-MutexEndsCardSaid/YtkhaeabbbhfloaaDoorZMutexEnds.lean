/-
  EACH HAS ITS TURN: at last all who lock and unlock are at their ends, and the mutex is free: so at all arguments.
-/
import Derived.Test.YtkhaeabbbhfloaaDoorQN4
import Derived.Test.YtkhaeabbbhfloaaDoorRows
import Derived.Test.YtkhaeabbbhfloaaDoorCards
import Derived.Test.YtkhaeabbbhfloaaDoorTie
import Derived.WalkKit
import Derived.ProofKit
import Derived.OpenShut
import Derived.ChangeOld
import Derived.Below
import Derived.ChangeSame
import Derived.ChangeVars
import Derived.JoinedOf
import Derived.RowKitTokens
import Derived.LaidLaws
import Derived.LaidHandle
import Derived.Stop.Joined
import Derived.SevenTiedAt
import Derived.Lib.LaidTab
import Derived.Lib.LaidIn
import Derived.ChangeMaps5
import Derived.Test.YtkhaeabbbhfloaaDoorQE3
import Derived.Test.YtkhaeabbbhfloaaDoorQE
namespace Go.Proofs.YtkhaeabbbhfloaaDoor
set_option maxRecDepth 100000
open Go.RowKit Go.Shelf Go.Sort
set_option linter.unusedVariables false
set_option linter.unusedSimpArgs false

set_option maxHeartbeats 4000000 in
theorem mutexEnds_any {w : World} (hw : CW w) (n times : Int) (D : Option Addr) (nm cm : Nat) (l : List (Int × Bool)) (hl : Moves w w.heap.size D nm l) :
    Calls Tryd.prog 4 #[.int .i64 n, .int .i64 times, .slice D nm cm] w fun e w' => e = .returned (.bool true) ∧ Below w.heap.size w w' := by
  have HLt := Lib.hid (locked_any hw)
  have HP := Lib.hid (fun w => pick_det n 8 8 w rfl (by decide) (by decide))
  have HP2 := Lib.hid (fun w => pick_det times 6 6 w rfl (by decide) (by decide))
  have p1 := pickI_lo n 8
  have p2 := pickI_hi n 8 (by decide)
  have p3 := pickI_lo times 6
  have p4 := pickI_hi times 6 (by decide)
  obtain ⟨f, hf⟩ : ∃ f : Nat, pickI n 8 = (f : Int) := ⟨(pickI n 8).toNat, by omega⟩
  obtain ⟨d, hd⟩ : ∃ d : Nat, pickI times 6 = (d : Int) := ⟨(pickI times 6).toNat, by omega⟩
  rw [hf] at HP p1 p2
  rw [hd] at HP2 p3 p4
  obtain ⟨N, hN⟩ : ∃ N : Nat, N = f + 1 := ⟨_, rfl⟩
  have hw1 : wrap64 (1 + (f : Int)) = (N : Int) := by unfold wrap64; omega
  have HN8 := Lib.hid (show N ≤ 8 ∧ d ≤ 5 by omega)
  have HMv := Lib.hid hl
  have HML := Lib.hid hl.len
  have HW := Lib.hid hw
  clear hl hw hf hd p1 p2 p3 p4 hN
  go_enter Tryd.func4, Tryd.ntmps4
  go_wp2_with fail
  refine HLt.out.mono ?_
  rintro e w1 ⟨rfl, hb1⟩
  have HB1 := Lib.hid hb1
  clear hb1 HLt
  by_cases h9 : 600 < nm
  · have h9' : (600 : Int) < (nm : Int) := by omega
    go_wp2
    go_ret
    exact ⟨rfl, HB1.out⟩
  have h9' : ¬ (600 : Int) < (nm : Int) := by omega
  have HN6 := Lib.hid (show nm ≤ 600 by omega)
  go_wp2_with fail
  refine (HP.out _).mono ?_
  rintro e w2 ⟨rfl, rfl⟩
  clear HP
  go_wp2_with fail
  refine (HP2.out _).mono ?_
  rintro e w2 ⟨rfl, rfl⟩
  clear HP2
  go_wp2_with fail
  --MARKA
  refine (lockers_any N d HN8.out.1 HN8.out.2 w1).mono ?_
  rintro e wr ⟨Av, cv, rfl, hNs⟩
  have hb2 := hNs.bel
  have HMd := Lib.hid (mumade3 (HW.out.old HB1.out) hb2 (loLs N d) (by rw [loLs_len]; have := HN8.out.1; omega) (loLs_few HN8.out.2) Av D N cv nm cm hNs.calls l (HMv.out.old HB1.out) (by have := HN6.out; omega))
  have HB2 := Lib.hid hb2
  have HPk := Lib.hid (show pokesM l ≤ 600 by have := pokesM_le l; have := HML.out; have := HN6.out; omega)
  clear hNs hb2 HMv h9 h9' hw1
  go_wp2_with fail
  --MARKC
  refine HMd.out.mono ?_
  rintro e w3 ⟨c, rfl, hA⟩
  have HF := Lib.hid (at_finish hA.at_ hA.big)
  clear hA HMd
  go_wp2_with fail
  refine HF.out.mono ?_
  rintro e w4 ⟨mm, hf, rfl, hA2, hb2⟩
  obtain ⟨f1, f2, f3⟩ := mu_ends HN8.out.1 HN8.out.2 HPk.out hf
  have HE := Lib.hid (at_ends hA2 (hb2.few))
  rw [ends_done f1] at HE
  have HA2 := Lib.hid hA2
  have HC := Lib.hid f2
  obtain ⟨z, hz⟩ : ∃ z : Nat, 2 * N * d = z := ⟨_, rfl⟩
  obtain ⟨g2, hg2⟩ : ∃ g2 : Nat, 2 * N = g2 := ⟨_, rfl⟩
  rw [hz] at f3
  rw [hg2] at hz
  have hz80 : z ≤ 80 := by
    rw [← hz]
    have h1 : g2 * d ≤ 16 * 5 := Nat.mul_le_mul (by have := HN8.out.1; omega) HN8.out.2
    omega
  have hgi : (g2 : Int) * (d : Int) = (z : Int) := by exact_mod_cast hz
  have w1' : wrap64 (2 * (N : Int)) = (g2 : Int) := by have := HN8.out; unfold wrap64; omega
  have w2' : wrap64 ((g2 : Int) * (d : Int)) = (z : Int) := by rw [hgi]; unfold wrap64; omega
  have HV := Lib.hid f3
  have hz20 := hz80
  generalize ((mm.steps : Int) - _) = dd
  clear hf hA2 hb2 f1 f2 f3 HF hz hg2 hgi hz80
  go_wp2_with fail
  refine HE.out.mono ?_
  rintro e w5 ⟨rfl, hg5⟩
  have HA5 := Lib.hid (HA2.out.grow hg5)
  have HCe := Lib.hid (at_cells HA5.out (by rw [HC.out]; decide))
  rw [HC.out] at HCe
  clear hg5 HE HA2
  go_wp2_with fail
  refine HCe.out.mono ?_
  rintro e w6 ⟨A6, c6, rfl, ho6, hg6⟩
  have HA6 := Lib.hid (HA5.out.grow hg6)
  have HI6 := Lib.hid (show Ints .u64 w6 w6.heap.size A6 1 [0] from Ints.of_own ho6)
  clear hg6 ho6 HCe HA5
  go_wp2_with fail
  refine (equal_one A6 c6 0 HI6.out).mono ?_
  rintro e w7 ⟨rfl, hg7⟩
  have HA7 := Lib.hid (HA6.out.grow hg7)
  have HEv := Lib.hid (at_events HA7.out (by rw [HV.out]; omega))
  rw [HV.out] at HEv
  clear hg7 HA6 HI6
  go_wp2_with fail
  refine HEv.out.mono ?_
  rintro e w8 ⟨A8, c8, rfl, -, hg8⟩
  have HB8 := Lib.hid (HB1.out.trans ((HB2.out.trans ((HA7.out.grow hg8).bel.mono HB2.out.size)).mono HB1.out.size))
  have hzz : ((z : Int) == (z : Int)) = true := by simp
  clear hg8 HEv HA7
  go_wp2
  go_ret
  exact ⟨rfl, HB8.out⟩
end Go.Proofs.YtkhaeabbbhfloaaDoor

namespace Go.Proofs.YtkhaeabbbhfloaaDoor.mutexEnds
open Go.ChangeShapes Go.WideShapes Go.ChangeAt Go.RowKit
set_option linter.unusedVariables false

theorem own : ownKnob Tryd.prog.godebug = none := by kernel_rfl
theorem laidOut : laidOutB Tryd.prog = true := by kernel_rfl
theorem tsize : Tryd.prog.types.size = 203 := by kernel_rfl

/-- What the listed variables give the walk. -/
theorem cw_of {W : World} (h : laidMetH Tryd.prog Rows.mutexEndsRow.laid W) : CW W := by
  have h' : laidMet Tryd.prog (Rows.mutexEndsRow.laid.filter fun x => x.2.handleName?.isNone) W ∧ handlesMet Tryd.prog (Rows.mutexEndsRow.laid.filter fun x => x.2.handleName?.isSome) W := h
  exact cw_of_laid h'.1 (List.mem_filter.2 ⟨.tail _ (.head _), rfl⟩)

/-- So many blocks has the settled world. -/
noncomputable def low : Nat := (World.holding Tryd.prog default ⟨#[], #[], []⟩).heap.size
def put (o : Obj) (cs : Array Value) : Obj := match o with
  | .cells _ t frozen => .cells cs t frozen
  | o => o
def tab (k : IntKind) (zs : List Int) : Array Value := (zs.map fun z => Value.int k z).toArray
/-- A world that meets the condition. -/
noncomputable def laidWorld (os : Os) : World :=
  let w0 := World.holding Tryd.prog os ⟨#[], #[], []⟩
  { w0 with heap := ((w0.heap.modify 1 (put · #[.iface 160 (.agg #[.pointer (some ⟨2, 46, none⟩)])])).modify 0 (put · formCells)) }
theorem laidWorld_met (os : Os) (args : Array Value) : laidMetH Tryd.prog Rows.mutexEndsRow.laid ((laidWorld os).forCall (fun _ _ => 0) ⟨#[], args, []⟩).memory :=
  laidMetH_of_parts (LaidIn.of_run [0] 8 (by kernel_rfl) (by kernel_rfl) (by kernel_rfl) (by kernel_rfl)).met (by kernel_rfl)

/-- The walk. -/
theorem walk (a0 : Int) (a1 : Int) (a2 : Option Addr) (len2 cap2 : Nat) (nods2 : List (Int × Bool)) (w : World) (hw : CW w) (N2 : Moves w w.heap.size a2 len2 nods2) (I2 : True) :
    Calls Tryd.prog 4 #[.int .i64 a0, .int .i64 a1, .slice a2 len2 cap2] w fun e w' => e = .returned (.bool true) ∧ Below w.heap.size w w' := by
  exact mutexEnds_any hw a0 a1 a2 len2 cap2 nods2 N2

set_option maxRecDepth 100000 in
theorem lifted (os : Os) (started : os.Started) (H : Type) (enc : TypeId × Value → H) :
    ReturnsInHanded {} Tryd.checked os 4 .any (fun w args => (Rows.mutexEndsSpec.pre enc Tryd.prog Tryd.f4 [] false w args ∧ laidMetH Tryd.prog Rows.mutexEndsRow.laid w) ∧ sizedMet enc Tryd.prog Tryd.f4 (OpenSpec.ofChange Rows.mutexEndsSpec) false w args)
      (Rows.mutexEndsSpec.post enc Tryd.prog Tryd.f4 false true false false) := by
  refine returnsInHanded_of_change_and (C := Tryd.checked) (X := fun w _ => laidMetH Tryd.prog Rows.mutexEndsRow.laid w) (fun _ _ _ hh h => h.of_heap hh) own started (by kernel_rfl) Tryd.func4
    (ChangeSpec.witness_at (enc := enc) (C := Tryd.checked) (os := os) (X := fun w _ => laidMetH Tryd.prog Rows.mutexEndsRow.laid w) false (laidWorld os) #[.int .i64 0, .int .i64 0, .slice none 0 0] 8 rfl (by kernel_rfl) (by kernel_rfl) (by kernel_rfl) (by kernel_rfl) (by kernel_rfl) (laidWorld_met os _)) ?_
  intro W base args ds gs before hval0 hW _ _ hL _
  have hval : ∀ (j : Nat) t v, Tryd.f4.params[j]? = some t → args[j]? = some v → Value.okWide Tryd.prog W .any base t v := hval0
  have hW' := hW
  obtain ⟨p, q, hA0, hV0, rfl, hfz, hnd⟩ := hW
  have hA : DataW.TrodAll enc Tryd.prog W 0 (fun _ => true) true Tryd.f4.params.toList args.toList ds p := hA0
  have hV : DataW.TrodVars enc Tryd.prog W (fun _ => true) [] gs q := hV0
  rw [Tryd.params4] at hA hval
  obtain ⟨v0, vs0, d0, ds0, p0, q0, hargs, rfl, rfl, h0, r0⟩ := trodAll_cons hA
  obtain ⟨v1, vs1, d1, ds1, p1, q1, rfl, rfl, rfl, h1, r1⟩ := trodAll_cons r0
  obtain ⟨v2, vs2, d2, ds2, p2, q2, rfl, rfl, rfl, h2, r2⟩ := trodAll_cons r1
  obtain ⟨rfl, rfl, rfl⟩ := trodAll_nil r2
  obtain rfl : args = #[v0, v1, v2] := by cases args; simp_all
  obtain ⟨rfl, rfl⟩ : gs = [] ∧ q = [] := by
    cases gs with
    | nil => exact ⟨rfl, hV⟩
    | cons g r => exact absurd hV (by intro h; cases h)
  obtain ⟨a0, rfl, rfl, rfl, w0⟩ := open_int Tryd.underlying3 (hval 0 3 v0 rfl rfl) h0
  obtain ⟨a1, rfl, rfl, rfl, w1⟩ := open_int Tryd.underlying3 (hval 1 3 v1 rfl rfl) h1
  obtain ⟨a2, len2, cap2, rfl⟩ := okWide_slice Tryd.underlying22 (hval 2 22 v2 rfl rfl)
  have k2 := h2
  have lt2 : ∀ x ∈ p2, x.block < W.heap.size := by obtain ⟨m, hm⟩ := k2; exact DataW.trod_lt m _ _ _ hm
  obtain ⟨nods2, N2, I2⟩ : ∃ nods, Moves W W.heap.size a2 len2 nods ∧ True := by
    obtain ⟨fuel, hf⟩ := h2
    obtain ⟨l, hl⟩ := moves_of (a := a2) (len := len2) (cap := cap2) hf; exact ⟨l, hl, trivial⟩
  have hw := cw_of hL
  clear hA0 hval0
  refine (walk a0 a1 a2 len2 cap2 nods2 W hw N2 I2).mono fun e W' ⟨he, bel⟩ => ?_
  subst he
  exact ⟨_, rfl, _, _, _, [], _, [], hW', trodAll_mk1 (shut_bool Tryd.underlying4 _), (trodAll_cons_mk (shut_int Tryd.underlying3 w0) (trodAll_cons_mk (shut_int Tryd.underlying3 w1) (trodAll_cons_mk (Below.trod laidOut (by kernel_rfl) (of_decide_eq_true (by kernel_rfl)) k2 bel lt2) trodAll_mk0))), rfl, bel.frame _, fun h => by cases h⟩

theorem over : Rows.MutexEndsSaid :=
  OpenClaim.holds_of_wide 4 Tryd.f4 rfl rfl rfl rfl rfl rfl rfl ⟨rfl, rfl, rfl, rfl, rfl⟩ rfl rfl rfl rfl rfl (by kernel_rfl) Tryd.func4 (by kernel_rfl)
    (of_decide_eq_true (by kernel_rfl)) (by unfold Func.isWrapper; first | (rw [if_pos (by decide +kernel)]; kernel_rfl) | (rw [if_neg (by decide +kernel)]; exact ⟨rfl, rfl⟩))
    (fun os started H enc _ => lifted os started H enc)

/-- The given statement: the tied card. -/
theorem proved : Rows.MutexEndsCardSaid :=
  Claim7.holds_tied_plain_at .later [] [.handle, .data] true (true, "2608b3033910442297c65e2168a80dfa3332f49bdf4635b148b5ba119a09d328") true
    over (fun _ h => by cases h) (by kernel_rfl) (fun _ h => by cases h) mutexEnds_row_tie rfl ⟨rfl, rfl⟩ (by kernel_rfl) rfl
    (fun f fn hf hfn => by
      obtain rfl : f = 4 := Option.some.inj ((show Tryd.prog.funcNamed "quadrille/quadrillekeep.MutexEnds" = some 4 by kernel_rfl).symm.trans hf) |>.symm
      obtain rfl : fn = Tryd.f4 := (Option.some.inj (Tryd.func4.symm.trans hfn)).symm
      refine ⟨by kernel_rfl, fun j t ht => ?_⟩
      rw [Tryd.params4] at ht
      have hm : t ∈ [3, 3, 22] := by
        have := Array.mem_of_getElem? ht
        simpa using this
      have hall : ([3, 3, 22].all fun u => !Tryd.prog.wantsStandIn u) = true := by kernel_rfl
      exact (show Tryd.prog.wantsStandIn t = false by simpa using List.all_eq_true.1 hall t hm))
    (by kernel_rfl)
#print axioms proved
end Go.Proofs.YtkhaeabbbhfloaaDoor.mutexEnds
