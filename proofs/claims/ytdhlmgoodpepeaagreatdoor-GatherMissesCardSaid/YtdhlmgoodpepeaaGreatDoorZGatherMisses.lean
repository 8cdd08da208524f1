/-
  Without one nobody passes: if fewer pass than there are, nobody is answered, and all wait: GatherMisses returns true, and panics at no argument.
-/
import Derived.Test.YtdhlmgoodpepeaaGreatDoorQT
import Derived.Test.YtdhlmgoodpepeaaGreatDoorRows
import Derived.Test.YtdhlmgoodpepeaaGreatDoorCards
import Derived.Test.YtdhlmgoodpepeaaGreatDoorTie
import Derived.WalkKit
import Derived.ProofKit
import Derived.OpenShut
import Derived.ChangeOld
import Derived.Below
import Derived.ChangeSame
import Derived.ChangeVars
import Derived.JoinedOf
import Derived.RowKitTokens
import Derived.LaidLaws
import Derived.LaidHandle
import Derived.Stop.Joined
import Derived.SevenTiedAt
import Derived.Lib.LaidTab
import Derived.Lib.LaidIn
import Derived.ChangeMaps5
import Derived.Test.YtdhlmgoodpepeaaGreatDoorQE2
import Derived.Test.YtdhlmgoodpepeaaGreatDoorQE
namespace Go.Proofs.YtdhlmgoodpepeaaGreatDoor
set_option maxRecDepth 100000
open Go.RowKit Go.Shelf Go.Sort
set_option linter.unusedVariables false
set_option linter.unusedSimpArgs false

def passL (n times : Nat) : List (List GC) := List.replicate n (List.replicate times ⟨9, 0⟩)
theorem passL_at {n times t : Nat} (ht : t < n) : callsG (passL n times) t = List.replicate times ⟨9, 0⟩ := by
  unfold callsG passL
  rw [List.getD_eq_getElem?_getD, List.getElem?_replicate, if_pos ht]
  rfl
theorem passL_len (n times : Nat) : (passL n times).length = n := List.length_replicate
theorem passL_ok {n times : Nat} (n8 : n ≤ 8) (t5 : times ≤ 5) {x : PhS} (hx : x.ok) : GaOk (passL n times) x times := by
  refine ⟨by rw [passL_len]; omega, fun L hL => ?_, by omega, fun L hL => ?_, hx, ?_⟩
  · rw [(List.mem_replicate.1 hL).2, List.length_replicate]
    exact Nat.le_refl _
  · rw [(List.mem_replicate.1 hL).2]
    intro c hc
    rw [(List.mem_replicate.1 hc).2]
    exact .inr (.inr ⟨.inr (.inr (.inl rfl)), rfl⟩)
  · rw [passL_len]
    have h1 : (39 + 28 * n) * times ≤ 263 * 5 := Nat.mul_le_mul (by omega) t5
    have h2 : n * ((39 + 28 * n) * times + 1) ≤ 8 * 1316 := Nat.mul_le_mul n8 (by omega)
    omega
theorem passL_enc (n times : Nat) : (passL n times).map (List.map encG) = List.replicate n (List.replicate times (9, 0)) := by
  unfold passL
  rw [List.map_replicate, List.map_replicate]
  rfl
theorem miss_fact {n N : Nat} (n1 : 1 ≤ n) (hN : n < N) (hN2 : N ≤ 65535) {h : GaOk (passL n 1) (PhS.mk false 0 N N) 1} {p : Nat} {m m' : Mach} (hm : GaM h p m) (hp : p ≤ 500) (hf : Fin m m') : endsM m' = (false, true) ∧ m'.events = [] := by
  obtain ⟨S, hS, hq⟩ := ga_fin hm hp hf
  obtain ⟨hG, hNv⟩ := gaM_inv hS
  have hwf := hS.sim.wf
  rw [passL_len] at *
  obtain ⟨h1, h2⟩ := miss_still hN hN2 (fun t ht => passL_at ht) hwf hG hNv hq
  exact ⟨ga_stuck_ends hS (by rw [passL_len]; exact hq) (t := 0) (by rw [passL_len]; omega) (h2 0 (by omega)).2, h1⟩
set_option maxHeartbeats 4000000 in
theorem gatherMisses_any {w : World} (hw : CW w) (n more : Int) (D : Option Addr) (nm cm : Nat) (l : List (Int × Bool)) (hl : Moves w w.heap.size D nm l) :
    Calls Tryz.prog 7 #[.int .i64 n, .int .i64 more, .slice D nm cm] w fun e w' => e = .returned (.bool true) ∧ Below w.heap.size w w' := by
  have HGt := Lib.hid (gathered_any hw)
  obtain ⟨u, hu, hpu⟩ := ga_pick n 8 (by decide) (by decide)
  obtain ⟨v, hv, hpv⟩ := ga_pick more 5 (by decide) (by decide)
  have HPu := Lib.hid hpu
  have HPv := Lib.hid hpv
  have HMv := Lib.hid hl
  have HW := Lib.hid hw
  clear hpu hpv hl hw
  go_enter Tryz.func7, Tryz.ntmps7
  go_wp2_with fail
  refine HGt.out.mono ?_
  rintro e w1 ⟨rfl, hb1⟩
  have HB1 := Lib.hid hb1
  clear hb1 HGt
  by_cases h9 : 400 < nm
  · have h9' : (400 : Int) < (nm : Int) := by omega
    go_wp2
    go_ret
    exact ⟨rfl, HB1.out⟩
  have h9' : ¬ (400 : Int) < (nm : Int) := by omega
  have HN5 := Lib.hid (show nm ≤ 400 by omega)
  go_wp2_with fail
  refine (HPu.out _).mono ?_
  rintro e w2 ⟨rfl, rfl⟩
  obtain ⟨N, hN⟩ : ∃ N, u + 1 = N := ⟨_, rfl⟩
  obtain ⟨M, hM⟩ : ∃ M, v + 1 = M := ⟨_, rfl⟩
  have HNM := Lib.hid (show 1 ≤ N ∧ N ≤ 8 ∧ 1 ≤ M ∧ M ≤ 5 by omega)
  have hok : PhS.ok ⟨false, 0, ((N + M : Nat) : Int), ((N + M : Nat) : Int)⟩ := by
    have := HNM.out
    exact ⟨⟨by show (0 : Int) ≤ 0; decide, by show (0 : Int) ≤ 2147483647; decide⟩, ⟨by show (0 : Int) ≤ ((N + M : Nat) : Int); omega, by show ((N + M : Nat) : Int) ≤ 65535; omega⟩, by show (0 : Int) ≤ ((N + M : Nat) : Int); omega, Int.le_refl _⟩
  have HOk := Lib.hid (passL_ok (n := N) (times := 1) (by have := HNM.out; omega) (by decide) hok)
  have HP := Lib.hid (fun w => pkWord_yes false 0 ((N + M : Nat) : Int) ((N + M : Nat) : Int) w hok)
  obtain ⟨wd, hwd⟩ : ∃ wd, PhS.word ⟨false, 0, ((N + M : Nat) : Int), ((N + M : Nat) : Int)⟩ = wd := ⟨_, rfl⟩
  rw [hwd] at HP
  have HWd := Lib.hid (show wd = PhS.word _ from hwd.symm)
  have E1 := Lib.hid (show wrap64 (1 + (u : Int)) = (N : Int) by rw [← hN]; exact w64one u (by omega))
  have E2 := Lib.hid (show wrap64 (1 + (v : Int)) = (M : Int) by rw [← hM]; exact w64one v (by omega))
  have E3 := Lib.hid (w64add N M (by have := HNM.out; omega))
  clear hN hM hok hwd
  obtain ⟨NM, hNM⟩ : ∃ NM, N + M = NM := ⟨_, rfl⟩
  rw [hNM] at E3 HOk HP HWd
  have HNMe := Lib.hid hNM
  clear hNM hu hv
  go_wp2_with fail
  --MA
  refine (HPv.out _).mono ?_
  rintro e w2 ⟨rfl, rfl⟩
  have e1 := E1.out
  have e2 := E2.out
  have e3 := E3.out
  clear E1 E2 E3 HPu HPv
  go_wp2_with fail
  --MB
  refine (HP.out _).mono ?_
  rintro e w3 ⟨rfl, hb3⟩
  have HB3 := Lib.hid (HB1.out.trans (hb3.mono HB1.out.size))
  clear hb3 e1 e2 e3 HP HB1
  have hba := ((Below.refl w3.heap.size w3).alloc (Nat.le_refl _) (.cells #[.int .i64 9, .int .i64 0] 63)).alloc (by simp) (.cells #[.slice (some ⟨w3.heap.size, 0, none⟩) 1 1] 60)
  have hs1 : (w3.alloc (.cells #[.int .i64 9, .int .i64 0] 63)).heap.size = w3.heap.size + 1 := by simp
  have hx1 : ((w3.alloc (.cells #[.int .i64 9, .int .i64 0] 63)).alloc (.cells #[.slice (some ⟨w3.heap.size, 0, none⟩) 1 1] 60)).cell? ⟨w3.heap.size + 1, 0, none⟩ = some (.slice (some ⟨w3.heap.size, 0, none⟩) 1 1) := by
    rw [← hs1]
    exact (cell_of_row _ _ 0 _ _ _ (heap_alloc_new _ _)).trans rfl
  have hc1 : CRow ((w3.alloc (.cells #[.int .i64 9, .int .i64 0] 63)).alloc (.cells #[.slice (some ⟨w3.heap.size, 0, none⟩) 1 1] 60)) ((w3.alloc (.cells #[.int .i64 9, .int .i64 0] 63)).alloc (.cells #[.slice (some ⟨w3.heap.size, 0, none⟩) 1 1] 60)).heap.size (some ⟨w3.heap.size, 0, none⟩) 1 [(9, 0)] := by
    refine ⟨rfl, fun _ => ⟨_, 0, rfl, by simp; omega, fun i hi => ?_⟩⟩
    have h1 := Below.heap_alloc (w3.alloc (.cells #[.int .i64 9, .int .i64 0] 63)) (.cells #[.slice (some ⟨w3.heap.size, 0, none⟩) 1 1] 60) w3.heap.size (by simp)
    rw [heap_alloc_new] at h1
    match i, hi with
    | 0, _ => exact ⟨(cell_in h1 0).trans rfl, (cell_in h1 1).trans rfl⟩
  have HRp := Lib.hid (repeatSC_any (n := N) HNM.out.1 (by have := HNM.out; omega) hx1)
  have HC1 := Lib.hid hc1
  have HBa := Lib.hid (HB3.out.trans (hba.mono HB3.out.size))
  have HLt := Lib.hid (show w3.heap.size < ((w3.alloc (.cells #[.int .i64 9, .int .i64 0] 63)).alloc (.cells #[.slice (some ⟨w3.heap.size, 0, none⟩) 1 1] 60)).heap.size by simp; omega)
  clear hba hs1 hx1 hc1 HB3
  go_wp2_with fail
  --MC
  refine HRp.out.mono ?_
  rintro e w4 ⟨g, rfl, hF⟩
  have hcr := fill_calls hF HLt.out HC1.out
  rw [show [((9 : Int), (0 : Int))] = List.replicate 1 (9, 0) from rfl, ← passL_enc] at hcr
  have hb4 := HBa.out.trans (hF.bel.mono HBa.out.size)
  have HMd := Lib.hid (gamade3 HW.out hb4 HOk.out (some ⟨g, 0, none⟩) D N N nm cm hcr l HMv.out (by have := HN5.out; omega) wd HWd.out)
  have HB4 := Lib.hid hb4
  have HLp := Lib.hid HMv.out.len
  clear hF hcr hb4 HRp HC1 HBa HLt HMv HW
  go_wp2_with fail
  --MD
  refine HMd.out.mono ?_
  rintro e w5 ⟨c, m, rfl, hA, -⟩
  have HF := Lib.hid (at_finish (hA.at_.old HB4.out) hA.big)
  have HL := Lib.hid hA.la
  clear hA HMd
  go_wp2_with fail
  refine HF.out.mono ?_
  rintro e w6 ⟨m', hf, rfl, hA2, hb2⟩
  obtain ⟨f1, f2⟩ := miss_fact (by have := HNM.out; omega) (by have := HNM.out; have := HNMe.out; omega) (by have := HNM.out; have := HNMe.out; omega) HL.out (by have := pokesM_le l; have := HLp.out; have := HN5.out; omega) hf
  have HE := Lib.hid (at_ends hA2 (hb2.few))
  rw [f1] at HE
  have HEv := Lib.hid (fun w7 (hg : w6.grownBy w7 none) => at_events (hA2.grow hg) (by rw [f2]; exact Nat.zero_le _))
  rw [f2] at HEv
  have HB6 := Lib.hid hA2.bel
  generalize ((m'.steps : Int) - (m.steps : Int)) = dd
  clear hf hA2 hb2 f1 f2 HF HL HB4
  go_wp2_with fail
  --ME
  refine HE.out.mono ?_
  rintro e w7 ⟨rfl, hg7⟩
  have HEv7 := Lib.hid (HEv.out w7 hg7)
  have HB7 := Lib.hid (HB6.out.trans ((below_gr hg7).mono HB6.out.size))
  clear hg7 HE HEv HB6
  go_wp2_with fail
  --MF
  refine HEv7.out.mono ?_
  rintro e w8 ⟨A, cap, rfl, _, hg8⟩
  have HB8 := Lib.hid (HB7.out.trans ((below_gr hg8).mono HB7.out.size))
  clear hg8 HEv7 HB7
  go_wp2
  go_ret
  exact ⟨rfl, HB8.out⟩
end Go.Proofs.YtdhlmgoodpepeaaGreatDoor

namespace Go.Proofs.YtdhlmgoodpepeaaGreatDoor.gatherMisses
open Go.ChangeShapes Go.WideShapes Go.ChangeAt Go.RowKit
set_option linter.unusedVariables false

theorem own : ownKnob Tryz.prog.godebug = none := by kernel_rfl
theorem laidOut : laidOutB Tryz.prog = true := by kernel_rfl
theorem tsize : Tryz.prog.types.size = 276 := by kernel_rfl

/-- What the listed variables give the walk. -/
theorem cw_of {W : World} (h : laidMetH Tryz.prog Rows.gatherMissesRow.laid W) : CW W := by
  have h' : laidMet Tryz.prog (Rows.gatherMissesRow.laid.filter fun x => x.2.handleName?.isNone) W ∧ handlesMet Tryz.prog (Rows.gatherMissesRow.laid.filter fun x => x.2.handleName?.isSome) W := h
  exact cw_of_laid h'.1 (List.mem_filter.2 ⟨.tail _ (.head _), rfl⟩)

/-- So many blocks has the settled world. -/
noncomputable def low : Nat := (World.holding Tryz.prog default ⟨#[], #[], []⟩).heap.size
def put (o : Obj) (cs : Array Value) : Obj := match o with
  | .cells _ t frozen => .cells cs t frozen
  | o => o
def tab (k : IntKind) (zs : List Int) : Array Value := (zs.map fun z => Value.int k z).toArray
/-- A world that meets the condition. -/
noncomputable def laidWorld (os : Os) : World :=
  let w0 := World.holding Tryz.prog os ⟨#[], #[], []⟩
  { w0 with heap := ((w0.heap.modify 0 (put · #[.iface 231 (.agg #[.pointer (some ⟨2, 38, none⟩)])])).modify 1 (put · formCells)) }
theorem laidWorld_met (os : Os) (args : Array Value) : laidMetH Tryz.prog Rows.gatherMissesRow.laid ((laidWorld os).forCall (fun _ _ => 0) ⟨#[], args, []⟩).memory :=
  laidMetH_of_parts (LaidIn.of_run [1] 8 (by kernel_rfl) (by kernel_rfl) (by kernel_rfl) (by kernel_rfl)).met (by kernel_rfl)

/-- The walk. -/
theorem walk (a0 : Int) (a1 : Int) (a2 : Option Addr) (len2 cap2 : Nat) (nods2 : List (Int × Bool)) (w : World) (hw : CW w) (N2 : Moves w w.heap.size a2 len2 nods2) (I2 : True) :
    Calls Tryz.prog 7 #[.int .i64 a0, .int .i64 a1, .slice a2 len2 cap2] w fun e w' => e = .returned (.bool true) ∧ Below w.heap.size w w' := by
  exact gatherMisses_any hw a0 a1 a2 len2 cap2 nods2 N2

set_option maxRecDepth 100000 in
theorem lifted (os : Os) (started : os.Started) (H : Type) (enc : TypeId × Value → H) :
    ReturnsInHanded {} Tryz.checked os 7 .any (fun w args => (Rows.gatherMissesSpec.pre enc Tryz.prog Tryz.f7 [] false w args ∧ laidMetH Tryz.prog Rows.gatherMissesRow.laid w) ∧ sizedMet enc Tryz.prog Tryz.f7 (OpenSpec.ofChange Rows.gatherMissesSpec) false w args)
      (Rows.gatherMissesSpec.post enc Tryz.prog Tryz.f7 false true false false) := by
  refine returnsInHanded_of_change_and (C := Tryz.checked) (X := fun w _ => laidMetH Tryz.prog Rows.gatherMissesRow.laid w) (fun _ _ _ hh h => h.of_heap hh) own started (by kernel_rfl) Tryz.func7
    (ChangeSpec.witness_at (enc := enc) (C := Tryz.checked) (os := os) (X := fun w _ => laidMetH Tryz.prog Rows.gatherMissesRow.laid w) false (laidWorld os) #[.int .i64 0, .int .i64 0, .slice none 0 0] 8 rfl (by kernel_rfl) (by kernel_rfl) (by kernel_rfl) (by kernel_rfl) (by kernel_rfl) (laidWorld_met os _)) ?_
  intro W base args ds gs before hval0 hW _ _ hL _
  have hval : ∀ (j : Nat) t v, Tryz.f7.params[j]? = some t → args[j]? = some v → Value.okWide Tryz.prog W .any base t v := hval0
  have hW' := hW
  obtain ⟨p, q, hA0, hV0, rfl, hfz, hnd⟩ := hW
  have hA : DataW.TrodAll enc Tryz.prog W 0 (fun _ => true) true Tryz.f7.params.toList args.toList ds p := hA0
  have hV : DataW.TrodVars enc Tryz.prog W (fun _ => true) [] gs q := hV0
  rw [Tryz.params7] at hA hval
  obtain ⟨v0, vs0, d0, ds0, p0, q0, hargs, rfl, rfl, h0, r0⟩ := trodAll_cons hA
  obtain ⟨v1, vs1, d1, ds1, p1, q1, rfl, rfl, rfl, h1, r1⟩ := trodAll_cons r0
  obtain ⟨v2, vs2, d2, ds2, p2, q2, rfl, rfl, rfl, h2, r2⟩ := trodAll_cons r1
  obtain ⟨rfl, rfl, rfl⟩ := trodAll_nil r2
  obtain rfl : args = #[v0, v1, v2] := by cases args; simp_all
  obtain ⟨rfl, rfl⟩ : gs = [] ∧ q = [] := by
    cases gs with
    | nil => exact ⟨rfl, hV⟩
    | cons g r => exact absurd hV (by intro h; cases h)
  obtain ⟨a0, rfl, rfl, rfl, w0⟩ := open_int Tryz.underlying3 (hval 0 3 v0 rfl rfl) h0
  obtain ⟨a1, rfl, rfl, rfl, w1⟩ := open_int Tryz.underlying3 (hval 1 3 v1 rfl rfl) h1
  obtain ⟨a2, len2, cap2, rfl⟩ := okWide_slice Tryz.underlying23 (hval 2 23 v2 rfl rfl)
  have k2 := h2
  have lt2 : ∀ x ∈ p2, x.block < W.heap.size := by obtain ⟨m, hm⟩ := k2; exact DataW.trod_lt m _ _ _ hm
  obtain ⟨nods2, N2, I2⟩ : ∃ nods, Moves W W.heap.size a2 len2 nods ∧ True := by
    obtain ⟨fuel, hf⟩ := h2
    obtain ⟨l, hl⟩ := moves_of (a := a2) (len := len2) (cap := cap2) hf; exact ⟨l, hl, trivial⟩
  have hw := cw_of hL
  clear hA0 hval0
  refine (walk a0 a1 a2 len2 cap2 nods2 W hw N2 I2).mono fun e W' ⟨he, bel⟩ => ?_
  subst he
  exact ⟨_, rfl, _, _, _, [], _, [], hW', trodAll_mk1 (shut_bool Tryz.underlying4 _), (trodAll_cons_mk (shut_int Tryz.underlying3 w0) (trodAll_cons_mk (shut_int Tryz.underlying3 w1) (trodAll_cons_mk (Below.trod laidOut (by kernel_rfl) (of_decide_eq_true (by kernel_rfl)) k2 bel lt2) trodAll_mk0))), rfl, bel.frame _, fun h => by cases h⟩

theorem over : Rows.GatherMissesSaid :=
  OpenClaim.holds_of_wide 7 Tryz.f7 rfl rfl rfl rfl rfl rfl rfl ⟨rfl, rfl, rfl, rfl, rfl⟩ rfl rfl rfl rfl rfl (by kernel_rfl) Tryz.func7 (by kernel_rfl)
    (of_decide_eq_true (by kernel_rfl)) (by unfold Func.isWrapper; first | (rw [if_pos (by decide +kernel)]; kernel_rfl) | (rw [if_neg (by decide +kernel)]; exact ⟨rfl, rfl⟩))
    (fun os started H enc _ => lifted os started H enc)

/-- The given statement: the tied card. -/
theorem proved : Rows.GatherMissesCardSaid :=
  Claim7.holds_tied_plain_at .later [] [.handle, .data] true (true, "3d7ea49130377776e72833ccacadedce40a93c84fe3b7e6b1a772b24d63da96a") true
    over (fun _ h => by cases h) (by kernel_rfl) (fun _ h => by cases h) gatherMisses_row_tie rfl ⟨rfl, rfl⟩ (by kernel_rfl) rfl
    (fun f fn hf hfn => by
      obtain rfl : f = 7 := Option.some.inj ((show Tryz.prog.funcNamed "quadrille/quadrillekeep.GatherMisses" = some 7 by kernel_rfl).symm.trans hf) |>.symm
      obtain rfl : fn = Tryz.f7 := (Option.some.inj (Tryz.func7.symm.trans hfn)).symm
      refine ⟨by kernel_rfl, fun j t ht => ?_⟩
      rw [Tryz.params7] at ht
      have hm : t ∈ [3, 3, 23] := by
        have := Array.mem_of_getElem? ht
        simpa using this
      have hall : ([3, 3, 23].all fun u => !Tryz.prog.wantsStandIn u) = true := by kernel_rfl
      exact (show Tryz.prog.wantsStandIn t = false by simpa using List.all_eq_true.1 hall t hm))
    (by kernel_rfl)
#print axioms proved
end Go.Proofs.YtdhlmgoodpepeaaGreatDoor.gatherMisses
