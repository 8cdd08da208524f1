/-
  What is loaded, and stored, may be lost: of all that load, add one, and store, at least one is there, and at most all, whoever goes on when. No conditions.
-/
import Derived.Test.YtdfljhechmanlaaDoorQM
import Derived.Test.YtdfljhechmanlaaDoorQI
import Derived.Test.YtdfljhechmanlaaDoorQE2
import Derived.Test.YtdfljhechmanlaaDoorRows
import Derived.Test.YtdfljhechmanlaaDoorCards
import Derived.Test.YtdfljhechmanlaaDoorTie
import Derived.WalkKit
import Derived.ProofKit
import Derived.OpenShut
import Derived.ChangeOld
import Derived.Below
import Derived.ChangeSame
import Derived.ChangeVars
import Derived.JoinedOf
import Derived.RowKitTokens
import Derived.LaidLaws
import Derived.LaidHandle
import Derived.Stop.Joined
import Derived.SevenTiedAt
import Derived.Lib.LaidTab
import Derived.Lib.LaidIn
import Derived.ChangeMaps5
import Derived.Test.YtdfljhechmanlaaDoorQE3
import Derived.Test.YtdfljhechmanlaaDoorQE
namespace Go.Proofs.YtdfljhechmanlaaDoor
set_option maxRecDepth 100000
open Go.RowKit Go.Shelf Go.Sort
set_option linter.unusedVariables false
set_option linter.unusedSimpArgs false

theorem los_right : RightL losP 1 := right_four (by simp [goodX, kindsOf, kinds, nums, fitsL, boundsL]) (by simp [goodX, kindsOf, kinds, nums, fitsL, boundsL]) (by simp [goodX, kindsOf, kinds, nums, fitsL, boundsL])
theorem los_all {n : Nat} (n1 : 1 ≤ n) (n16 : n ≤ 16) (l : List (Int × Bool)) {m' : Mach} (hf : Fin (sweepM (l.map (pickT n)) (newM (List.replicate n losP) [0])) m') : ∃ v : Nat, m'.cells = [(v : Int)] ∧ 1 ≤ v ∧ v ≤ n := by
  obtain ⟨a, b, _, _⟩ := race_sweep losP_straight n16 (I := LosI n) (fun m t i h ht he => los_step n16 i h ht he) (l.map (pickT n)) _ (rbase_new losP_straight) los_new (picked_lt n1 l)
  obtain ⟨a2, b2, c2⟩ := race_fin losP_straight n16 (I := LosI n) (fun m t i h ht he => los_step n16 i h ht he) a b hf
  obtain ⟨h1, h2⟩ := los_end n1 a2 b2 c2
  refine ⟨(m'.cells.getD 0 0).toNat, ?_, by omega, by omega⟩
  rw [show (((m'.cells.getD 0 0).toNat : Nat) : Int) = m'.cells.getD 0 0 by omega]
  exact one_cell a2

def losC : Array Value := #[.int .i64 6, .int .i64 1, .int .i64 0, .int .i64 0, .int .i64 0, .int .i64 3, .int .i64 1, .int .i64 1, .int .i64 1, .int .i64 0, .int .i64 7, .int .i64 0, .int .i64 1, .int .i64 (-1), .int .i64 0, .int .i64 0, .int .i64 0, .int .i64 0, .int .i64 0, .int .i64 0]
set_option maxHeartbeats 2000000 in
theorem coreLoses_any {w : World} (hw : CW w) (n : Int) (D : Option Addr) (nm cm : Nat) (l : List (Int × Bool)) (hl : Moves w w.heap.size D nm l) :
    Calls Tryd.prog 12 #[.int .i64 n, .slice D nm cm] w fun e w' => e = .returned (.bool true) ∧ Below w.heap.size w w' := by
  have HG := Lib.hid (gone_any hw)
  have HP := Lib.hid (fun w => pick_det n 16 16 w rfl (by decide) (by decide))
  have p1 := pickI_lo n 16
  have p2 := pickI_hi n 16 (by decide)
  obtain ⟨z, hz⟩ : ∃ z : Nat, pickI n 16 = (z : Int) := ⟨(pickI n 16).toNat, by omega⟩
  rw [hz] at HP p1 p2
  obtain ⟨k, hk⟩ : ∃ k, z + 1 = k := ⟨_, rfl⟩
  have hw1 : wrap64 (1 + (z : Int)) = (k : Int) := by unfold wrap64; omega
  have HK := Lib.hid (show 1 ≤ k ∧ k ≤ 16 by omega)
  have HW := Lib.hid hw
  have HL := Lib.hid hl
  clear hz p1 p2 hw hl hk
  go_enter Tryd.func12, Tryd.ntmps12
  go_wp2_with fail
  refine HG.out.mono ?_
  rintro e w1 ⟨rfl, hb1⟩
  have HB1 := Lib.hid hb1
  clear hb1 HG
  by_cases h9 : 300 < nm
  · have h9' : (300 : Int) < (nm : Int) := by omega
    go_wp2
    go_ret
    exact ⟨rfl, HB1.out⟩
  have h9' : ¬ (300 : Int) < (nm : Int) := by omega
  have HN5 := Lib.hid (show nm ≤ 500 by omega)
  go_wp2_with fail
  refine (HP.out _).mono ?_
  rintro e w2 ⟨rfl, rfl⟩
  have hb2 := HB1.out.alloc HB1.out.size (.cells losC 64)
  have HRc := Lib.hid (raced_any (HW.out.old hb2) HK.out.1 HK.out.2 (some ⟨w1.heap.size, 0, none⟩) D 4 4 nm cm losP (inss_lit (w := w1) (cs := losC) (l := losP) (n := 4) rfl rfl (by decide)) los_right l (HL.out.old hb2) HN5.out)
  unfold losC at HRc hb2
  have HB2 := Lib.hid hb2
  clear hb2 HP
  go_wp2_with fail
  --MA
  refine HRc.out.mono ?_
  rintro e w3 ⟨q, m', rfl, hf, hA, hbig⟩
  obtain ⟨v, v1, v2, v3⟩ := los_all HK.out.1 HK.out.2 l hf
  have HCe := Lib.hid (at_cells hA (by rw [v1]; exact Nat.le_of_ble_eq_true rfl))
  rw [v1] at HCe
  have HA := Lib.hid hA
  have hk16 := HK.out.2
  have hu : IntKind.u64.wrap (k : Int) = (k : Int) := by show (k : Int) % 18446744073709551616 = _; omega
  have g1 : (1 : Int) ≤ (v : Int) := by omega
  have g2 : (v : Int) ≤ (k : Int) := by omega
  have HGG := Lib.hid (And.intro hu (And.intro g1 g2))
  clear hf hA hbig v1 v2 v3 hu g1 g2 HRc
  go_wp2_with fail
  refine HCe.out.mono ?_
  rintro e w4 ⟨A4, c4, rfl, ho4, hg4⟩
  have hI4 : Ints .u64 w4 w4.heap.size A4 1 [(v : Int)] := Ints.of_own ho4
  obtain ⟨b4, off4, hA4, _, hx4⟩ := hI4.row (by decide)
  subst hA4
  have hc4 : w4.cell? ⟨b4, off4, none⟩ = some (.int .u64 (v : Int)) := hx4 0 (by decide)
  have HB4 := Lib.hid (HB2.out.trans ((HA.out.grow hg4).bel.mono HB2.out.size))
  obtain ⟨hu, g1, g2⟩ := HGG.out
  have g1' : 1 ≤ v := by omega
  have g2' : v ≤ k := by omega
  clear hI4 hx4 ho4 hg4 HCe HA
  go_wp2
  --MB
  go_ret
  exact ⟨rfl, HB4.out⟩
end Go.Proofs.YtdfljhechmanlaaDoor

namespace Go.Proofs.YtdfljhechmanlaaDoor.coreLoses
open Go.ChangeShapes Go.WideShapes Go.ChangeAt Go.RowKit
set_option linter.unusedVariables false

theorem own : ownKnob Tryd.prog.godebug = none := by kernel_rfl
theorem laidOut : laidOutB Tryd.prog = true := by kernel_rfl
theorem tsize : Tryd.prog.types.size = 214 := by kernel_rfl

/-- What the listed variables give the walk. -/
theorem cw_of {W : World} (h : laidMetH Tryd.prog Rows.coreLosesRow.laid W) : CW W := by
  have h' : laidMet Tryd.prog (Rows.coreLosesRow.laid.filter fun x => x.2.handleName?.isNone) W ∧ handlesMet Tryd.prog (Rows.coreLosesRow.laid.filter fun x => x.2.handleName?.isSome) W := h
  exact cw_of_laid h'.1 (List.mem_filter.2 ⟨.tail _ (.head _), rfl⟩)

/-- So many blocks has the settled world. -/
noncomputable def low : Nat := (World.holding Tryd.prog default ⟨#[], #[], []⟩).heap.size
def put (o : Obj) (cs : Array Value) : Obj := match o with
  | .cells _ t frozen => .cells cs t frozen
  | o => o
def tab (k : IntKind) (zs : List Int) : Array Value := (zs.map fun z => Value.int k z).toArray
/-- A world that meets the condition. -/
noncomputable def laidWorld (os : Os) : World :=
  let w0 := World.holding Tryd.prog os ⟨#[], #[], []⟩
  { w0 with heap := ((w0.heap.modify 1 (put · #[.iface 172 (.agg #[.pointer (some ⟨2, 36, none⟩)])])).modify 0 (put · formCells)) }
theorem laidWorld_met (os : Os) (args : Array Value) : laidMetH Tryd.prog Rows.coreLosesRow.laid ((laidWorld os).forCall (fun _ _ => 0) ⟨#[], args, []⟩).memory :=
  laidMetH_of_parts (LaidIn.of_run [0] 8 (by kernel_rfl) (by kernel_rfl) (by kernel_rfl) (by kernel_rfl)).met (by kernel_rfl)

/-- The walk. -/
theorem walk (a0 : Int) (a1 : Option Addr) (len1 cap1 : Nat) (nods1 : List (Int × Bool)) (w : World) (hw : CW w) (N1 : Moves w w.heap.size a1 len1 nods1) (I1 : True) :
    Calls Tryd.prog 12 #[.int .i64 a0, .slice a1 len1 cap1] w fun e w' => e = .returned (.bool true) ∧ Below w.heap.size w w' := by
  exact coreLoses_any hw a0 a1 len1 cap1 nods1 N1

set_option maxRecDepth 100000 in
theorem lifted (os : Os) (started : os.Started) (H : Type) (enc : TypeId × Value → H) :
    ReturnsInHanded {} Tryd.checked os 12 .any (fun w args => (Rows.coreLosesSpec.pre enc Tryd.prog Tryd.f12 [] false w args ∧ laidMetH Tryd.prog Rows.coreLosesRow.laid w) ∧ sizedMet enc Tryd.prog Tryd.f12 (OpenSpec.ofChange Rows.coreLosesSpec) false w args)
      (Rows.coreLosesSpec.post enc Tryd.prog Tryd.f12 false true false false) := by
  refine returnsInHanded_of_change_and (C := Tryd.checked) (X := fun w _ => laidMetH Tryd.prog Rows.coreLosesRow.laid w) (fun _ _ _ hh h => h.of_heap hh) own started (by kernel_rfl) Tryd.func12
    (ChangeSpec.witness_at (enc := enc) (C := Tryd.checked) (os := os) (X := fun w _ => laidMetH Tryd.prog Rows.coreLosesRow.laid w) false (laidWorld os) #[.int .i64 0, .slice none 0 0] 8 rfl (by kernel_rfl) (by kernel_rfl) (by kernel_rfl) (by kernel_rfl) (by kernel_rfl) (laidWorld_met os _)) ?_
  intro W base args ds gs before hval0 hW _ _ hL _
  have hval : ∀ (j : Nat) t v, Tryd.f12.params[j]? = some t → args[j]? = some v → Value.okWide Tryd.prog W .any base t v := hval0
  have hW' := hW
  obtain ⟨p, q, hA0, hV0, rfl, hfz, hnd⟩ := hW
  have hA : DataW.TrodAll enc Tryd.prog W 0 (fun _ => true) true Tryd.f12.params.toList args.toList ds p := hA0
  have hV : DataW.TrodVars enc Tryd.prog W (fun _ => true) [] gs q := hV0
  rw [Tryd.params12] at hA hval
  obtain ⟨v0, vs0, d0, ds0, p0, q0, hargs, rfl, rfl, h0, r0⟩ := trodAll_cons hA
  obtain ⟨v1, vs1, d1, ds1, p1, q1, rfl, rfl, rfl, h1, r1⟩ := trodAll_cons r0
  obtain ⟨rfl, rfl, rfl⟩ := trodAll_nil r1
  obtain rfl : args = #[v0, v1] := by cases args; simp_all
  obtain ⟨rfl, rfl⟩ : gs = [] ∧ q = [] := by
    cases gs with
    | nil => exact ⟨rfl, hV⟩
    | cons g r => exact absurd hV (by intro h; cases h)
  obtain ⟨a0, rfl, rfl, rfl, w0⟩ := open_int Tryd.underlying3 (hval 0 3 v0 rfl rfl) h0
  obtain ⟨a1, len1, cap1, rfl⟩ := okWide_slice Tryd.underlying23 (hval 1 23 v1 rfl rfl)
  have k1 := h1
  have lt1 : ∀ x ∈ p1, x.block < W.heap.size := by obtain ⟨m, hm⟩ := k1; exact DataW.trod_lt m _ _ _ hm
  obtain ⟨nods1, N1, I1⟩ : ∃ nods, Moves W W.heap.size a1 len1 nods ∧ True := by
    obtain ⟨fuel, hf⟩ := h1
    obtain ⟨l, hl⟩ := moves_of (a := a1) (len := len1) (cap := cap1) hf; exact ⟨l, hl, trivial⟩
  have hw := cw_of hL
  clear hA0 hval0
  refine (walk a0 a1 len1 cap1 nods1 W hw N1 I1).mono fun e W' ⟨he, bel⟩ => ?_
  subst he
  exact ⟨_, rfl, _, _, _, [], _, [], hW', trodAll_mk1 (shut_bool Tryd.underlying4 _), (trodAll_cons_mk (shut_int Tryd.underlying3 w0) (trodAll_cons_mk (Below.trod laidOut (by kernel_rfl) (of_decide_eq_true (by kernel_rfl)) k1 bel lt1) trodAll_mk0)), rfl, bel.frame _, fun h => by cases h⟩

theorem over : Rows.CoreLosesSaid :=
  OpenClaim.holds_of_wide 12 Tryd.f12 rfl rfl rfl rfl rfl rfl rfl ⟨rfl, rfl, rfl, rfl, rfl⟩ rfl rfl rfl rfl rfl (by kernel_rfl) Tryd.func12 (by kernel_rfl)
    (of_decide_eq_true (by kernel_rfl)) (by unfold Func.isWrapper; first | (rw [if_pos (by decide +kernel)]; kernel_rfl) | (rw [if_neg (by decide +kernel)]; exact ⟨rfl, rfl⟩))
    (fun os started H enc _ => lifted os started H enc)

/-- The given statement: the tied card. -/
theorem proved : Rows.CoreLosesCardSaid :=
  Claim7.holds_tied_plain_at .later [] [.handle, .data] true (true, "d47da573c139323a2d3ffb97e069444c56f44381508be9b6753f4f5b74787098") true
    over (fun _ h => by cases h) (by kernel_rfl) (fun _ h => by cases h) coreLoses_row_tie rfl ⟨rfl, rfl⟩ (by kernel_rfl) rfl
    (fun f fn hf hfn => by
      obtain rfl : f = 12 := Option.some.inj ((show Tryd.prog.funcNamed "quadrille/quadrillekeep.CoreLoses" = some 12 by kernel_rfl).symm.trans hf) |>.symm
      obtain rfl : fn = Tryd.f12 := (Option.some.inj (Tryd.func12.symm.trans hfn)).symm
      refine ⟨by kernel_rfl, fun j t ht => ?_⟩
      rw [Tryd.params12] at ht
      have hm : t ∈ [3, 23] := by
        have := Array.mem_of_getElem? ht
        simpa using this
      have hall : ([3, 23].all fun u => !Tryd.prog.wantsStandIn u) = true := by kernel_rfl
      exact (show Tryd.prog.wantsStandIn t = false by simpa using List.all_eq_true.1 hall t hm))
    (by kernel_rfl)
#print axioms proved
end Go.Proofs.YtdfljhechmanlaaDoor.coreLoses
