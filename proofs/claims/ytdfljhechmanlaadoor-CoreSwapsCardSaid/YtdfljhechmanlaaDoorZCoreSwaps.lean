/-
  One wins: of all that want to be the first just one is, whoever goes on when. No conditions.
-/
import Derived.Test.YtdfljhechmanlaaDoorQM
import Derived.Test.YtdfljhechmanlaaDoorQL3
import Derived.Test.YtdfljhechmanlaaDoorRows
import Derived.Test.YtdfljhechmanlaaDoorCards
import Derived.Test.YtdfljhechmanlaaDoorTie
import Derived.WalkKit
import Derived.ProofKit
import Derived.OpenShut
import Derived.ChangeOld
import Derived.Below
import Derived.ChangeSame
import Derived.ChangeVars
import Derived.JoinedOf
import Derived.RowKitTokens
import Derived.LaidLaws
import Derived.LaidHandle
import Derived.Stop.Joined
import Derived.SevenTiedAt
import Derived.Lib.LaidTab
import Derived.Lib.LaidIn
import Derived.ChangeMaps5
import Derived.Test.YtdfljhechmanlaaDoorQE3
import Derived.Test.YtdfljhechmanlaaDoorQE
namespace Go.Proofs.YtdfljhechmanlaaDoor
set_option maxRecDepth 100000
open Go.RowKit Go.Shelf Go.Sort
set_option linter.unusedVariables false
set_option linter.unusedSimpArgs false

theorem swa_right : RightL swaP 1 := right_four (by simp [goodX, kindsOf, kinds, nums, fitsL, boundsL]) (by simp [goodX, kindsOf, kinds, nums, fitsL, boundsL]) (by simp [goodX, kindsOf, kinds, nums, fitsL, boundsL])
theorem swa_all {n : Nat} (n1 : 1 ≤ n) (n16 : n ≤ 16) (l : List (Int × Bool)) {m' : Mach} (hf : Fin (sweepM (l.map (pickT n)) (newM (List.replicate n swaP) [0])) m') : m'.cells = [5] ∧ saidSum m'.events = 1 ∧ m'.events.length = n := by
  obtain ⟨a, b, _, _⟩ := race_sweep swaP_straight n16 (I := SwaI n) (fun m t i h ht he => swa_step n16 i h ht he) (l.map (pickT n)) _ (rbase_new swaP_straight) swa_new (picked_lt n1 l)
  obtain ⟨a2, b2, c2⟩ := race_fin swaP_straight n16 (I := SwaI n) (fun m t i h ht he => swa_step n16 i h ht he) a b hf
  obtain ⟨h1, h2, h3⟩ := swa_end n1 a2 b2 c2
  refine ⟨?_, h2, h3⟩
  rw [← h1]
  exact one_cell a2
theorem EvRow.belowS {w w' : World} {A : Option Addr} {n : Nat} {l : List Ev4} (h : EvRow w A n l) (hb : Below w.heap.size w w') : EvRow w' A n l := fun i hi => by
  obtain ⟨b, off, e, h0, h1, h2, h3⟩ := h i hi
  have hlt : b < w.heap.size := World.block_lt_of_cell? w _ h0
  have hx : ∀ (j : Nat), w'.cell? ⟨b, off + i * 4 + j, none⟩ = w.cell? ⟨b, off + i * 4 + j, none⟩ := fun j => World.cell?_of_block (a := ⟨b, off + i * 4 + j, none⟩) (hb.block b hlt)
  exact ⟨b, off, e, (hx 0).trans h0, (hx 1).trans h1, (hx 2).trans h2, (hx 3).trans h3⟩
theorem said_take {l : List Ev4} {i : Nat} (hi : i < l.length) : saidSum (l.take (i + 1)) = saidSum (l.take i) + (l.getD i default).2.2.2 := by
  have e : l.take (i + 1) = l.take i ++ [l.getD i default] := by
    rw [List.take_add_one, List.getD_eq_getElem?_getD, List.getElem?_eq_getElem hi]
    rfl
  unfold saidSum
  rw [e, List.map_append, List.sum_append]
  simp
theorem wrap_add (a b : Int) : wrap64 (wrap64 a + b) = wrap64 (a + b) := by unfold wrap64; omega

def swaC : Array Value := #[.int .i64 1, .int .i64 2, .int .i64 5, .int .i64 0, .int .i64 0, .int .i64 9, .int .i64 3, .int .i64 0, .int .i64 1, .int .i64 2, .int .i64 16, .int .i64 3, .int .i64 3, .int .i64 0, .int .i64 0, .int .i64 0, .int .i64 0, .int .i64 0, .int .i64 0, .int .i64 0]
set_option maxHeartbeats 2000000 in
theorem coreSwaps_any {w : World} (hw : CW w) (n : Int) (D : Option Addr) (nm cm : Nat) (l : List (Int × Bool)) (hl : Moves w w.heap.size D nm l) :
    Calls Tryd.prog 13 #[.int .i64 n, .slice D nm cm] w fun e w' => e = .returned (.bool true) ∧ Below w.heap.size w w' := by
  have HG := Lib.hid (gone_any hw)
  have HP := Lib.hid (fun w => pick_det n 16 16 w rfl (by decide) (by decide))
  have p1 := pickI_lo n 16
  have p2 := pickI_hi n 16 (by decide)
  obtain ⟨z, hz⟩ : ∃ z : Nat, pickI n 16 = (z : Int) := ⟨(pickI n 16).toNat, by omega⟩
  rw [hz] at HP p1 p2
  obtain ⟨k, hk⟩ : ∃ k, z + 1 = k := ⟨_, rfl⟩
  have hw1 : wrap64 (1 + (z : Int)) = (k : Int) := by unfold wrap64; omega
  have HK := Lib.hid (show 1 ≤ k ∧ k ≤ 16 by omega)
  have HW := Lib.hid hw
  have HL := Lib.hid hl
  clear hz p1 p2 hw hl hk
  go_enter Tryd.func13, Tryd.ntmps13
  go_wp2_with fail
  refine HG.out.mono ?_
  rintro e w1 ⟨rfl, hb1⟩
  have HB1 := Lib.hid hb1
  clear hb1 HG
  by_cases h9 : 300 < nm
  · have h9' : (300 : Int) < (nm : Int) := by omega
    go_wp2
    go_ret
    exact ⟨rfl, HB1.out⟩
  have h9' : ¬ (300 : Int) < (nm : Int) := by omega
  have HN5 := Lib.hid (show nm ≤ 500 by omega)
  go_wp2_with fail
  refine (HP.out _).mono ?_
  rintro e w2 ⟨rfl, rfl⟩
  have hb2 := HB1.out.alloc HB1.out.size (.cells swaC 64)
  have HRc := Lib.hid (raced_any (HW.out.old hb2) HK.out.1 HK.out.2 (some ⟨w1.heap.size, 0, none⟩) D 4 4 nm cm swaP (inss_lit (w := w1) (cs := swaC) (l := swaP) (n := 4) rfl rfl (by decide)) swa_right l (HL.out.old hb2) HN5.out)
  unfold swaC at HRc hb2
  have HB2 := Lib.hid hb2
  clear hb2 HP
  go_wp2_with fail
  refine HRc.out.mono ?_
  rintro e w3 ⟨q, m', rfl, hf, hA, hbig⟩
  obtain ⟨v1, v2, v3⟩ := swa_all HK.out.1 HK.out.2 l hf
  have hk16 := HK.out.2
  have HEv := Lib.hid (at_events hA (by omega))
  rw [v3] at HEv
  have HA := Lib.hid hA
  have HV := Lib.hid (And.intro v1 (And.intro v2 v3))
  clear hf hA hbig v1 v2 v3 HRc
  go_wp2_with fail
  refine HEv.out.mono ?_
  rintro e w4 ⟨A4, c4, rfl, ho4, hg4⟩
  have HR4 := Lib.hid (evRow_own ho4 HV.out.2.2)
  have HA4 := Lib.hid (HA.out.grow hg4)
  clear ho4 hg4 HEv HA
  go_wp2
  --MA
  go_loopw [6, 30] (fun s j wr => ∃ i : Nat, i ≤ k ∧ j = .int .i64 i ∧ s = .int .i64 (wrap64 (saidSum (m'.events.take i))) ∧ Below w4.heap.size w4 wr) (fun _ j _ => k - (intOf j).toNat)
  case atStart => exact ⟨0, Nat.zero_le _, rfl, congrArg (Value.int .i64) (show (0 : Int) = wrap64 (saidSum (m'.events.take 0)) by rw [show saidSum (m'.events.take 0) = 0 by simp [saidSum]]; unfold wrap64; decide), Below.refl _ _⟩
  case round =>
    obtain ⟨i, hi, rfl, rfl, hm⟩ := hrel
    by_cases hlt : i < k
    · have hin : (i : Int) < (k : Int) := by omega
      obtain ⟨b, off, hA, x0, x1, x2, x3⟩ := (HR4.out.belowS hm) i hlt
      subst hA
      have HT := Lib.hid (said_take (l := m'.events) (i := i) (by rw [HV.out.2.2]; exact hlt))
      have HM := Lib.hid (fun o => hm.alloc hm.size o)
      generalize m'.events.getD i default = x at *
      obtain ⟨y0, y1, y2, y3⟩ := x
      dsimp only at x0 x1 x2 x3 HT
      have HWr := Lib.hid (wrap_add (saidSum (m'.events.take i)) y3)
      rw [← HT.out] at HWr
      generalize saidSum (m'.events.take i) = sa at *
      generalize hsb : saidSum (m'.events.take (i + 1)) = sb at *
      have HSb := Lib.hid hsb
      clear hm hsb HT
      generalize wrap64 sa = sw at *
      have hws := HWr.out
      go_wp2
      --MB
      go_roundw
      case rel => exact ⟨i + 1, by omega, by go_num, by
          --MR
          first | (rw [HSb.out]; done) | (rw [HSb.out, ← hws]; done) | (rw [HSb.out]; exact congrArg _ hws), HM.out _⟩
      case measure => simp [intOf]; omega
    · have hin : ¬ (i : Int) < (k : Int) := by omega
      obtain rfl : i = k := by omega
      have hall : m'.events.take i = m'.events := List.take_of_length_le (by rw [HV.out.2.2]; exact Nat.le_refl _)
      have h1 : wrap64 (saidSum m'.events) = 1 := by rw [HV.out.2.1]; unfold wrap64; decide
      rw [hall, h1]
      have HA5 := Lib.hid (HA4.out.keepB hm)
      have HEv2 := Lib.hid (at_events HA5.out (by rw [HV.out.2.2]; omega))
      rw [HV.out.2.2] at HEv2
      clear hall h1 hm
      go_wp2_with fail
      --MC
      refine HEv2.out.mono ?_
      rintro e w6 ⟨A6, c6, rfl, -, hg6⟩
      have HA6 := Lib.hid (HA5.out.grow hg6)
      have HCe := Lib.hid (at_cells HA6.out (by rw [HV.out.1]; exact Nat.le_of_ble_eq_true rfl))
      rw [HV.out.1] at HCe
      have hii : ((i : Int) == (i : Int)) = true := by simp
      clear hg6 HEv2 HA5
      go_wp2_with fail
      refine HCe.out.mono ?_
      rintro e w7 ⟨A7, c7, rfl, ho7, hg7⟩
      have HI7 := Lib.hid (show Ints .u64 w7 w7.heap.size A7 1 [5] from Ints.of_own ho7)
      have HA7 := Lib.hid (HA6.out.grow hg7)
      clear ho7 hg7 HCe HA6
      go_wp2_with fail
      refine (equal_one A7 c7 5 HI7.out).mono ?_
      rintro e w8 ⟨rfl, hg8⟩
      have HB8 := Lib.hid (HB2.out.trans ((HA7.out.grow hg8).bel.mono HB2.out.size))
      clear hg8 HA7 HI7
      go_wp2
      go_ret
      exact ⟨rfl, HB8.out⟩
end Go.Proofs.YtdfljhechmanlaaDoor

namespace Go.Proofs.YtdfljhechmanlaaDoor.coreSwaps
open Go.ChangeShapes Go.WideShapes Go.ChangeAt Go.RowKit
set_option linter.unusedVariables false

theorem own : ownKnob Tryd.prog.godebug = none := by kernel_rfl
theorem laidOut : laidOutB Tryd.prog = true := by kernel_rfl
theorem tsize : Tryd.prog.types.size = 214 := by kernel_rfl

/-- What the listed variables give the walk. -/
theorem cw_of {W : World} (h : laidMetH Tryd.prog Rows.coreSwapsRow.laid W) : CW W := by
  have h' : laidMet Tryd.prog (Rows.coreSwapsRow.laid.filter fun x => x.2.handleName?.isNone) W ∧ handlesMet Tryd.prog (Rows.coreSwapsRow.laid.filter fun x => x.2.handleName?.isSome) W := h
  exact cw_of_laid h'.1 (List.mem_filter.2 ⟨.tail _ (.head _), rfl⟩)

/-- So many blocks has the settled world. -/
noncomputable def low : Nat := (World.holding Tryd.prog default ⟨#[], #[], []⟩).heap.size
def put (o : Obj) (cs : Array Value) : Obj := match o with
  | .cells _ t frozen => .cells cs t frozen
  | o => o
def tab (k : IntKind) (zs : List Int) : Array Value := (zs.map fun z => Value.int k z).toArray
/-- A world that meets the condition. -/
noncomputable def laidWorld (os : Os) : World :=
  let w0 := World.holding Tryd.prog os ⟨#[], #[], []⟩
  { w0 with heap := ((w0.heap.modify 1 (put · #[.iface 172 (.agg #[.pointer (some ⟨2, 36, none⟩)])])).modify 0 (put · formCells)) }
theorem laidWorld_met (os : Os) (args : Array Value) : laidMetH Tryd.prog Rows.coreSwapsRow.laid ((laidWorld os).forCall (fun _ _ => 0) ⟨#[], args, []⟩).memory :=
  laidMetH_of_parts (LaidIn.of_run [0] 8 (by kernel_rfl) (by kernel_rfl) (by kernel_rfl) (by kernel_rfl)).met (by kernel_rfl)

/-- The walk. -/
theorem walk (a0 : Int) (a1 : Option Addr) (len1 cap1 : Nat) (nods1 : List (Int × Bool)) (w : World) (hw : CW w) (N1 : Moves w w.heap.size a1 len1 nods1) (I1 : True) :
    Calls Tryd.prog 13 #[.int .i64 a0, .slice a1 len1 cap1] w fun e w' => e = .returned (.bool true) ∧ Below w.heap.size w w' := by
  exact coreSwaps_any hw a0 a1 len1 cap1 nods1 N1

set_option maxRecDepth 100000 in
theorem lifted (os : Os) (started : os.Started) (H : Type) (enc : TypeId × Value → H) :
    ReturnsInHanded {} Tryd.checked os 13 .any (fun w args => (Rows.coreSwapsSpec.pre enc Tryd.prog Tryd.f13 [] false w args ∧ laidMetH Tryd.prog Rows.coreSwapsRow.laid w) ∧ sizedMet enc Tryd.prog Tryd.f13 (OpenSpec.ofChange Rows.coreSwapsSpec) false w args)
      (Rows.coreSwapsSpec.post enc Tryd.prog Tryd.f13 false true false false) := by
  refine returnsInHanded_of_change_and (C := Tryd.checked) (X := fun w _ => laidMetH Tryd.prog Rows.coreSwapsRow.laid w) (fun _ _ _ hh h => h.of_heap hh) own started (by kernel_rfl) Tryd.func13
    (ChangeSpec.witness_at (enc := enc) (C := Tryd.checked) (os := os) (X := fun w _ => laidMetH Tryd.prog Rows.coreSwapsRow.laid w) false (laidWorld os) #[.int .i64 0, .slice none 0 0] 8 rfl (by kernel_rfl) (by kernel_rfl) (by kernel_rfl) (by kernel_rfl) (by kernel_rfl) (laidWorld_met os _)) ?_
  intro W base args ds gs before hval0 hW _ _ hL _
  have hval : ∀ (j : Nat) t v, Tryd.f13.params[j]? = some t → args[j]? = some v → Value.okWide Tryd.prog W .any base t v := hval0
  have hW' := hW
  obtain ⟨p, q, hA0, hV0, rfl, hfz, hnd⟩ := hW
  have hA : DataW.TrodAll enc Tryd.prog W 0 (fun _ => true) true Tryd.f13.params.toList args.toList ds p := hA0
  have hV : DataW.TrodVars enc Tryd.prog W (fun _ => true) [] gs q := hV0
  rw [Tryd.params13] at hA hval
  obtain ⟨v0, vs0, d0, ds0, p0, q0, hargs, rfl, rfl, h0, r0⟩ := trodAll_cons hA
  obtain ⟨v1, vs1, d1, ds1, p1, q1, rfl, rfl, rfl, h1, r1⟩ := trodAll_cons r0
  obtain ⟨rfl, rfl, rfl⟩ := trodAll_nil r1
  obtain rfl : args = #[v0, v1] := by cases args; simp_all
  obtain ⟨rfl, rfl⟩ : gs = [] ∧ q = [] := by
    cases gs with
    | nil => exact ⟨rfl, hV⟩
    | cons g r => exact absurd hV (by intro h; cases h)
  obtain ⟨a0, rfl, rfl, rfl, w0⟩ := open_int Tryd.underlying3 (hval 0 3 v0 rfl rfl) h0
  obtain ⟨a1, len1, cap1, rfl⟩ := okWide_slice Tryd.underlying23 (hval 1 23 v1 rfl rfl)
  have k1 := h1
  have lt1 : ∀ x ∈ p1, x.block < W.heap.size := by obtain ⟨m, hm⟩ := k1; exact DataW.trod_lt m _ _ _ hm
  obtain ⟨nods1, N1, I1⟩ : ∃ nods, Moves W W.heap.size a1 len1 nods ∧ True := by
    obtain ⟨fuel, hf⟩ := h1
    obtain ⟨l, hl⟩ := moves_of (a := a1) (len := len1) (cap := cap1) hf; exact ⟨l, hl, trivial⟩
  have hw := cw_of hL
  clear hA0 hval0
  refine (walk a0 a1 len1 cap1 nods1 W hw N1 I1).mono fun e W' ⟨he, bel⟩ => ?_
  subst he
  exact ⟨_, rfl, _, _, _, [], _, [], hW', trodAll_mk1 (shut_bool Tryd.underlying4 _), (trodAll_cons_mk (shut_int Tryd.underlying3 w0) (trodAll_cons_mk (Below.trod laidOut (by kernel_rfl) (of_decide_eq_true (by kernel_rfl)) k1 bel lt1) trodAll_mk0)), rfl, bel.frame _, fun h => by cases h⟩

theorem over : Rows.CoreSwapsSaid :=
  OpenClaim.holds_of_wide 13 Tryd.f13 rfl rfl rfl rfl rfl rfl rfl ⟨rfl, rfl, rfl, rfl, rfl⟩ rfl rfl rfl rfl rfl (by kernel_rfl) Tryd.func13 (by kernel_rfl)
    (of_decide_eq_true (by kernel_rfl)) (by unfold Func.isWrapper; first | (rw [if_pos (by decide +kernel)]; kernel_rfl) | (rw [if_neg (by decide +kernel)]; exact ⟨rfl, rfl⟩))
    (fun os started H enc _ => lifted os started H enc)

/-- The given statement: the tied card. -/
theorem proved : Rows.CoreSwapsCardSaid :=
  Claim7.holds_tied_plain_at .later [] [.handle, .data] true (true, "d47da573c139323a2d3ffb97e069444c56f44381508be9b6753f4f5b74787098") true
    over (fun _ h => by cases h) (by kernel_rfl) (fun _ h => by cases h) coreSwaps_row_tie rfl ⟨rfl, rfl⟩ (by kernel_rfl) rfl
    (fun f fn hf hfn => by
      obtain rfl : f = 13 := Option.some.inj ((show Tryd.prog.funcNamed "quadrille/quadrillekeep.CoreSwaps" = some 13 by kernel_rfl).symm.trans hf) |>.symm
      obtain rfl : fn = Tryd.f13 := (Option.some.inj (Tryd.func13.symm.trans hfn)).symm
      refine ⟨by kernel_rfl, fun j t ht => ?_⟩
      rw [Tryd.params13] at ht
      have hm : t ∈ [3, 23] := by
        have := Array.mem_of_getElem? ht
        simpa using this
      have hall : ([3, 23].all fun u => !Tryd.prog.wantsStandIn u) = true := by kernel_rfl
      exact (show Tryd.prog.wantsStandIn t = false by simpa using List.all_eq_true.1 hall t hm))
    (by kernel_rfl)
#print axioms proved
end Go.Proofs.YtdfljhechmanlaaDoor.coreSwaps
