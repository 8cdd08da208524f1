/-
  Nothing is lost: of all that fetch and add one each finds another number, whoever goes on when, and all are added. No conditions.
-/
import Derived.Test.YtdfljhechmanlaaDoorQM
import Derived.Test.YtdfljhechmanlaaDoorQL3
import Derived.Test.YtdfljhechmanlaaDoorQL6
import Derived.Test.YtdfljhechmanlaaDoorRows
import Derived.Test.YtdfljhechmanlaaDoorCards
import Derived.Test.YtdfljhechmanlaaDoorTie
import Derived.WalkKit
import Derived.ProofKit
import Derived.OpenShut
import Derived.ChangeOld
import Derived.Below
import Derived.ChangeSame
import Derived.ChangeVars
import Derived.JoinedOf
import Derived.RowKitTokens
import Derived.LaidLaws
import Derived.LaidHandle
import Derived.Stop.Joined
import Derived.SevenTiedAt
import Derived.Lib.LaidTab
import Derived.Lib.LaidIn
import Derived.ChangeMaps5
import Derived.Test.YtdfljhechmanlaaDoorQE3
import Derived.Test.YtdfljhechmanlaaDoorQE
namespace Go.Proofs.YtdfljhechmanlaaDoor
set_option maxRecDepth 100000
open Go.RowKit Go.Shelf Go.Sort
set_option linter.unusedVariables false
set_option linter.unusedSimpArgs false

theorem fet_right {d : Nat} (hd : d ≤ 8) : RightL (fetP d) 1 := by
  have hl := fetP_len d
  refine ⟨by decide, by decide, by omega, by omega, fun i hi => ?_, .inl ?_⟩
  · rw [fetP_at]
    split
    · split
      · simp [goodX, kindsOf, kinds, nums, fitsL, boundsL]
      · simp [goodX, kindsOf, kinds, nums, fitsL, boundsL]
    · rw [if_pos (by omega)]
      exact ⟨by show (0 : Int) ≤ 0; decide, by show (0 : Int) < 17; decide, rfl⟩
  · rw [fetP_at, hl, if_neg (by omega), if_pos (by omega)]
theorem fet_all {n d : Nat} (n1 : 1 ≤ n) (n16 : n ≤ 16) (hd : d ≤ 8) (l : List (Int × Bool)) {m' : Mach} (hf : Fin (sweepM (l.map (pickT n)) (newM (List.replicate n (fetP d)) [0])) m') :
    m'.cells = [((n * d : Nat) : Int)] ∧ (m'.events.map (·.2.2.2)).Nodup ∧ m'.events.length = n * d ∧ ∀ e ∈ m'.events, 0 ≤ e.2.2.2 ∧ e.2.2.2 < ((n * d : Nat) : Int) := by
  obtain ⟨a, b, _, _⟩ := race_sweep (fetP_straight hd) n16 (I := FetI n) (fun m t i h ht he => fet_step hd n16 i h ht he) (l.map (pickT n)) _ (rbase_new (fetP_straight hd)) fet_new (picked_lt n1 l)
  obtain ⟨a2, b2, c2⟩ := race_fin (fetP_straight hd) n16 (I := FetI n) (fun m t i h ht he => fet_step hd n16 i h ht he) a b hf
  obtain ⟨h1, h2, h3⟩ := fet_end a2 b2 c2
  refine ⟨?_, h2, h3, fun e he => ?_⟩
  · rw [← h1]; exact one_cell a2
  · have := b2.said e he
    rw [h1] at this
    exact this
/-- The pieces so far. -/
def fetB (i : Nat) : List Ins5 := (List.range i).flatMap fun _ => [(8, 1, 0, 1, 0), (16, 3, 1, 0, 0)]
theorem fetB_succ (i : Nat) : fetB (i + 1) = fetB i ++ [(8, 1, 0, 1, 0), (16, 3, 1, 0, 0)] := by
  unfold fetB
  rw [List.range_succ, List.flatMap_append]
  rfl
theorem ev_new {l : List Ev4} (hn : (l.map (·.2.2.2)).Nodup) {i : Nat} (hi : i < l.length) : (l.getD i default).2.2.2 ∉ (l.take i).map (·.2.2.2) := by
  have e : l.take (i + 1) = l.take i ++ [l.getD i default] := by
    rw [List.take_add_one, List.getD_eq_getElem?_getD, List.getElem?_eq_getElem hi]
    rfl
  have h1 : ((l.take (i + 1)).map (·.2.2.2)).Nodup := ((List.take_sublist (i + 1) l).map _).nodup hn
  rw [e, List.map_append, List.nodup_append] at h1
  intro h
  exact h1.2.2 _ h _ (by simp) rfl
theorem ev_wf {y n : Int} (h0 : 0 ≤ y) (h1 : y < n) (h2 : n ≤ 1000) : (Lit.int .i64 y).wf = true := by
  simp [Lit.wf, IntKind.min, IntKind.max, IntKind.signed, IntKind.bits]
  omega

set_option maxHeartbeats 4000000 in
theorem coreFetches_any {w : World} (hw : CW w) (n times : Int) (D : Option Addr) (nm cm : Nat) (l : List (Int × Bool)) (hl : Moves w w.heap.size D nm l) :
    Calls Tryd.prog 11 #[.int .i64 n, .int .i64 times, .slice D nm cm] w fun e w' => e = .returned (.bool true) ∧ Below w.heap.size w w' := by
  have HG := Lib.hid (gone_any hw)
  have HP := Lib.hid (fun w => pick_det n 16 16 w rfl (by decide) (by decide))
  have HP2 := Lib.hid (fun w => pick_det times 9 9 w rfl (by decide) (by decide))
  have p1 := pickI_lo n 16
  have p2 := pickI_hi n 16 (by decide)
  have p3 := pickI_lo times 9
  have p4 := pickI_hi times 9 (by decide)
  obtain ⟨z, hz⟩ : ∃ z : Nat, pickI n 16 = (z : Int) := ⟨(pickI n 16).toNat, by omega⟩
  obtain ⟨d, hd⟩ : ∃ d : Nat, pickI times 9 = (d : Int) := ⟨(pickI times 9).toNat, by omega⟩
  rw [hz] at HP p1 p2
  rw [hd] at HP2 p3 p4
  obtain ⟨k, hk⟩ : ∃ k, z + 1 = k := ⟨_, rfl⟩
  have hw1 : wrap64 (1 + (z : Int)) = (k : Int) := by unfold wrap64; omega
  have HK := Lib.hid (show 1 ≤ k ∧ k ≤ 16 by omega)
  have HD := Lib.hid (show d ≤ 8 by omega)
  have HW := Lib.hid hw
  have HL := Lib.hid hl
  clear hz p1 p2 p3 p4 hw hl hk hd
  go_enter Tryd.func11, Tryd.ntmps11
  go_wp2_with fail
  refine HG.out.mono ?_
  rintro e w1 ⟨rfl, hb1⟩
  have HB1 := Lib.hid hb1
  clear hb1 HG
  by_cases h9 : 300 < nm
  · have h9' : (300 : Int) < (nm : Int) := by omega
    go_wp2
    go_ret
    exact ⟨rfl, HB1.out⟩
  have h9' : ¬ (300 : Int) < (nm : Int) := by omega
  have HN5 := Lib.hid (show nm ≤ 500 by omega)
  go_wp2_with fail
  refine (HP.out _).mono ?_
  rintro e w2 ⟨rfl, rfl⟩
  clear HP
  go_wp2_with fail
  refine (HP2.out _).mono ?_
  rintro e w2 ⟨rfl, rfl⟩
  clear HP2
  go_wp2
  go_loopw [7, 23] (fun v j wr => ∃ i : Nat, i ≤ d ∧ j = .int .i64 i ∧ wr.ownsRow w1.heap.size 64 5 v (2 * i) (cells5 (fetB i)) ∧ Below w1.heap.size w1 wr) (fun _ j _ => d - (intOf j).toNat)
  case atStart => exact ⟨0, Nat.zero_le _, rfl, World.ownsRow_nil _ _ _ _, Below.refl _ _⟩
  case round =>
    obtain ⟨i, hi, rfl, ho, hb⟩ := hrel
    by_cases hlt : i < d
    · have hin : (i : Int) < (d : Int) := by omega
      have hi8 : i < 8 := by have := HD.out; omega
      obtain ⟨Av, cv, rfl⟩ := slice_of_own ho
      have hI := inss_lit (w := wr) (cs := #[.int .i64 8, .int .i64 1, .int .i64 0, .int .i64 1, .int .i64 0, .int .i64 16, .int .i64 3, .int .i64 1, .int .i64 0, .int .i64 0]) (l := [(8, 1, 0, 1, 0), (16, 3, 1, 0, 0)]) (n := 2) rfl rfl (by decide)
      obtain ⟨v3, w3, hr3, ho3, hg3⟩ := run_appendP (c := 2) (ho.alloc _) hI (by omega) (by rw [World.size_alloc]; have := hb.size; omega) 55
      rw [← fetB_succ, show 2 * i + 2 = 2 * (i + 1) by omega] at ho3
      have HO3 := Lib.hid (And.intro ho3 ((hb.alloc hb.size _).grown hg3 (by rw [World.size_alloc]; have := hb.size; omega) (fun g hg => (ho.lt g hg).1)))
      have HR3 := Lib.hid hr3
      clear ho hb hI hr3 ho3 hg3
      go_wp2_with (at_builtin; refine Lib.wpList_append_run _ rfl _ _ _ _ rfl _ _ rfl rfl _ _ HR3.out ?_; clear HR3)
      go_roundw
      case rel => exact ⟨i + 1, by omega, by go_num, HO3.out⟩
      case measure => simp [intOf]; omega
    · have hin : ¬ (i : Int) < (d : Int) := by omega
      obtain rfl : i = d := by omega
      obtain ⟨Av, cv, rfl⟩ := slice_of_own ho
      have hI := inss_lit (w := wr) (cs := #[.int .i64 0, .int .i64 0, .int .i64 0, .int .i64 0, .int .i64 0]) (l := [(0, 0, 0, 0, 0)]) (n := 1) rfl rfl (by decide)
      obtain ⟨v3, w3, hr3, ho3, hg3⟩ := run_appendP (c := 1) (ho.alloc _) hI (by have := HD.out; omega) (by rw [World.size_alloc]; have := hb.size; omega) 55
      obtain ⟨A3, c3, rfl⟩ := slice_of_own ho3
      have hb3 := HB1.out.trans (((hb.alloc hb.size _).grown hg3 (by rw [World.size_alloc]; have := hb.size; omega) (fun g hg => (ho.lt g hg).1)).mono HB1.out.size)
      have hP3 : Inss w3 w3.heap.size A3 (2 * i + 1) (fetP i) := Inss.of_own ho3 (fetP_len i)
      have HRc := Lib.hid (raced_any (HW.out.old hb3) HK.out.1 HK.out.2 A3 D (2 * i + 1) c3 nm cm (fetP i) hP3 (fet_right HD.out) l (HL.out.old hb3) HN5.out)
      have HB3 := Lib.hid hb3
      have HR3 := Lib.hid hr3
      clear ho hb hI hr3 ho3 hg3 hb3 hP3
      go_wp2_with (at_builtin; refine Lib.wpList_append_run _ rfl _ _ _ _ rfl _ _ rfl rfl _ _ HR3.out ?_; clear HR3)
      --MA
      refine HRc.out.mono ?_
      rintro e w4 ⟨q, m', rfl, hf, hA, hbig⟩
      obtain ⟨v1, v2, v3, v4⟩ := fet_all HK.out.1 HK.out.2 HD.out l hf
      have hnt2 : k * i ≤ 16 * 8 := Nat.mul_le_mul HK.out.2 HD.out
      obtain ⟨nt, hnt⟩ : ∃ nt, k * i = nt := ⟨_, rfl⟩
      have hmul : wrap64 ((k : Int) * (i : Int)) = (nt : Int) := by
        rw [show (k : Int) * (i : Int) = ((k * i : Nat) : Int) by rw [Int.natCast_mul], hnt]
        unfold wrap64
        omega
      rw [hnt] at v1 v3 v4 hnt2
      have hu : IntKind.u64.wrap (nt : Int) = (nt : Int) := by show (nt : Int) % 18446744073709551616 = _; omega
      have HMul := Lib.hid (And.intro hmul hu)
      have HV := Lib.hid (And.intro v1 (And.intro v2 (And.intro v3 v4)))
      have HNt := Lib.hid hnt2
      have HA := Lib.hid hA
      clear hf hA hbig v1 v2 v3 v4 HRc hnt hnt2 hmul hu
      have hmk : ∀ W : World, (Instr.makeMap 46 none).run Tryd.prog W = .ok (.map (some W.heap.size)) (W.alloc (.map #[] 0)) := fun W => run_makeMap 46 W
      have HB0 := Lib.hid ((Below.refl w4.heap.size w4).alloc (Nat.le_refl _) (.map #[] 0))
      have HE0 := Lib.hid (EM.made 4 w4)
      have HEv := Lib.hid (at_events (HA.out.keepB HB0.out) (by rw [HV.out.2.2.1]; have := HNt.out; omega))
      rw [HV.out.2.2.1] at HEv
      go_wp2_with fail
      --MB
      refine HEv.out.mono ?_
      rintro e w5 ⟨A5, c5, rfl, ho5, hg5⟩
      have HB5 := Lib.hid (HB0.out.grown hg5 HB0.out.size (by intro k hk; cases hk))
      have HE5 := Lib.hid (HE0.out.kept hg5 (by simp))
      have HO5 := Lib.hid ho5
      rw [World.size_alloc] at HO5
      obtain ⟨b0, hb0⟩ : ∃ b0, w4.heap.size = b0 := ⟨_, rfl⟩
      rw [hb0] at HO5 HE5 HB5 ⊢
      have HBE := Lib.hid hb0
      clear hb0 ho5 hg5 HEv HE0 HB0 hmk
      go_wp2
      go_loopw [44] (fun j wr => ∃ (t : Nat) (fS : Int → Bool), t ≤ nt ∧ j = .int .i64 t ∧ Hid (EM 4 wr b0 t fS ∧ Below b0 w4 wr ∧ wr.ownsRow (b0 + 1) 67 4 (.slice A5 nt c5) nt (cellsE m'.events) ∧ ∀ x, fS x = true → x ∈ (m'.events.take t).map (·.2.2.2))) (fun j _ => nt - (intOf j).toNat)
      case atStart => exact ⟨0, fun _ => false, Nat.zero_le _, rfl, ⟨HE5.out, HB5.out, HO5.out, fun x h => by cases h⟩⟩
      case round =>
        obtain ⟨t, fS, ht, rfl, hX⟩ := hrel
        by_cases hlt2 : t < nt
        · have htn : (t : Int) < (nt : Int) := by omega
          have ht200 : t < 200 := by have := HNt.out; omega
          obtain ⟨b, off, hA5, x0, x1, x2, x3⟩ := evRow_own hX.out.2.2.1 HV.out.2.2.1 t hlt2
          subst hA5
          have hil : t < m'.events.length := by rw [HV.out.2.2.1]; exact hlt2
          have hnew := ev_new HV.out.2.1 hil
          have hrg := HV.out.2.2.2 (m'.events.getD t default) (by rw [List.getD_eq_getElem?_getD, List.getElem?_eq_getElem hil]; exact List.getElem_mem hil)
          have htk : (m'.events.take (t + 1)).map (·.2.2.2) = (m'.events.take t).map (·.2.2.2) ++ [(m'.events.getD t default).2.2.2] := by
            rw [List.take_add_one, List.getD_eq_getElem?_getD, List.getElem?_eq_getElem hil, List.map_append]
            rfl
          generalize m'.events.getD t default = x at *
          obtain ⟨y0, y1, y2, y3⟩ := x
          dsimp only at x0 x1 x2 x3 hnew hrg htk
          have hfx : fS y3 = false := by
            cases hh : fS y3 with
            | false => rfl
            | true => exact absurd (hX.out.2.2.2 y3 hh) hnew
          have hwf := ev_wf hrg.1 hrg.2 (by have := HNt.out; omega)
          have hb0 := hX.out.1.lt
          have hal := World.grownBy_alloc wr (.cells #[.int .i64 y0, .int .i64 y1, .int .i64 y2, .int .i64 y3] 67) none
          obtain ⟨w9, hup, hem, hg9⟩ := (hX.out.1.kept hal (by simp)).put Tryd.underlying46 Tryd.underlying4 (Nat.lt_of_lt_of_le ht200 (by decide)) y3 hwf hfx
          have hown9 : w9.ownsRow (b0 + 1) 67 4 (.slice (some ⟨b, off, none⟩) nt c5) nt (cellsE m'.events) := (hX.out.2.2.1.alloc _).kept hg9 (.inr (by
            intro e
            have h7 := (hX.out.2.2.1.lt b rfl).1
            have e2 : some b = some b0 := e
            injection e2 with e2
            omega))
          have HNew := Lib.hid (show EM 4 w9 b0 (t + 1) (setAt fS y3) ∧ Below b0 w4 w9 ∧ w9.ownsRow (b0 + 1) 67 4 (.slice (some ⟨b, off, none⟩) nt c5) nt (cellsE m'.events) ∧ ∀ x, setAt fS y3 x = true → x ∈ (m'.events.take (t + 1)).map (·.2.2.2) from ⟨hem, (hX.out.2.1.grown hal (by omega) (by intro q hq; cases hq)).grown hg9 (by rw [World.size_alloc]; omega) (by intro q hq; injection hq with hq; omega), hown9, fun x hx => by
            rw [htk]
            by_cases e : x = y3
            · exact List.mem_append.2 (.inr (by simp [e]))
            · have h2 : fS x = true := by unfold setAt at hx; rwa [if_neg e] at hx
              exact List.mem_append.2 (.inl (hX.out.2.2.2 x h2))⟩)
          clear hX hnew hrg htk hfx hem hg9 hown9 hal hil
          go_wp2
          --MC
          go_roundw
          case rel => exact ⟨t + 1, _, by omega, by go_num, by first | exact HNew.out | exact ⟨HNew.out⟩⟩
          case measure => simp [intOf]; omega
        · have htn : ¬ (t : Int) < (nt : Int) := by omega
          obtain rfl : t = nt := by omega
          have hA8 := HA.out.keepB (show Below w4.heap.size w4 wr by rw [HBE.out]; exact hX.out.2.1)
          have HCe := Lib.hid (at_cells hA8 (by rw [HV.out.1]; exact Nat.le_of_ble_eq_true rfl))
          rw [HV.out.1] at HCe
          have HA8 := Lib.hid hA8
          have HE8 := Lib.hid hX.out.1
          obtain ⟨hmul, hu⟩ := HMul.out
          clear hA8 hX
          go_wp2_with fail
          refine HCe.out.mono ?_
          rintro e w9 ⟨A9, c9, rfl, ho9, hg9⟩
          have HI9 := Lib.hid (show Ints .u64 w9 w9.heap.size A9 1 [(t : Int)] from Ints.of_own ho9)
          have HA9 := Lib.hid (HA8.out.grow hg9)
          have HE9 := Lib.hid (HE8.out.kept hg9 (by simp))
          clear ho9 hg9 HCe HA8 HE8
          go_wp2_with fail
          --MD
          refine (equal_one A9 c9 (t : Int) HI9.out).mono ?_
          rintro e w10 ⟨rfl, hg10⟩
          have HB10 := Lib.hid (HB3.out.trans ((HA9.out.grow hg10).bel.mono HB3.out.size))
          have hlen := (HE9.out.kept hg10 (by simp)).len Tryd.underlying46 3
          have htt : ((t : Int) == (t : Int)) = true := by simp
          clear hg10 HA9 HI9 HE9
          go_wp2
          go_ret
          exact ⟨rfl, HB10.out⟩
end Go.Proofs.YtdfljhechmanlaaDoor

namespace Go.Proofs.YtdfljhechmanlaaDoor.coreFetches
open Go.ChangeShapes Go.WideShapes Go.ChangeAt Go.RowKit
set_option linter.unusedVariables false

theorem own : ownKnob Tryd.prog.godebug = none := by kernel_rfl
theorem laidOut : laidOutB Tryd.prog = true := by kernel_rfl
theorem tsize : Tryd.prog.types.size = 214 := by kernel_rfl

/-- What the listed variables give the walk. -/
theorem cw_of {W : World} (h : laidMetH Tryd.prog Rows.coreFetchesRow.laid W) : CW W := by
  have h' : laidMet Tryd.prog (Rows.coreFetchesRow.laid.filter fun x => x.2.handleName?.isNone) W ∧ handlesMet Tryd.prog (Rows.coreFetchesRow.laid.filter fun x => x.2.handleName?.isSome) W := h
  exact cw_of_laid h'.1 (List.mem_filter.2 ⟨.tail _ (.head _), rfl⟩)

/-- So many blocks has the settled world. -/
noncomputable def low : Nat := (World.holding Tryd.prog default ⟨#[], #[], []⟩).heap.size
def put (o : Obj) (cs : Array Value) : Obj := match o with
  | .cells _ t frozen => .cells cs t frozen
  | o => o
def tab (k : IntKind) (zs : List Int) : Array Value := (zs.map fun z => Value.int k z).toArray
/-- A world that meets the condition. -/
noncomputable def laidWorld (os : Os) : World :=
  let w0 := World.holding Tryd.prog os ⟨#[], #[], []⟩
  { w0 with heap := ((w0.heap.modify 1 (put · #[.iface 172 (.agg #[.pointer (some ⟨2, 36, none⟩)])])).modify 0 (put · formCells)) }
theorem laidWorld_met (os : Os) (args : Array Value) : laidMetH Tryd.prog Rows.coreFetchesRow.laid ((laidWorld os).forCall (fun _ _ => 0) ⟨#[], args, []⟩).memory :=
  laidMetH_of_parts (LaidIn.of_run [0] 8 (by kernel_rfl) (by kernel_rfl) (by kernel_rfl) (by kernel_rfl)).met (by kernel_rfl)

/-- The walk. -/
theorem walk (a0 : Int) (a1 : Int) (a2 : Option Addr) (len2 cap2 : Nat) (nods2 : List (Int × Bool)) (w : World) (hw : CW w) (N2 : Moves w w.heap.size a2 len2 nods2) (I2 : True) :
    Calls Tryd.prog 11 #[.int .i64 a0, .int .i64 a1, .slice a2 len2 cap2] w fun e w' => e = .returned (.bool true) ∧ Below w.heap.size w w' := by
  exact coreFetches_any hw a0 a1 a2 len2 cap2 nods2 N2

set_option maxRecDepth 100000 in
theorem lifted (os : Os) (started : os.Started) (H : Type) (enc : TypeId × Value → H) :
    ReturnsInHanded {} Tryd.checked os 11 .any (fun w args => (Rows.coreFetchesSpec.pre enc Tryd.prog Tryd.f11 [] false w args ∧ laidMetH Tryd.prog Rows.coreFetchesRow.laid w) ∧ sizedMet enc Tryd.prog Tryd.f11 (OpenSpec.ofChange Rows.coreFetchesSpec) false w args)
      (Rows.coreFetchesSpec.post enc Tryd.prog Tryd.f11 false true false false) := by
  refine returnsInHanded_of_change_and (C := Tryd.checked) (X := fun w _ => laidMetH Tryd.prog Rows.coreFetchesRow.laid w) (fun _ _ _ hh h => h.of_heap hh) own started (by kernel_rfl) Tryd.func11
    (ChangeSpec.witness_at (enc := enc) (C := Tryd.checked) (os := os) (X := fun w _ => laidMetH Tryd.prog Rows.coreFetchesRow.laid w) false (laidWorld os) #[.int .i64 0, .int .i64 0, .slice none 0 0] 8 rfl (by kernel_rfl) (by kernel_rfl) (by kernel_rfl) (by kernel_rfl) (by kernel_rfl) (laidWorld_met os _)) ?_
  intro W base args ds gs before hval0 hW _ _ hL _
  have hval : ∀ (j : Nat) t v, Tryd.f11.params[j]? = some t → args[j]? = some v → Value.okWide Tryd.prog W .any base t v := hval0
  have hW' := hW
  obtain ⟨p, q, hA0, hV0, rfl, hfz, hnd⟩ := hW
  have hA : DataW.TrodAll enc Tryd.prog W 0 (fun _ => true) true Tryd.f11.params.toList args.toList ds p := hA0
  have hV : DataW.TrodVars enc Tryd.prog W (fun _ => true) [] gs q := hV0
  rw [Tryd.params11] at hA hval
  obtain ⟨v0, vs0, d0, ds0, p0, q0, hargs, rfl, rfl, h0, r0⟩ := trodAll_cons hA
  obtain ⟨v1, vs1, d1, ds1, p1, q1, rfl, rfl, rfl, h1, r1⟩ := trodAll_cons r0
  obtain ⟨v2, vs2, d2, ds2, p2, q2, rfl, rfl, rfl, h2, r2⟩ := trodAll_cons r1
  obtain ⟨rfl, rfl, rfl⟩ := trodAll_nil r2
  obtain rfl : args = #[v0, v1, v2] := by cases args; simp_all
  obtain ⟨rfl, rfl⟩ : gs = [] ∧ q = [] := by
    cases gs with
    | nil => exact ⟨rfl, hV⟩
    | cons g r => exact absurd hV (by intro h; cases h)
  obtain ⟨a0, rfl, rfl, rfl, w0⟩ := open_int Tryd.underlying3 (hval 0 3 v0 rfl rfl) h0
  obtain ⟨a1, rfl, rfl, rfl, w1⟩ := open_int Tryd.underlying3 (hval 1 3 v1 rfl rfl) h1
  obtain ⟨a2, len2, cap2, rfl⟩ := okWide_slice Tryd.underlying23 (hval 2 23 v2 rfl rfl)
  have k2 := h2
  have lt2 : ∀ x ∈ p2, x.block < W.heap.size := by obtain ⟨m, hm⟩ := k2; exact DataW.trod_lt m _ _ _ hm
  obtain ⟨nods2, N2, I2⟩ : ∃ nods, Moves W W.heap.size a2 len2 nods ∧ True := by
    obtain ⟨fuel, hf⟩ := h2
    obtain ⟨l, hl⟩ := moves_of (a := a2) (len := len2) (cap := cap2) hf; exact ⟨l, hl, trivial⟩
  have hw := cw_of hL
  clear hA0 hval0
  refine (walk a0 a1 a2 len2 cap2 nods2 W hw N2 I2).mono fun e W' ⟨he, bel⟩ => ?_
  subst he
  exact ⟨_, rfl, _, _, _, [], _, [], hW', trodAll_mk1 (shut_bool Tryd.underlying4 _), (trodAll_cons_mk (shut_int Tryd.underlying3 w0) (trodAll_cons_mk (shut_int Tryd.underlying3 w1) (trodAll_cons_mk (Below.trod laidOut (by kernel_rfl) (of_decide_eq_true (by kernel_rfl)) k2 bel lt2) trodAll_mk0))), rfl, bel.frame _, fun h => by cases h⟩

theorem over : Rows.CoreFetchesSaid :=
  OpenClaim.holds_of_wide 11 Tryd.f11 rfl rfl rfl rfl rfl rfl rfl ⟨rfl, rfl, rfl, rfl, rfl⟩ rfl rfl rfl rfl rfl (by kernel_rfl) Tryd.func11 (by kernel_rfl)
    (of_decide_eq_true (by kernel_rfl)) (by unfold Func.isWrapper; first | (rw [if_pos (by decide +kernel)]; kernel_rfl) | (rw [if_neg (by decide +kernel)]; exact ⟨rfl, rfl⟩))
    (fun os started H enc _ => lifted os started H enc)

/-- The given statement: the tied card. -/
theorem proved : Rows.CoreFetchesCardSaid :=
  Claim7.holds_tied_plain_at .later [] [.handle, .data] true (true, "d47da573c139323a2d3ffb97e069444c56f44381508be9b6753f4f5b74787098") true
    over (fun _ h => by cases h) (by kernel_rfl) (fun _ h => by cases h) coreFetches_row_tie rfl ⟨rfl, rfl⟩ (by kernel_rfl) rfl
    (fun f fn hf hfn => by
      obtain rfl : f = 11 := Option.some.inj ((show Tryd.prog.funcNamed "quadrille/quadrillekeep.CoreFetches" = some 11 by kernel_rfl).symm.trans hf) |>.symm
      obtain rfl : fn = Tryd.f11 := (Option.some.inj (Tryd.func11.symm.trans hfn)).symm
      refine ⟨by kernel_rfl, fun j t ht => ?_⟩
      rw [Tryd.params11] at ht
      have hm : t ∈ [3, 3, 23] := by
        have := Array.mem_of_getElem? ht
        simpa using this
      have hall : ([3, 3, 23].all fun u => !Tryd.prog.wantsStandIn u) = true := by kernel_rfl
      exact (show Tryd.prog.wantsStandIn t = false by simpa using List.all_eq_true.1 hall t hm))
    (by kernel_rfl)
#print axioms proved
end Go.Proofs.YtdfljhechmanlaaDoor.coreFetches
