/-
  Enough is enough: if as many go down, on threads that await nothing, as the count is, all are at their ends at last; if fewer do in all, nobody who awaits is. No conditions.
-/
import Derived.Test.YtdfljhechmanlaaDoorQL3
import Derived.Test.YtdfljhechmanlaaDoorRows
import Derived.Test.YtdfljhechmanlaaDoorCards
import Derived.Test.YtdfljhechmanlaaDoorTie
import Derived.WalkKit
import Derived.ProofKit
import Derived.OpenShut
import Derived.ChangeOld
import Derived.Below
import Derived.ChangeSame
import Derived.ChangeVars
import Derived.JoinedOf
import Derived.RowKitTokens
import Derived.LaidLaws
import Derived.LaidHandle
import Derived.Stop.Joined
import Derived.SevenTiedAt
import Derived.Lib.LaidTab
import Derived.Lib.LaidIn
import Derived.ChangeMaps5
import Derived.Test.YtdfljhechmanlaaDoorQE3
import Derived.Test.YtdfljhechmanlaaDoorQE
import Derived.Test.YtdfljhechmanlaaDoorQL2
namespace Go.Proofs.YtdfljhechmanlaaDoor
set_option maxRecDepth 100000
open Go.RowKit Go.Shelf Go.Sort
set_option linter.unusedVariables false
set_option linter.unusedSimpArgs false

theorem cnt_pos {q : Int} {ls : List (List (Int × Int))} (h : cntAll q ls ≠ 0) : ∃ l ∈ ls, ∃ x ∈ l, x.1 = q := by
  by_cases hx : ∃ l ∈ ls, ∃ x ∈ l, x.1 = q
  · exact hx
  · exfalso
    apply h
    have hz : ∀ l ∈ ls, cntC q l = 0 := fun l hl => by
      unfold cntC
      rw [List.countP_eq_zero]
      intro x hxl e
      exact hx ⟨l, hl, x, hxl, by simpa using e⟩
    unfold cntAll
    have : ls.map (cntC q) = List.replicate ls.length 0 := by
      rw [List.eq_replicate_iff]
      refine ⟨List.length_map _, fun x hx2 => ?_⟩
      obtain ⟨l, hl, rfl⟩ := List.mem_map.1 hx2
      exact hz l hl
    rw [this]
    simp
theorem cnt_mem {q : Int} : ∀ {ls : List (List (Int × Int))} {l : List (Int × Int)}, l ∈ ls → cntC q l ≤ cntAll q ls
  | [], _, h => by cases h
  | x :: ls, l, h => by
    have e : cntAll q (x :: ls) = cntC q x + cntAll q ls := by simp [cntAll]
    rcases List.mem_cons.1 h with rfl | h
    · omega
    · have := cnt_mem (q := q) h
      omega
theorem cnt_zero {q : Int} {ls : List (List (Int × Int))} (h : cntAll q ls = 0) : ∀ l ∈ ls, ∀ x ∈ l, x.1 ≠ q := fun l hl x hx e => by
  have h1 : 0 < cntC q l := by unfold cntC; rw [List.countP_pos_iff]; exact ⟨x, hx, by simpa using e⟩
  have h2 : cntC q l ≤ cntAll q ls := cnt_mem hl
  omega

theorem la_ends_fact {f d p : Nat} {Ls : List (List Bool)} {m m' : Mach} (h : LaOk f (Ls ++ [List.replicate d false])) (hLs : ∀ L ∈ Ls, ∀ b ∈ L, b = true) (f1 : 1 ≤ f) (hm : LaM h p m) (hp : p ≤ 500) (hf : Fin m m') :
    endsM m' = if f ≤ d ∨ cntAll 2 ((Ls ++ [List.replicate d false]).map (List.map encL)) = 0 then (true, false) else (false, true) := by
  obtain ⟨S, hS, hq⟩ := la_fin hm hp hf
  have hI := laM_inv hS
  obtain ⟨h1, h2, h3⟩ := lat_over hI hS.sim.wf hq
  have hn : (Ls ++ [List.replicate d false]).length = Ls.length + 1 := by simp
  have hlow : ∀ u, u < Ls.length → callsL (Ls ++ [List.replicate d false]) u = Ls.getD u [] := fun u hu => by
    unfold callsL
    rw [List.getD_eq_getElem?_getD, List.getElem?_append_left hu, List.getD_eq_getElem?_getD]
  have hlast : callsL (Ls ++ [List.replicate d false]) Ls.length = List.replicate d false := by
    unfold callsL
    rw [List.getD_eq_getElem?_getD, List.getElem?_append_right (Nat.le_refl _), Nat.sub_self]
    rfl
  have hmem : ∀ u, u < Ls.length → Ls.getD u [] ∈ Ls := fun u hu => by rw [List.getD_eq_getElem?_getD, List.getElem?_eq_getElem hu]; exact List.getElem_mem hu
  have htrue : ∀ u, u < Ls.length → ∀ k, dnB (callsL (Ls ++ [List.replicate d false]) u) k = 0 := fun u hu k => by
    rw [hlow u hu]
    unfold dnB
    rw [List.count_eq_zero]
    intro hb
    have := hLs _ (hmem u hu) false (List.mem_of_mem_take hb)
    cases this
  have hk : (S.th Ls.length).en = true ∧ (S.th Ls.length).k = d := by
    rcases h1 Ls.length (by omega) with ⟨a, b⟩ | ⟨_, b⟩
    · rw [hlast, List.length_replicate] at b
      exact ⟨a, b⟩
    · rw [hlast] at b
      have := List.mem_of_getElem? b
      have := (List.mem_replicate.1 this).2
      cases this
  have hD : (sumN (Ls ++ [List.replicate d false]).length fun u => dnB (callsL (Ls ++ [List.replicate d false]) u) (S.th u).k) = d := by
    rw [hn, sumN_succ]
    have e1 : (sumN Ls.length fun u => dnB (callsL (Ls ++ [List.replicate d false]) u) (S.th u).k) = 0 := by
      have := sumN_le (n := Ls.length) (f := fun u => dnB (callsL (Ls ++ [List.replicate d false]) u) (S.th u).k) (g := fun _ => 0) fun u hu => by rw [htrue u hu]; exact Nat.le_refl _
      rw [sumN_const] at this
      omega
    rw [e1, hlast, hk.2]
    unfold dnB
    rw [List.take_of_length_le (by simp), List.count_replicate_self]
    omega
  rw [hD] at h3
  have hc := hI.cell
  by_cases hfd : f ≤ d
  · rw [if_pos (.inl hfd)]
    have hz : S.cell 0 = 0 := by omega
    exact ends_done fun t ht => by
      rw [hS.sim.plen] at ht
      rw [laM_ended hS ht]
      exact h2 hz t ht
  · by_cases hw : cntAll 2 ((Ls ++ [List.replicate d false]).map (List.map encL)) = 0
    · rw [if_pos (.inr hw)]
      have hno := cnt_zero hw
      refine ends_done fun t ht => ?_
      rw [hS.sim.plen] at ht
      rw [laM_ended hS ht]
      rcases h1 t ht with ⟨a, _⟩ | ⟨_, b⟩
      · exact a
      · exfalso
        have hx := List.mem_of_getElem? b
        have hL : callsL (Ls ++ [List.replicate d false]) t ∈ Ls ++ [List.replicate d false] := by unfold callsL; rw [List.getD_eq_getElem?_getD, List.getElem?_eq_getElem ht]; exact List.getElem_mem ht
        exact hno _ (List.mem_map_of_mem hL) (encL true) (List.mem_map_of_mem hx) rfl
    · rw [if_neg (by rintro (q | q) <;> contradiction)]
      have hall : allTo m' m'.progs.length = false := by
        cases ha : allTo m' m'.progs.length with
        | false => rfl
        | true =>
          exfalso
          have hen := (laM_all hS).1 ha
          obtain ⟨l, hl, x, hx, he⟩ := cnt_pos hw
          obtain ⟨L, hL, rfl⟩ := List.mem_map.1 hl
          obtain ⟨b, hb, rfl⟩ := List.mem_map.1 hx
          have hbt : b = true := by cases b with | true => rfl | false => cases he
          subst hbt
          obtain ⟨u, hu, rfl⟩ := List.mem_iff_getElem.1 hL
          obtain ⟨i, hi, hib⟩ := List.mem_iff_getElem.1 hb
          have hcu : callsL (Ls ++ [List.replicate d false]) u = (Ls ++ [List.replicate d false])[u] := by unfold callsL; rw [List.getD_eq_getElem?_getD, List.getElem?_eq_getElem hu]; rfl
          have hku : (S.th u).k = (callsL (Ls ++ [List.replicate d false]) u).length := by
            rcases h1 u hu with ⟨_, b⟩ | ⟨_, b⟩
            · exact b
            · have := (hS.sim.wf.th u hu).fin (hen u hu)
              rw [b] at this; cases this
          have := hI.awt u i hu (by rw [hku, hcu]; exact hi) (by rw [hcu, List.getElem?_eq_getElem hi, hib])
          omega
      unfold endsM
      rw [hall, laM_stuck hS hq]
      rfl

set_option maxHeartbeats 2000000 in
theorem latchEnds_any {w : World} (hw : CW w) (A : Option Addr) (n cap : Nat) (ls : List (List Int)) (hR : IRows w w.heap.size A n ls) (hcap : n ≤ cap) (first downs : Int) (D : Option Addr) (nm cm : Nat) (l : List (Int × Bool)) (hl : Moves w w.heap.size D nm l) :
    Calls Tryd.prog 5 #[.slice A n cap, .int .i64 first, .int .i64 downs, .slice D nm cm] w fun e w' => e = .returned (.bool true) ∧ Below w.heap.size w w' := by
  have HLt := Lib.hid (latched_any hw)
  have HP := Lib.hid (fun w => pick_det first 12 12 w rfl (by decide) (by decide))
  have HP2 := Lib.hid (fun w => pick_det downs 13 13 w rfl (by decide) (by decide))
  have p1 := pickI_lo first 12
  have p2 := pickI_hi first 12 (by decide)
  have p3 := pickI_lo downs 13
  have p4 := pickI_hi downs 13 (by decide)
  obtain ⟨f, hf⟩ : ∃ f : Nat, pickI first 12 = (f : Int) := ⟨(pickI first 12).toNat, by omega⟩
  obtain ⟨d, hd⟩ : ∃ d : Nat, pickI downs 13 = (d : Int) := ⟨(pickI downs 13).toNat, by omega⟩
  rw [hf] at HP p1 p2
  rw [hd] at HP2 p3 p4
  have HF12 := Lib.hid (show f ≤ 11 ∧ d ≤ 12 by omega)
  have HR := Lib.hid hR
  have HMv := Lib.hid hl
  have HW := Lib.hid hw
  have HCap := Lib.hid hcap
  have hw1 : wrap64 (1 + (f : Int)) = ((f + 1 : Nat) : Int) := by unfold wrap64; omega
  have hmin : min (d : Int) 12 = (d : Int) := by omega
  clear hR hl hw hf hd p1 p2 p3 p4 hcap
  obtain ⟨g, hg⟩ : ∃ g, f + 1 = g := ⟨_, rfl⟩
  rw [hg] at hw1
  have HG := Lib.hid hg
  clear hg
  go_enter Tryd.func5, Tryd.ntmps5
  go_wp2_with fail
  refine HLt.out.mono ?_
  rintro e w1 ⟨rfl, hb1⟩
  have HB1 := Lib.hid hb1
  clear hb1 HLt
  by_cases h9 : 500 < nm
  · have h9' : (500 : Int) < (nm : Int) := by omega
    go_wp2
    go_ret
    exact ⟨rfl, HB1.out⟩
  have h9' : ¬ (500 : Int) < (nm : Int) := by omega
  have HN5 := Lib.hid (show nm ≤ 500 by omega)
  go_wp2_with fail
  refine (HP.out _).mono ?_
  rintro e w2 ⟨rfl, rfl⟩
  clear HP
  go_wp2_with fail
  refine (HP2.out _).mono ?_
  rintro e w2 ⟨rfl, rfl⟩
  clear HP2
  go_wp2_with fail
  refine (laasksN_any HB1.out A n cap 1 ls HR.out HCap.out [2] (fun x hx => by simpa using Or.inr hx) #[.int .i64 2] rfl rfl (by decide) (by decide)).mono ?_
  rintro e w2 ⟨A2, c2, k2, Ls, rfl, hN2, hLl, hk8, hLs⟩
  have HN2 := Lib.hid hN2
  have HLs := Lib.hid (And.intro hLl (And.intro hk8 hLs))
  clear hN2 hLl hk8 hLs HB1 HR HCap h9 h9'
  go_wp2
  go_loopw [10, 30] (fun v j wr => ∃ i : Nat, i ≤ d ∧ j = .int .i64 i ∧ ∃ A c, v = .slice A i c ∧ RowC w2 A i c (List.replicate i (1, 0)) wr) (fun _ j _ => d - (intOf j).toNat)
  case atStart => exact ⟨0, Nat.zero_le _, rfl, none, 0, rfl, RowC.nil _⟩
  case round =>
    obtain ⟨i, hi, rfl, Ac, cc, rfl, hRow⟩ := hrel
    by_cases hlt : i < d
    · have hin : (i : Int) < (d : Int) := by omega
      obtain ⟨A4, c4, w4, hr4, hR4⟩ := hRow.add #[.int .i64 1, .int .i64 0] 1 (r := [(1, 0)]) rfl rfl (by have := HF12.out; omega) (by decide)
      rw [← List.replicate_succ'] at hR4
      have HR4 := Lib.hid hR4
      have HRun := Lib.hid hr4
      have hi20 : i < 20 := by have := HF12.out; omega
      clear hRow hr4 hR4
      go_wp2_with (at_builtin; refine Lib.wpList_append_run _ rfl _ _ _ _ rfl _ _ rfl rfl _ _ HRun.out ?_; clear HRun)
      go_roundw
      case rel => exact ⟨i + 1, by omega, by go_num, A4, c4, rfl, HR4.out⟩
      case measure => simp [intOf]; omega
    · have hin : ¬ (i : Int) < (d : Int) := by omega
      obtain rfl : i = d := by omega
      rename_i wr
      obtain ⟨A4, c4, w4, hr4, hN4⟩ := (HN2.out.grow hRow.bel).add (tS := 26) Tryd.underlying26 infoSCallM (by decide) hRow.own HN2.out.bel.size (by have := HLs.out; omega)
      have hN5 : LaNest w A4 (k2 + 1) c4 (Ls ++ [List.replicate i false]) w4 := by
        unfold LaNest
        have e : ((Ls ++ [List.replicate i false]).map (List.map encL)).map (fun (l : List (Int × Int)) => (l.length, cellsC l)) = (Ls.map (List.map encL)).map (fun (l : List (Int × Int)) => (l.length, cellsC l)) ++ [(i, cellsC (List.replicate i ((1 : Int), (0 : Int))))] := by
          simp [encL]
        rw [e]
        exact hN4
      have hok : LaOk g (Ls ++ [List.replicate i false]) := by
        obtain ⟨q1, q2, q3⟩ := HLs.out
        refine ⟨by have := HG.out; have := HF12.out; omega, by simp; omega, fun L hL => ?_⟩
        rcases List.mem_append.1 hL with hL | hL
        · have := (q3 L hL).1; omega
        · rw [List.mem_singleton.1 hL, List.length_replicate]; have := HF12.out; omega
      have HC5 := Lib.hid hN5.calls
      have HB5 := Lib.hid hN5.bel
      have HMd := Lib.hid (lamade3 HW.out hN5.bel hok A4 D (k2 + 1) c4 nm cm hN5.calls l HMv.out HN5.out)
      have HRun := Lib.hid hr4
      clear hRow hr4 hN4 hN5
      go_wp2_with (at_builtin; refine Lib.wpList_append_run _ rfl _ _ _ _ rfl _ _ rfl rfl _ _ HRun.out ?_; clear HRun)
      --MB
      rw [u64_small (by have := HF12.out; have := HG.out; omega)]
      refine HMd.out.mono ?_
      rintro e w6 ⟨c, m, rfl, hA, -⟩
      have HF := Lib.hid (at_finish hA.at_ hA.big)
      have HL := Lib.hid hA.la
      clear hA HMd
      go_wp2_with fail
      refine HF.out.mono ?_
      rintro e w7 ⟨m', hf, rfl, hA2, hb2⟩
      have hfact := la_ends_fact hok (fun L hL b hb => by
        have := (HLs.out.2.2 L hL).2 b hb
        simp only [List.mem_singleton] at this
        cases b with
        | true => rfl
        | false => cases this) (by have := HG.out; omega) HL.out (by have := pokesM_le l; have := HMv.out.len; have := HN5.out; omega) hf
      have HE := Lib.hid (at_ends hA2 (hb2.few))
      have hz : ∃ z, cntAll 2 ((Ls ++ [List.replicate i false]).map (List.map encL)) = z := ⟨_, rfl⟩
      obtain ⟨z, hz⟩ := hz
      rw [hz] at hfact
      have HZ := Lib.hid hz
      clear hz
      obtain ⟨b1, b2, hbb⟩ : ∃ b1 b2 : Bool, (if g ≤ i ∨ z = 0 then ((true, false) : Bool × Bool) else (false, true)) = (b1, b2) := ⟨_, _, rfl⟩
      rw [hfact, hbb] at HE
      have HBB := Lib.hid hbb
      clear hbb
      have HA2 := Lib.hid hA2
      generalize ((m'.steps : Int) - (m.steps : Int)) = dd
      clear hf hA2 hb2 HF HL hfact
      go_wp2_with fail
      refine HE.out.mono ?_
      rintro e w8 ⟨rfl, hg8⟩
      have HB8 := Lib.hid (HA2.out.grow hg8).bel
      clear hg8 HA2 HE
      have HCt := Lib.hid (count_any A4 (k2 + 1) c4 _ (HC5.out.old HB8.out) (fun L hL => by
        obtain ⟨L', hL', rfl⟩ := List.mem_map.1 hL
        rw [List.length_map]
        exact hok.l12 L' hL') (by have := HLs.out; omega) 2)
      rw [HZ.out] at HCt
      clear HC5
      go_wp2_with fail
      --MC
      refine HCt.out.mono ?_
      rintro e w9 ⟨rfl, hb9⟩
      have HB9 := Lib.hid (HB5.out.trans ((HB8.out.trans (hb9.mono HB8.out.size)).mono HB5.out.size))
      clear hb9 HCt HB8
      by_cases c1 : g ≤ i
      · have c1' : (g : Int) ≤ (i : Int) := by omega
        have he := HBB.out
        rw [if_pos (.inl c1)] at he
        injection he with h1 h2
        subst h1 h2
        go_wp2
        go_ret
        exact ⟨rfl, HB9.out⟩
      · have c1' : ¬ (g : Int) ≤ (i : Int) := by omega
        by_cases c2 : z = 0
        · have he := HBB.out
          rw [if_pos (.inr c2)] at he
          injection he with h1 h2
          subst h1 h2
          have c2' : ¬ (0 : Int) < (z : Int) := by omega
          go_wp2
          go_ret
          exact ⟨rfl, HB9.out⟩
        · have c2' : 0 < z := by omega
          have he := HBB.out
          rw [if_neg (by omega)] at he
          injection he with h1 h2
          subst h1 h2
          go_wp2
          go_ret
          exact ⟨rfl, HB9.out⟩
end Go.Proofs.YtdfljhechmanlaaDoor

namespace Go.Proofs.YtdfljhechmanlaaDoor.latchEnds
open Go.ChangeShapes Go.WideShapes Go.ChangeAt Go.RowKit
set_option linter.unusedVariables false

theorem own : ownKnob Tryd.prog.godebug = none := by kernel_rfl
theorem laidOut : laidOutB Tryd.prog = true := by kernel_rfl
theorem tsize : Tryd.prog.types.size = 214 := by kernel_rfl

/-- What the listed variables give the walk. -/
theorem cw_of {W : World} (h : laidMetH Tryd.prog Rows.latchEndsRow.laid W) : CW W := by
  have h' : laidMet Tryd.prog (Rows.latchEndsRow.laid.filter fun x => x.2.handleName?.isNone) W ∧ handlesMet Tryd.prog (Rows.latchEndsRow.laid.filter fun x => x.2.handleName?.isSome) W := h
  exact cw_of_laid h'.1 (List.mem_filter.2 ⟨.tail _ (.head _), rfl⟩)

/-- So many blocks has the settled world. -/
noncomputable def low : Nat := (World.holding Tryd.prog default ⟨#[], #[], []⟩).heap.size
def put (o : Obj) (cs : Array Value) : Obj := match o with
  | .cells _ t frozen => .cells cs t frozen
  | o => o
def tab (k : IntKind) (zs : List Int) : Array Value := (zs.map fun z => Value.int k z).toArray
/-- A world that meets the condition. -/
noncomputable def laidWorld (os : Os) : World :=
  let w0 := World.holding Tryd.prog os ⟨#[], #[], []⟩
  { w0 with heap := ((w0.heap.modify 1 (put · #[.iface 172 (.agg #[.pointer (some ⟨2, 36, none⟩)])])).modify 0 (put · formCells)) }
theorem laidWorld_met (os : Os) (args : Array Value) : laidMetH Tryd.prog Rows.latchEndsRow.laid ((laidWorld os).forCall (fun _ _ => 0) ⟨#[], args, []⟩).memory :=
  laidMetH_of_parts (LaidIn.of_run [0] 8 (by kernel_rfl) (by kernel_rfl) (by kernel_rfl) (by kernel_rfl)).met (by kernel_rfl)

/-- The walk. -/
theorem walk (a0 : Option Addr) (len0 cap0 : Nat) (nods0 : List (List Int)) (a1 : Int) (a2 : Int) (a3 : Option Addr) (len3 cap3 : Nat) (nods3 : List (Int × Bool)) (w : World) (hw : CW w) (N0 : IRows w w.heap.size a0 len0 nods0) (I0 : len0 ≤ cap0) (N3 : Moves w w.heap.size a3 len3 nods3) (I3 : True) :
    Calls Tryd.prog 5 #[.slice a0 len0 cap0, .int .i64 a1, .int .i64 a2, .slice a3 len3 cap3] w fun e w' => e = .returned (.bool true) ∧ Below w.heap.size w w' := by
  exact latchEnds_any hw a0 len0 cap0 nods0 N0 I0 a1 a2 a3 len3 cap3 nods3 N3

set_option maxRecDepth 100000 in
theorem lifted (os : Os) (started : os.Started) (H : Type) (enc : TypeId × Value → H) :
    ReturnsInHanded {} Tryd.checked os 5 .any (fun w args => (Rows.latchEndsSpec.pre enc Tryd.prog Tryd.f5 [] false w args ∧ laidMetH Tryd.prog Rows.latchEndsRow.laid w) ∧ sizedMet enc Tryd.prog Tryd.f5 (OpenSpec.ofChange Rows.latchEndsSpec) false w args)
      (Rows.latchEndsSpec.post enc Tryd.prog Tryd.f5 false true false false) := by
  refine returnsInHanded_of_change_and (C := Tryd.checked) (X := fun w _ => laidMetH Tryd.prog Rows.latchEndsRow.laid w) (fun _ _ _ hh h => h.of_heap hh) own started (by kernel_rfl) Tryd.func5
    (ChangeSpec.witness_at (enc := enc) (C := Tryd.checked) (os := os) (X := fun w _ => laidMetH Tryd.prog Rows.latchEndsRow.laid w) false (laidWorld os) #[.slice none 0 0, .int .i64 0, .int .i64 0, .slice none 0 0] 8 rfl (by kernel_rfl) (by kernel_rfl) (by kernel_rfl) (by kernel_rfl) (by kernel_rfl) (laidWorld_met os _)) ?_
  intro W base args ds gs before hval0 hW _ _ hL _
  have hval : ∀ (j : Nat) t v, Tryd.f5.params[j]? = some t → args[j]? = some v → Value.okWide Tryd.prog W .any base t v := hval0
  have hW' := hW
  obtain ⟨p, q, hA0, hV0, rfl, hfz, hnd⟩ := hW
  have hA : DataW.TrodAll enc Tryd.prog W 0 (fun _ => true) true Tryd.f5.params.toList args.toList ds p := hA0
  have hV : DataW.TrodVars enc Tryd.prog W (fun _ => true) [] gs q := hV0
  rw [Tryd.params5] at hA hval
  obtain ⟨v0, vs0, d0, ds0, p0, q0, hargs, rfl, rfl, h0, r0⟩ := trodAll_cons hA
  obtain ⟨v1, vs1, d1, ds1, p1, q1, rfl, rfl, rfl, h1, r1⟩ := trodAll_cons r0
  obtain ⟨v2, vs2, d2, ds2, p2, q2, rfl, rfl, rfl, h2, r2⟩ := trodAll_cons r1
  obtain ⟨v3, vs3, d3, ds3, p3, q3, rfl, rfl, rfl, h3, r3⟩ := trodAll_cons r2
  obtain ⟨rfl, rfl, rfl⟩ := trodAll_nil r3
  obtain rfl : args = #[v0, v1, v2, v3] := by cases args; simp_all
  obtain ⟨rfl, rfl⟩ : gs = [] ∧ q = [] := by
    cases gs with
    | nil => exact ⟨rfl, hV⟩
    | cons g r => exact absurd hV (by intro h; cases h)
  obtain ⟨a0, len0, cap0, rfl⟩ := okWide_slice Tryd.underlying22 (hval 0 22 v0 rfl rfl)
  have k0 := h0
  have lt0 : ∀ x ∈ p0, x.block < W.heap.size := by obtain ⟨m, hm⟩ := k0; exact DataW.trod_lt m _ _ _ hm
  obtain ⟨nods0, N0, I0⟩ : ∃ nods, IRows W W.heap.size a0 len0 nods ∧ len0 ≤ cap0 := by
    obtain ⟨fuel, hf⟩ := h0
    obtain ⟨ls, hl⟩ := intss_of (a := a0) (len := len0) (cap := cap0) hf; exact ⟨ls, hl, cap_slice Tryd.underlying22 hf⟩
  obtain ⟨a1, rfl, rfl, rfl, w1⟩ := open_int Tryd.underlying3 (hval 1 3 v1 rfl rfl) h1
  obtain ⟨a2, rfl, rfl, rfl, w2⟩ := open_int Tryd.underlying3 (hval 2 3 v2 rfl rfl) h2
  obtain ⟨a3, len3, cap3, rfl⟩ := okWide_slice Tryd.underlying23 (hval 3 23 v3 rfl rfl)
  have k3 := h3
  have lt3 : ∀ x ∈ p3, x.block < W.heap.size := by obtain ⟨m, hm⟩ := k3; exact DataW.trod_lt m _ _ _ hm
  obtain ⟨nods3, N3, I3⟩ : ∃ nods, Moves W W.heap.size a3 len3 nods ∧ True := by
    obtain ⟨fuel, hf⟩ := h3
    obtain ⟨l, hl⟩ := moves_of (a := a3) (len := len3) (cap := cap3) hf; exact ⟨l, hl, trivial⟩
  have hw := cw_of hL
  clear hA0 hval0
  refine (walk a0 len0 cap0 nods0 a1 a2 a3 len3 cap3 nods3 W hw N0 I0 N3 I3).mono fun e W' ⟨he, bel⟩ => ?_
  subst he
  exact ⟨_, rfl, _, _, _, [], _, [], hW', trodAll_mk1 (shut_bool Tryd.underlying4 _), (trodAll_cons_mk (Below.trod laidOut (by kernel_rfl) (of_decide_eq_true (by kernel_rfl)) k0 bel lt0) (trodAll_cons_mk (shut_int Tryd.underlying3 w1) (trodAll_cons_mk (shut_int Tryd.underlying3 w2) (trodAll_cons_mk (Below.trod laidOut (by kernel_rfl) (of_decide_eq_true (by kernel_rfl)) k3 bel lt3) trodAll_mk0)))), rfl, bel.frame _, fun h => by cases h⟩

theorem over : Rows.LatchEndsSaid :=
  OpenClaim.holds_of_wide 5 Tryd.f5 rfl rfl rfl rfl rfl rfl rfl ⟨rfl, rfl, rfl, rfl, rfl⟩ rfl rfl rfl rfl rfl (by kernel_rfl) Tryd.func5 (by kernel_rfl)
    (of_decide_eq_true (by kernel_rfl)) (by unfold Func.isWrapper; first | (rw [if_pos (by decide +kernel)]; kernel_rfl) | (rw [if_neg (by decide +kernel)]; exact ⟨rfl, rfl⟩))
    (fun os started H enc _ => lifted os started H enc)

/-- The given statement: the tied card. -/
theorem proved : Rows.LatchEndsCardSaid :=
  Claim7.holds_tied_plain_at .later [] [.handle, .data] true (true, "d47da573c139323a2d3ffb97e069444c56f44381508be9b6753f4f5b74787098") true
    over (fun _ h => by cases h) (by kernel_rfl) (fun _ h => by cases h) latchEnds_row_tie rfl ⟨rfl, rfl⟩ (by kernel_rfl) rfl
    (fun f fn hf hfn => by
      obtain rfl : f = 5 := Option.some.inj ((show Tryd.prog.funcNamed "quadrille/quadrillekeep.LatchEnds" = some 5 by kernel_rfl).symm.trans hf) |>.symm
      obtain rfl : fn = Tryd.f5 := (Option.some.inj (Tryd.func5.symm.trans hfn)).symm
      refine ⟨by kernel_rfl, fun j t ht => ?_⟩
      rw [Tryd.params5] at ht
      have hm : t ∈ [22, 3, 3, 23] := by
        have := Array.mem_of_getElem? ht
        simpa using this
      have hall : ([22, 3, 3, 23].all fun u => !Tryd.prog.wantsStandIn u) = true := by kernel_rfl
      exact (show Tryd.prog.wantsStandIn t = false by simpa using List.all_eq_true.1 hall t hm))
    (by kernel_rfl)
#print axioms proved
end Go.Proofs.YtdfljhechmanlaaDoor.latchEnds
