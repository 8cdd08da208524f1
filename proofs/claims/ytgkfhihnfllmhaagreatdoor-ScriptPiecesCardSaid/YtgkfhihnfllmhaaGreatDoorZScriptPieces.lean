/-
  What comes later changes nothing: more bytes leave what was said, and done, as it was. No conditions.
-/
import Derived.Test.YtgkfhihnfllmhaaGreatDoorQXU2
import Derived.Test.YtgkfhihnfllmhaaGreatDoorQXR
import Derived.Test.YtgkfhihnfllmhaaGreatDoorRows
import Derived.Test.YtgkfhihnfllmhaaGreatDoorCards
import Derived.Test.YtgkfhihnfllmhaaGreatDoorTie
import Derived.WalkKit
import Derived.ProofKit
import Derived.OpenShut
import Derived.ChangeOld
import Derived.Below
import Derived.ChangeSame
import Derived.ChangeVars
import Derived.JoinedOf
import Derived.RowKitTokens
import Derived.LaidLaws
import Derived.LaidHandle
import Derived.Stop.Joined
import Derived.SevenTiedAt
import Derived.Lib.LaidTab
import Derived.Lib.LaidIn
import Derived.Test.YtgkfhihnfllmhaaGreatDoorQXA
import Derived.ChangeMaps5
import Derived.SizedLaws
import Derived.Test.YtgkfhihnfllmhaaGreatDoorQXM2
import Derived.Test.YtgkfhihnfllmhaaGreatDoorQXE
import Derived.Test.YtgkfhihnfllmhaaGreatDoorQXN
import Derived.Test.YtgkfhihnfllmhaaGreatDoorQXE3
namespace Go.Proofs.YtgkfhihnfllmhaaGreatDoor
set_option maxRecDepth 100000
open Go.RowKit Go.Shelf Go.Sort
set_option linter.unusedVariables false
set_option linter.unusedSimpArgs false

theorem sp_cap {w : World} {B e sz n c : Nat} {A : Option Addr} {xs : List Value} (h : w.ownsRow B e sz (.slice A n c) n xs) : n ≤ c := by
  rcases h.2 with ⟨e1, e2⟩ | ⟨g, cap, cur, hv, hg, hh, r⟩
  · injection e1 with _ _ h3; omega
  · injection hv with _ _ h3
    have := r.1
    omega
theorem sp_cat (a b : List UInt8) : (⟨a.toArray⟩ : ByteArray) ++ ⟨b.toArray⟩ = ⟨(a ++ b).toArray⟩ := by
  apply ByteArray.ext
  rw [ByteArray.data_append]
  simp
theorem sp_act {w : World} {A : Option Addr} {n : Nat} {l X : List Act6} (h : ActRow w A (l ++ X).length (l ++ X)) (hn : l.length = n) : ActRow w A n l := fun i hi => by
  have e : (l ++ X).getD i default = l.getD i default := by rw [List.getD_eq_getElem?_getD, List.getD_eq_getElem?_getD, List.getElem?_append_left (by omega)]
  have := h i (by rw [List.length_append]; omega)
  rwa [e] at this
theorem sp_ev {w : World} {A : Option Addr} {n : Nat} {l X : List Ev4} (h : EvRow w A (l ++ X).length (l ++ X)) (hn : l.length = n) : EvRow w A n l := fun i hi => by
  have e : (l ++ X).getD i default = l.getD i default := by rw [List.getD_eq_getElem?_getD, List.getD_eq_getElem?_getD, List.getElem?_append_left (by omega)]
  have := h i (by rw [List.length_append]; omega)
  rwa [e] at this
theorem sp_bel {w w' : World} (hg : w.grownBy w' none) : Below w.heap.size w w' := ⟨hg.os, hg.tape, hg.output, hg.size, fun k hk => hg.block k hk (by simp)⟩

/-- What more moves add. -/
theorem pieces_add (k n r : Nat) (l x : List (Int × Bool)) : ∃ X Y, (behindM 20000 (kM k n r) (l ++ x)).acts = (behindM 20000 (kM k n r) l).acts ++ X ∧ (behindM 20000 (kM k n r) (l ++ x)).events = (behindM 20000 (kM k n r) l).events ++ Y ∧ (behindM 20000 (kM k n r) (l ++ x)).steps ≤ (behindM 20000 (kM k n r) l).steps + x.length := by
  rw [behind_append]
  have h := add_behind x (behindM 20000 (kM k n r) l)
  obtain ⟨X, hX⟩ := h.acts
  obtain ⟨Y, hY⟩ := h.events
  exact ⟨X, Y, hX, hY, h.hi⟩

set_option maxHeartbeats 4000000 in
theorem scriptPieces_list {w : World} (H : DanceOK) (hw : DW w) (t more : List UInt8) (ht : t.length ≤ 140737488355328) (hm : more.length ≤ 140737488355328) :
    Calls Tryz.prog 4 #[strV t, strV more] w fun e w' => e = .returned (.bool true) ∧ Below w.heap.size w w' := by
  have HS := Lib.hid (scripted_true w)
  have HW := Lib.hid hw
  have hwr : wrap64 ((t.length : Int) + (more.length : Int)) = ((t.length + more.length : Nat) : Int) := by unfold wrap64; omega
  have HWR := Lib.hid hwr
  clear hw hwr
  unfold strV
  go_enter Tryz.func4, Tryz.ntmps4
  go_wp2_with fail
  refine HS.out.mono ?_
  rintro e w1 ⟨rfl, hb1⟩
  have HB1 := Lib.hid hb1
  clear hb1 HS
  by_cases h3 : t.length < 3
  · have h3i : (t.length : Int) < 3 := by omega
    go_wp2
    go_ret
    exact ⟨rfl, HB1.out⟩
  have h3i : ¬ (t.length : Int) < 3 := by omega
  by_cases h9 : 900 < t.length + more.length
  · have hgt : (900 : Int) < ((t.length + more.length : Nat) : Int) := by omega
    have hwr := HWR.out
    clear h9 h3 ht hm
    generalize t.length + more.length = q at *
    go_wp2
    go_ret
    exact ⟨rfl, HB1.out⟩
  have hgt : ¬ (900 : Int) < ((t.length + more.length : Nat) : Int) := by omega
  have HLE := Lib.hid (And.intro (show 3 ≤ t.length by omega) (show t.length + more.length ≤ 900 by omega))
  have hmb := more_bytes t more (by omega)
  have hkk := kOf_dims t
  have hrt := mvsOf_right t
  have hr2 := mvsOf_right (t ++ more)
  have hln := mvsOf_len t
  have hln2 := mvsOf_len (t ++ more)
  have hcat := sp_cat t more
  have hbg : ¬ 9223372036854775807 < (⟨t.toArray⟩ : ByteArray).size + (⟨more.toArray⟩ : ByteArray).size := by
    have e1 : (⟨t.toArray⟩ : ByteArray).size = t.length := by simp [ByteArray.size]
    have e2 : (⟨more.toArray⟩ : ByteArray).size = more.length := by simp [ByteArray.size]
    omega
  have HD1 := Lib.hid (scDecode_any t (by omega) w1)
  have HD2 := Lib.hid (fun w => scDecode_any (t ++ more) (by rw [List.length_append]; omega) w)
  rw [List.length_append] at hln2
  have hl1 : (mvsOf t).length ≤ 900 := by omega
  have hl2 : (mvsOf (t ++ more)).length ≤ 900 := by omega
  have d : Dims (kOf t) (nOf t) (rOf t) := ⟨by omega, by omega, by omega, by omega, by omega⟩
  obtain ⟨X, Y, hX, hY, hS⟩ := pieces_add (kOf t) (nOf t) (rOf t) (mvsOf t) (more.map (mvOf (nOf t)))
  obtain ⟨b1, b2, b3, b4⟩ := hmb
  rw [← b4, List.length_map] at hS
  rw [← b4] at hX hY
  rw [b2] at hr2
  have HP1 := Lib.hid (fun (w : World) (hw : DW w) (A : Option Addr) (c : Nat) (h : Moves w w.heap.size A (mvsOf t).length (mvsOf t)) => scPlay_any H hw d (by omega) (by omega) (mvsOf t) A (mvsOf t).length c h (by omega) hrt)
  have HP2 := Lib.hid (fun (w : World) (hw : DW w) (A : Option Addr) (c : Nat) (h : Moves w w.heap.size A (mvsOf (t ++ more)).length (mvsOf (t ++ more))) => scPlay_any H hw d (by omega) (by omega) (mvsOf (t ++ more)) A (mvsOf (t ++ more)).length c h (by omega) hr2)
  have hbig1 := (kM_big d).behind (mvsOf t)
  have hbig2 := (kM_big d).behind (mvsOf (t ++ more))
  have HBG := Lib.hid (And.intro hbig1 hbig2)
  have HXY := Lib.hid (And.intro hX (And.intro hY hS))
  have HCAT := Lib.hid (And.intro hcat hbg)
  unfold ToldScript strV scriptV at HD1 HD2
  unfold scriptV ToldPlay at HP1 HP2
  rw [b1, b2, b3] at HD2
  have hwr := HWR.out
  clear hX hY hS hbig1 hbig2 hcat hbg hkk hrt hr2 hln hln2 b1 b2 b3 b4 h9 h3 ht hm hl1 hl2 d
  generalize kOf t = k at *
  generalize nOf t = n at *
  generalize rOf t = r at *
  generalize mvsOf t = l1 at *
  generalize mvsOf (t ++ more) = l2 at *
  generalize hm1 : behindM 20000 (kM k n r) l1 = m1 at *
  generalize hm2 : behindM 20000 (kM k n r) l2 = m2 at *
  generalize hqs : t.length + more.length = q at *
  --M1
  go_wp2_with fail
  refine HD1.out.mono ?_
  rintro e w2 ⟨hb2, A1, c1, rfl, hM1⟩
  have HB2 := Lib.hid (HB1.out.trans (hb2.mono HB1.out.size))
  have HPa := Lib.hid (HP1.out _ (HW.out.old HB2.out) A1 c1 hM1)
  clear hb2 hM1 HD1 hwr
  go_wp2_with fail
  refine HPa.out.mono ?_
  rintro e w3 ⟨p1, rfl, hA1⟩
  have HA1 := Lib.hid (show At w p1 m1 w3 from hA1.old HB2.out)
  clear hA1 HPa
  obtain ⟨hcat, hbg⟩ := HCAT.out
  have HZ2 := Lib.hid (show (⟨more.toArray⟩ : ByteArray).size = more.length by simp [ByteArray.size])
  generalize (⟨(t ++ more).toArray⟩ : ByteArray) = TM at *
  generalize (⟨t.toArray⟩ : ByteArray) = T1 at *
  generalize (⟨more.toArray⟩ : ByteArray) = T2 at *
  --M2
  go_wp2_with fail
  refine (HD2.out _).mono ?_
  rintro e w4 ⟨hb4, A2, c2, rfl, hM2⟩
  have HA1b := Lib.hid (HA1.out.keepB hb4)
  have HPb := Lib.hid (HP2.out _ (HW.out.old HA1b.out.bel) A2 c2 hM2)
  clear hb4 hM2 HD2 hcat hbg HCAT HA1
  go_wp2_with fail
  refine HPb.out.mono ?_
  rintro e w5 ⟨p2, rfl, hA2⟩
  have HT := Lib.hid (TwoM.of HA1b.out hA2)
  clear hA2 HPb HA1b HP1 HP2
  --M3
  go_wp2_with fail
  refine (at_acts HT.out.left (Nat.le_trans HBG.out.1.acts HBG.out.1.most)).mono ?_
  rintro e w6 ⟨B1, d1, rfl, ho1, hg1⟩
  have HR1 := Lib.hid (actRow_own ho1 rfl)
  have HT6 := Lib.hid (HT.out.keep (sp_bel hg1))
  clear ho1 hg1 HT
  go_wp2_with fail
  refine (at_acts HT6.out.symm.left (Nat.le_trans HBG.out.2.acts HBG.out.2.most)).mono ?_
  rintro e w7 ⟨B2, d2, rfl, ho2, hg2⟩
  have HR1b := Lib.hid (HR1.out.old (sp_bel hg2))
  have HR2 := Lib.hid (actRow_own ho2 rfl)
  have hcap2 := sp_cap ho2
  have HT7 := Lib.hid (HT6.out.keep (sp_bel hg2))
  clear ho2 hg2 HT6 HR1
  go_wp2_with fail
  refine (at_events HT7.out.left (Nat.le_trans HBG.out.1.events HBG.out.1.most)).mono ?_
  rintro e w8 ⟨E1, f1, rfl, ho3, hg3⟩
  have HE1 := Lib.hid (evRow_own ho3 rfl)
  have HR1c := Lib.hid (HR1b.out.old (sp_bel hg3))
  have HR2b := Lib.hid (HR2.out.old (sp_bel hg3))
  have HT8 := Lib.hid (HT7.out.keep (sp_bel hg3))
  clear ho3 hg3 HT7 HR1b HR2
  go_wp2_with fail
  refine (at_events HT8.out.symm.left (Nat.le_trans HBG.out.2.events HBG.out.2.most)).mono ?_
  rintro e w9 ⟨E2, f2, rfl, ho4, hg4⟩
  have HE2 := Lib.hid (evRow_own ho4 rfl)
  have hcap4 := sp_cap ho4
  have HE1b := Lib.hid (HE1.out.of (sp_bel hg4))
  have HR1d := Lib.hid (HR1c.out.old (sp_bel hg4))
  have HR2c := Lib.hid (HR2b.out.old (sp_bel hg4))
  have HT9 := Lib.hid (HT8.out.keep (sp_bel hg4))
  clear ho4 hg4 HT8 HR1c HR2b HE1
  obtain ⟨hX, hY, hS⟩ := HXY.out
  have hr2c := HR2c.out
  have he2 := HE2.out
  rw [hX] at hr2c
  rw [hY] at he2
  have HQ1 := Lib.hid (fun cc => equalA_same B1 B2 m1.acts.length d1 cc m1.acts w9 (by have := HBG.out.1.acts; have := HBG.out.1.most; omega) HR1d.out (sp_act hr2c rfl))
  have HQ2 := Lib.hid (fun (w' : World) (hb : Below w9.heap.size w9 w') cc => equalE_same E1 E2 m1.events.length f1 cc m1.events w' (by have := HBG.out.1.events; have := HBG.out.1.most; omega) (HE1b.out.of hb) ((sp_ev he2 rfl).of hb))
  have hal : m1.acts.length ≤ m2.acts.length := by rw [hX, List.length_append]; omega
  have hel : m1.events.length ≤ m2.events.length := by rw [hY, List.length_append]; omega
  have hali : (m1.acts.length : Int) ≤ (m2.acts.length : Int) := by omega
  have heli : (m1.events.length : Int) ≤ (m2.events.length : Int) := by omega
  have hac : (m1.acts.length : Int) ≤ (d2 : Int) := by omega
  have hec : (m1.events.length : Int) ≤ (f2 : Int) := by omega
  have ha0 : (0 : Int) ≤ (m1.acts.length : Int) := by omega
  have he0 : (0 : Int) ≤ (m1.events.length : Int) := by omega
  have hws : wrap64 ((m1.steps : Int) + (more.length : Int)) = ((m1.steps + more.length : Nat) : Int) := by
    have := HBG.out.1.most
    have := HLE.out.2
    clear hX hY hS hr2c he2
    unfold wrap64
    omega
  have hst : (m2.steps : Int) ≤ ((m1.steps + more.length : Nat) : Int) := by clear hws; omega
  have HWS := Lib.hid hws
  have HST2 := Lib.hid hst
  clear hX hY hS hr2c he2 hcap2 hcap4 HXY hal hel HR1d HR2c HE2 HE1b hws hst
  generalize hna : m1.acts.length = na at *
  generalize m2.acts.length = nb at *
  generalize m1.events.length = ea at *
  generalize m2.events.length = eb at *
  --M4
  go_wp2_with fail
  refine (HQ1.out _).mono ?_
  rintro e w10 ⟨rfl, q1, rfl⟩
  have hb10 : Below w9.heap.size w9 (w9.drewN q1) := below_drewN (Below.refl _ _) q1
  have HQ2b := Lib.hid (HQ2.out _ hb10)
  have HT10 := Lib.hid (HT9.out.keep hb10)
  clear hb10 HQ1 HQ2 HT9
  --M5
  go_wp2_with fail
  refine (HQ2b.out _).mono ?_
  rintro e w11 ⟨rfl, q2, rfl⟩
  have HT11 := Lib.hid (HT10.out.keep (below_drewN (Below.refl _ _) q2))
  clear HQ2b HT10
  generalize (w9.drewN q1).drewN q2 = w12 at *
  go_wp2_with fail
  refine (at_steps HT11.out.symm.left).mono ?_
  rintro e w13 ⟨rfl, rfl⟩
  go_wp2_with fail
  refine (at_steps HT11.out.left).mono ?_
  rintro e w13 ⟨rfl, rfl⟩
  have HBL := Lib.hid HT11.out.left.bel
  have hws := HWS.out
  have hst := HST2.out
  rw [← HZ2.out] at hws hst
  have hst2 : (m2.steps : Int) ≤ (m1.steps : Int) + (T2.size : Int) := by clear hws; omega
  clear HT11 hst
  go_wp2
  go_ret
  exact ⟨rfl, HBL.out⟩

theorem scriptPieces_any {w : World} (H : DanceOK) (hw : DW w) (t more : ByteArray) (ht : t.size ≤ 140737488355328) (hm : more.size ≤ 140737488355328) :
    Calls Tryz.prog 4 #[.string t, .string more] w fun e w' => e = .returned (.bool true) ∧ Below w.heap.size w w' := by
  have h := scriptPieces_list H hw t.data.toList more.data.toList (by rw [← Lib.size_eq]; exact ht) (by rw [← Lib.size_eq]; exact hm)
  unfold strV at h
  rw [show (⟨t.data.toList.toArray⟩ : ByteArray) = t from Lib.mk_data t, show (⟨more.data.toList.toArray⟩ : ByteArray) = more from Lib.mk_data more] at h
  exact h
end Go.Proofs.YtgkfhihnfllmhaaGreatDoor

namespace Go.Proofs.YtgkfhihnfllmhaaGreatDoor.scriptPieces
open Go.ChangeShapes Go.WideShapes Go.ChangeAt Go.RowKit
set_option linter.unusedVariables false

theorem own : ownKnob Tryz.prog.godebug = none := by kernel_rfl
theorem laidOut : laidOutB Tryz.prog = true := by kernel_rfl
theorem tsize : Tryz.prog.types.size = 364 := by kernel_rfl

theorem et : Tryz.prog.globalNamed "errors.errorType" = some 1 := by kernel_rfl
theorem rt : (Tryz.prog.cutTypes.find? (·.1 == "internal/reflectlite.rtype")).map (·.2) = some 246 := by kernel_rfl
theorem oneRow : ((List.range 364).filter fun t => Tryz.prog.rowNamed t [101, 114, 114, 111, 114]) = [29] := by kernel_rfl

/-- What the listed variables give the walk. -/
theorem cw_of {W : World} (h : laidMetH Tryz.prog Rows.scriptPiecesRow.laid W) : CW W := by
  have h' : laidMet Tryz.prog (Rows.scriptPiecesRow.laid.filter fun x => x.2.handleName?.isNone) W ∧ handlesMet Tryz.prog (Rows.scriptPiecesRow.laid.filter fun x => x.2.handleName?.isSome) W := h
  exact cw_of_laid h'.1 (List.mem_filter.2 ⟨.tail _ (.tail _ (.tail _ (.head _))), rfl⟩)
theorem handle_of_laid {W : World} (h : laidMetH Tryz.prog Rows.scriptPiecesRow.laid W) : ErrVar W := by
  have h' : laidMet Tryz.prog (Rows.scriptPiecesRow.laid.filter fun x => x.2.handleName?.isNone) W ∧ handlesMet Tryz.prog (Rows.scriptPiecesRow.laid.filter fun x => x.2.handleName?.isSome) W := h
  obtain ⟨name, u, ty, e1, e2, e3, e4, e5⟩ := h'.2 ("errors.errorType", Rows.laid_errors_errorType) (List.mem_filter.2 ⟨.tail _ (.tail _ (.head _)), rfl⟩)
  have en : name = [101, 114, 114, 111, 114] := (Option.some.inj e1).symm
  subst en
  obtain rfl := Option.some.inj (rt.symm.trans e2)
  have hm : ty ∈ (List.range 364).filter fun t => Tryz.prog.rowNamed t [101, 114, 114, 111, 114] := List.mem_filter.2 ⟨List.mem_range.2 (by rw [← tsize]; exact e3), e4⟩
  rw [oneRow] at hm
  obtain rfl := List.mem_singleton.1 hm
  have hh : typeHandle Tryz.prog 29 = .pointer (some ⟨11, 29, none⟩) := by kernel_rfl
  rw [hh] at e5
  have := World.var?_cell et e5 0
  unfold ErrVar
  simpa using this
theorem tz_of {W : World} (h : laidMetH Tryz.prog Rows.scriptPiecesRow.laid W) : TzVar W := by
  have h' : laidMet Tryz.prog (Rows.scriptPiecesRow.laid.filter fun x => x.2.handleName?.isNone) W ∧ handlesMet Tryz.prog (Rows.scriptPiecesRow.laid.filter fun x => x.2.handleName?.isSome) W := h
  exact tz_of_laid h'.1 (List.mem_filter.2 ⟨.tail _ (.head _), rfl⟩)

/-- So many blocks has the settled world. -/
noncomputable def low : Nat := (World.holding Tryz.prog default ⟨#[], #[], []⟩).heap.size
def put (o : Obj) (cs : Array Value) : Obj := match o with
  | .cells _ t frozen => .cells cs t frozen
  | o => o
def tab (k : IntKind) (zs : List Int) : Array Value := (zs.map fun z => Value.int k z).toArray
/-- A world that meets the condition. -/
noncomputable def laidWorld (os : Os) : World :=
  let w0 := World.holding Tryz.prog os ⟨#[], #[], []⟩
  { w0 with heap := ((((w0.heap.modify 1 (put · #[.iface 246 (.agg #[.pointer (some ⟨11, 29, none⟩)])])).modify 3 (put · formCells)).modify 9 (put · (tab .u8 [0, 1, 28, 2, 29, 14, 24, 3, 30, 22, 20, 15, 25, 17, 4, 8, 31, 27, 13, 23, 21, 19, 16, 7, 26, 12, 18, 6, 11, 5, 10, 9]))).modify 10 (put · (tab .u8 [0, 1, 56, 2, 57, 49, 28, 3, 61, 58, 42, 50, 38, 29, 17, 4, 62, 47, 59, 36, 45, 43, 51, 22, 53, 39, 33, 30, 24, 18, 12, 5, 63, 55, 48, 27, 60, 41, 37, 16, 46, 35, 44, 21, 52, 32, 23, 11, 54, 26, 40, 15, 34, 20, 31, 10, 25, 14, 19, 9, 13, 8, 7, 6]))) }
theorem laidWorld_met (os : Os) (args : Array Value) : laidMetH Tryz.prog Rows.scriptPiecesRow.laid ((laidWorld os).forCall (fun _ _ => 0) ⟨#[], args, []⟩).memory :=
  laidMetH_of_parts (LaidIn.of_run [3, 9, 10] 8 (by kernel_rfl) (by kernel_rfl) (by kernel_rfl) (by kernel_rfl)).met (by kernel_rfl)

/-- The walk. -/
theorem walk (a0 : ByteArray) (big0 : a0.size ≤ 140737488355328) (a1 : ByteArray) (big1 : a1.size ≤ 140737488355328) (w : World) (hw : CW w) (hg : ErrVar w) (ht : TzVar w)  :
    Calls Tryz.prog 4 #[.string a0, .string a1] w fun e w' => e = .returned (.bool true) ∧ Below w.heap.size w w' := by
  exact scriptPieces_any danceOK ⟨hw, hg, ht⟩ a0 a1 big0 big1

set_option maxRecDepth 100000 in
theorem lifted (os : Os) (started : os.Started) (H : Type) (enc : TypeId × Value → H) :
    ReturnsInHanded {} Tryz.checked os 4 .any (fun w args => (Rows.scriptPiecesSpec.pre enc Tryz.prog Tryz.f4 [] false w args ∧ laidMetH Tryz.prog Rows.scriptPiecesRow.laid w) ∧ sizedMet enc Tryz.prog Tryz.f4 (OpenSpec.ofChange Rows.scriptPiecesSpec) false w args)
      (Rows.scriptPiecesSpec.post enc Tryz.prog Tryz.f4 false true false false) := by
  refine returnsInHanded_of_change_and (C := Tryz.checked) (X := fun w _ => laidMetH Tryz.prog Rows.scriptPiecesRow.laid w) (fun _ _ _ hh h => h.of_heap hh) own started (by kernel_rfl) Tryz.func4
    (ChangeSpec.witness_at (enc := enc) (C := Tryz.checked) (os := os) (X := fun w _ => laidMetH Tryz.prog Rows.scriptPiecesRow.laid w) false (laidWorld os) #[.string ⟨#[]⟩, .string ⟨#[]⟩] 8 rfl (by kernel_rfl) (by kernel_rfl) (by kernel_rfl) (by kernel_rfl) (by kernel_rfl) (laidWorld_met os _)) ?_
  intro W base args ds gs before hval0 hW _ hsz0 hL _
  have hval : ∀ (j : Nat) t v, Tryz.f4.params[j]? = some t → args[j]? = some v → Value.okWide Tryz.prog W .any base t v := hval0
  have hW' := hW
  have hsz : (DataW.weightsEach Tryz.prog (Tryz.f4.params.toList ++ Rows.scriptPiecesSpec.plain.varTypes Tryz.prog) (ds ++ gs)).all (· ≤ reachBytes) = true := hsz0
  clear hsz0
  obtain ⟨p, q, hA0, hV0, rfl, hfz, hnd⟩ := hW
  have hA : DataW.TrodAll enc Tryz.prog W 0 (fun _ => true) true Tryz.f4.params.toList args.toList ds p := hA0
  have hV : DataW.TrodVars enc Tryz.prog W (fun _ => true) [] gs q := hV0
  rw [Tryz.params4] at hA hval hsz
  obtain ⟨v0, vs0, d0, ds0, p0, q0, hargs, rfl, rfl, h0, r0⟩ := trodAll_cons hA
  obtain ⟨v1, vs1, d1, ds1, p1, q1, rfl, rfl, rfl, h1, r1⟩ := trodAll_cons r0
  obtain ⟨rfl, rfl, rfl⟩ := trodAll_nil r1
  obtain rfl : args = #[v0, v1] := by cases args; simp_all
  obtain ⟨rfl, rfl⟩ : gs = [] ∧ q = [] := by
    cases gs with
    | nil => exact ⟨rfl, hV⟩
    | cons g r => exact absurd hV (by intro h; cases h)
  obtain ⟨a0, rfl, rfl, rfl, w0⟩ := ChangeMaps.open_string Tryz.underlying9 (hval 0 9 v0 rfl rfl) h0
  obtain ⟨a1, rfl, rfl, rfl, w1⟩ := ChangeMaps.open_string Tryz.underlying9 (hval 1 9 v1 rfl rfl) h1
  have hw := cw_of hL
  have hg := handle_of_laid hL
  have ht := tz_of hL
  have big0 : a0.size ≤ 140737488355328 := by
    have hr := sized_string hsz (j := 0) (t := 9) rfl rfl
    rw [Lib.size_eq]
    simp only [reachBytes] at hr
    omega
  have big1 : a1.size ≤ 140737488355328 := by
    have hr := sized_string hsz (j := 1) (t := 9) rfl rfl
    rw [Lib.size_eq]
    simp only [reachBytes] at hr
    omega
  clear hA0 hval0
  refine (walk a0 big0 a1 big1 W hw hg ht ).mono fun e W' ⟨he, bel⟩ => ?_
  subst he
  exact ⟨_, rfl, _, _, _, [], _, [], hW', trodAll_mk1 (shut_bool Tryz.underlying4 _), (trodAll_cons_mk (ChangeMaps.shut_string Tryz.underlying9 w0) (trodAll_cons_mk (ChangeMaps.shut_string Tryz.underlying9 w1) trodAll_mk0)), rfl, bel.frame _, fun h => by cases h⟩

theorem over : Rows.ScriptPiecesSaid :=
  OpenClaim.holds_of_wide 4 Tryz.f4 rfl rfl rfl rfl rfl rfl rfl ⟨rfl, rfl, rfl, rfl, rfl⟩ rfl rfl rfl rfl rfl (by kernel_rfl) Tryz.func4 (by kernel_rfl)
    (of_decide_eq_true (by kernel_rfl)) (by unfold Func.isWrapper; first | (rw [if_pos (by decide +kernel)]; kernel_rfl) | (rw [if_neg (by decide +kernel)]; exact ⟨rfl, rfl⟩))
    (fun os started H enc _ => lifted os started H enc)

/-- The given statement: the tied card. -/
theorem proved : Rows.ScriptPiecesCardSaid :=
  Claim7.holds_tied_plain_at .later [] [.data, .data, .handle, .data] true (true, "772fc1c225ab256eb22d7d69b4c871bafaea52d771a33a78aa0386c0f25e3886") true
    over (fun _ h => by cases h) (by kernel_rfl) (fun _ h => by cases h) scriptPieces_row_tie rfl ⟨rfl, rfl⟩ (by kernel_rfl) rfl
    (fun f fn hf hfn => by
      obtain rfl : f = 4 := Option.some.inj ((show Tryz.prog.funcNamed "quadrille/quadrillekeep.ScriptPieces" = some 4 by kernel_rfl).symm.trans hf) |>.symm
      obtain rfl : fn = Tryz.f4 := (Option.some.inj (Tryz.func4.symm.trans hfn)).symm
      refine ⟨by kernel_rfl, fun j t ht => ?_⟩
      rw [Tryz.params4] at ht
      have hm : t ∈ [9, 9] := by
        have := Array.mem_of_getElem? ht
        simpa using this
      have hall : ([9, 9].all fun u => !Tryz.prog.wantsStandIn u) = true := by kernel_rfl
      exact (show Tryz.prog.wantsStandIn t = false by simpa using List.all_eq_true.1 hall t hm))
    (by kernel_rfl)
#print axioms proved
end Go.Proofs.YtgkfhihnfllmhaaGreatDoor.scriptPieces
