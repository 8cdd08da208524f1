/-
  Any bytes are a dance: whatever they are, nobody goes ahead of all who come, and at last all are at their ends. No conditions.
-/
import Derived.Test.YtgkfhihnfllmhaaGreatDoorQXU2
import Derived.Test.YtgkfhihnfllmhaaGreatDoorQXM2
import Derived.Test.YtgkfhihnfllmhaaGreatDoorQXR
import Derived.Test.YtgkfhihnfllmhaaGreatDoorRows
import Derived.Test.YtgkfhihnfllmhaaGreatDoorCards
import Derived.Test.YtgkfhihnfllmhaaGreatDoorTie
import Derived.WalkKit
import Derived.ProofKit
import Derived.OpenShut
import Derived.ChangeOld
import Derived.Below
import Derived.ChangeSame
import Derived.ChangeVars
import Derived.JoinedOf
import Derived.RowKitTokens
import Derived.LaidLaws
import Derived.LaidHandle
import Derived.Stop.Joined
import Derived.SevenTiedAt
import Derived.Lib.LaidTab
import Derived.Lib.LaidIn
import Derived.Test.YtgkfhihnfllmhaaGreatDoorQXA
import Derived.ChangeMaps5
import Derived.Test.YtgkfhihnfllmhaaGreatDoorQXE
import Derived.Test.YtgkfhihnfllmhaaGreatDoorQXN
namespace Go.Proofs.YtgkfhihnfllmhaaGreatDoor
set_option maxRecDepth 100000
open Go.RowKit Go.Shelf Go.Sort
set_option linter.unusedVariables false
set_option linter.unusedSimpArgs false

theorem sj_bel {w w' : World} (hg : w.grownBy w' none) : Below w.heap.size w w' := ⟨hg.os, hg.tape, hg.output, hg.size, fun k hk => hg.block k hk (by simp)⟩

set_option maxHeartbeats 4000000 in
theorem scriptJudged_list {w : World} (H : DanceOK) (hw : DW w) (t : List UInt8) :
    Calls Tryz.prog 3 #[strV t] w fun e w' => e = .returned (.bool true) ∧ Below w.heap.size w w' := by
  have HS := Lib.hid (scripted_true w)
  have HW := Lib.hid hw
  clear hw
  unfold strV
  go_enter Tryz.func3, Tryz.ntmps3
  go_wp2_with fail
  refine HS.out.mono ?_
  rintro e w1 ⟨rfl, hb1⟩
  have HB1 := Lib.hid hb1
  have HJD := Lib.hid (judged_any (HW.out.old hb1).ev)
  clear hb1 HS
  go_wp2_with fail
  refine HJD.out.mono ?_
  rintro e w2 ⟨rfl, hb2⟩
  have HB2 := Lib.hid (HB1.out.trans (hb2.mono HB1.out.size))
  clear hb2 HJD HB1
  by_cases h9 : 900 < t.length
  · have h9i : (900 : Int) < (t.length : Int) := by omega
    go_wp2
    go_ret
    exact ⟨rfl, HB2.out⟩
  have h9i : ¬ (900 : Int) < (t.length : Int) := by omega
  have hkk := kOf_dims t
  have hrt := mvsOf_right t
  have hln := mvsOf_len t
  have hl1 : (mvsOf t).length ≤ 900 := by omega
  have HD1 := Lib.hid (scDecode_any t (by omega) w2)
  have d : Dims (kOf t) (nOf t) (rOf t) := ⟨by omega, by omega, by omega, by omega, by omega⟩
  have HP1 := Lib.hid (fun (w : World) (hw : DW w) (A : Option Addr) (c : Nat) (h : Moves w w.heap.size A (mvsOf t).length (mvsOf t)) => scPlay_any H hw d (by omega) (by omega) (mvsOf t) A (mvsOf t).length c h (by omega) hrt)
  have hpk : pokesM (mvsOf t) ≤ 900 := Nat.le_trans (pokesM_le _) hl1
  have hdn := dn_moves d (mvsOf_lt t) (dn_new d) (by omega)
  have hbg := (kM_big d).behind (mvsOf t)
  have HMK := Lib.hid (fun (W0 : World) (c : Nat) (wr : World) (hA : At W0 c (behindM 20000 (kM (kOf t) (nOf t) (rOf t)) (mvsOf t)) wr) => (show Flo W0 c (kOf t) (nOf t) (rOf t) (0 + pokesM (mvsOf t)) _ wr from ⟨hA, hbg, hdn⟩))
  have HPK := Lib.hid (show 0 + pokesM (mvsOf t) ≤ 900 by omega)
  have HD := Lib.hid d
  unfold ToldScript strV scriptV at HD1
  unfold scriptV ToldPlay at HP1
  clear hkk hrt hln hl1 hpk hdn hbg d h9
  generalize kOf t = k at *
  generalize nOf t = n at *
  generalize rOf t = r at *
  generalize mvsOf t = l1 at *
  generalize behindM 20000 (kM k n r) l1 = m at *
  generalize 0 + pokesM l1 = p at *
  go_wp2_with fail
  refine HD1.out.mono ?_
  rintro e w3 ⟨hb3, A1, c1, rfl, hM1⟩
  have hba := (Below.refl w3.heap.size w3).alloc (Nat.le_refl _) (.cells #[.int .i64 (k : Nat), .int .i64 (n : Nat), .int .i64 (r : Nat), .slice A1 l1.length c1] 25)
  have hx := heap_alloc_new w3 (.cells #[.int .i64 (k : Nat), .int .i64 (n : Nat), .int .i64 (r : Nat), .slice A1 l1.length c1] 25)
  have hM2 := hM1.old hba
  have hall := HB2.out.trans ((hb3.trans (hba.mono hb3.size)).mono HB2.out.size)
  obtain ⟨sb, hsb⟩ : ∃ sb, w3.heap.size = sb := ⟨_, rfl⟩
  obtain ⟨wa, hwa⟩ : ∃ wa, w3.alloc (.cells #[.int .i64 (k : Nat), .int .i64 (n : Nat), .int .i64 (r : Nat), .slice A1 l1.length c1] 25) = wa := ⟨_, rfl⟩
  rw [hwa] at hx hM2 hall
  rw [hsb] at hx
  have c0 : wa.cell? ⟨sb, 0, none⟩ = some (.int .i64 (k : Nat)) := by rw [cell_of_row wa sb 0 _ _ _ hx]; rfl
  have c1' : wa.cell? ⟨sb, 1, none⟩ = some (.int .i64 (n : Nat)) := by rw [cell_of_row wa sb 1 _ _ _ hx]; rfl
  have c2 : wa.cell? ⟨sb, 2, none⟩ = some (.int .i64 (r : Nat)) := by rw [cell_of_row wa sb 2 _ _ _ hx]; rfl
  have c3 : wa.cell? ⟨sb, 3, none⟩ = some (.slice A1 l1.length c1) := by rw [cell_of_row wa sb 3 _ _ _ hx]; rfl
  have HALL := Lib.hid hall
  have HPa := Lib.hid (HP1.out _ (HW.out.old hall) A1 c1 hM2)
  have HXA := Lib.hid hx
  clear hb3 hM1 HD1 hba hx hM2 hall HP1 HB2
  go_wp2_with fail
  refine HPa.out.mono ?_
  rintro e w4 ⟨q, rfl, hA1⟩
  have HF := Lib.hid (HMK.out _ _ _ hA1)
  have hxa := HXA.out
  have HCB := Lib.hid (fun W (hb : Below wa.heap.size wa W) => (show W.cell? ⟨sb, 1, none⟩ = some (.int .i64 (n : Nat)) ∧ W.cell? ⟨sb, 2, none⟩ = some (.int .i64 (r : Nat)) from by
    have h := (hb.block sb (lt_of_block hxa)).trans hxa
    exact ⟨by rw [cell_of_row W sb 1 _ _ _ h]; rfl, by rw [cell_of_row W sb 2 _ _ _ h]; rfl⟩))
  clear hA1 hxa HPa c0 c1' c2 c3 hwa hsb HMK
  have hbd : Below w4.heap.size w4 w4.drew := below_drewN (Below.refl _ _) 1
  have HFd := Lib.hid (HF.out.keep hbd)
  have HJU := Lib.hid (Dn.order HD.out.n1 HF.out.dn).2.2.2
  clear hbd
  go_wp2
  --M1
  refine region_heldH (S := (fun u => u.cell? ⟨sb, 1, none⟩ = some (.int .i64 (n : Nat)))) 12 rfl (by kernel_rfl) (HCB.out w4.drew HFd.out.bel).1 (fun hHeld => ?_)
  refine heldH_take (n := 11) (i := 0) (oi := _) (v := ?va0) (dst := some 37) rfl rfl rfl (by kernel_rfl) (by kernel_rfl) (by kernel_rfl) (fun _ _ _ h => h) (Or.inl ⟨by rfl, ?hya0⟩) (by assumption) ?resta0
  case hya0 => intro u hSu; (try dsimp only at hSu); go_simp; try (with_reducible rfl)
  simp only [Act.put, List.setIfInBounds_toArray, List.set_cons_zero, List.set_cons_succ]
  refine heldH_take (n := 10) (i := 2) (oi := _) (v := ?va2) (dst := some 39) rfl rfl rfl (by kernel_rfl) (by kernel_rfl) (by kernel_rfl) (fun _ _ _ h => h) (Or.inl ⟨by rfl, ?hya2⟩) (by assumption) ?resta2
  case hya2 => intro u hSu; (try dsimp only at hSu); go_simp; try (with_reducible rfl)
  simp only [Act.put, List.setIfInBounds_toArray, List.set_cons_zero, List.set_cons_succ]
  refine heldH_take (n := 9) (i := 3) (oi := _) (v := ?va3) (dst := some 40) rfl rfl rfl (by kernel_rfl) (by kernel_rfl) (by kernel_rfl) (fun _ _ _ h => h) (Or.inl ⟨by rfl, ?hya3⟩) (by assumption) ?resta3
  case hya3 => intro u hSu; (try dsimp only at hSu); go_simp; try (with_reducible rfl)
  simp only [Act.put, List.setIfInBounds_toArray, List.set_cons_zero, List.set_cons_succ]
  refine heldH_step (n := 8) (i := 1) (o := _) rfl (by kernel_rfl) rfl (fun K hK => ?_)
  have HK2 := Lib.hid hK
  clear hK
  go_simp
  refine (flo_events HFd.out).mono ?_
  rintro e w5 ⟨A5, c5, rfl, ho5, hg5⟩
  have HF5 := Lib.hid (HFd.out.grow hg5)
  have HS5 := Lib.hid ((HCB.out w5 HF5.out.bel).1)
  have HJ5 := Lib.hid (flo_judge H HD.out HFd.out ho5)
  clear hg5 ho5
  go_simp
  refine HK2.out _ _ HS5.out (fun hHeld => ?_)
  clear HK2 K
  refine heldH_step (n := 7) (i := 4) (o := _) rfl (by kernel_rfl) rfl (fun K hK => ?_)
  have HK2 := Lib.hid hK
  clear hK
  go_simp
  refine (HJ5.out).mono ?_
  rintro e w6 ⟨rfl, hb6⟩
  have HF6 := Lib.hid (HF5.out.keep hb6)
  have HS6 := Lib.hid ((HCB.out w6 HF6.out.bel).1)
  clear hb6
  go_simp
  refine HK2.out _ _ HS6.out (fun hHeld => ?_)
  clear HK2 K
  refine heldH_take (n := 6) (i := 5) (oi := _) (v := ?va5) (dst := some 36) rfl rfl rfl (by kernel_rfl) (by kernel_rfl) (by kernel_rfl) (fun _ _ _ h => h) (Or.inl ⟨by rfl, ?hya5⟩) (by assumption) ?resta5
  case hya5 => intro u hSu; (try dsimp only at hSu); go_simp; try (with_reducible rfl)
  simp only [Act.put, List.setIfInBounds_toArray, List.set_cons_zero, List.set_cons_succ]
  refine heldH_take (n := 5) (i := 6) (oi := _) (v := ?va6) (dst := some 42) rfl rfl rfl (by kernel_rfl) (by kernel_rfl) (by kernel_rfl) (fun _ _ _ h => h) (Or.inl ⟨by rfl, ?hya6⟩) (by assumption) ?resta6
  case hya6 => intro u hSu; (try dsimp only at hSu); go_simp; try (with_reducible rfl)
  simp only [Act.put, List.setIfInBounds_toArray, List.set_cons_zero, List.set_cons_succ]
  refine heldH_take (n := 4) (i := 7) (oi := _) (v := ?va7) (dst := some 43) rfl rfl rfl (by kernel_rfl) (by kernel_rfl) (by kernel_rfl) (fun _ _ _ h => h) (Or.inl ⟨by rfl, ?hya7⟩) (by assumption) ?resta7
  case hya7 => intro u hSu; (try dsimp only at hSu); go_simp; try (with_reducible rfl)
  simp only [Act.put, List.setIfInBounds_toArray, List.set_cons_zero, List.set_cons_succ]
  refine heldH_take (n := 3) (i := 8) (oi := _) (v := ?va8) (dst := some 44) rfl rfl rfl (by kernel_rfl) (by kernel_rfl) (by kernel_rfl) (fun _ _ _ h => h) (Or.inl ⟨by rfl, ?hya8⟩) (by assumption) ?resta8
  case hya8 => intro u hSu; (try dsimp only at hSu); go_simp; try (with_reducible rfl)
  simp only [Act.put, List.setIfInBounds_toArray, List.set_cons_zero, List.set_cons_succ]
  refine heldH_take (n := 2) (i := 9) (oi := _) (v := ?va9) (dst := some 6) rfl rfl rfl (by kernel_rfl) (by kernel_rfl) (by kernel_rfl) (fun _ _ _ h => h) (Or.inl ⟨by rfl, ?hya9⟩) (by assumption) ?resta9
  case hya9 => intro u hSu; (try dsimp only at hSu); go_simp; try (with_reducible rfl)
  simp only [Act.put, List.setIfInBounds_toArray, List.set_cons_zero, List.set_cons_succ]
  refine heldH_take (n := 1) (i := 10) (oi := _) (v := ?va10) (dst := some 7) rfl rfl rfl (by kernel_rfl) (by kernel_rfl) (by kernel_rfl) (fun _ _ _ h => h) (Or.inl ⟨by rfl, ?hya10⟩) (by assumption) ?resta10
  case hya10 => intro u hSu; (try dsimp only at hSu); go_simp; try (with_reducible rfl)
  simp only [Act.put, List.setIfInBounds_toArray, List.set_cons_zero, List.set_cons_succ]
  refine heldH_take (n := 0) (i := 11) (oi := _) (v := ?va11) (dst := some 8) rfl rfl rfl (by kernel_rfl) (by kernel_rfl) (by kernel_rfl) (fun _ _ _ h => h) (Or.inl ⟨by rfl, ?hya11⟩) (by assumption) ?resta11
  case hya11 => intro u hSu; (try dsimp only at hSu); go_simp; try (with_reducible rfl)
  simp only [Act.put, List.setIfInBounds_toArray, List.set_cons_zero, List.set_cons_succ]
  refine wpAnyH_done (by kernel_rfl) ?_ _
  --M2
  go_wp2_with fail
  refine (flo_fin H HD.out HF6.out HPK.out).mono ?_
  rintro e w7 ⟨m', rfl, hF7, hE, hfin⟩
  have HG7 := Lib.hid hF7
  have HE := Lib.hid hE
  have HBO := Lib.hid (HE.out.both HD.out.n1)
  generalize ((m'.steps : Int) - (m.steps : Int)) = dd at *
  clear hF7 hE hfin HF6 HF5 HFd HF HJ5 HS5 HS6
  have hbd : Below w7.heap.size w7 w7.drew := below_drewN (Below.refl _ _) 1
  have HGd := Lib.hid (HG7.out.keep hbd)
  clear hbd HG7
  --M3
  go_wp2
  refine region_heldH (S := (fun u => u.cell? ⟨sb, 1, none⟩ = some (.int .i64 (n : Nat)))) 12 rfl (by kernel_rfl) (HCB.out w7.drew HGd.out.bel).1 (fun hHeld => ?_)
  refine heldH_take (n := 11) (i := 0) (oi := _) (v := ?vb0) (dst := some 48) rfl rfl rfl (by kernel_rfl) (by kernel_rfl) (by kernel_rfl) (fun _ _ _ h => h) (Or.inl ⟨by rfl, ?hyb0⟩) (by assumption) ?restb0
  case hyb0 => intro u hSu; (try dsimp only at hSu); go_simp; try (with_reducible rfl)
  simp only [Act.put, List.setIfInBounds_toArray, List.set_cons_zero, List.set_cons_succ]
  refine heldH_take (n := 10) (i := 2) (oi := _) (v := ?vb2) (dst := some 50) rfl rfl rfl (by kernel_rfl) (by kernel_rfl) (by kernel_rfl) (fun _ _ _ h => h) (Or.inl ⟨by rfl, ?hyb2⟩) (by assumption) ?restb2
  case hyb2 => intro u hSu; (try dsimp only at hSu); go_simp; try (with_reducible rfl)
  simp only [Act.put, List.setIfInBounds_toArray, List.set_cons_zero, List.set_cons_succ]
  refine heldH_take (n := 9) (i := 3) (oi := _) (v := ?vb3) (dst := some 51) rfl rfl rfl (by kernel_rfl) (by kernel_rfl) (by kernel_rfl) (fun _ _ _ h => h) (Or.inl ⟨by rfl, ?hyb3⟩) (by assumption) ?restb3
  case hyb3 => intro u hSu; (try dsimp only at hSu); go_simp; try (with_reducible rfl)
  simp only [Act.put, List.setIfInBounds_toArray, List.set_cons_zero, List.set_cons_succ]
  refine heldH_step (n := 8) (i := 1) (o := _) rfl (by kernel_rfl) rfl (fun K hK => ?_)
  have HK2 := Lib.hid hK
  clear hK
  go_simp
  refine (flo_events HGd.out).mono ?_
  rintro e w9 ⟨A9, c9, rfl, ho9, hg9⟩
  have HG9 := Lib.hid (HGd.out.grow hg9)
  have HS9 := Lib.hid ((HCB.out w9 HG9.out.bel).1)
  have HJ9 := Lib.hid (flo_judge H HD.out HGd.out ho9)
  rw [HBO.out.1, HBO.out.2] at HJ9
  clear hg9 ho9
  go_simp
  refine HK2.out _ _ HS9.out (fun hHeld => ?_)
  clear HK2 K
  refine heldH_step (n := 7) (i := 4) (o := _) rfl (by kernel_rfl) rfl (fun K hK => ?_)
  have HK2 := Lib.hid hK
  clear hK
  go_simp
  refine (HJ9.out).mono ?_
  rintro e w10 ⟨rfl, hb10⟩
  have HG10 := Lib.hid (HG9.out.keep hb10)
  have HS10 := Lib.hid ((HCB.out w10 HG10.out.bel).1)
  clear hb10
  go_simp
  refine HK2.out _ _ HS10.out (fun hHeld => ?_)
  clear HK2 K
  refine heldH_take (n := 6) (i := 5) (oi := _) (v := ?vb5) (dst := some 47) rfl rfl rfl (by kernel_rfl) (by kernel_rfl) (by kernel_rfl) (fun _ _ _ h => h) (Or.inl ⟨by rfl, ?hyb5⟩) (by assumption) ?restb5
  case hyb5 => intro u hSu; (try dsimp only at hSu); go_simp; try (with_reducible rfl)
  simp only [Act.put, List.setIfInBounds_toArray, List.set_cons_zero, List.set_cons_succ]
  refine heldH_take (n := 5) (i := 6) (oi := _) (v := ?vb6) (dst := some 53) rfl rfl rfl (by kernel_rfl) (by kernel_rfl) (by kernel_rfl) (fun _ _ _ h => h) (Or.inl ⟨by rfl, ?hyb6⟩) (by assumption) ?restb6
  case hyb6 => intro u hSu; (try dsimp only at hSu); go_simp; try (with_reducible rfl)
  simp only [Act.put, List.setIfInBounds_toArray, List.set_cons_zero, List.set_cons_succ]
  refine heldH_take (n := 4) (i := 7) (oi := _) (v := ?vb7) (dst := some 54) rfl rfl rfl (by kernel_rfl) (by kernel_rfl) (by kernel_rfl) (fun _ _ _ h => h) (Or.inl ⟨by rfl, ?hyb7⟩) (by assumption) ?restb7
  case hyb7 => intro u hSu; (try dsimp only at hSu); go_simp; try (with_reducible rfl)
  simp only [Act.put, List.setIfInBounds_toArray, List.set_cons_zero, List.set_cons_succ]
  refine heldH_take (n := 3) (i := 8) (oi := _) (v := ?vb8) (dst := some 55) rfl rfl rfl (by kernel_rfl) (by kernel_rfl) (by kernel_rfl) (fun _ _ _ h => h) (Or.inl ⟨by rfl, ?hyb8⟩) (by assumption) ?restb8
  case hyb8 => intro u hSu; (try dsimp only at hSu); go_simp; try (with_reducible rfl)
  simp only [Act.put, List.setIfInBounds_toArray, List.set_cons_zero, List.set_cons_succ]
  refine heldH_take (n := 2) (i := 9) (oi := _) (v := ?vb9) (dst := some 9) rfl rfl rfl (by kernel_rfl) (by kernel_rfl) (by kernel_rfl) (fun _ _ _ h => h) (Or.inl ⟨by rfl, ?hyb9⟩) (by assumption) ?restb9
  case hyb9 => intro u hSu; (try dsimp only at hSu); go_simp; try (with_reducible rfl)
  simp only [Act.put, List.setIfInBounds_toArray, List.set_cons_zero, List.set_cons_succ]
  refine heldH_take (n := 1) (i := 10) (oi := _) (v := ?vb10) (dst := some 10) rfl rfl rfl (by kernel_rfl) (by kernel_rfl) (by kernel_rfl) (fun _ _ _ h => h) (Or.inl ⟨by rfl, ?hyb10⟩) (by assumption) ?restb10
  case hyb10 => intro u hSu; (try dsimp only at hSu); go_simp; try (with_reducible rfl)
  simp only [Act.put, List.setIfInBounds_toArray, List.set_cons_zero, List.set_cons_succ]
  refine heldH_take (n := 0) (i := 11) (oi := _) (v := ?vb11) (dst := some 11) rfl rfl rfl (by kernel_rfl) (by kernel_rfl) (by kernel_rfl) (fun _ _ _ h => h) (Or.inl ⟨by rfl, ?hyb11⟩) (by assumption) ?restb11
  case hyb11 => intro u hSu; (try dsimp only at hSu); go_simp; try (with_reducible rfl)
  simp only [Act.put, List.setIfInBounds_toArray, List.set_cons_zero, List.set_cons_succ]
  refine wpAnyH_done (by kernel_rfl) ?_ _
  have HEn := Lib.hid (flo_ends HD.out HG10.out)
  rw [HE.out.ends] at HEn
  clear HS9 HG9 HGd HJ9
  go_wp2_with fail
  refine HEn.out.mono ?_
  rintro e w11 ⟨rfl, hg11⟩
  have HG11 := Lib.hid (HG10.out.grow hg11)
  obtain ⟨s1, s2⟩ := HCB.out w11 HG11.out.bel
  have HBL := Lib.hid (HALL.out.trans (HG11.out.bel.mono HALL.out.size))
  have hju : ((jAny n m.events : Nat) : Int) ≤ ((r : Nat) : Int) := by have := HJU.out; omega
  have hrr : (((r : Nat) : Int) == ((r : Nat) : Int)) = true := by simp
  clear hg11 HEn HG10 HG11 HS10
  --M5
  go_wp2
  go_ret
  exact ⟨rfl, HBL.out⟩

theorem scriptJudged_any {w : World} (H : DanceOK) (hw : DW w) (t : ByteArray) :
    Calls Tryz.prog 3 #[.string t] w fun e w' => e = .returned (.bool true) ∧ Below w.heap.size w w' := by
  have h := scriptJudged_list H hw t.data.toList
  unfold strV at h
  rw [show (⟨t.data.toList.toArray⟩ : ByteArray) = t from Lib.mk_data t] at h
  exact h
end Go.Proofs.YtgkfhihnfllmhaaGreatDoor

namespace Go.Proofs.YtgkfhihnfllmhaaGreatDoor.scriptJudged
open Go.ChangeShapes Go.WideShapes Go.ChangeAt Go.RowKit
set_option linter.unusedVariables false

theorem own : ownKnob Tryz.prog.godebug = none := by kernel_rfl
theorem laidOut : laidOutB Tryz.prog = true := by kernel_rfl
theorem tsize : Tryz.prog.types.size = 364 := by kernel_rfl

theorem et : Tryz.prog.globalNamed "errors.errorType" = some 1 := by kernel_rfl
theorem rt : (Tryz.prog.cutTypes.find? (·.1 == "internal/reflectlite.rtype")).map (·.2) = some 246 := by kernel_rfl
theorem oneRow : ((List.range 364).filter fun t => Tryz.prog.rowNamed t [101, 114, 114, 111, 114]) = [29] := by kernel_rfl

/-- What the listed variables give the walk. -/
theorem cw_of {W : World} (h : laidMetH Tryz.prog Rows.scriptJudgedRow.laid W) : CW W := by
  have h' : laidMet Tryz.prog (Rows.scriptJudgedRow.laid.filter fun x => x.2.handleName?.isNone) W ∧ handlesMet Tryz.prog (Rows.scriptJudgedRow.laid.filter fun x => x.2.handleName?.isSome) W := h
  exact cw_of_laid h'.1 (List.mem_filter.2 ⟨.tail _ (.tail _ (.tail _ (.head _))), rfl⟩)
theorem handle_of_laid {W : World} (h : laidMetH Tryz.prog Rows.scriptJudgedRow.laid W) : ErrVar W := by
  have h' : laidMet Tryz.prog (Rows.scriptJudgedRow.laid.filter fun x => x.2.handleName?.isNone) W ∧ handlesMet Tryz.prog (Rows.scriptJudgedRow.laid.filter fun x => x.2.handleName?.isSome) W := h
  obtain ⟨name, u, ty, e1, e2, e3, e4, e5⟩ := h'.2 ("errors.errorType", Rows.laid_errors_errorType) (List.mem_filter.2 ⟨.tail _ (.tail _ (.head _)), rfl⟩)
  have en : name = [101, 114, 114, 111, 114] := (Option.some.inj e1).symm
  subst en
  obtain rfl := Option.some.inj (rt.symm.trans e2)
  have hm : ty ∈ (List.range 364).filter fun t => Tryz.prog.rowNamed t [101, 114, 114, 111, 114] := List.mem_filter.2 ⟨List.mem_range.2 (by rw [← tsize]; exact e3), e4⟩
  rw [oneRow] at hm
  obtain rfl := List.mem_singleton.1 hm
  have hh : typeHandle Tryz.prog 29 = .pointer (some ⟨11, 29, none⟩) := by kernel_rfl
  rw [hh] at e5
  have := World.var?_cell et e5 0
  unfold ErrVar
  simpa using this
theorem tz_of {W : World} (h : laidMetH Tryz.prog Rows.scriptJudgedRow.laid W) : TzVar W := by
  have h' : laidMet Tryz.prog (Rows.scriptJudgedRow.laid.filter fun x => x.2.handleName?.isNone) W ∧ handlesMet Tryz.prog (Rows.scriptJudgedRow.laid.filter fun x => x.2.handleName?.isSome) W := h
  exact tz_of_laid h'.1 (List.mem_filter.2 ⟨.tail _ (.head _), rfl⟩)

/-- So many blocks has the settled world. -/
noncomputable def low : Nat := (World.holding Tryz.prog default ⟨#[], #[], []⟩).heap.size
def put (o : Obj) (cs : Array Value) : Obj := match o with
  | .cells _ t frozen => .cells cs t frozen
  | o => o
def tab (k : IntKind) (zs : List Int) : Array Value := (zs.map fun z => Value.int k z).toArray
/-- A world that meets the condition. -/
noncomputable def laidWorld (os : Os) : World :=
  let w0 := World.holding Tryz.prog os ⟨#[], #[], []⟩
  { w0 with heap := ((((w0.heap.modify 1 (put · #[.iface 246 (.agg #[.pointer (some ⟨11, 29, none⟩)])])).modify 3 (put · formCells)).modify 9 (put · (tab .u8 [0, 1, 28, 2, 29, 14, 24, 3, 30, 22, 20, 15, 25, 17, 4, 8, 31, 27, 13, 23, 21, 19, 16, 7, 26, 12, 18, 6, 11, 5, 10, 9]))).modify 10 (put · (tab .u8 [0, 1, 56, 2, 57, 49, 28, 3, 61, 58, 42, 50, 38, 29, 17, 4, 62, 47, 59, 36, 45, 43, 51, 22, 53, 39, 33, 30, 24, 18, 12, 5, 63, 55, 48, 27, 60, 41, 37, 16, 46, 35, 44, 21, 52, 32, 23, 11, 54, 26, 40, 15, 34, 20, 31, 10, 25, 14, 19, 9, 13, 8, 7, 6]))) }
theorem laidWorld_met (os : Os) (args : Array Value) : laidMetH Tryz.prog Rows.scriptJudgedRow.laid ((laidWorld os).forCall (fun _ _ => 0) ⟨#[], args, []⟩).memory :=
  laidMetH_of_parts (LaidIn.of_run [3, 9, 10] 8 (by kernel_rfl) (by kernel_rfl) (by kernel_rfl) (by kernel_rfl)).met (by kernel_rfl)

/-- The walk. -/
theorem walk (a0 : ByteArray) (w : World) (hw : CW w) (hg : ErrVar w) (ht : TzVar w)  :
    Calls Tryz.prog 3 #[.string a0] w fun e w' => e = .returned (.bool true) ∧ Below w.heap.size w w' := by
  exact scriptJudged_any danceOK ⟨hw, hg, ht⟩ a0

set_option maxRecDepth 100000 in
theorem lifted (os : Os) (started : os.Started) (H : Type) (enc : TypeId × Value → H) :
    ReturnsInHanded {} Tryz.checked os 3 .any (fun w args => (Rows.scriptJudgedSpec.pre enc Tryz.prog Tryz.f3 [] false w args ∧ laidMetH Tryz.prog Rows.scriptJudgedRow.laid w) ∧ sizedMet enc Tryz.prog Tryz.f3 (OpenSpec.ofChange Rows.scriptJudgedSpec) false w args)
      (Rows.scriptJudgedSpec.post enc Tryz.prog Tryz.f3 false true false false) := by
  refine returnsInHanded_of_change_and (C := Tryz.checked) (X := fun w _ => laidMetH Tryz.prog Rows.scriptJudgedRow.laid w) (fun _ _ _ hh h => h.of_heap hh) own started (by kernel_rfl) Tryz.func3
    (ChangeSpec.witness_at (enc := enc) (C := Tryz.checked) (os := os) (X := fun w _ => laidMetH Tryz.prog Rows.scriptJudgedRow.laid w) false (laidWorld os) #[.string ⟨#[]⟩] 8 rfl (by kernel_rfl) (by kernel_rfl) (by kernel_rfl) (by kernel_rfl) (by kernel_rfl) (laidWorld_met os _)) ?_
  intro W base args ds gs before hval0 hW _ _ hL _
  have hval : ∀ (j : Nat) t v, Tryz.f3.params[j]? = some t → args[j]? = some v → Value.okWide Tryz.prog W .any base t v := hval0
  have hW' := hW
  obtain ⟨p, q, hA0, hV0, rfl, hfz, hnd⟩ := hW
  have hA : DataW.TrodAll enc Tryz.prog W 0 (fun _ => true) true Tryz.f3.params.toList args.toList ds p := hA0
  have hV : DataW.TrodVars enc Tryz.prog W (fun _ => true) [] gs q := hV0
  rw [Tryz.params3] at hA hval
  obtain ⟨v0, vs0, d0, ds0, p0, q0, hargs, rfl, rfl, h0, r0⟩ := trodAll_cons hA
  obtain ⟨rfl, rfl, rfl⟩ := trodAll_nil r0
  obtain rfl : args = #[v0] := by cases args; simp_all
  obtain ⟨rfl, rfl⟩ : gs = [] ∧ q = [] := by
    cases gs with
    | nil => exact ⟨rfl, hV⟩
    | cons g r => exact absurd hV (by intro h; cases h)
  obtain ⟨a0, rfl, rfl, rfl, w0⟩ := ChangeMaps.open_string Tryz.underlying9 (hval 0 9 v0 rfl rfl) h0
  have hw := cw_of hL
  have hg := handle_of_laid hL
  have ht := tz_of hL
  clear hA0 hval0
  refine (walk a0 W hw hg ht ).mono fun e W' ⟨he, bel⟩ => ?_
  subst he
  exact ⟨_, rfl, _, _, _, [], _, [], hW', trodAll_mk1 (shut_bool Tryz.underlying4 _), (trodAll_cons_mk (ChangeMaps.shut_string Tryz.underlying9 w0) trodAll_mk0), rfl, bel.frame _, fun h => by cases h⟩

theorem over : Rows.ScriptJudgedSaid :=
  OpenClaim.holds_of_wide 3 Tryz.f3 rfl rfl rfl rfl rfl rfl rfl ⟨rfl, rfl, rfl, rfl, rfl⟩ rfl rfl rfl rfl rfl (by kernel_rfl) Tryz.func3 (by kernel_rfl)
    (of_decide_eq_true (by kernel_rfl)) (by unfold Func.isWrapper; first | (rw [if_pos (by decide +kernel)]; kernel_rfl) | (rw [if_neg (by decide +kernel)]; exact ⟨rfl, rfl⟩))
    (fun os started H enc _ => lifted os started H enc)

/-- The given statement: the tied card. -/
theorem proved : Rows.ScriptJudgedCardSaid :=
  Claim7.holds_tied_plain_at .later [] [.data, .data, .handle, .data] true (true, "772fc1c225ab256eb22d7d69b4c871bafaea52d771a33a78aa0386c0f25e3886") true
    over (fun _ h => by cases h) (by kernel_rfl) (fun _ h => by cases h) scriptJudged_row_tie rfl ⟨rfl, rfl⟩ (by kernel_rfl) rfl
    (fun f fn hf hfn => by
      obtain rfl : f = 3 := Option.some.inj ((show Tryz.prog.funcNamed "quadrille/quadrillekeep.ScriptJudged" = some 3 by kernel_rfl).symm.trans hf) |>.symm
      obtain rfl : fn = Tryz.f3 := (Option.some.inj (Tryz.func3.symm.trans hfn)).symm
      refine ⟨by kernel_rfl, fun j t ht => ?_⟩
      rw [Tryz.params3] at ht
      have hm : t ∈ [9] := by
        have := Array.mem_of_getElem? ht
        simpa using this
      have hall : ([9].all fun u => !Tryz.prog.wantsStandIn u) = true := by kernel_rfl
      exact (show Tryz.prog.wantsStandIn t = false by simpa using List.all_eq_true.1 hall t hm))
    (by kernel_rfl)
#print axioms proved
end Go.Proofs.YtgkfhihnfllmhaaGreatDoor.scriptJudged
