/-
  Few at a cell: where two meet, or four, no more than eight acts a round are done to any cell, however many there are. No conditions.
-/
import Derived.Test.YtjlhinjmnhpdaaaGreatDoorQN2
import Derived.Test.YtjlhinjmnhpdaaaGreatDoorQN7
import Derived.Lib.MinMax
import Derived.Carry
import Derived.Test.YtjlhinjmnhpdaaaGreatDoorRows
import Derived.Test.YtjlhinjmnhpdaaaGreatDoorCards
import Derived.Test.YtjlhinjmnhpdaaaGreatDoorTie
import Derived.WalkKit
import Derived.ProofKit
import Derived.OpenShut
import Derived.ChangeOld
import Derived.Below
import Derived.ChangeSame
import Derived.ChangeVars
import Derived.JoinedOf
import Derived.RowKitTokens
import Derived.LaidLaws
import Derived.LaidHandle
import Derived.Stop.Joined
import Derived.SevenTiedAt
import Derived.Lib.LaidTab
import Derived.Lib.LaidIn
import Derived.Test.YtjlhinjmnhpdaaaGreatDoorQA
import Derived.ChangeMaps5
import Derived.Test.YtjlhinjmnhpdaaaGreatDoorQM2
import Derived.Test.YtjlhinjmnhpdaaaGreatDoorQE
import Derived.Test.YtjlhinjmnhpdaaaGreatDoorQN
import Derived.Test.YtjlhinjmnhpdaaaGreatDoorQE3
namespace Go.Proofs.YtjlhinjmnhpdaaaGreatDoor
set_option maxRecDepth 100000
open Go.RowKit Go.Shelf Go.Sort
set_option linter.unusedVariables false
set_option linter.unusedSimpArgs false

/-- In the end, too, just the cells that there are are touched. -/
theorem thin_words {k n rounds p : Nat} {m m' : Mach} (d : Dims k n rounds) (h : Hist k n rounds p m) (hf : Fin m m') (hp : p ≤ 900) : ∀ a ∈ m'.acts, ∃ c : Nat, a.2.2.2.1 = c ∧ c < kCells k n := by
  obtain ⟨K, hK, hM⟩ := kind_all (rounds := rounds) d.k1 d.k6 d.n1 d.n16
  obtain ⟨S, hR, hD⟩ := hist_fx (acts_keep hM.mono) hK d h hp (.inr (acts_poke _)) hf
  exact hR.x.rng
/-- How many acts were done to a cell. -/
def cntZ (L : List Act6) (x : Int) : Nat := (L.filter fun a => a.2.2.2.1 == x).length
def mapZ (L : List Act6) : Int → Option Int := fun x => if cntZ L x = 0 then none else some (cntZ L x : Int)
theorem cntZ_at (L : List Act6) (c : Nat) : cntZ L (c : Int) = cntAt L c := rfl
theorem cntZ_take {L : List Act6} {i : Nat} (h : i < L.length) (x : Int) : cntZ (L.take (i + 1)) x = cntZ (L.take i) x + if (L.getD i default).2.2.2.1 = x then 1 else 0 := by
  rw [take_more h]
  unfold cntZ
  rw [List.filter_append, List.length_append]
  congr 1
  by_cases e : (L.getD i default).2.2.2.1 = x
  · rw [if_pos e, List.filter_cons_of_pos (by simpa using e)]
    rfl
  · rw [if_neg e, List.filter_cons_of_neg (by simpa using e)]
    rfl
theorem cntZ_len (L : List Act6) (x : Int) : cntZ L x ≤ L.length := List.length_filter_le _ _
theorem cntZ_le (L : List Act6) (i : Nat) (x : Int) : cntZ (L.take i) x ≤ cntZ L x := by
  unfold cntZ
  exact List.Sublist.length_le ((List.take_sublist i L).filter _)
theorem mapZ_get (L : List Act6) (x : Int) : ((mapZ L) x).getD 0 = (cntZ L x : Int) := by
  unfold mapZ
  split
  · rename_i h
    rw [h]
    rfl
  · rfl
theorem mapZ_put {L : List Act6} {i : Nat} (h : i < L.length) : putAt (mapZ (L.take i)) (L.getD i default).2.2.2.1 ((cntZ (L.take i) (L.getD i default).2.2.2.1 + 1 : Nat) : Int) = mapZ (L.take (i + 1)) := by
  funext x
  unfold putAt mapZ
  rw [cntZ_take h x]
  by_cases e : x = (L.getD i default).2.2.2.1
  · subst e
    rw [if_pos rfl, if_pos rfl, if_neg (by omega)]
  · have e2 : ¬ (L.getD i default).2.2.2.1 = x := fun e2 => e e2.symm
    simp only [if_neg e, if_neg e2, Nat.add_zero]
theorem nat_wf {n : Nat} (h : n ≤ 100000) : (Lit.int .i64 (n : Int)).wf = true := by
  simp [Lit.wf, IntKind.min, IntKind.max, IntKind.signed, IntKind.bits]
  omega
theorem max_cast (a b : Nat) : max (a : Int) (b : Int) = ((max a b : Nat) : Int) := by omega
theorem max_le' {a b M : Nat} (h1 : a ≤ M) (h2 : b ≤ M) : max a b ≤ M := Nat.max_le.2 ⟨h1, h2⟩
/-- A row of acts elsewhere. -/
theorem ActRow.apart {w w' : World} {A : Option Addr} {n g : Nat} {l : List Act6} (h : ActRow w A n l) (hg : w.grownBy w' (some g)) (hA : ∀ b off, A = some ⟨b, off, none⟩ → b ≠ g) : ActRow w' A n l := fun i hi => by
  obtain ⟨b, off, e, x1, x2, x3, x4, x5, x6⟩ := h i hi
  have hlt := World.block_lt_of_cell? w ⟨b, off + i * 6, none⟩ x1
  have k := fun j => World.cell?_of_block (a := ⟨b, j, none⟩) (hg.block b hlt (by intro e2; injection e2 with e2; exact hA b off e e2))
  exact ⟨b, off, e, (k _).trans x1, (k _).trans x2, (k _).trans x3, (k _).trans x4, (k _).trans x5, (k _).trans x6⟩
theorem next_lessZ {q n : Nat} (h : q < n) : n - (intOf (Value.int IntKind.i64 ((q + 1 : Nat) : Int))).toNat < n - (intOf (Value.int IntKind.i64 (q : Int))).toNat := by
  show n - (((q + 1 : Nat) : Int)).toNat < n - ((q : Int)).toNat
  rw [Int.toNat_natCast, Int.toNat_natCast]
  omega

set_option maxHeartbeats 1000000 in
theorem busiest_any {w0 w : World} {c k n rounds p M : Nat} {m : Mach} (h : Flo w0 c k n rounds p m w) (hW : ∀ a ∈ m.acts, ∃ c : Nat, a.2.2.2.1 = c ∧ c ≤ 300) (hM : ∀ c : Nat, cntAt m.acts c ≤ M) :
    Calls Tryz.prog 32 #[.pointer (some ⟨c, 0, none⟩)] w fun e w' => ∃ z : Nat, e = .returned (.int .i64 (z : Int)) ∧ z ≤ M ∧ Below w.heap.size w w' := by
  have hal : Flo w0 c k n rounds p m (w.alloc (.map #[] 0)) := h.grow (grown_a (World.grownBy.refl _ none) _)
  have HA := Lib.hid (at_acts hal.at_ hal.few.2)
  have HL := Lib.hid h.few.2
  have HB0 := Lib.hid ((Below.refl w.heap.size w).alloc (Nat.le_refl _) (.map #[] 0))
  have HI0 := Lib.hid (IM.made .i64 3 w)
  have HS0 := Lib.hid (World.size_alloc w (.map #[] 0))
  have HW := Lib.hid hW
  have HM := Lib.hid hM
  clear h hal hW hM
  generalize m.acts = L at *
  have hmk : ∀ W : World, (Instr.makeMap 39 none).run Tryz.prog W = .ok (.map (some W.heap.size)) (W.alloc (.map #[] 0)) := fun W => run_makeMap 39 W
  go_enter Tryz.func32, Tryz.ntmps32
  go_wp2_with fail
  --MA
  refine HA.out.mono ?_
  rintro e w1 ⟨A1, c1, rfl, hr, hg1⟩
  have HR := Lib.hid (actRow_own hr rfl)
  have HAp := Lib.hid (fun (b off : Nat) (e : A1 = some ⟨b, off, none⟩) => (show b ≠ w.heap.size by
    have h1 := (hr.lt b (by rw [e]; rfl)).1
    rw [HS0.out] at h1
    omega))
  have HB1 := Lib.hid (HB0.out.grown hg1 HB0.out.size (by intro k hk; cases hk))
  have HI1 := Lib.hid (HI0.out.kept hg1 (by simp))
  clear hr hg1 HA HB0 HI0
  have hz : ∀ W, (zeroValue 3).run Tryz.prog W = .ok (.int .i64 0) W := fun W => by kernel_rfl
  have HZ := Lib.hid hz
  clear hz
  clear hmk
  go_wp2
  --MB
  go_loopw [4, 11] (fun v j wr => ∃ (q z : Nat), q ≤ L.length ∧ v = .int .i64 (z : Nat) ∧ j = .int .i64 (q : Nat) ∧ Hid (z ≤ M ∧ IM .i64 3 wr w.heap.size q (mapZ (L.take q)) ∧ ActRow wr A1 L.length L ∧ Below w.heap.size w wr)) (fun _ j _ => L.length - (intOf j).toNat)
  case atStart => exact ⟨0, 0, Nat.zero_le _, rfl, rfl, Nat.zero_le _, HI1.out, HR.out, HB1.out⟩
  case round =>
    obtain ⟨q, z, hq, rfl, rfl, hx⟩ := hrel
    by_cases hlt : q < L.length
    · have hkn : (q : Int) < (L.length : Int) := Int.ofNat_lt.2 hlt
      have HX := Lib.hid hx.out
      obtain ⟨b, off, rfl, x1, x2, x3, x4, x5, x6⟩ := hx.out.2.2.1 q hlt
      obtain ⟨y, hy, hy3⟩ := HW.out (L.getD q default) (by rw [List.getD_eq_getElem?_getD, List.getElem?_eq_getElem hlt]; exact List.getElem_mem _)
      have HP := Lib.hid (mapZ_put hlt)
      have HC := Lib.hid (cntZ_take hlt (y : Int))
      generalize L.getD q default = a at *
      obtain ⟨a1, a2, a3, a4, a5, a6⟩ := a
      dsimp only at x1 x2 x3 x4 x5 x6 hy HP HC
      subst hy
      --MC
      have hcl := cntZ_len (L.take q) (y : Int)
      have hcl2 : (L.take q).length ≤ L.length := by rw [List.length_take]; exact Nat.min_le_right _ _
      have hc20 : cntZ (L.take q) (y : Int) ≤ 20000 := Nat.le_trans hcl (Nat.le_trans hcl2 HL.out)
      have HC2 := Lib.hid (show cntZ (L.take (q + 1)) (y : Int) ≤ M from Nat.le_trans (cntZ_le L (q + 1) (y : Int)) (HM.out y))
      have hwy : (Lit.int .i64 (y : Int)).wf = true := nat_wf (Nat.le_trans hy3 (by decide))
      have hI2 := HX.out.2.1.kept (World.grownBy_alloc wr (.cells #[.int .i64 a1, .int .i64 a2, .int .i64 a3, .int .i64 (y : Int), .int .u64 a5, .int .u64 a6] 43) none) (by simp)
      have hlk := hI2.look Tryz.underlying39 Tryz.underlying3 (HZ.out _) (y : Int) hwy
      rw [mapZ_get] at hlk
      obtain ⟨w3, hup, hI3, hg3⟩ := hI2.put Tryz.underlying39 Tryz.underlying3 (Nat.lt_of_le_of_lt (Nat.le_trans hq HL.out) (by decide)) (y : Int) ((cntZ (L.take q) (y : Int) + 1 : Nat) : Int) hwy (nat_wf (Nat.le_trans (Nat.succ_le_succ hc20) (by decide)))
      rw [HP.out] at hI3
      have hlk3 := hI3.look Tryz.underlying39 Tryz.underlying3 (HZ.out _) (y : Int) hwy
      rw [mapZ_get, HC.out, if_pos rfl] at hlk3
      have hC2 := HC2.out
      rw [HC.out, if_pos rfl] at hC2
      have hlt0 := HI1.out.lt
      have hne : wr.heap.size ≠ w.heap.size := by
        have h1 := HX.out.2.1.lt
        omega
      have hat3 := (hg3.block wr.heap.size (by rw [World.size_alloc]; omega) (by intro e; injection e with e; exact hne e)).trans (heap_alloc_new wr (.cells #[.int .i64 a1, .int .i64 a2, .int .i64 a3, .int .i64 (y : Int), .int .u64 a5, .int .u64 a6] 43))
      have hcell3 : w3.cell? ⟨wr.heap.size, 3, none⟩ = some (.int .i64 (y : Int)) := (cell_of_row _ _ 3 _ _ _ hat3).trans rfl
      have hb3 : Below w.heap.size w w3 := (HX.out.2.2.2.alloc HX.out.2.2.2.size _).grown hg3 (by rw [World.size_alloc]; exact Nat.le_trans HX.out.2.2.2.size (Nat.le_succ _)) (fun k hk => by injection hk with hk; omega)
      have HN := Lib.hid (And.intro hI3 hb3)
      have hR3 : ActRow w3 (some ⟨b, off, none⟩) L.length L := (HX.out.2.2.1.old ((Below.refl _ _).alloc (Nat.le_refl _) _)).apart hg3 HAp.out
      have HR3 := Lib.hid hR3
      have HM3 := Lib.hid (And.intro HX.out.1 hC2)
      generalize cntZ (L.take q) (y : Int) = cq at *
      have hw1 : wrap64 ((cq : Int) + 1) = ((cq + 1 : Nat) : Int) := (wrap_small (by omega) (by omega)).trans (by omega)
      have HWc := Lib.hid hw1
      clear hw1
      have HWq := Lib.hid (show wrap64 ((q : Int) + 1) = ((q + 1 : Nat) : Int) from (wrap_small (by have := HL.out; omega) (by have := HL.out; omega)).trans (by omega))
      have HQ := Lib.hid hlt
      clear hx hcl hcl2 hc20 hwy hI2 hI3 hg3 hC2 hlt0 hne hat3 hb3 hR3 hy3 hq hlt HX HP HC HC2 HR HAp
      have hw1 := HWc.out
      obtain ⟨cq1, hcq1⟩ : ∃ cq1, cq + 1 = cq1 := ⟨_, rfl⟩
      rw [hcq1] at hw1 hup hlk3 HM3
      clear hcq1 HWc
      go_wp2_with fail
      --MD
      rw [HWq.out]
      exact ⟨⟨q + 1, max z cq1, HQ.out, congrArg _ (max_cast z cq1), rfl, max_le' HM3.out.1 HM3.out.2, HN.out.1, HR3.out, HN.out.2⟩, next_lessZ HQ.out⟩
    · have hkn : ¬ (q : Int) < (L.length : Int) := fun h => hlt (Int.ofNat_lt.1 h)
      have HX := Lib.hid hx.out
      clear hx HR
      go_wp2
      go_ret
      exact ⟨z, rfl, HX.out.1, HX.out.2.2.2⟩

set_option maxHeartbeats 2000000 in
theorem danceThin_any {w : World} (H : DanceOK) (hw : DW w) (k n rounds : Int) (D : Option Addr) (nm cm : Nat) (l : List Int) (hl : Ints .i64 w w.heap.size D nm l) :
    Calls Tryz.prog 14 #[.int .i64 k, .int .i64 n, .int .i64 rounds, .slice D nm cm] w fun e w' => e = .returned (.bool true) ∧ Below w.heap.size w w' := by
  have HDn := Lib.hid (danced_any H hw)
  have HBall := Lib.hid (fun w => ball_is 0 n rounds w)
  have d0 := ball_dims 0 n rounds
  generalize ballK 0 = k0 at *
  generalize ballN n = n1 at *
  generalize ballR rounds = r1 at *
  obtain ⟨u, hu, _, hK⟩ := pick_nat k 4 (by decide) (by decide)
  have HK := Lib.hid hK
  obtain ⟨k1, hk1, hkf⟩ : ∃ k1 : Nat, (k1 = 2 ∨ k1 = 4 ∨ k1 = 5 ∨ k1 = 6) ∧ k1 = ([2, 5, 6, 4] : List Nat).getD u 0 := by
    have : u = 0 ∨ u = 1 ∨ u = 2 ∨ u = 3 := by omega
    rcases this with rfl | rfl | rfl | rfl
    · exact ⟨2, .inl rfl, rfl⟩
    · exact ⟨5, .inr (.inr (.inl rfl)), rfl⟩
    · exact ⟨6, .inr (.inr (.inr rfl)), rfl⟩
    · exact ⟨4, .inr (.inl rfl), rfl⟩
  have d : Dims k1 n1 r1 := ⟨by omega, by omega, d0.n1, d0.n16, d0.r6⟩
  have HKK := Lib.hid hk1
  have HFl := Lib.hid (fun w1 (hb : Below w.heap.size w w1) => floor_nil H hw hb d)
  have HPk := Lib.hid (fun a => pick_nat a n1 (by have := d.n1; omega) (by have := d.n16; omega))
  have HI := Lib.hid (fun w1 (hb : Below w.heap.size w w1) => hl.old hb)
  have HD := Lib.hid d
  have HR6 := Lib.hid d.r6
  have hkc := kCells_le d.k1 d.k6 d.n1 d.n16
  have HKC := Lib.hid hkc
  clear hl d d0 hK hk1 hkc
  go_enter Tryz.func14, Tryz.ntmps14
  go_wp2_with fail
  refine HDn.out.mono ?_
  rintro e w1 ⟨rfl, hb1⟩
  have HB1 := Lib.hid hb1
  clear hb1 HDn
  by_cases h9 : 600 < nm
  · have h9' : (600 : Int) < (nm : Int) := by omega
    go_wp2
    go_ret
    exact ⟨rfl, HB1.out⟩
  have h9' : ¬ (600 : Int) < (nm : Int) := by omega
  clear h9
  go_wp2_with fail
  refine (HBall.out _).mono ?_
  rintro e w2 ⟨rfl, rfl⟩
  go_wp2_with fail
  refine (HK.out _).mono ?_
  rintro e w2 ⟨rfl, rfl⟩
  have hat1 := heap_alloc_new w1 (.cells #[.int .i64 2, .int .i64 5, .int .i64 6, .int .i64 4] 3)
  have hb2 := HB1.out.alloc HB1.out.size (.cells #[.int .i64 2, .int .i64 5, .int .i64 6, .int .i64 4] 3)
  generalize w1.alloc (.cells #[.int .i64 2, .int .i64 5, .int .i64 6, .int .i64 4] 3) = w2 at *
  have hcell1 : w2.cell? ⟨w1.heap.size, u, none⟩ = some (.int .i64 (k1 : Nat)) := by
    rw [cell_in hat1 u, hkf]
    rcases (by omega : u = 0 ∨ u = 1 ∨ u = 2 ∨ u = 3) with rfl | rfl | rfl | rfl <;> rfl
  have hu4 : (u : Int) < 4 := by omega
  have HB2 := Lib.hid hb2
  clear hb2 hat1 HB1 hkf hu
  --ME
  go_wp2_with fail
  refine (HFl.out _ HB2.out).mono ?_
  rintro e w3 ⟨c, m0, rfl, hF, hm0⟩
  have HF := Lib.hid hF
  have HH0 := Lib.hid (show Hist k1 n1 r1 0 m0 by rw [hm0]; exact hist_new)
  clear hF HB2 HFl HBall hm0 hcell1 HK hu4 h9'
  go_wp2
  --MF
  go_loopw [37] (fun j wr => ∃ q : Nat, q ≤ nm ∧ j = .int .i64 q ∧ ∃ m, Hid (Flo w c k1 n1 r1 0 m wr ∧ Hist k1 n1 r1 0 m)) (fun j _ => nm - (intOf j).toNat)
  case atStart => exact ⟨0, Nat.zero_le _, rfl, m0, ⟨HF.out, HH0.out⟩⟩
  case round =>
    obtain ⟨q, hq, rfl, m, hF⟩ := hrel
    by_cases hlt : q < nm
    · have hkn : (q : Int) < (nm : Int) := by omega
      have HF4 := Lib.hid hF.out
      obtain ⟨b, off, rfl, _, hx⟩ := (HI.out _ HF4.out.1.bel).row (by omega)
      have hz := hx q hlt
      clear hx
      generalize l.getD q 0 = z at hz
      obtain ⟨v, hv, _, HPu⟩ := HPk.out z
      have HPu := Lib.hid HPu
      have HU := Lib.hid hv
      clear hF HF
      go_wp2_with fail
      refine (HPu.out _).mono ?_
      rintro e w5 ⟨rfl, rfl⟩
      go_wp2_with fail
      refine (flo_step HD.out HF4.out.1 (by decide) hv).mono ?_
      rintro e w5 ⟨rfl, hF5⟩
      have HF5 := Lib.hid (And.intro hF5 (hist_step HF4.out.2 HU.out))
      generalize errV (stepM 20000 m (v : Int)).1 = RV
      clear hF5 HF4
      go_wp2
      go_roundw
      case rel => exact ⟨q + 1, by omega, by go_num, _, HF5⟩
      case measure => simp [intOf]; omega
    · have hkn : ¬ (q : Int) < (nm : Int) := by omega
      have HF4 := Lib.hid hF.out.1
      have HH := Lib.hid hF.out.2
      clear hF HF HI
      go_wp2_with fail
      refine (flo_fin H HD.out HF4.out (by decide)).mono ?_
      rintro e w5 ⟨m', rfl, hF5, hE, hfin⟩
      have HF5 := Lib.hid hF5
      have hth := fun c => hist_thin (c := c) HKK.out HD.out HH.out hfin
      have hwd := thin_words HD.out HH.out hfin (by decide)
      have hbz := busiest_any hF5 (fun a ha => by
        obtain ⟨c, h1, h2⟩ := hwd a ha
        exact ⟨c, h1, Nat.le_of_lt (Nat.lt_of_lt_of_le h2 HKC.out)⟩) hth
      have HBz := Lib.hid hbz
      clear hF5 hE hfin HF4 hth hwd hbz
      generalize ((m'.steps : Int) - (m.steps : Int)) = dd at *
      go_wp2_with fail
      refine HBz.out.mono ?_
      rintro e w6 ⟨z, rfl, hz, hb6⟩
      have HB6 := Lib.hid (HF5.out.keep hb6).bel
      have hw8 : wrap64 (8 * (r1 : Int)) = ((8 * r1 : Nat) : Int) := (wrap_small (by have := HR6.out; omega) (by have := HR6.out; omega)).trans (by omega)
      have HW8 := Lib.hid hw8
      clear hw8
      have hle : (z : Int) ≤ ((8 * r1 : Nat) : Int) := Int.ofNat_le.2 hz
      have hw8 := HW8.out
      clear hz hb6 HBz HF5
      --MG
      generalize ((8 * r1 : Nat) : Int) = R8 at *
      go_wp2
      go_ret
      exact ⟨rfl, HB6.out⟩
end Go.Proofs.YtjlhinjmnhpdaaaGreatDoor

namespace Go.Proofs.YtjlhinjmnhpdaaaGreatDoor.danceThin
open Go.ChangeShapes Go.WideShapes Go.ChangeAt Go.RowKit
set_option linter.unusedVariables false

theorem own : ownKnob Tryz.prog.godebug = none := by kernel_rfl
theorem laidOut : laidOutB Tryz.prog = true := by kernel_rfl
theorem tsize : Tryz.prog.types.size = 237 := by kernel_rfl

theorem et : Tryz.prog.globalNamed "errors.errorType" = some 1 := by kernel_rfl
theorem rt : (Tryz.prog.cutTypes.find? (·.1 == "internal/reflectlite.rtype")).map (·.2) = some 184 := by kernel_rfl
theorem oneRow : ((List.range 237).filter fun t => Tryz.prog.rowNamed t [101, 114, 114, 111, 114]) = [35] := by kernel_rfl

/-- What the listed variables give the walk. -/
theorem cw_of {W : World} (h : laidMetH Tryz.prog Rows.danceThinRow.laid W) : CW W := by
  have h' : laidMet Tryz.prog (Rows.danceThinRow.laid.filter fun x => x.2.handleName?.isNone) W ∧ handlesMet Tryz.prog (Rows.danceThinRow.laid.filter fun x => x.2.handleName?.isSome) W := h
  exact cw_of_laid h'.1 (List.mem_filter.2 ⟨.tail _ (.tail _ (.tail _ (.head _))), rfl⟩)
theorem handle_of_laid {W : World} (h : laidMetH Tryz.prog Rows.danceThinRow.laid W) : ErrVar W := by
  have h' : laidMet Tryz.prog (Rows.danceThinRow.laid.filter fun x => x.2.handleName?.isNone) W ∧ handlesMet Tryz.prog (Rows.danceThinRow.laid.filter fun x => x.2.handleName?.isSome) W := h
  obtain ⟨name, u, ty, e1, e2, e3, e4, e5⟩ := h'.2 ("errors.errorType", Rows.laid_errors_errorType) (List.mem_filter.2 ⟨.tail _ (.tail _ (.head _)), rfl⟩)
  have en : name = [101, 114, 114, 111, 114] := (Option.some.inj e1).symm
  subst en
  obtain rfl := Option.some.inj (rt.symm.trans e2)
  have hm : ty ∈ (List.range 237).filter fun t => Tryz.prog.rowNamed t [101, 114, 114, 111, 114] := List.mem_filter.2 ⟨List.mem_range.2 (by rw [← tsize]; exact e3), e4⟩
  rw [oneRow] at hm
  obtain rfl := List.mem_singleton.1 hm
  have hh : typeHandle Tryz.prog 35 = .pointer (some ⟨4, 35, none⟩) := by kernel_rfl
  rw [hh] at e5
  have := World.var?_cell et e5 0
  unfold ErrVar
  simpa using this
theorem tz_of {W : World} (h : laidMetH Tryz.prog Rows.danceThinRow.laid W) : TzVar W := by
  have h' : laidMet Tryz.prog (Rows.danceThinRow.laid.filter fun x => x.2.handleName?.isNone) W ∧ handlesMet Tryz.prog (Rows.danceThinRow.laid.filter fun x => x.2.handleName?.isSome) W := h
  exact tz_of_laid h'.1 (List.mem_filter.2 ⟨.tail _ (.head _), rfl⟩)

/-- So many blocks has the settled world. -/
noncomputable def low : Nat := (World.holding Tryz.prog default ⟨#[], #[], []⟩).heap.size
def put (o : Obj) (cs : Array Value) : Obj := match o with
  | .cells _ t frozen => .cells cs t frozen
  | o => o
def tab (k : IntKind) (zs : List Int) : Array Value := (zs.map fun z => Value.int k z).toArray
/-- A world that meets the condition. -/
noncomputable def laidWorld (os : Os) : World :=
  let w0 := World.holding Tryz.prog os ⟨#[], #[], []⟩
  { w0 with heap := ((((w0.heap.modify 1 (put · #[.iface 184 (.agg #[.pointer (some ⟨4, 35, none⟩)])])).modify 0 (put · formCells)).modify 2 (put · (tab .u8 [0, 1, 28, 2, 29, 14, 24, 3, 30, 22, 20, 15, 25, 17, 4, 8, 31, 27, 13, 23, 21, 19, 16, 7, 26, 12, 18, 6, 11, 5, 10, 9]))).modify 3 (put · (tab .u8 [0, 1, 56, 2, 57, 49, 28, 3, 61, 58, 42, 50, 38, 29, 17, 4, 62, 47, 59, 36, 45, 43, 51, 22, 53, 39, 33, 30, 24, 18, 12, 5, 63, 55, 48, 27, 60, 41, 37, 16, 46, 35, 44, 21, 52, 32, 23, 11, 54, 26, 40, 15, 34, 20, 31, 10, 25, 14, 19, 9, 13, 8, 7, 6]))) }
theorem laidWorld_met (os : Os) (args : Array Value) : laidMetH Tryz.prog Rows.danceThinRow.laid ((laidWorld os).forCall (fun _ _ => 0) ⟨#[], args, []⟩).memory :=
  laidMetH_of_parts (LaidIn.of_run [0, 2, 3] 8 (by kernel_rfl) (by kernel_rfl) (by kernel_rfl) (by kernel_rfl)).met (by kernel_rfl)

/-- The walk. -/
theorem walk (a0 : Int) (a1 : Int) (a2 : Int) (a3 : Option Addr) (len3 cap3 : Nat) (nods3 : List Int) (w : World) (hw : CW w) (hg : ErrVar w) (ht : TzVar w) (N3 : Ints .i64 w w.heap.size a3 len3 nods3) (I3 : len3 ≤ cap3) :
    Calls Tryz.prog 14 #[.int .i64 a0, .int .i64 a1, .int .i64 a2, .slice a3 len3 cap3] w fun e w' => e = .returned (.bool true) ∧ Below w.heap.size w w' := by
  exact danceThin_any danceOK ⟨hw, hg, ht⟩ a0 a1 a2 a3 len3 cap3 nods3 N3

set_option maxRecDepth 100000 in
theorem lifted (os : Os) (started : os.Started) (H : Type) (enc : TypeId × Value → H) :
    ReturnsInHanded {} Tryz.checked os 14 .any (fun w args => (Rows.danceThinSpec.pre enc Tryz.prog Tryz.f14 [] false w args ∧ laidMetH Tryz.prog Rows.danceThinRow.laid w) ∧ sizedMet enc Tryz.prog Tryz.f14 (OpenSpec.ofChange Rows.danceThinSpec) false w args)
      (Rows.danceThinSpec.post enc Tryz.prog Tryz.f14 false true false false) := by
  refine returnsInHanded_of_change_and (C := Tryz.checked) (X := fun w _ => laidMetH Tryz.prog Rows.danceThinRow.laid w) (fun _ _ _ hh h => h.of_heap hh) own started (by kernel_rfl) Tryz.func14
    (ChangeSpec.witness_at (enc := enc) (C := Tryz.checked) (os := os) (X := fun w _ => laidMetH Tryz.prog Rows.danceThinRow.laid w) false (laidWorld os) #[.int .i64 0, .int .i64 0, .int .i64 0, .slice none 0 0] 8 rfl (by kernel_rfl) (by kernel_rfl) (by kernel_rfl) (by kernel_rfl) (by kernel_rfl) (laidWorld_met os _)) ?_
  intro W base args ds gs before hval0 hW _ _ hL _
  have hval : ∀ (j : Nat) t v, Tryz.f14.params[j]? = some t → args[j]? = some v → Value.okWide Tryz.prog W .any base t v := hval0
  have hW' := hW
  obtain ⟨p, q, hA0, hV0, rfl, hfz, hnd⟩ := hW
  have hA : DataW.TrodAll enc Tryz.prog W 0 (fun _ => true) true Tryz.f14.params.toList args.toList ds p := hA0
  have hV : DataW.TrodVars enc Tryz.prog W (fun _ => true) [] gs q := hV0
  rw [Tryz.params14] at hA hval
  obtain ⟨v0, vs0, d0, ds0, p0, q0, hargs, rfl, rfl, h0, r0⟩ := trodAll_cons hA
  obtain ⟨v1, vs1, d1, ds1, p1, q1, rfl, rfl, rfl, h1, r1⟩ := trodAll_cons r0
  obtain ⟨v2, vs2, d2, ds2, p2, q2, rfl, rfl, rfl, h2, r2⟩ := trodAll_cons r1
  obtain ⟨v3, vs3, d3, ds3, p3, q3, rfl, rfl, rfl, h3, r3⟩ := trodAll_cons r2
  obtain ⟨rfl, rfl, rfl⟩ := trodAll_nil r3
  obtain rfl : args = #[v0, v1, v2, v3] := by cases args; simp_all
  obtain ⟨rfl, rfl⟩ : gs = [] ∧ q = [] := by
    cases gs with
    | nil => exact ⟨rfl, hV⟩
    | cons g r => exact absurd hV (by intro h; cases h)
  obtain ⟨a0, rfl, rfl, rfl, w0⟩ := open_int Tryz.underlying3 (hval 0 3 v0 rfl rfl) h0
  obtain ⟨a1, rfl, rfl, rfl, w1⟩ := open_int Tryz.underlying3 (hval 1 3 v1 rfl rfl) h1
  obtain ⟨a2, rfl, rfl, rfl, w2⟩ := open_int Tryz.underlying3 (hval 2 3 v2 rfl rfl) h2
  obtain ⟨a3, len3, cap3, rfl⟩ := okWide_slice Tryz.underlying31 (hval 3 31 v3 rfl rfl)
  have k3 := h3
  have lt3 : ∀ x ∈ p3, x.block < W.heap.size := by obtain ⟨m, hm⟩ := k3; exact DataW.trod_lt m _ _ _ hm
  obtain ⟨nods3, N3, I3⟩ : ∃ nods, Ints .i64 W W.heap.size a3 len3 nods ∧ len3 ≤ cap3 := by
    obtain ⟨fuel, hf⟩ := h3
    obtain ⟨xs, hx, _⟩ := ints_of (a := a3) (len := len3) (cap := cap3) hf; exact ⟨xs, hx, cap_slice Tryz.underlying31 hf⟩
  have hw := cw_of hL
  have hg := handle_of_laid hL
  have ht := tz_of hL
  clear hA0 hval0
  refine (walk a0 a1 a2 a3 len3 cap3 nods3 W hw hg ht N3 I3).mono fun e W' ⟨he, bel⟩ => ?_
  subst he
  exact ⟨_, rfl, _, _, _, [], _, [], hW', trodAll_mk1 (shut_bool Tryz.underlying4 _), (trodAll_cons_mk (shut_int Tryz.underlying3 w0) (trodAll_cons_mk (shut_int Tryz.underlying3 w1) (trodAll_cons_mk (shut_int Tryz.underlying3 w2) (trodAll_cons_mk (Below.trod laidOut (by kernel_rfl) (of_decide_eq_true (by kernel_rfl)) k3 bel lt3) trodAll_mk0)))), rfl, bel.frame _, fun h => by cases h⟩

theorem over : Rows.DanceThinSaid :=
  OpenClaim.holds_of_wide 14 Tryz.f14 rfl rfl rfl rfl rfl rfl rfl ⟨rfl, rfl, rfl, rfl, rfl⟩ rfl rfl rfl rfl rfl (by kernel_rfl) Tryz.func14 (by kernel_rfl)
    (of_decide_eq_true (by kernel_rfl)) (by unfold Func.isWrapper; first | (rw [if_pos (by decide +kernel)]; kernel_rfl) | (rw [if_neg (by decide +kernel)]; exact ⟨rfl, rfl⟩))
    (fun os started H enc _ => lifted os started H enc)

/-- The given statement: the tied card. -/
theorem proved : Rows.DanceThinCardSaid :=
  Claim7.holds_tied_plain_at .later [] [.data, .data, .handle, .data] true (true, "c6f55d05b03cf7820801fe364c569ecbd73704b9e009a9d755c8ab487a07502a") true
    over (fun _ h => by cases h) (by kernel_rfl) (fun _ h => by cases h) danceThin_row_tie rfl ⟨rfl, rfl⟩ (by kernel_rfl) rfl
    (fun f fn hf hfn => by
      obtain rfl : f = 14 := Option.some.inj ((show Tryz.prog.funcNamed "quadrille/quadrillekeep.DanceThin" = some 14 by kernel_rfl).symm.trans hf) |>.symm
      obtain rfl : fn = Tryz.f14 := (Option.some.inj (Tryz.func14.symm.trans hfn)).symm
      refine ⟨by kernel_rfl, fun j t ht => ?_⟩
      rw [Tryz.params14] at ht
      have hm : t ∈ [3, 3, 3, 31] := by
        have := Array.mem_of_getElem? ht
        simpa using this
      have hall : ([3, 3, 3, 31].all fun u => !Tryz.prog.wantsStandIn u) = true := by kernel_rfl
      exact (show Tryz.prog.wantsStandIn t = false by simpa using List.all_eq_true.1 hall t hm))
    (by kernel_rfl)
#print axioms proved
end Go.Proofs.YtjlhinjmnhpdaaaGreatDoor.danceThin
