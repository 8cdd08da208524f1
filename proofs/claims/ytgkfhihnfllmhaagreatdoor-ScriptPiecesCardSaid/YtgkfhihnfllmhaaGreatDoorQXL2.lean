/-
  tourney: of two the one waits, the other one goes on.
-/
import Derived.Test.YtgkfhihnfllmhaaGreatDoorQXL
import Derived.Test.YtgkfhihnfllmhaaGreatDoorQXG5
namespace Go.Proofs.YtgkfhihnfllmhaaGreatDoor
set_option maxRecDepth 100000
open Go.RowKit Go.Shelf Go.Sort
set_option linter.unusedVariables false
set_option linter.unusedSimpArgs false

theorem tomet_any {w : World} {b : Nat} {of lv level : Nat} (h1 : of ≤ 100) (h2 : lv ≤ 4) (h3 : level ≤ 100) (hb : w.cell? ⟨b, 0, none⟩ = some (.int .i64 (lv : Nat))) :
    Calls Tryz.prog 248 #[.int .i64 (of : Nat), .int .i64 (level : Nat), .pointer (some ⟨b, 0, none⟩)] w fun e w' => e = .returned (.int .i64 ((of * lv + level : Nat) : Int)) ∧ w = w' := by
  have hm : of * lv ≤ 100 * 4 := Nat.mul_le_mul h1 h2
  have hw : wrap64 ((of : Int) * (lv : Int)) = ((of * lv : Nat) : Int) := by rw [← Int.natCast_mul]; unfold wrap64; omega
  have hw2 : wrap64 (((of * lv : Nat) : Int) + (level : Int)) = ((of * lv + level : Nat) : Int) := by unfold wrap64; omega
  generalize of * lv = p at *
  go_enter Tryz.func248, Tryz.ntmps248
  go_wp2
  go_ret
  exact ⟨rfl, rfl⟩
theorem togate_any {w : World} {b b2 : Nat} {of lv n : Nat} (h1 : of ≤ 100) (h2 : lv ≤ 4) (h3 : n ≤ 16) (hb : w.cell? ⟨b, 0, none⟩ = some (.int .i64 (n : Nat))) (hb2 : w.cell? ⟨b2, 0, none⟩ = some (.int .i64 (lv : Nat))) :
    Calls Tryz.prog 249 #[.int .i64 (of : Nat), .pointer (some ⟨b, 0, none⟩), .pointer (some ⟨b2, 0, none⟩)] w fun e w' => e = .returned (.int .i64 ((n * lv + of : Nat) : Int)) ∧ w = w' := by
  have hm : n * lv ≤ 16 * 4 := Nat.mul_le_mul h3 h2
  have hw : wrap64 ((n : Int) * (lv : Int)) = ((n * lv : Nat) : Int) := by rw [← Int.natCast_mul]; unfold wrap64; omega
  have hw2 : wrap64 (((n * lv : Nat) : Int) + (of : Int)) = ((n * lv + of : Nat) : Int) := by unfold wrap64; omega
  generalize n * lv = p at *
  go_enter Tryz.func249, Tryz.ntmps249
  go_wp2
  go_ret
  exact ⟨rfl, rfl⟩
set_option maxHeartbeats 4000000 in
theorem Tobody_any {w : World} {n id : Nat} (n1 : 1 ≤ n) (n16 : n ≤ 16) (hid : id < n) (htz : TzVar w) :
    Calls Tryz.prog 226 #[.int .i64 (n : Nat), .int .i64 (id : Nat)] w (BodyOf w (bodyI (tourneyOps n id))) := by
  obtain ⟨t1, t2, t3⟩ := tourney_is n (by omega) id hid
  rw [t1]
  have hl4 := (lvls_is n1 n16).1
  have HLv := Lib.hid (fun w => plevels_any (n : Nat) (lvls n) w (lv_lvls n1 n16) (by omega))
  have HWi := Lib.hid (fun w' (hb : Below w.heap.size w w') => towins_any n16 hid w' (htz.old hb))
  have HSA := Lib.hid (fun q => tourA_succ n id q)
  have HSC := Lib.hid (fun q => tourC_succ n id q)
  have HPA := Lib.hid (fun i => And.intro (tourA_plain n id i) (tourA_len n id i))
  have HPC := Lib.hid (fun i => And.intro (tourC_plain n id i) (tourC_len n id i))
  have HBd := Lib.hid (show tourB n id = tourA n id (wins n id) ++ if wins n id < lvls n then [.tell ((id - 2 ^ wins n id) * lvls n + wins n id) 1, .await (n * lvls n + id)] else [] from rfl)
  have HC0 := Lib.hid (show tourC n id 0 = tourB n id by unfold tourC; simp)
  have T3 := Lib.hid t3
  clear t3
  generalize wins n id = wn at *
  generalize lvls n = lv at *
  have hB1 := (Below.refl w.heap.size w).alloc (Nat.le_refl _) (.cells #[.int .i64 (n : Nat)] 3)
  have hB2 := hB1.alloc hB1.size (.cells #[.int .i64 (lv : Nat)] 3)
  have hat := heap_alloc_new w (.cells #[.int .i64 (n : Nat)] 3)
  have hat2 := heap_alloc_new (w.alloc (.cells #[.int .i64 (n : Nat)] 3)) (.cells #[.int .i64 (lv : Nat)] 3)
  have hsz : (w.alloc (.cells #[.int .i64 (n : Nat)] 3)).heap.size = w.heap.size + 1 := by simp
  have hc0 : (w.alloc (.cells #[.int .i64 (n : Nat)] 3)).cell? ⟨w.heap.size, 0, none⟩ = some (.int .i64 (n : Nat)) := (cell_in hat 0).trans rfl
  have hc1 : ((w.alloc (.cells #[.int .i64 (n : Nat)] 3)).alloc (.cells #[.int .i64 (lv : Nat)] 3)).cell? ⟨w.heap.size, 0, none⟩ = some (.int .i64 (n : Nat)) := Lib.cell?_alloc_some _ hc0
  have hc2 : ((w.alloc (.cells #[.int .i64 (n : Nat)] 3)).alloc (.cells #[.int .i64 (lv : Nat)] 3)).cell? ⟨w.heap.size + 1, 0, none⟩ = some (.int .i64 (lv : Nat)) := by rw [← hsz]; exact (cell_in hat2 0).trans rfl
  have HB2 := Lib.hid hB2
  have HCn := Lib.hid hc1
  have HCl := Lib.hid hc2
  obtain ⟨W2, hW2⟩ : ∃ W2, (w.alloc (.cells #[.int .i64 (n : Nat)] 3)).alloc (.cells #[.int .i64 (lv : Nat)] 3) = W2 := ⟨_, rfl⟩
  rw [hW2] at HB2 HCn HCl
  have HW2 := Lib.hid hW2
  clear hB1 hB2 hat hat2 hsz hc1 hc2 hW2 htz t1
  go_enter Tryz.func226, Tryz.ntmps226
  go_wp2_with fail
  refine (HLv.out _).mono ?_
  rintro e w1 ⟨rfl, hw⟩
  obtain rfl := hw.symm
  clear HLv hw hc0
  go_wp2_with fail
  rw [HW2.out]
  refine (HWi.out _ HB2.out).mono ?_
  rintro e w1 ⟨rfl, rfl⟩
  clear HWi HW2
  go_wp2
  go_loopw [9, 21] (fun v j wr => ∃ (q : Nat) (A : Option Addr) (m c : Nat), q ≤ wn ∧ v = .slice A m c ∧ j = .int .i64 q ∧ Hid (Body W2 A m c (bodyI (tourA n id q)) wr)) (fun _ j _ => wn - (intOf j).toNat)
  case atStart => exact ⟨0, none, 0, 0, Nat.zero_le _, rfl, rfl, Body.nil W2⟩
  case round =>
    obtain ⟨q, A, m, c, hq, rfl, rfl, hb⟩ := hrel
    by_cases hlt : q < wn
    · have hkn : (q : Int) < (wn : Int) := by omega
      have hp : wrap64 ((2 : Int) ^ q) = ((2 ^ q : Nat) : Int) := wrap_pow (by omega)
      have hp16 : 2 ^ q ≤ 2 ^ 4 := Nat.pow_le_pow_right (by decide) (by omega)
      have hS := HSA.out q
      obtain ⟨p, hpp⟩ : ∃ p, 2 ^ q = p := ⟨_, rfl⟩
      rw [hpp] at hp hp16 hS
      have hcn := hb.out.cell HCn.out
      by_cases hx : id + p < n
      · rw [if_pos hx] at hS
        have hd : decide ((id : Int) + (p : Int) < (n : Int)) = true := decide_eq_true (by omega)
        obtain ⟨hpl, hl⟩ := HPA.out q
        clear hpp
        go_wp2
        go_quiet (fail)
        have hbk := hb.out.keep (grown_drewJ wr nq)
        generalize wr.drewN nq = wq at *
        have HX := Lib.hid (tomet_any (of := id) (level := q) (by omega) hl4 (by omega) (hbk.cell HCl.out))
        have hp5 := hbk.plus (by omega)
        obtain ⟨A1, m1, c1, w3, hr, b1⟩ := hbk.await hpl (by omega) (id * lv + q)
        rw [← hS] at b1
        have HR := Lib.hid hr
        have HB := Lib.hid b1
        have HP5 := Lib.hid hp5
        clear hb hcn hr b1 hS hpl hl hp5 hbk
        generalize id * lv + q = z1 at *
        go_wp2_with fail
        refine HX.out.mono ?_
        rintro e w4 ⟨rfl, rfl⟩
        go_wp2_with fail
        rw [HP5.out]
        refine (pawait_any _ _ _).mono ?_
        rintro e w4 ⟨rfl, rfl⟩
        go_wp2_with (at_builtin; refine Lib.wpList_append_run _ rfl _ _ _ _ rfl _ _ rfl rfl _ _ HR.out ?_)
        go_roundw
        case rel => exact ⟨q + 1, A1, m1, c1, by omega, rfl, by go_num, HB.out⟩
        case measure => simp [intOf]; omega
      · rw [if_neg hx, List.append_nil] at hS
        have hd : decide ((id : Int) + (p : Int) < (n : Int)) = false := decide_eq_false (by omega)
        clear hpp
        go_wp2
        go_quiet (fail)
        have HB := Lib.hid (hb.out.keep (grown_drewJ wr nq))
        rw [← hS] at HB
        clear hb hcn hS
        go_wp2
        go_roundw
        case rel => exact ⟨q + 1, A, m, c, by omega, rfl, by go_num, HB.out⟩
        case measure => simp [intOf]; omega
    · have hkn : ¬ (q : Int) < (wn : Int) := by omega
      obtain rfl : q = wn := by omega
      have hcl := hb.out.cell HCl.out
      have hB := HBd.out
      by_cases h0 : q < lv
      · rw [if_pos h0] at hB
        have h0' : (q : Int) < (lv : Int) := by omega
        have hp : wrap64 ((2 : Int) ^ q) = ((2 ^ q : Nat) : Int) := wrap_pow (by omega)
        have hid2 := T3.out h0
        obtain ⟨p, hpp⟩ : ∃ p, 2 ^ q = p := ⟨_, rfl⟩
        rw [hpp] at hp hB hid2
        have hsub : (id : Int) - (p : Int) = ((id - p : Nat) : Int) := by omega
        obtain ⟨s, hs⟩ : ∃ s, id - p = s := ⟨_, rfl⟩
        rw [hs] at hsub hB
        obtain ⟨hpl, hl⟩ := HPA.out q
        have HX := Lib.hid (tomet_any (of := s) (level := q) (by omega) hl4 (by omega) hcl)
        obtain ⟨A1, m1, c1, w3, hr1, b1⟩ := hb.out.tell hpl (by omega) (s * lv + q) 1
        have hpl1 : (tourA n id q ++ [BOp.tell (s * lv + q) 1]).all plainOp = true := by rw [List.all_append, hpl]; rfl
        have hl2 : (tourA n id q ++ [BOp.tell (s * lv + q) 1]).length ≤ 100 := by rw [List.length_append]; simp; omega
        have HG := Lib.hid (togate_any (of := id) (by omega) hl4 n16 (b1.cell HCn.out) (b1.cell HCl.out))
        have hp5 := b1.plus hl2
        obtain ⟨A0, m0, c0, w4, hr0, b0⟩ := b1.await hpl1 hl2 (n * lv + id)
        have HB := Lib.hid b0
        rw [show tourA n id q ++ [BOp.tell (s * lv + q) 1] ++ [BOp.await (n * lv + id)] = tourB n id by rw [hB]; simp] at HB
        have HR1 := Lib.hid hr1
        have HR0 := Lib.hid hr0
        have HP5 := Lib.hid hp5
        clear hb hB h0 hpl hl hr1 b1 hpl1 hl2 hp5 hr0 b0 hpp hs hid2 T3
        generalize s * lv + q = z1 at *
        generalize n * lv + id = z2 at *
        go_wp2_with fail
        refine HX.out.mono ?_
        rintro e w5 ⟨rfl, rfl⟩
        go_wp2_with fail
        refine (ptell_any _ _ _).mono ?_
        rintro e w5 ⟨rfl, rfl⟩
        go_wp2_with (at_builtin; refine Lib.wpList_append_run _ rfl _ _ _ _ rfl _ _ rfl rfl _ _ HR1.out ?_)
        refine HG.out.mono ?_
        rintro e w5 ⟨rfl, rfl⟩
        go_wp2_with fail
        rw [HP5.out]
        refine (pawait_any _ _ _).mono ?_
        rintro e w5 ⟨rfl, rfl⟩
        go_wp2_with (at_builtin; refine Lib.wpList_append_run _ rfl _ _ _ _ rfl _ _ rfl rfl _ _ HR0.out ?_)
        clear HPA HSA HBd
        go_loopw [9, 64] (fun v j wr => ∃ (k : Nat) (A : Option Addr) (m c : Nat), k ≤ q ∧ v = .slice A m c ∧ j = .int .i64 k ∧ Hid (Body W2 A m c (bodyI (tourC n id k)) wr)) (fun _ j _ => q - (intOf j).toNat)
        case atStart => exact ⟨0, A0, m0, c0, Nat.zero_le _, rfl, rfl, by rw [HC0.out]; exact HB.out⟩
        case round =>
          obtain ⟨k, A, m, c, hk, rfl, rfl, hb⟩ := hrel
          by_cases hlt2 : k < q
          · have hkn2 : (k : Int) < (q : Int) := by omega
            have hS := HSC.out k
            obtain ⟨x, he, hxx, hx4⟩ : ∃ x : Nat, (q : Int) - 1 - (k : Int) = (x : Int) ∧ q - 1 - k = x ∧ x ≤ 4 := ⟨q - 1 - k, by omega, rfl, by omega⟩
            rw [hxx] at hS
            clear hxx
            have hp : wrap64 ((2 : Int) ^ x) = ((2 ^ x : Nat) : Int) := wrap_pow hx4
            have hp16 : 2 ^ x ≤ 2 ^ 4 := Nat.pow_le_pow_right (by decide) hx4
            have hx0 : ¬ (x : Int) < 0 := by omega
            obtain ⟨p, hpp⟩ : ∃ p, 2 ^ x = p := ⟨_, rfl⟩
            rw [hpp] at hp hp16 hS
            have hcn := hb.out.cell HCn.out
            by_cases hx : id + p < n
            · rw [if_pos hx] at hS
              have hd : (id : Int) + (p : Int) < (n : Int) := by rw [← Int.natCast_add]; exact Int.ofNat_lt.2 hx
              obtain ⟨hpl, hl⟩ := HPC.out k
              have hs : (id : Int) + (p : Int) = ((id + p : Nat) : Int) := (Int.natCast_add id p).symm
              have hq3 : q + 2 + k ≤ 100 := by clear he hp hp16 hd hs hx; omega
              have hip : id + p ≤ 100 := by clear he hp hd hs hq3; omega
              have HG := Lib.hid (togate_any (of := id + p) hip hl4 n16 hcn (hb.out.cell HCl.out))
              obtain ⟨A1, m1, c1, w6, hr, b1⟩ := hb.out.tell hpl (Nat.le_trans hl hq3) (n * lv + (id + p)) 1
              rw [← hS] at b1
              have HR := Lib.hid hr
              have HBB := Lib.hid b1
              obtain ⟨y, hy⟩ : ∃ y, id + p = y := ⟨_, rfl⟩
              rw [hy] at hs HG HR
              rw [hs] at hd
              clear hb hr b1 hS hpl hl hpp hy hx4 hp16 hip hq3 hx
              generalize n * lv + y = z3 at *
              go_wp2_with fail
              refine HG.out.mono ?_
              rintro e w7 ⟨rfl, rfl⟩
              go_wp2_with fail
              refine (ptell_any _ _ _).mono ?_
              rintro e w7 ⟨rfl, rfl⟩
              go_wp2_with (at_builtin; refine Lib.wpList_append_run _ rfl _ _ _ _ rfl _ _ rfl rfl _ _ HR.out ?_)
              go_roundw
              case rel => exact ⟨k + 1, A1, m1, c1, by omega, rfl, by go_num, HBB.out⟩
              case measure => simp [intOf]; omega
            · rw [if_neg hx, List.append_nil] at hS
              have hs : (id : Int) + (p : Int) = ((id + p : Nat) : Int) := (Int.natCast_add id p).symm
              have hip : id + p ≤ 100 := by clear he hp hs; omega
              obtain ⟨y, hy⟩ : ∃ y, id + p = y := ⟨_, rfl⟩
              rw [hy] at hs hip hx
              have hd : ¬ (y : Int) < (n : Int) := fun h => hx (Int.ofNat_lt.1 h)
              have HBB := Lib.hid hb.out
              rw [← hS] at HBB
              clear hb hS hpp hx4 hp16 hx hy
              go_wp2
              go_roundw
              case rel => exact ⟨k + 1, A, m, c, by omega, rfl, by go_num, HBB.out⟩
              case measure => simp [intOf]; omega
          · have hkn2 : ¬ (k : Int) < (q : Int) := by omega
            obtain rfl : k = q := by omega
            have HBB := Lib.hid (hb.out.low HB2.out)
            clear hb
            go_wp2
            go_ret
            exact HBB.out.of rfl
      · rw [if_neg h0, List.append_nil] at hB
        have h0' : ¬ (q : Int) < (lv : Int) := by omega
        have HB := Lib.hid hb.out
        rw [← hB] at HB
        clear hb hB h0 T3
        go_wp2
        clear HPA HSA HBd
        go_loopw [9, 64] (fun v j wr => ∃ (k : Nat) (A : Option Addr) (m c : Nat), k ≤ q ∧ v = .slice A m c ∧ j = .int .i64 k ∧ Hid (Body W2 A m c (bodyI (tourC n id k)) wr)) (fun _ j _ => q - (intOf j).toNat)
        case atStart => exact ⟨0, A, m, c, Nat.zero_le _, rfl, rfl, by rw [HC0.out]; exact HB.out⟩
        case round =>
          obtain ⟨k, A, m, c, hk, rfl, rfl, hb⟩ := hrel
          by_cases hlt2 : k < q
          · have hkn2 : (k : Int) < (q : Int) := by omega
            have hS := HSC.out k
            obtain ⟨x, he, hxx, hx4⟩ : ∃ x : Nat, (q : Int) - 1 - (k : Int) = (x : Int) ∧ q - 1 - k = x ∧ x ≤ 4 := ⟨q - 1 - k, by omega, rfl, by omega⟩
            rw [hxx] at hS
            clear hxx
            have hp : wrap64 ((2 : Int) ^ x) = ((2 ^ x : Nat) : Int) := wrap_pow hx4
            have hp16 : 2 ^ x ≤ 2 ^ 4 := Nat.pow_le_pow_right (by decide) hx4
            have hx0 : ¬ (x : Int) < 0 := by omega
            obtain ⟨p, hpp⟩ : ∃ p, 2 ^ x = p := ⟨_, rfl⟩
            rw [hpp] at hp hp16 hS
            have hcn := hb.out.cell HCn.out
            by_cases hx : id + p < n
            · rw [if_pos hx] at hS
              have hd : (id : Int) + (p : Int) < (n : Int) := by rw [← Int.natCast_add]; exact Int.ofNat_lt.2 hx
              obtain ⟨hpl, hl⟩ := HPC.out k
              have hs : (id : Int) + (p : Int) = ((id + p : Nat) : Int) := (Int.natCast_add id p).symm
              have hq3 : q + 2 + k ≤ 100 := by clear he hp hp16 hd hs hx; omega
              have hip : id + p ≤ 100 := by clear he hp hd hs hq3; omega
              have HG := Lib.hid (togate_any (of := id + p) hip hl4 n16 hcn (hb.out.cell HCl.out))
              obtain ⟨A1, m1, c1, w6, hr, b1⟩ := hb.out.tell hpl (Nat.le_trans hl hq3) (n * lv + (id + p)) 1
              rw [← hS] at b1
              have HR := Lib.hid hr
              have HBB := Lib.hid b1
              obtain ⟨y, hy⟩ : ∃ y, id + p = y := ⟨_, rfl⟩
              rw [hy] at hs HG HR
              rw [hs] at hd
              clear hb hr b1 hS hpl hl hpp hy hx4 hp16 hip hq3 hx
              generalize n * lv + y = z3 at *
              go_wp2_with fail
              refine HG.out.mono ?_
              rintro e w7 ⟨rfl, rfl⟩
              go_wp2_with fail
              refine (ptell_any _ _ _).mono ?_
              rintro e w7 ⟨rfl, rfl⟩
              go_wp2_with (at_builtin; refine Lib.wpList_append_run _ rfl _ _ _ _ rfl _ _ rfl rfl _ _ HR.out ?_)
              go_roundw
              case rel => exact ⟨k + 1, A1, m1, c1, by omega, rfl, by go_num, HBB.out⟩
              case measure => simp [intOf]; omega
            · rw [if_neg hx, List.append_nil] at hS
              have hs : (id : Int) + (p : Int) = ((id + p : Nat) : Int) := (Int.natCast_add id p).symm
              have hip : id + p ≤ 100 := by clear he hp hs; omega
              obtain ⟨y, hy⟩ : ∃ y, id + p = y := ⟨_, rfl⟩
              rw [hy] at hs hip hx
              have hd : ¬ (y : Int) < (n : Int) := fun h => hx (Int.ofNat_lt.1 h)
              have HBB := Lib.hid hb.out
              rw [← hS] at HBB
              clear hb hS hpp hx4 hp16 hx hy
              go_wp2
              go_roundw
              case rel => exact ⟨k + 1, A, m, c, by omega, rfl, by go_num, HBB.out⟩
              case measure => simp [intOf]; omega
          · have hkn2 : ¬ (k : Int) < (q : Int) := by omega
            obtain rfl : k = q := by omega
            have HBB := Lib.hid (hb.out.low HB2.out)
            clear hb
            go_wp2
            go_ret
            exact HBB.out.of rfl
theorem Tolen {n id : Nat} (n16 : n ≤ 16) (hid : id < n) : (bodyI (tourneyOps n id)).length ≤ 1000 := by
  obtain ⟨t1, t2, _⟩ := tourney_is n (by omega) id hid
  rw [t1]
  have h := bodyI_le (tourC n id (wins n id))
  have := tourC_len n id (wins n id)
  have := (lvls_is (show 1 ≤ n by omega) n16).1
  omega

theorem Tocode_any {w : World} {n id rounds : Nat} (d : Dims 5 n rounds) (hid : id < n) (htz : TzVar w) : Calls Tryz.prog 194 #[.int .i64 (n : Nat), .int .i64 (id : Nat), .int .i64 (rounds : Nat)] w (CodeOf w rounds (tourneyOps n id)) := by
  have HC := Lib.hid (fun w => pcheck_ok (n : Nat) (id : Nat) (rounds : Nat) w (party_of d hid))
  have HB := Lib.hid (Tobody_any (w := w) d.n1 d.n16 hid htz)
  have hr := d.r6
  have HLn := Lib.hid (Tolen d.n16 hid)
  clear d
  generalize tourneyOps n id = ops at *
  go_enter Tryz.func194, Tryz.ntmps194
  go_wp2_with fail
  refine (HC.out _).mono ?_
  rintro e w1 ⟨rfl, hw⟩
  obtain rfl := hw.symm
  clear hw
  go_wp2_with fail
  refine HB.out.mono ?_
  rintro e w2 ⟨A, c, rfl, hb⟩
  have HW := Lib.hid (whole_of hb (by omega : rounds ≤ 20) HLn.out)
  clear hb HB HC
  generalize (bodyI ops).length = m at *
  go_wp2_with fail
  refine HW.out.mono ?_
  rintro e w3 ⟨A1, c1, rfl, ho, hb⟩
  have HO := Lib.hid ho
  have HB3 := Lib.hid hb
  clear ho hb HW
  go_wp2
  go_ret2
  exact ⟨A1, c1, rfl, HO.out, HB3.out⟩
theorem Tocells_any {w : World} {n : Nat} (n1 : 1 ≤ n) (n16 : n ≤ 16) : Calls Tryz.prog 193 #[.int .i64 (n : Nat)] w fun e w' => e = .returned (.tuple #[.int .i64 (kCells 5 n : Nat), .nilIface]) ∧ w = w' := by
  have HC := Lib.hid (fun w => pcheck_ok (n : Nat) 0 0 w (party_0 n1 n16))
  have HLv := Lib.hid (fun w => plevels_any (n : Nat) (lvls n) w (lv_lvls n1 n16) (by omega))
  have hl4 := (lvls_is n1 n16).1
  have hm : n * lvls n ≤ 16 * 4 := Nat.mul_le_mul n16 hl4
  have hw : wrap64 ((n : Int) * (lvls n : Int)) = ((n * lvls n : Nat) : Int) := by rw [← Int.natCast_mul]; unfold wrap64; omega
  rw [show kCells 5 n = n * lvls n + n from rfl]
  generalize n * lvls n = z at *
  generalize lvls n = lv at *
  go_enter Tryz.func193, Tryz.ntmps193
  go_wp2_with fail
  refine (HC.out _).mono ?_
  rintro e w1 ⟨rfl, h⟩
  obtain rfl := h.symm
  go_wp2_with fail
  refine (HLv.out _).mono ?_
  rintro e w1 ⟨rfl, h⟩
  obtain rfl := h.symm
  go_wp2
  go_ret2
  exact ⟨rfl, rfl⟩
end Go.Proofs.YtgkfhihnfllmhaaGreatDoor
