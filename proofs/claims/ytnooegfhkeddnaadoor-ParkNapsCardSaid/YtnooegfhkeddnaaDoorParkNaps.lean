/-
  The walk of ParkNaps.
-/
import Derived.Test.YtnooegfhkeddnaaDoorNaps
import Derived.Deep.RegionHeld3
namespace Go.Proofs.YtnooegfhkeddnaaDoor
set_option maxRecDepth 100000
open Go.RowKit Go.Shelf

theorem nap_cells {u : World} {x : Nat} {a b c : Int} (h : u.heap[x]? = some (.cells #[.int .i64 a, .int .i64 b, .int .i64 c] 57 (0, 0))) : u.cell? ⟨x, 0, none⟩ = some (.int .i64 a) ∧ u.cell? ⟨x, 1, none⟩ = some (.int .i64 b) ∧ u.cell? ⟨x, 2, none⟩ = some (.int .i64 c) :=
  ⟨by rw [cell_of_row u x 0 _ _ _ h]; rfl, by rw [cell_of_row u x 1 _ _ _ h]; rfl, by rw [cell_of_row u x 2 _ _ _ h]; rfl⟩

set_option maxHeartbeats 4000000 in
theorem parkNaps_short {w : World} (hg0 : ErrVar w) (a0 : Int) (A : Option Addr) (n c : Nat) (naps : List (Int × Int × Int)) (hN : Naps w w.heap.size A n naps) (hn : n ≤ 80) (h0 : 0 ≤ a0) (h1 : a0 ≤ 16) :
    Calls Tryd.prog 4 #[.int .i64 a0, .slice A n c] w fun e w' => e = .returned (.bool true) ∧ Below w.heap.size w w' := by
  have hn1 : ¬ (80 : Int) < (n : Int) := by omega
  have ha1 : ¬ a0 < 0 := by omega
  have ha2 : ¬ (16 : Int) < a0 := by omega
  go_enter Tryd.func4, Tryd.ntmps4
  go_wp2_with fail
  refine (pnew_ok a0 h0 h1).mono ?_
  rintro e w1 ⟨p, v, rfl, hL, hg1⟩
  go_wp2_with fail
  refine (rnew_any a0 w1).mono ?_
  rintro e w2 ⟨r, bs, bw, rfl, hR, hg2⟩
  have hB : Both w w2 p r bs bw 0 a0 := by
    refine ⟨[], v, _, _, 0, hL.grow hg2, ⟨hR.at_, hR.since, hR.where_, hR.ne, ?_, ?_, ?_⟩, Same.start, Nat.le_refl _, Nat.le_refl _, ((Below.refl w.heap.size w).grown hg1 (Nat.le_refl _) (by intro k hk; cases hk)).grown hg2 hg1.size (by intro k hk; cases hk)⟩
    · exact Nat.le_trans hg1.size hR.lr
    · exact Nat.le_trans hg1.size hR.ls
    · exact Nat.le_trans hg1.size hR.lw
  clear hL hR hg1 hg2
  have HB := Lib.hid hB
  have HN := Lib.hid hN
  have HG0 := Lib.hid hg0
  clear hB hN hg0
  go_wp2_with fail
  go_loopw [40] (fun j wr => ∃ i : Nat, i ≤ n ∧ j = .int .i64 i ∧ Both w wr p r bs bw i a0) (fun j _ => n - (intOf j).toNat)
  case atStart => exact ⟨0, Nat.zero_le _, rfl, HB.out⟩
  case round =>
    obtain ⟨i, hi, rfl, hBo⟩ := hrel
    clear HB
    by_cases hlt : i < n
    · have hii : (i : Int) < (n : Int) := by omega
      have hbel : Below w.heap.size w wr := by obtain ⟨_, _, _, _, _, _, _, _, _, _, hb⟩ := hBo; exact hb
      obtain ⟨b, off, rfl, hb, hc⟩ := (HN.out.below hbel).row (by omega)
      obtain ⟨c1, c2, c3, hwf⟩ := hc i hlt
      obtain ⟨x, hx⟩ : ∃ x, naps.getD i default = x := ⟨_, rfl⟩
      rw [hx] at c1 c2 c3 hwf
      rcases x with ⟨x1, x2, x3⟩
      dsimp only at c1 c2 c3 hwf
      have hbw : b < wr.heap.size := Nat.lt_of_lt_of_le hb hbel.size
      have hbne : b ≠ wr.heap.size := by omega
      have hBW := hBo.grow (World.grownBy_alloc wr (.cells #[.int .i64 x1, .int .i64 x2, .int .i64 x3] 57) none)
      have HBW := Lib.hid hBW
      have HWF := Lib.hid hwf
      clear hc hx hBo hBW hwf hbel
      have HY := Lib.hid (show (wr.alloc (.cells #[.int .i64 x1, .int .i64 x2, .int .i64 x3] 57)).drew.heap[wr.heap.size]? = _ from heap_alloc_new wr (.cells #[.int .i64 x1, .int .i64 x2, .int .i64 x3] 57))
      have HBD := Lib.hid (show Both w (wr.alloc (.cells #[.int .i64 x1, .int .i64 x2, .int .i64 x3] 57)).drew p r bs bw i a0 from HBW.out.grow ⟨rfl, rfl, rfl, Nat.le_refl _, fun _ _ _ => rfl⟩)
      obtain ⟨y1, y2, y3⟩ := nap_cells HY.out
      by_cases hw0 : x1 = 0
      · subst hw0
        obtain ⟨err, k, M, N, s1, s2, s3⟩ := sleep_both HBD.out HG0.out h0 h1 (by omega) x2 x3
        have S1 := Lib.hid (show Calls Tryd.prog 20 #[.pointer (some ⟨p, 0, none⟩), .int .i64 x2, .int .i64 x3] (wr.alloc (.cells #[.int .i64 0, .int .i64 x2, .int .i64 x3] 57)).drew _ from s1)
        have S2 := Lib.hid (show ∀ w1, M w1 → Calls Tryd.prog 21 #[.pointer (some ⟨r, 0, none⟩), .int .i64 x2, .int .i64 x3] w1 _ from s2)
        have S3 := Lib.hid s3
        clear s1 s2 s3
        go_wp2_with fail
        go_region_held3 (fun u => u.cell? ⟨wr.heap.size, 1, none⟩ = some (.int .i64 x2) ∧ u.cell? ⟨wr.heap.size, 2, none⟩ = some (.int .i64 x3)) (first | exact ⟨y2, y3⟩ | exact ⟨z2, z3⟩ | exact ⟨u2, u3⟩ | exact ⟨v2, v3⟩) (first | (go_at_call 20; refine S1.out.mono ?_; rintro e w3 ⟨rfl, hk3, hM3⟩; obtain ⟨z1, z2, z3⟩ := nap_cells (hk3 _ _ HY.out)) | (go_at_call 21; refine (S2.out _ hM3).mono ?_; rintro e w4 ⟨rfl, hk4, hN4⟩; obtain ⟨u1, u2, u3⟩ := nap_cells (hk4 _ _ (hk3 _ _ HY.out))) | (go_at_call 6; refine (S3.out _ hN4).mono ?_; rintro e wt ⟨rfl, hk5, hB5⟩; obtain ⟨v1, v2, v3⟩ := nap_cells (hk5 _ _ (hk4 _ _ (hk3 _ _ HY.out)))))
        have HT := Lib.hid (hk5 _ _ (hk4 _ _ (hk3 _ _ HY.out)))
        have HBT := Lib.hid hB5
        clear S1 S2 S3 hM3 hN4 hk3 hk4 hk5 hB5 HBW HBD HY y1 y2 y3 z1 z2 z3 u1 u2 u3 v1 v2 v3
        have HDT := Lib.hid (show wt.drew.heap[wr.heap.size]? = _ from HT.out)
        have hBD : Both w wt.drew p r bs bw (i + 1) a0 := HBT.out.grow ⟨rfl, rfl, rfl, Nat.le_refl _, fun _ _ _ => rfl⟩
        have HBD2 := Lib.hid hBD
        obtain ⟨k, c1', c2'⟩ := cell_both hBD x2 HWF.out
        obtain ⟨T, hT, t1, t2⟩ := at_both hBD (by omega) x3
        have hkk : (k != k) = false := by simp
        have C1 := Lib.hid c1'
        have C2 := Lib.hid c2'
        have T1 := Lib.hid t1
        have T2 := Lib.hid t2
        have HTL := Lib.hid hT
        obtain ⟨y1, y2, y3⟩ := nap_cells HDT.out
        clear c1' c2' t1 t2 hT HT HBT hBD
        go_wp2_with fail
        go_region_held3 (fun u => u.cell? ⟨wr.heap.size, 1, none⟩ = some (.int .i64 x2) ∧ u.cell? ⟨wr.heap.size, 2, none⟩ = some (.int .i64 x3)) (first | exact ⟨y2, y3⟩ | exact ⟨z2, z3⟩ | exact ⟨u2, u3⟩ | exact ⟨v2, v3⟩ | exact ⟨s2, s3⟩) (first
          | (go_at_call 27; refine C1.out.mono ?_; rintro e w5 ⟨rfl, hg5⟩; have hk5 := NapKept.grown hg5; obtain ⟨z1, z2, z3⟩ := nap_cells (hk5 _ _ HDT.out))
          | (go_at_call 28; refine (C2.out _ hg5).mono ?_; rintro e w6 ⟨rfl, rfl⟩)
          | (go_at_call 29; refine (T1.out _ hg5).mono ?_; rintro e w7 ⟨v7, rfl, hown7, hg7⟩; obtain ⟨A7, d7, rfl⟩ := slice_of_own2 hown7; have hk7 := NapKept.grown hg7; obtain ⟨u1, u2, u3⟩ := nap_cells (hk7 _ _ (hk5 _ _ HDT.out)))
          | (go_at_call 30; refine (T2.out _ (hg5.andThen hg7 (by intro j hj; cases hj))).mono ?_; rintro e w8 ⟨v8, rfl, hown8, hg8⟩; obtain ⟨A8, d8, rfl⟩ := slice_of_own2 hown8; have hk8 := NapKept.grown hg8; obtain ⟨v1, v2, v3⟩ := nap_cells (hk8 _ _ (hk7 _ _ (hk5 _ _ HDT.out))))
          | (go_at_call 22; refine (equalI_same _ _ _ _ _ T _ (by have := HTL.out; omega) _ ((Ints.of_own hown7).keep hg8.size fun q hq => World.cell?_of_block (hg8.block q.block hq (by simp))) (Ints.of_own hown8)).mono ?_; rintro e w9 ⟨rfl, q9, rfl⟩; obtain ⟨s1, s2, s3⟩ := nap_cells (show (w8.drewN q9).heap[wr.heap.size]? = _ from hk8 _ _ (hk7 _ _ (hk5 _ _ HDT.out)))))
        have HE := Lib.hid (show Both w (w8.drewN q9) p r bs bw (i + 1) a0 from (HBD2.out.grow (hg5.andThen (hg7.andThen hg8 (by intro j hj; cases hj)) (by intro j hj; cases hj))).grow ⟨rfl, rfl, rfl, Nat.le_refl _, fun _ _ _ => rfl⟩)
        clear hown7 hown8 hg5 hg7 hg8 C1 C2 T1 T2 HTL
        go_wp2
        go_roundw
        case rel => exact ⟨i + 1, by omega, by go_num, HE.out⟩
        case measure => simp [intOf]; omega
      by_cases hw2 : x1 = 2
      · subst hw2
        obtain ⟨err, k, M, N, s1, s2, s3⟩ := poke_both HBD.out HG0.out h0 h1 x2
        have S1 := Lib.hid (show Calls Tryd.prog 25 #[.pointer (some ⟨p, 0, none⟩), .int .i64 x2] (wr.alloc (.cells #[.int .i64 2, .int .i64 x2, .int .i64 x3] 57)).drew _ from s1)
        have S2 := Lib.hid (show ∀ w1, M w1 → Calls Tryd.prog 26 #[.pointer (some ⟨r, 0, none⟩), .int .i64 x2] w1 _ from s2)
        have S3 := Lib.hid s3
        clear s1 s2 s3
        go_wp2_with fail
        go_region_held3 (fun u => u.cell? ⟨wr.heap.size, 1, none⟩ = some (.int .i64 x2)) (first | exact y2 | exact z2 | exact u2 | exact v2) (first | (go_at_call 25; refine S1.out.mono ?_; rintro e w3 ⟨rfl, hk3, hM3⟩; obtain ⟨z1, z2, z3⟩ := nap_cells (hk3 _ _ HY.out)) | (go_at_call 26; refine (S2.out _ hM3).mono ?_; rintro e w4 ⟨rfl, hk4, hN4⟩; obtain ⟨u1, u2, u3⟩ := nap_cells (hk4 _ _ (hk3 _ _ HY.out))) | (go_at_call 6; refine (S3.out _ hN4).mono ?_; rintro e wt ⟨rfl, hk5, hB5⟩; obtain ⟨v1, v2, v3⟩ := nap_cells (hk5 _ _ (hk4 _ _ (hk3 _ _ HY.out)))))
        have HT := Lib.hid (hk5 _ _ (hk4 _ _ (hk3 _ _ HY.out)))
        have HBT := Lib.hid hB5
        clear S1 S2 S3 hM3 hN4 hk3 hk4 hk5 hB5 HBW HBD HY y1 y2 y3 z1 z2 z3 u1 u2 u3 v1 v2 v3
        have HDT := Lib.hid (show wt.drew.heap[wr.heap.size]? = _ from HT.out)
        have hBD : Both w wt.drew p r bs bw (i + 1) a0 := HBT.out.grow ⟨rfl, rfl, rfl, Nat.le_refl _, fun _ _ _ => rfl⟩
        have HBD2 := Lib.hid hBD
        obtain ⟨k, c1', c2'⟩ := cell_both hBD x2 HWF.out
        obtain ⟨T, hT, t1, t2⟩ := at_both hBD (by omega) x3
        have hkk : (k != k) = false := by simp
        have C1 := Lib.hid c1'
        have C2 := Lib.hid c2'
        have T1 := Lib.hid t1
        have T2 := Lib.hid t2
        have HTL := Lib.hid hT
        obtain ⟨y1, y2, y3⟩ := nap_cells HDT.out
        clear c1' c2' t1 t2 hT HT HBT hBD
        go_wp2_with fail
        go_region_held3 (fun u => u.cell? ⟨wr.heap.size, 1, none⟩ = some (.int .i64 x2) ∧ u.cell? ⟨wr.heap.size, 2, none⟩ = some (.int .i64 x3)) (first | exact ⟨y2, y3⟩ | exact ⟨z2, z3⟩ | exact ⟨u2, u3⟩ | exact ⟨v2, v3⟩ | exact ⟨s2, s3⟩) (first
          | (go_at_call 27; refine C1.out.mono ?_; rintro e w5 ⟨rfl, hg5⟩; have hk5 := NapKept.grown hg5; obtain ⟨z1, z2, z3⟩ := nap_cells (hk5 _ _ HDT.out))
          | (go_at_call 28; refine (C2.out _ hg5).mono ?_; rintro e w6 ⟨rfl, rfl⟩)
          | (go_at_call 29; refine (T1.out _ hg5).mono ?_; rintro e w7 ⟨v7, rfl, hown7, hg7⟩; obtain ⟨A7, d7, rfl⟩ := slice_of_own2 hown7; have hk7 := NapKept.grown hg7; obtain ⟨u1, u2, u3⟩ := nap_cells (hk7 _ _ (hk5 _ _ HDT.out)))
          | (go_at_call 30; refine (T2.out _ (hg5.andThen hg7 (by intro j hj; cases hj))).mono ?_; rintro e w8 ⟨v8, rfl, hown8, hg8⟩; obtain ⟨A8, d8, rfl⟩ := slice_of_own2 hown8; have hk8 := NapKept.grown hg8; obtain ⟨v1, v2, v3⟩ := nap_cells (hk8 _ _ (hk7 _ _ (hk5 _ _ HDT.out))))
          | (go_at_call 22; refine (equalI_same _ _ _ _ _ T _ (by have := HTL.out; omega) _ ((Ints.of_own hown7).keep hg8.size fun q hq => World.cell?_of_block (hg8.block q.block hq (by simp))) (Ints.of_own hown8)).mono ?_; rintro e w9 ⟨rfl, q9, rfl⟩; obtain ⟨s1, s2, s3⟩ := nap_cells (show (w8.drewN q9).heap[wr.heap.size]? = _ from hk8 _ _ (hk7 _ _ (hk5 _ _ HDT.out)))))
        have HE := Lib.hid (show Both w (w8.drewN q9) p r bs bw (i + 1) a0 from (HBD2.out.grow (hg5.andThen (hg7.andThen hg8 (by intro j hj; cases hj)) (by intro j hj; cases hj))).grow ⟨rfl, rfl, rfl, Nat.le_refl _, fun _ _ _ => rfl⟩)
        clear hown7 hown8 hg5 hg7 hg8 C1 C2 T1 T2 HTL
        go_wp2
        go_roundw
        case rel => exact ⟨i + 1, by omega, by go_num, HE.out⟩
        case measure => simp [intOf]; omega
      have e0 : (x1 == 0) = false := by simpa using hw0
      have e2 : (x1 == 2) = false := by simpa using hw2
      by_cases hw1 : x1 = 1
      · subst hw1
        obtain ⟨out, ho, hw⟩ := wake_both HBD.out (by omega) x2 x3
        have S1 := Lib.hid hw
        have HO := Lib.hid ho
        clear hw ho
        go_wp2_with fail
        go_region_held3 (fun u => u.cell? ⟨wr.heap.size, 1, none⟩ = some (.int .i64 x2) ∧ u.cell? ⟨wr.heap.size, 2, none⟩ = some (.int .i64 x3)) (first | exact ⟨y2, y3⟩ | exact ⟨z2, z3⟩ | exact ⟨u2, u3⟩ | exact ⟨v2, v3⟩) (first | (go_at_call 23; refine S1.out.mono ?_; rintro e w3 ⟨A3, d3, rfl, hk3, hr3⟩; have HR3 := Lib.hid hr3; obtain ⟨z1, z2, z3⟩ := nap_cells (hk3 _ _ HY.out)) | (go_at_call 24; refine HR3.out.mono ?_; rintro e w4 ⟨A4, d4, rfl, hI3, hI4, hk4, hB4⟩; obtain ⟨u1, u2, u3⟩ := nap_cells (hk4 _ _ (hk3 _ _ HY.out))) | (go_at_call 22; refine (equalI_same _ _ _ _ _ out _ (by have := HO.out; omega) _ hI3 hI4).mono ?_; rintro e wt ⟨rfl, q5, hq5⟩; have hY5 : wt.heap[wr.heap.size]? = some (.cells #[.int .i64 1, .int .i64 x2, .int .i64 x3] 57 (0, 0)) := (by subst hq5; exact hk4 _ _ (hk3 _ _ HY.out)); have hB5 : Both w wt p r bs bw i a0 := (by subst hq5; exact hB4.grow ⟨rfl, rfl, rfl, Nat.le_refl _, fun _ _ _ => rfl⟩); clear hq5; obtain ⟨v1, v2, v3⟩ := nap_cells hY5))
        have HT := Lib.hid hY5
        have HBT := Lib.hid (hB5.mono (Nat.le_succ i))
        clear S1 HO HR3 hI3 hI4 hB4 hk3 hk4 hY5 hB5 HBW HBD HY y1 y2 y3 z1 z2 z3 u1 u2 u3 v1 v2 v3
        have HDT := Lib.hid (show wt.drew.heap[wr.heap.size]? = _ from HT.out)
        have hBD : Both w wt.drew p r bs bw (i + 1) a0 := HBT.out.grow ⟨rfl, rfl, rfl, Nat.le_refl _, fun _ _ _ => rfl⟩
        have HBD2 := Lib.hid hBD
        obtain ⟨k, c1', c2'⟩ := cell_both hBD x2 HWF.out
        obtain ⟨T, hT, t1, t2⟩ := at_both hBD (by omega) x3
        have hkk : (k != k) = false := by simp
        have C1 := Lib.hid c1'
        have C2 := Lib.hid c2'
        have T1 := Lib.hid t1
        have T2 := Lib.hid t2
        have HTL := Lib.hid hT
        obtain ⟨y1, y2, y3⟩ := nap_cells HDT.out
        clear c1' c2' t1 t2 hT HT HBT hBD
        go_wp2_with fail
        go_region_held3 (fun u => u.cell? ⟨wr.heap.size, 1, none⟩ = some (.int .i64 x2) ∧ u.cell? ⟨wr.heap.size, 2, none⟩ = some (.int .i64 x3)) (first | exact ⟨y2, y3⟩ | exact ⟨z2, z3⟩ | exact ⟨u2, u3⟩ | exact ⟨v2, v3⟩ | exact ⟨s2, s3⟩) (first
          | (go_at_call 27; refine C1.out.mono ?_; rintro e w5 ⟨rfl, hg5⟩; have hk5 := NapKept.grown hg5; obtain ⟨z1, z2, z3⟩ := nap_cells (hk5 _ _ HDT.out))
          | (go_at_call 28; refine (C2.out _ hg5).mono ?_; rintro e w6 ⟨rfl, rfl⟩)
          | (go_at_call 29; refine (T1.out _ hg5).mono ?_; rintro e w7 ⟨v7, rfl, hown7, hg7⟩; obtain ⟨A7, d7, rfl⟩ := slice_of_own2 hown7; have hk7 := NapKept.grown hg7; obtain ⟨u1, u2, u3⟩ := nap_cells (hk7 _ _ (hk5 _ _ HDT.out)))
          | (go_at_call 30; refine (T2.out _ (hg5.andThen hg7 (by intro j hj; cases hj))).mono ?_; rintro e w8 ⟨v8, rfl, hown8, hg8⟩; obtain ⟨A8, d8, rfl⟩ := slice_of_own2 hown8; have hk8 := NapKept.grown hg8; obtain ⟨v1, v2, v3⟩ := nap_cells (hk8 _ _ (hk7 _ _ (hk5 _ _ HDT.out))))
          | (go_at_call 22; refine (equalI_same _ _ _ _ _ T _ (by have := HTL.out; omega) _ ((Ints.of_own hown7).keep hg8.size fun q hq => World.cell?_of_block (hg8.block q.block hq (by simp))) (Ints.of_own hown8)).mono ?_; rintro e w9 ⟨rfl, q9, rfl⟩; obtain ⟨s1, s2, s3⟩ := nap_cells (show (w8.drewN q9).heap[wr.heap.size]? = _ from hk8 _ _ (hk7 _ _ (hk5 _ _ HDT.out)))))
        have HE := Lib.hid (show Both w (w8.drewN q9) p r bs bw (i + 1) a0 from (HBD2.out.grow (hg5.andThen (hg7.andThen hg8 (by intro j hj; cases hj)) (by intro j hj; cases hj))).grow ⟨rfl, rfl, rfl, Nat.le_refl _, fun _ _ _ => rfl⟩)
        clear hown7 hown8 hg5 hg7 hg8 C1 C2 T1 T2 HTL
        go_wp2
        go_roundw
        case rel => exact ⟨i + 1, by omega, by go_num, HE.out⟩
        case measure => simp [intOf]; omega
      · have e1 : (x1 == 1) = false := by simpa using hw1
        obtain ⟨wt, hwt⟩ : ∃ wt, wt = wr.alloc (.cells #[.int .i64 x1, .int .i64 x2, .int .i64 x3] 57) := ⟨_, rfl⟩
        have HT := Lib.hid (show wt.heap[wr.heap.size]? = some (.cells #[.int .i64 x1, .int .i64 x2, .int .i64 x3] 57 (0, 0)) by rw [hwt]; exact heap_alloc_new wr _)
        have HBT := Lib.hid (show Both w wt p r bs bw (i + 1) a0 by rw [hwt]; exact HBW.out.mono (Nat.le_succ i))
        clear HBW HBD HY y1 y2 y3
        subst hwt
        have HDT := Lib.hid (show (wr.alloc (.cells #[.int .i64 x1, .int .i64 x2, .int .i64 x3] 57)).drew.heap[wr.heap.size]? = _ from HT.out)
        have hBD : Both w (wr.alloc (.cells #[.int .i64 x1, .int .i64 x2, .int .i64 x3] 57)).drew p r bs bw (i + 1) a0 := HBT.out.grow ⟨rfl, rfl, rfl, Nat.le_refl _, fun _ _ _ => rfl⟩
        have HBD2 := Lib.hid hBD
        obtain ⟨k, c1', c2'⟩ := cell_both hBD x2 HWF.out
        obtain ⟨T, hT, t1, t2⟩ := at_both hBD (by omega) x3
        have hkk : (k != k) = false := by simp
        have C1 := Lib.hid c1'
        have C2 := Lib.hid c2'
        have T1 := Lib.hid t1
        have T2 := Lib.hid t2
        have HTL := Lib.hid hT
        obtain ⟨y1, y2, y3⟩ := nap_cells HDT.out
        clear c1' c2' t1 t2 hT HT HBT hBD
        go_wp2_with fail
        go_region_held3 (fun u => u.cell? ⟨wr.heap.size, 1, none⟩ = some (.int .i64 x2) ∧ u.cell? ⟨wr.heap.size, 2, none⟩ = some (.int .i64 x3)) (first | exact ⟨y2, y3⟩ | exact ⟨z2, z3⟩ | exact ⟨u2, u3⟩ | exact ⟨v2, v3⟩ | exact ⟨s2, s3⟩) (first
          | (go_at_call 27; refine C1.out.mono ?_; rintro e w5 ⟨rfl, hg5⟩; have hk5 := NapKept.grown hg5; obtain ⟨z1, z2, z3⟩ := nap_cells (hk5 _ _ HDT.out))
          | (go_at_call 28; refine (C2.out _ hg5).mono ?_; rintro e w6 ⟨rfl, rfl⟩)
          | (go_at_call 29; refine (T1.out _ hg5).mono ?_; rintro e w7 ⟨v7, rfl, hown7, hg7⟩; obtain ⟨A7, d7, rfl⟩ := slice_of_own2 hown7; have hk7 := NapKept.grown hg7; obtain ⟨u1, u2, u3⟩ := nap_cells (hk7 _ _ (hk5 _ _ HDT.out)))
          | (go_at_call 30; refine (T2.out _ (hg5.andThen hg7 (by intro j hj; cases hj))).mono ?_; rintro e w8 ⟨v8, rfl, hown8, hg8⟩; obtain ⟨A8, d8, rfl⟩ := slice_of_own2 hown8; have hk8 := NapKept.grown hg8; obtain ⟨v1, v2, v3⟩ := nap_cells (hk8 _ _ (hk7 _ _ (hk5 _ _ HDT.out))))
          | (go_at_call 22; refine (equalI_same _ _ _ _ _ T _ (by have := HTL.out; omega) _ ((Ints.of_own hown7).keep hg8.size fun q hq => World.cell?_of_block (hg8.block q.block hq (by simp))) (Ints.of_own hown8)).mono ?_; rintro e w9 ⟨rfl, q9, rfl⟩; obtain ⟨s1, s2, s3⟩ := nap_cells (show (w8.drewN q9).heap[wr.heap.size]? = _ from hk8 _ _ (hk7 _ _ (hk5 _ _ HDT.out)))))
        have HE := Lib.hid (show Both w (w8.drewN q9) p r bs bw (i + 1) a0 from (HBD2.out.grow (hg5.andThen (hg7.andThen hg8 (by intro j hj; cases hj)) (by intro j hj; cases hj))).grow ⟨rfl, rfl, rfl, Nat.le_refl _, fun _ _ _ => rfl⟩)
        clear hown7 hown8 hg5 hg7 hg8 C1 C2 T1 T2 HTL
        go_wp2
        go_roundw
        case rel => exact ⟨i + 1, by omega, by go_num, HE.out⟩
        case measure => simp [intOf]; omega
    · obtain rfl : i = n := by omega
      have hii : ¬ (i : Int) < (i : Int) := by omega
      have hbel : Below w.heap.size w wr := by obtain ⟨_, _, _, _, _, _, _, _, _, _, hb⟩ := hBo; exact hb
      clear hBo
      go_wp2
      go_ret
      exact ⟨rfl, hbel⟩

theorem pnew_no {w : World} (n : Int) (h : n < 0 ∨ 16 < n) : Calls Tryd.prog 18 #[.int .i64 n] w fun e w' => e = .returned (.tuple #[.pointer none, .iface 30 (.int .i64 2)]) ∧ w = w' := by
  rcases Int.lt_or_le n 0 with h0 | h0
  · clear h
    go_enter Tryd.func18, Tryd.ntmps18
    go_wp2
    go_ret2
    exact ⟨rfl, rfl⟩
  · have h1 : ¬ n < 0 := by omega
    have h2 : 16 < n := by omega
    clear h
    go_enter Tryd.func18, Tryd.ntmps18
    go_wp2
    go_ret2
    exact ⟨rfl, rfl⟩

theorem parkNaps_long {w : World} (a0 : Int) (A : Option Addr) (n c : Nat) (hn : 80 < n) :
    Calls Tryd.prog 4 #[.int .i64 a0, .slice A n c] w fun e w' => e = .returned (.bool true) ∧ Below w.heap.size w w' := by
  have hn1 : (80 : Int) < (n : Int) := by omega
  have hb := Below.refl w.heap.size w
  go_enter Tryd.func4, Tryd.ntmps4
  go_wp2
  go_ret
  exact ⟨rfl, hb⟩

theorem parkNaps_far {w : World} (hg : ErrVar w) (a0 : Int) (A : Option Addr) (n c : Nat) (hn : n ≤ 80) (h : a0 < 0 ∨ 16 < a0) :
    Calls Tryd.prog 4 #[.int .i64 a0, .slice A n c] w fun e w' => e = .returned (.bool true) ∧ Below w.heap.size w w' := by
  have hn1 : ¬ (80 : Int) < (n : Int) := by omega
  have HB := Lib.hid (bare_errno 2 w hg)
  have HN := Lib.hid (pnew_no (w := w) a0 h)
  rcases Int.lt_or_le a0 0 with h0 | h0
  · clear hg h
    go_enter Tryd.func4, Tryd.ntmps4
    go_wp2_with fail
    refine HN.out.mono ?_
    rintro e w1 ⟨rfl, rfl⟩
    go_wp2_with fail
    refine HB.out.mono ?_
    rintro e w1 ⟨rfl, hgr⟩
    have hb := (Below.refl w.heap.size w).grown hgr (Nat.le_refl _) (by intro k hk; cases hk)
    clear hgr
    go_wp2
    go_ret
    exact ⟨rfl, hb⟩
  · have h1 : ¬ a0 < 0 := by omega
    have h2 : 16 < a0 := by omega
    clear hg h
    go_enter Tryd.func4, Tryd.ntmps4
    go_wp2_with fail
    refine HN.out.mono ?_
    rintro e w1 ⟨rfl, rfl⟩
    go_wp2_with fail
    refine HB.out.mono ?_
    rintro e w1 ⟨rfl, hgr⟩
    have hb := (Below.refl w.heap.size w).grown hgr (Nat.le_refl _) (by intro k hk; cases hk)
    clear hgr
    go_wp2
    go_ret
    exact ⟨rfl, hb⟩
end Go.Proofs.YtnooegfhkeddnaaDoor
