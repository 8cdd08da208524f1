/-
  The walk of CodeJoins.
-/
import Derived.Test.YtmfkjaokopkgmaaDoorCJoins
namespace Go.Proofs.YtmfkjaokopkgmaaDoor
set_option maxRecDepth 100000
open Go.RowKit Go.Sort

def TextOf (l : List In5) (w : World) (e : Ending) (w' : World) : Prop := Below w.heap.size w w' ∧
  ∃ (S : List UInt8) (v : Value), e = .returned (.tuple #[strV S, v]) ∧ ((v = .nilIface ∧ S = printL l ∧ ∀ x ∈ l, hasOp x) ∨ ((∃ t p, v = .iface t p) ∧ ¬ ∀ x ∈ l, hasOp x))

theorem print_text (l : List In5) (A : Option Addr) (n c : Nat) (w : World) (hC : CW w) (hl : Inss w w.heap.size A n l) (hi : ∀ x ∈ l, ints5 x) (hn : n ≤ 1000) :
    Calls Tryd.prog 9 #[.slice A n c] w (TextOf l w) :=
  (print_any l A n c w hC hl hi hn).mono fun _ _ ⟨hb, h⟩ => ⟨hb, by
    rcases h with ⟨he, hall⟩ | ⟨t, p, he, hno⟩
    · exact ⟨_, _, he, .inl ⟨rfl, rfl, hall⟩⟩
    · exact ⟨_, _, he, .inr ⟨⟨t, p, rfl⟩, hno⟩⟩⟩

theorem bytes_append (a b : List UInt8) : (⟨a.toArray⟩ : ByteArray) ++ ⟨b.toArray⟩ = ⟨(a ++ b).toArray⟩ := by
  apply ByteArray.ext
  rw [ByteArray.data_append]
  simp

set_option maxHeartbeats 1000000 in
theorem codeJoins_any {w : World} (hC : CW w) (A1 : Option Addr) (n1 c1 : Nat) (l1 : List In5) (hl1 : Inss w w.heap.size A1 n1 l1) (hi1 : ∀ i, i < n1 → ints5 (l1.getD i default))
    (A2 : Option Addr) (n2 c2 : Nat) (l2 : List In5) (hl2 : Inss w w.heap.size A2 n2 l2) (hi2 : ∀ i, i < n2 → ints5 (l2.getD i default)) (hs1 : n1 ≤ 4398046511104) (hs2 : n2 ≤ 4398046511104) :
    Calls Tryd.prog 5 #[.slice A1 n1 c1, .slice A2 n2 c2] w fun e w' => e = .returned (.bool true) ∧ Below w.heap.size w w' := by
  have HC := Lib.hid hC
  have HL1 := Lib.hid hl1
  have HL2 := Lib.hid hl2
  have HW := Lib.hid (written_true w hC)
  have hlen1 := hl1.len
  have hlen2 := hl2.len
  have HI1 := Lib.hid (mem_ints hlen1 hi1)
  have HI2 := Lib.hid (mem_ints hlen2 hi2)
  clear hC hl1 hl2 hi1 hi2
  go_enter Tryd.func5, Tryd.ntmps5
  go_wp2_with fail
  refine HW.out.mono ?_
  rintro e w1 ⟨rfl, hb1⟩
  have HB1 := Lib.hid hb1
  clear hb1 HW
  by_cases hn : 600 < n1 + n2
  · have hws : wrap64 ((n1 : Int) + (n2 : Int)) = (n1 : Int) + (n2 : Int) := by unfold wrap64; omega
    have hni : (600 : Int) < (n1 : Int) + (n2 : Int) := by omega
    go_wp2
    go_ret
    exact ⟨rfl, HB1.out⟩
  have hws : wrap64 ((n1 : Int) + (n2 : Int)) = (n1 : Int) + (n2 : Int) := by unfold wrap64; omega
  have hni : ¬ (600 : Int) < (n1 : Int) + (n2 : Int) := by omega
  have HP1 := Lib.hid (print_text l1 A1 n1 c1 w1 (HC.out.old HB1.out) (HL1.out.old HB1.out) HI1.out (by omega))
  unfold strV at HP1
  go_wp2_with fail
  refine HP1.out.mono ?_
  rintro e w2 ⟨hb2, S1, v1, rfl, hv1⟩
  have HB2 := Lib.hid (HB1.out.trans (hb2.mono HB1.out.size))
  have HV1 := Lib.hid hv1
  clear hb2 HP1 hv1
  have HP2 := Lib.hid (print_text l2 A2 n2 c2 w2 (HC.out.old HB2.out) (HL2.out.old HB2.out) HI2.out (by omega))
  go_wp2_with fail
  refine HP2.out.mono ?_
  rintro e w3 ⟨hb3, S2, v2, rfl, hv2⟩
  have HB3 := Lib.hid (HB2.out.trans (hb3.mono HB2.out.size))
  have HV2 := Lib.hid hv2
  clear hb3 HP2 hv2
  have hbx := HB3.out.alloc HB3.out.size (.cells #[.slice A1 n1 c1, .slice A2 n2 c2] 22)
  have HCN := Lib.hid (concatN_two w3.heap.size A1 A2 n1 n2 c1 c2 l1 l2 (heap_alloc_new w3 _) (HL1.out.old hbx) (HL2.out.old hbx) (by omega) (by omega))
  have HBX := Lib.hid hbx
  obtain ⟨xs, hxs⟩ : ∃ xs, l1 ++ l2 = xs := ⟨_, rfl⟩
  rw [hxs] at HCN
  have hxl : xs.length ≤ 600 := by rw [← hxs, List.length_append]; omega
  have HIX := Lib.hid (show ∀ x ∈ xs, ints5 x from fun x hx => by
    rw [← hxs] at hx
    rcases List.mem_append.1 hx with hx | hx
    · exact HI1.out x hx
    · exact HI2.out x hx)
  have HXS := Lib.hid hxs
  clear hbx hxs
  go_wp2_with fail
  refine HCN.out.mono ?_
  rintro e w4 ⟨A4, c4, rfl, hown4, hg4⟩
  have hb4 := HBX.out.grown hg4 HBX.out.size (by intro k hk; cases hk)
  have HP3 := Lib.hid (print_text xs A4 xs.length c4 w4 (HC.out.old hb4) (Inss.of_own hown4 rfl) HIX.out (by omega))
  have HB4 := Lib.hid hb4
  clear hown4 hg4 hb4 HCN
  go_wp2_with fail
  refine HP3.out.mono ?_
  rintro e w5 ⟨hb5, S3, v3, rfl, hv3⟩
  have HB5 := Lib.hid (HB4.out.trans (hb5.mono HB4.out.size))
  clear hb5 HP3 HB4 HBX HB3 HB2 HB1
  have hall3 : (∀ x ∈ xs, hasOp x) ↔ (∀ x ∈ l1, hasOp x) ∧ (∀ x ∈ l2, hasOp x) := by
    rw [← HXS.out]
    exact List.forall_mem_append
  rcases HV1.out with ⟨rfl, rfl, h1⟩ | ⟨⟨t1, p1, rfl⟩, h1⟩
  · rcases HV2.out with ⟨rfl, rfl, h2⟩ | ⟨⟨t2, p2, rfl⟩, h2⟩
    · rcases hv3 with ⟨rfl, rfl, h3⟩ | ⟨_, h3⟩
      · have hp1 := printL_le l1 h1 HI1.out
        have hp2 := printL_le l2 h2 HI2.out
        have hp3 := printL_le xs h3 HIX.out
        obtain ⟨k1, q1⟩ := norm_list l1 h1 HI1.out
        obtain ⟨k2, q2⟩ := norm_list l2 h2 HI2.out
        obtain ⟨k3, q3⟩ := norm_list xs h3 HIX.out
        have hap : (⟨(printL l1).toArray⟩ : ByteArray) ++ ⟨(printL l2).toArray⟩ = ⟨(printL xs).toArray⟩ := by
          rw [bytes_append, ← HXS.out, printL_append]
        have hsumB : ¬ 9223372036854775807 < (⟨(printL l1).toArray⟩ : ByteArray).size + (⟨(printL l2).toArray⟩ : ByteArray).size := by
          have e1 : (⟨(printL l1).toArray⟩ : ByteArray).size = (printL l1).length := by simp [ByteArray.size]
          have e2 : (⟨(printL l2).toArray⟩ : ByteArray).size = (printL l2).length := by simp [ByteArray.size]
          omega
        have hmap : l1.map normX ++ l2.map normX = xs.map normX := by rw [← HXS.out, List.map_append]
        have HK1 := Lib.hid (And.intro k1 q1)
        have HK2 := Lib.hid (And.intro k2 q2)
        have HK3 := Lib.hid (And.intro k3 q3)
        have HMAP := Lib.hid hmap
        have HQ1 := Lib.hid (parse_any (printL l1) (by omega) w5 (HC.out.old HB5.out))
        have HQ2 := Lib.hid (fun w h => parse_any (printL l2) (by omega) w h)
        have HQ3 := Lib.hid (fun w h => parse_any (printL xs) (by omega) w h)
        clear HV1 HV2 h1 h2 h3 hall3 k1 q1 k2 q2 k3 q3 hmap hp1 hp2 hp3 HL1 HL2
        unfold strV at HQ1 HQ2 HQ3 ⊢
        generalize (⟨(printL l1).toArray⟩ : ByteArray) = B1 at *
        generalize (⟨(printL l2).toArray⟩ : ByteArray) = B2 at *
        generalize (⟨(printL xs).toArray⟩ : ByteArray) = B3 at *
        go_wp2_with fail
        refine HQ1.out.mono ?_
        rintro e w6 ⟨hb6, ⟨lx, Ax, cx, rfl, hox, hkx, hpx, hlx⟩ | ⟨t, p, rfl, hno⟩⟩
        · have HB6 := Lib.hid (HB5.out.trans (hb6.mono HB5.out.size))
          have HXE := Lib.hid (printL_inj HK1.out.1 hkx (hpx.trans HK1.out.2.symm))
          have HIXx := Lib.hid (Inss.of_own hox rfl)
          clear hb6 hox hkx hpx HQ1
          go_wp2_with fail
          refine (HQ2.out w6 (HC.out.old HB6.out)).mono ?_
          rintro e w7 ⟨hb7, ⟨ly, Ay, cy, rfl, hoy, hky, hpy, hly⟩ | ⟨t, p, rfl, hno⟩⟩
          · have HB7 := Lib.hid (HB6.out.trans (hb7.mono HB6.out.size))
            have HYE := Lib.hid (printL_inj HK2.out.1 hky (hpy.trans HK2.out.2.symm))
            have HIXy := Lib.hid (Inss.of_own hoy rfl)
            have HIX7 := Lib.hid (HIXx.out.old hb7)
            clear hb7 hoy hky hpy HQ2 HIXx
            go_wp2_with fail
            refine (HQ3.out w7 (HC.out.old HB7.out)).mono ?_
            rintro e w8 ⟨hb8, ⟨lz, Az, cz, rfl, hoz, hkz, hpz, hlz⟩ | ⟨t, p, rfl, hno⟩⟩
            · have hb78 := HB7.out.trans (hb8.mono HB7.out.size)
              have hze : lz = lx ++ ly := by
                rw [printL_inj HK3.out.1 hkz (hpz.trans HK3.out.2.symm), HXE.out, HYE.out, HMAP.out]
              have hlen : lz.length = lx.length + ly.length := by rw [hze, List.length_append]
              have hold := (Below.refl w8.heap.size w8).alloc (Nat.le_refl _) (.cells #[.slice Ax lx.length cx, .slice Ay ly.length cy] 22)
              have HCN := Lib.hid (concatN_two w8.heap.size Ax Ay lx.length ly.length cx cy lx ly (heap_alloc_new w8 _) ((HIX7.out.old hb8).old hold) ((HIXy.out.old hb8).old hold) (by omega) (by omega))
              rw [← hze] at HCN
              have HIXz := Lib.hid ((Inss.of_own hoz rfl).old hold)
              have HB8 := Lib.hid (hb78.alloc hb78.size (.cells #[.slice Ax lx.length cx, .slice Ay ly.length cy] 22))
              clear hb8 hb78 hoz hkz hpz hze hold HQ3 HIX7 HIXy hlen
              go_wp2_with fail
              refine HCN.out.mono ?_
              rintro e w9 ⟨A9, c9, rfl, hown9, hg9⟩
              have hb9 := HB8.out.grown hg9 HB8.out.size (by intro k hk; cases hk)
              have HE := Lib.hid (equalN_same Az A9 lz.length cz c9 lz w9 (by omega) _ _ (HIXz.out.grow hg9) (Inss.of_own hown9 rfl))
              have HB9 := Lib.hid hb9
              clear hown9 hg9 hb9 HCN
              go_wp2_with fail
              refine HE.out.mono ?_
              rintro e w10 ⟨rfl, q, hq⟩
              have HB10 := Lib.hid (show Below w.heap.size w w10 by rw [hq]; exact below_drewN HB9.out q)
              clear hq HE
              go_wp2
              go_ret
              exact ⟨rfl, HB10.out⟩
            · exact absurd (hno _ HK3.out.1 HK3.out.2) (by rw [List.length_map]; omega)
          · exact absurd (hno _ HK2.out.1 HK2.out.2) (by rw [List.length_map]; omega)
        · exact absurd (hno _ HK1.out.1 HK1.out.2) (by rw [List.length_map]; omega)
      · exact absurd (hall3.2 ⟨h1, h2⟩) h3
    · rcases hv3 with ⟨_, _, h3⟩ | ⟨⟨t3, p3, rfl⟩, _⟩
      · exact absurd (hall3.1 h3).2 h2
      · clear HV1 HV2 h1 h2 hall3
        go_wp2
        go_ret
        exact ⟨rfl, HB5.out⟩
  · rcases hv3 with ⟨_, _, h3⟩ | ⟨⟨t3, p3, rfl⟩, _⟩
    · exact absurd (hall3.1 h3).1 h1
    · clear HV1 HV2 h1 hall3
      go_wp2
      go_ret
      exact ⟨rfl, HB5.out⟩
end Go.Proofs.YtmfkjaokopkgmaaDoor
