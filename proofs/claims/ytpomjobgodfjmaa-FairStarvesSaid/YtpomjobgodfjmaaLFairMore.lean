/-
  WHO IS FAIR IN LESS IS FAIR IN MORE; to fewer, too; and any piece is.
-/
import Derived.Test.YtpomjobgodfjmaaFOK
namespace Go.Proofs.Ytpomjobgodfjmaa
open Go.RowKit
set_option linter.unusedVariables false
set_option linter.unusedSimpArgs false

theorem isFair_more {l : List Int} {n w y : Nat} (h : isFair l n w) : isFair l n ((w + y : Nat) : Int) := by
  obtain ⟨h1, h2, h3, h4⟩ := h
  refine ⟨h1, h2, by omega, ?_⟩
  rw [Int.toNat_natCast] at h4 ⊢
  rw [Int.toNat_natCast] at h4 ⊢
  exact fair_more h4 (by omega)
theorem isFair_fewer {l : List Int} {n z w : Nat} (h : isFair l n w) (hz : z ≤ n) : isFair l z w := by
  obtain ⟨h1, h2, h3, h4⟩ := h
  refine ⟨by omega, by omega, h3, ?_⟩
  rw [Int.toNat_natCast] at h4 ⊢
  exact fair_fewer h4 hz
theorem isFair_piece {l : List Int} {n w a b : Nat} (h : isFair l n w) : isFair ((l.take b).drop a) n w := by
  obtain ⟨h1, h2, h3, h4⟩ := h
  exact ⟨h1, h2, h3, fair_piece h4⟩
/-- A piece of a row. -/
theorem Ints.piece {k : IntKind} {w : World} {B b off n : Nat} {xs : List Int} (h : Ints k w B (some ⟨b, off, none⟩) n xs) {f t : Nat} (hf : f ≤ t) (ht : t ≤ n) : Ints k w B (some ⟨b, off + f, none⟩) (t - f) ((xs.take t).drop f) := by
  have hl := h.len
  refine ⟨by simp; omega, fun h0 => ?_⟩
  obtain ⟨b', off', e, hb, hx⟩ := h.row (by omega)
  injection e with e
  injection e with e1 e2
  subst e1 e2
  refine ⟨_, _, rfl, hb, fun i hi => ?_⟩
  have e : ((xs.take t).drop f).getD i 0 = xs.getD (f + i) 0 := by
    rw [List.getD_eq_getElem?_getD, List.getElem?_drop, List.getElem?_take, if_pos (by omega), ← List.getD_eq_getElem?_getD]
  rw [e, Nat.add_assoc]
  exact hx (f + i) (by omega)
theorem Ints.pieceA {k : IntKind} {w : World} {B n : Nat} {A : Option Addr} {xs : List Int} (h : Ints k w B A n xs) {f t : Nat} (hf : f ≤ t) (ht : t ≤ n) : Ints k w B (A.map fun x => x.add f) (t - f) ((xs.take t).drop f) := by
  by_cases h0 : n = 0
  · obtain rfl : t = 0 := by omega
    obtain rfl : f = 0 := by omega
    exact ⟨by simp, fun h => absurd h (by omega)⟩
  · obtain ⟨b, off, rfl, _⟩ := h.row (by omega)
    have e : (some (⟨b, off, none⟩ : Addr)).map (fun x => x.add f) = some ⟨b, off + f, none⟩ := by rw [Option.map_some, Addr.add_lit]
    rw [e]
    exact h.piece hf ht
theorem Ints.void {k : IntKind} {w : World} {B n : Nat} {A : Option Addr} {xs : List Int} (h : Ints k w B A n xs) {f t : Nat} (ht : t ≤ f) : Ints k w B A (t - f) ((xs.take t).drop f) := by
  refine ⟨?_, fun h0 => absurd h0 (by omega)⟩
  rw [List.length_drop, List.length_take]
  omega
theorem Ints.nilF (k : IntKind) (w : World) (B : Nat) (A : Option Addr) : Ints k w B A 0 [] := ⟨rfl, fun h => absurd h (by omega)⟩

theorem pick_natF (a : Int) (n : Nat) (n1 : 0 < n) (hn : n ≤ 1000) : ∃ u : Nat, u < n ∧ ∀ w, Calls Try.prog 6 #[.int .i64 a, .int .i64 (n : Nat)] w fun e w' => e = .returned (.int .i64 (u : Nat)) ∧ w = w' := by
  have h1 := pickI_lo a n
  have h2 := pickI_hi a n n1
  refine ⟨(pickI a n).toNat, by omega, fun w => ?_⟩
  have := pick_det a n n w rfl n1 hn
  rwa [show ((pickI a n).toNat : Int) = pickI a n by omega]

theorem wrap_nat {z : Int} {n : Nat} (h : z = (n : Int)) (hn : n ≤ 1000000) : wrap64 z = (n : Int) := by
  rw [h]
  exact wrap_is (by omega) (by omega)
theorem nat_lo (n : Nat) : -9223372036854775808 ≤ (n : Int) := by omega
theorem nat_hi {n : Nat} (h : n ≤ 16) : (n : Int) ≤ 9223372036854775807 := by omega
theorem nat_hi2 {n : Nat} (h : n ≤ 1000) : (n : Int) ≤ 9223372036854775807 := by omega
set_option maxHeartbeats 1000000 in
theorem fairMore_any {w : World} (H : FairOK) (A : Option Addr) (len cap : Nat) (l : List Int) (hI : Ints .i64 w w.heap.size A len l) (hcap : len ≤ cap) (n window more from_ to_ : Int) :
    Calls Try.prog 4 #[.slice A len cap, .int .i64 n, .int .i64 window, .int .i64 more, .int .i64 from_, .int .i64 to_] w fun e w' => e = .returned (.bool true) ∧ Below w.heap.size w w' := by
  have HP := Lib.hid (picked_any (w := w) H)
  have HI := Lib.hid hI
  obtain ⟨a, ha, hpa⟩ := pick_natF n 17 (by decide) (by decide)
  obtain ⟨x, hx, hpx⟩ := pick_natF window 30 (by decide) (by decide)
  obtain ⟨b, hb⟩ : ∃ b, b = x + 1 := ⟨_, rfl⟩
  have e1 : wrap64 (1 + (x : Int)) = (b : Int) := (wrap_is (by omega) (by omega)).trans (by omega)
  have HPa := Lib.hid hpa
  have HPx := Lib.hid hpx
  have HN := Lib.hid (And.intro (show a ≤ 16 by omega) (And.intro (show 1 ≤ b by omega) (show b ≤ 30 by omega)))
  clear hI hpa hpx ha hx hb
  go_enter Try.func4, Try.ntmps4
  go_wp2_with fail
  refine HP.out.mono ?_
  rintro e w1 ⟨rfl, hb1⟩
  have HB1 := Lib.hid hb1
  have HI1 := Lib.hid (HI.out.oldF hb1)
  clear hb1 HP HI
  by_cases h9 : 200 < len
  · have h9' : (200 : Int) < (len : Int) := by omega
    go_wp2
    go_ret
    exact ⟨rfl, HB1.out⟩
  have h9' : ¬ (200 : Int) < (len : Int) := by omega
  go_wp2_with fail
  refine (HPa.out _).mono ?_
  rintro e w2 ⟨rfl, rfl⟩
  go_wp2_with fail
  refine (HPx.out _).mono ?_
  rintro e w2 ⟨rfl, rfl⟩
  go_wp2_with fail
  --MA
  refine (H.fair HI1.out (by omega) (by omega) (by have := HN.out.1; omega) (by omega) (by have := HN.out.2.2; omega)).mono ?_
  rintro e w2 ⟨v, rfl, hv, hb2⟩
  have HB2 := Lib.hid (HB1.out.trans (hb2.mono HB1.out.size))
  have HI2 := Lib.hid (HI1.out.oldF hb2)
  clear hb2 HB1 HI1
  cases v
  · clear hv
    go_wp2
    go_ret
    exact ⟨rfl, HB2.out⟩
  have HF := Lib.hid (hv.1 rfl)
  clear hv
  have HE1 := Lib.hid e1
  clear e1
  have hle : len ≤ 200 := by omega
  have HLe := Lib.hid hle
  obtain ⟨f, hf, hpf⟩ := pick_natF from_ (len + 1) (Nat.succ_pos _) (Nat.le_trans (Nat.succ_le_succ hle) (by decide))
  obtain ⟨L1, hL1⟩ : ∃ L1, len + 1 = L1 := ⟨_, rfl⟩
  have eL : wrap64 ((len : Int) + 1) = (L1 : Int) := wrap_nat (by omega) (by omega)
  have HPf := Lib.hid (fun w => by have := hpf w; rwa [show ((len + 1 : Nat) : Int) = (len : Int) + 1 from rfl] at this)
  have HEL := Lib.hid eL
  clear eL hpf
  obtain ⟨g, hg⟩ : ∃ g, len - f = g := ⟨_, rfl⟩
  have eG : wrap64 ((len : Int) - (f : Int)) = (g : Int) := wrap_nat (by omega) (by omega)
  have HEG := Lib.hid eG
  clear eG
  obtain ⟨g1, hg1⟩ : ∃ g1, g + 1 = g1 := ⟨_, rfl⟩
  have eG1 : wrap64 ((g : Int) + 1) = (g1 : Int) := wrap_nat (by omega) (by omega)
  have HEG1 := Lib.hid eG1
  clear eG1
  obtain ⟨z, hz, hpz⟩ := pick_natF to_ g1 (by omega) (by omega)
  have HPz := Lib.hid hpz
  obtain ⟨t, ht⟩ : ∃ t, f + z = t := ⟨_, rfl⟩
  have eT : wrap64 ((f : Int) + (z : Int)) = (t : Int) := wrap_nat (by omega) (by omega)
  have HET := Lib.hid eT
  clear eT
  obtain ⟨y, hy, hpy⟩ := pick_natF more 30 (by decide) (by decide)
  have HPy := Lib.hid hpy
  obtain ⟨b2, hb2⟩ : ∃ b2, b + y = b2 := ⟨_, rfl⟩
  have hb30 := HN.out.2.2
  have ha16 := HN.out.1
  have eY : wrap64 ((b : Int) + (y : Int)) = (b2 : Int) := wrap_nat (by omega) (by omega)
  have HEY := Lib.hid eY
  clear eY
  obtain ⟨a1, ha1⟩ : ∃ a1, a + 1 = a1 := ⟨_, rfl⟩
  have eA : wrap64 ((a : Int) + 1) = (a1 : Int) := wrap_nat (by omega) (by omega)
  have HEA := Lib.hid eA
  clear eA
  obtain ⟨u, hu, hpu⟩ := pick_natF more a1 (by omega) (by omega)
  have HPu := Lib.hid hpu
  have hft : f ≤ t := by omega
  have htl : t ≤ len := by omega
  have HF1 := Lib.hid (show isFair l (a : Int) (b2 : Int) by rw [← hb2]; exact isFair_more HF.out)
  have HF2 := Lib.hid (show isFair l (u : Int) (b : Int) from isFair_fewer HF.out (by omega))
  have HF3 := Lib.hid (show isFair ((l.take t).drop f) (a : Int) (b : Int) from isFair_piece HF.out)
  have HTF := Lib.hid (And.intro hft htl)
  have HTs := Lib.hid (show t - f ≤ 4294967296 by omega)
  have HS := Lib.hid (And.intro (Int.ofNat_le.2 hft) (Int.ofNat_le.2 (Nat.le_trans htl hcap)))
  have HU := Lib.hid (show u ≤ 16 by omega)
  have HB30 := Lib.hid (show b2 ≤ 1000 by omega)
  have e1 := HE1.out
  have eL := HEL.out
  have eG := HEG.out
  have eG1 := HEG1.out
  have eT := HET.out
  have eY := HEY.out
  have eA := HEA.out
  clear HE1 hle hf hL1 hg hg1 hz hpz ht hy hpy hb2 hb30 ha16 ha1 hu hpu hft htl h9 h9' hcap HEL HEG HEG1 HET HEY HEA
  --MB
  go_wp2_with fail
  --MB1
  refine (HPf.out _).mono ?_
  rintro e w3 ⟨rfl, rfl⟩
  go_wp2_with fail
  --MC
  refine (HPz.out _).mono ?_
  rintro e w3 ⟨rfl, rfl⟩
  go_wp2_with fail
  --MD
  refine (HPy.out _).mono ?_
  rintro e w3 ⟨rfl, rfl⟩
  go_wp2_with fail
  --ME
  refine (H.fair HI2.out (Nat.le_trans HLe.out (by decide)) (nat_lo a) (nat_hi HN.out.1) (nat_lo b2) (nat_hi2 HB30.out)).mono ?_
  rintro e w3 ⟨v, rfl, hv, hb3⟩
  obtain rfl : v = true := hv.2 HF1.out
  have HB3 := Lib.hid (HB2.out.trans (hb3.mono HB2.out.size))
  have HI3 := Lib.hid (HI2.out.oldF hb3)
  clear hb3 HB2 HI2 hv
  go_wp2_with fail
  refine (HPu.out _).mono ?_
  rintro e w4 ⟨rfl, rfl⟩
  go_wp2_with fail
  refine (H.fair HI3.out (Nat.le_trans HLe.out (by decide)) (nat_lo u) (nat_hi HU.out) (nat_lo b) (nat_hi2 (Nat.le_trans HN.out.2.2 (by decide)))).mono ?_
  rintro e w4 ⟨v, rfl, hv, hb4⟩
  obtain rfl : v = true := hv.2 HF2.out
  have HB4 := Lib.hid (HB3.out.trans (hb4.mono HB3.out.size))
  have HI4 := Lib.hid (HI3.out.oldF hb4)
  clear hb4 HB3 HI3 hv
  obtain ⟨hs1, hs2⟩ := HS.out
  have hs0 : (0 : Int) ≤ (f : Int) := Int.natCast_nonneg f
  --MF
  by_cases hcf : cap = f
  · have htf : t ≤ f := hcf ▸ Int.ofNat_le.1 hs2
    go_wp2_with fail
    have hI5 := HI4.out.void htf
    rw [Nat.sub_eq_zero_of_le htf] at hI5
    have hb1000 : b ≤ 1000 := Nat.le_trans HN.out.2.2 (by decide)
    refine (H.fair hI5 (by decide) (nat_lo a) (nat_hi HN.out.1) (nat_lo b) (nat_hi2 hb1000)).mono ?_
    rintro e w5 ⟨v, rfl, hv, hb5⟩
    obtain rfl : v = true := hv.2 HF3.out
    have HB5 := Lib.hid (HB4.out.trans (hb5.mono HB4.out.size))
    clear hb5 HB4 HI4 hv hI5 hb1000
    --MK
    go_wp2
    go_ret
    exact ⟨rfl, HB5.out⟩
  · go_wp2_with fail
    have hI5 := HI4.out.pieceA HTF.out.1 HTF.out.2
    have hb1000 : b ≤ 1000 := Nat.le_trans HN.out.2.2 (by decide)
    refine (H.fair hI5 HTs.out (nat_lo a) (nat_hi HN.out.1) (nat_lo b) (nat_hi2 hb1000)).mono ?_
    rintro e w5 ⟨v, rfl, hv, hb5⟩
    obtain rfl : v = true := hv.2 HF3.out
    have HB5 := Lib.hid (HB4.out.trans (hb5.mono HB4.out.size))
    clear hb5 HB4 HI4 hv hI5 hb1000
    --MK
    go_wp2
    go_ret
    exact ⟨rfl, HB5.out⟩
end Go.Proofs.Ytpomjobgodfjmaa
