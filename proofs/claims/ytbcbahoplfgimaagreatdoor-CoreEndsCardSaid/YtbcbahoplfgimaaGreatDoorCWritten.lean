/-
  slices.Clone at programs; the fact that the laws ask first: a program that is written.
-/
import Derived.Test.YtbcbahoplfgimaaGreatDoorCOps
namespace Go.Proofs.YtbcbahoplfgimaaGreatDoor
set_option maxRecDepth 100000
open Go.RowKit Go.Sort

set_option maxHeartbeats 1000000 in
theorem cloneN_any {w : World} {B : Nat} (A : Option Addr) (n c : Nat) (xs : List In5) (h : Inss w B A n xs) (hn : n ≤ 1000000) :
    Calls Tryz.prog 49 #[.slice A n c] w fun e w' => ∃ v, e = .returned v ∧ w'.ownsRow w.heap.size 65 5 v n (cells5 xs) ∧ w.grownBy w' none := by
  rcases A with _ | ad
  · have h0 : n = 0 := by
      rcases Nat.eq_zero_or_pos n with h0 | h0
      · exact h0
      · obtain ⟨_, _, e, _⟩ := h.row h0
        cases e
    subst h0
    have hx : xs = [] := List.eq_nil_of_length_eq_zero h.len
    subst hx
    have hq := fun (w : World) => Lib.run_eql_slice_nil (P := Tryz.prog) w 63 65 none 0 c 0 0 Tryz.underlying63
    clear h
    go_enter Tryz.func49, Tryz.ntmps49
    go_wp2
    go_ret
    exact ⟨_, rfl, World.ownsRow_nil _ _ _ _, World.grownBy.refl w _⟩
  · have hq := fun (w : World) => Lib.run_eql_slice_nil (P := Tryz.prog) w 63 65 (some ad) n c 0 0 Tryz.underlying63
    have hnews := news_of_inss h
    have hl := h.len
    obtain ⟨i0, hi, hz0, hz1, hz2⟩ := info_parts infoIns
    clear h
    go_enter Tryz.func49, Tryz.ntmps49
    have hown0 := World.ownsRow_made (base := w.heap.size) (e := 65) (size := 5) w #[] 0 (Nat.le_refl _) (by decide) rfl
    have hnews' : ∀ j u, (cells5 xs)[j]? = some u → (w.alloc (.cells #[] 65)).cell? (ad.add j) = some u := fun j u hu => Lib.cell?_alloc_some _ (hnews j u hu)
    have H0 := Lib.hid hown0
    have H1 := Lib.hid hnews'
    have H2 := Lib.hid hl
    clear hown0 hnews' hl hnews
    go_wp2_with (at_builtin; refine wpList_append_own _ rfl (.tmp 5) (.tmp 6) 63 rfl w.heap.size 65 i0 (.agg #[.int .i64 0, .int .i64 0, .int .i64 0, .int .i64 0, .int .i64 0]) 5 40 Tryz.underlying63 hi hz0 hz1 hz2 rfl (by decide) _ 0 [] rfl H0.out ad n c (cells5 xs) rfl ?c1 H1.out ?c2 ?c3 ?c4 ?c5 ?_)
    case c1 => rw [cells5_len, H2.out]
    case c2 => exact oneCell5
    case c3 => unfold maxLen; omega
    case c4 => omega
    case c5 => simp
    intro v' w1 hown1 hg1 _
    have hg := (World.grownBy_alloc w (.cells #[] 65) none).andThen hg1 (by intro j hj; simp only [Value.ownBlock, Option.some.injEq] at hj; omega)
    have H3 := Lib.hid hown1
    have H4 := Lib.hid hg1
    clear hown1 hg1 H0 H1
    go_wp2
    go_ret
    exact ⟨v', rfl, by simpa using H3.out, hg⟩

def writtenS : List UInt8 := [108, 101, 116, 32, 48, 32, 45, 53, 10, 115, 116, 111, 114, 101, 32, 49, 32, 48, 32, 45, 49, 10, 104, 97, 108, 116, 10]
def writtenL : List In5 := [(1, 0, -5, 0, 0), (7, 1, 0, -1, 0), (0, 0, 0, 0, 0)]

theorem itoa_small (n : Nat) (h : n < 10) : Lib.itoa (n : Int) = [UInt8.ofNat (48 + n)] := by
  unfold Lib.itoa
  rw [if_neg (by omega), Int.toNat_natCast, Lib.decDigits, dif_pos h]
theorem itoa_neg (n : Nat) (h : n < 10) (h0 : 0 < n) : Lib.itoa (-(n : Int)) = [45, UInt8.ofNat (48 + n)] := by
  unfold Lib.itoa
  rw [if_pos (by omega), show (-(n : Int)).natAbs = n by omega, Lib.decDigits, dif_pos h]

theorem written_print : printL writtenL = writtenS := by
  have z : Lib.itoa 0 = [48] := itoa_small 0 (by decide)
  have o : Lib.itoa 1 = [49] := itoa_small 1 (by decide)
  have m5 : Lib.itoa (-5) = [45, 53] := itoa_neg 5 (by decide) (by decide)
  have m1 : Lib.itoa (-1) = [45, 49] := itoa_neg 1 (by decide) (by decide)
  have b0 : bodyL (1, 0, -5, 0, 0) = [108, 101, 116, 32, 48, 32, 45, 53] := by
    show nameOf 1 ++ pieces [1, 3, 0, 0] [0, -5, 0, 0] = _
    simp only [pieces, piece, z, m5]
    rfl
  have b1 : bodyL (7, 1, 0, -1, 0) = [115, 116, 111, 114, 101, 32, 49, 32, 48, 32, 45, 49] := by
    show nameOf 7 ++ pieces [2, 1, 5, 0] [1, 0, -1, 0] = _
    simp only [pieces, piece, z, o, m1]
    rfl
  have b2 : bodyL (0, 0, 0, 0, 0) = [104, 97, 108, 116] := by
    show nameOf 0 ++ pieces [0, 0, 0, 0] [0, 0, 0, 0] = _
    simp only [pieces, piece]
    rfl
  unfold writtenL
  rw [printL_cons, printL_cons, printL_cons, b0, b1, b2]
  rfl

theorem written_ok : ∀ x ∈ writtenL, okX x := by
  intro x hx
  unfold writtenL at hx
  simp only [List.mem_cons, List.not_mem_nil, or_false] at hx
  rcases hx with rfl | rfl | rfl
  · exact ⟨by decide, by decide, by unfold isInt; decide, ⟨by decide, by decide, by decide, by decide, trivial⟩⟩
  · exact ⟨by decide, by decide, by unfold isInt; decide, ⟨by decide, by decide, by decide, by decide, trivial⟩⟩
  · exact ⟨by decide, by decide, by unfold isInt; decide, ⟨by decide, by decide, by decide, by decide, trivial⟩⟩

theorem written_right : RightL writtenL 2 := by
  refine ⟨by decide, by decide, by decide, by decide, fun i hi => ?_, by decide⟩
  match i, hi with
  | 0, _ => exact ⟨by decide, by decide, by decide⟩
  | 1, _ => exact ⟨by decide, by decide, by decide⟩
  | 2, _ => exact ⟨by decide, by decide, by decide⟩
theorem written_wrong : ¬ RightL writtenL 1 := fun h => by
  have h1 := (h.2.2.2.2.1 1 (by decide)).2.2
  exact absurd h1 (by decide)

def writtenC : Array Value := #[.int .i64 1, .int .i64 0, .int .i64 (-5), .int .i64 0, .int .i64 0, .int .i64 7, .int .i64 1, .int .i64 0, .int .i64 (-1), .int .i64 0, .int .i64 0, .int .i64 0, .int .i64 0, .int .i64 0, .int .i64 0]

theorem written_inss (w : World) : Inss (w.alloc (.cells writtenC 65)) (w.alloc (.cells writtenC 65)).heap.size (some ⟨w.heap.size, 0, none⟩) 3 writtenL := by
  have h := World.ownsRow_lit (base := w.heap.size) (e := 65) (size := 5) w writtenC 3 (Nat.le_refl _) (by decide) rfl
  exact Inss.of_own (c := 3) h rfl

set_option maxHeartbeats 4000000 in
theorem written_true (w : World) (h : CW w) : Calls Tryz.prog 10 #[] w fun e w' => e = .returned (.bool true) ∧ Below w.heap.size w w' := by
  have HP := Lib.hid (parse_any writtenS (by decide) w h)
  have HC := Lib.hid h
  clear h
  unfold strV writtenS at HP
  go_enter Tryz.func10, Tryz.ntmps10
  go_wp2_with fail
  refine HP.out.mono ?_
  rintro e w1 ⟨hb1, ⟨l, A, c, rfl, hown, hok, hpr, hle⟩ | ⟨t, p, rfl, hno⟩⟩
  · obtain rfl : l = writtenL := printL_inj written_ok hok (hpr.trans written_print.symm)
    have hI := Inss.of_own hown rfl
    have hN : writtenL.length = 3 := rfl
    rw [hN] at hI hown ⊢
    have hba := hb1.alloc hb1.size (.cells writtenC 65)
    have hI2 : Inss (w1.alloc (.cells writtenC 65)) (w1.alloc (.cells writtenC 65)).heap.size A 3 writtenL := hI.old ((Below.refl _ _).alloc (Nat.le_refl _) _)
    have HE := Lib.hid (show Calls Tryz.prog 34 #[.slice A 3 c, .slice (some ⟨w1.heap.size, 0, none⟩) 3 3] (w1.alloc (.cells #[.int .i64 1, .int .i64 0, .int .i64 (-5), .int .i64 0, .int .i64 0, .int .i64 7, .int .i64 1, .int .i64 0, .int .i64 (-1), .int .i64 0, .int .i64 0, .int .i64 0, .int .i64 0, .int .i64 0, .int .i64 0] 65)) _ from equalN_same A (some ⟨w1.heap.size, 0, none⟩) 3 c 3 writtenL _ (by decide) _ _ hI2 (written_inss w1))
    have HI2 := Lib.hid hI2
    have HBA := Lib.hid hba
    clear hI2 hba hI hown hb1 hok hpr hle HP hN
    go_wp2_with fail
    refine HE.out.mono ?_
    rintro e w3 ⟨rfl, q, hq⟩
    have hb3 : Below w.heap.size w w3 := by rw [hq]; exact below_drewN HBA.out q
    have hI3 : Inss w3 w3.heap.size A 3 writtenL := by rw [hq]; exact ⟨HI2.out.len, HI2.out.row⟩
    clear hq HE HBA HI2
    have HR2 := Lib.hid (right_any writtenL A 3 c 2 w3 (HC.out.old hb3) hI3)
    have HB3 := Lib.hid hb3
    have HI3 := Lib.hid hI3
    clear hb3 hI3
    go_wp2_with fail
    refine HR2.out.mono ?_
    rintro e w4 ⟨hb4, ⟨rfl, _⟩ | ⟨t, p, rfl, hno⟩⟩
    · have hb4' := HB3.out.trans (hb4.mono HB3.out.size)
      have HR1 := Lib.hid (right_any writtenL A 3 c 1 w4 (HC.out.old hb4') (HI3.out.old hb4))
      have HB4 := Lib.hid hb4'
      clear hb4 hb4' HR2
      go_wp2_with fail
      refine HR1.out.mono ?_
      rintro e w5 ⟨hb5, ⟨rfl, hyes⟩ | ⟨t, p, rfl, hno⟩⟩
      · exact absurd hyes written_wrong
      · have HB5 := Lib.hid (HB4.out.trans (hb5.mono HB4.out.size))
        clear hb5 hno
        go_wp2
        go_ret
        exact ⟨rfl, HB5.out⟩
    · exact absurd written_right hno
  · exact absurd (hno writtenL written_ok written_print) (by decide)
end Go.Proofs.YtbcbahoplfgimaaGreatDoor
