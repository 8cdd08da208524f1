/-
  The fact that the laws on story ask first; what two parts are.
-/
import Derived.Test.YtdpknbcmjpnfgaaDoorStParseP
import Derived.Test.YtdpknbcmjpnfgaaDoorEqE
import Derived.Test.YtdpknbcmjpnfgaaDoorRowE
import Derived.Test.YtdpknbcmjpnfgaaDoorPickI
namespace Go.Proofs.YtdpknbcmjpnfgaaDoor
set_option maxRecDepth 100000
open Go.RowKit Go.Sort
set_option linter.unusedVariables false
set_option linter.unusedSimpArgs false

def storiedE : List Ev4 := [(3, 1, 1, 2), (9, 3, 0, -1)]
def storiedS : List UInt8 := [51, 32, 99, 97, 109, 101, 32, 49, 32, 50, 10, 57, 32, 116, 111, 108, 100, 32, 48, 32, 45, 49, 10]
theorem e_itoa_small (n : Nat) (h : n < 10) : Lib.itoa (n : Int) = [UInt8.ofNat (48 + n)] := by
  unfold Lib.itoa
  rw [if_neg (by omega), Int.toNat_natCast, Lib.decDigits, dif_pos h]
theorem e_itoa_neg (n : Nat) (h : n < 10) (h0 : 0 < n) : Lib.itoa (-(n : Int)) = [45, UInt8.ofNat (48 + n)] := by
  unfold Lib.itoa
  rw [if_pos (by omega), show (-(n : Int)).natAbs = n by omega, Lib.decDigits, dif_pos h]
theorem storied_text : storyL storiedE = storiedS := by
  have z : Lib.itoa 0 = [48] := e_itoa_small 0 (by decide)
  have o : Lib.itoa 1 = [49] := e_itoa_small 1 (by decide)
  have t : Lib.itoa 2 = [50] := e_itoa_small 2 (by decide)
  have h3 : Lib.itoa 3 = [51] := e_itoa_small 3 (by decide)
  have h9 : Lib.itoa 9 = [57] := e_itoa_small 9 (by decide)
  have m1 : Lib.itoa (-1) = [45, 49] := e_itoa_neg 1 (by decide) (by decide)
  have b0 : bodyE (3, 1, 1, 2) = [51, 32, 99, 97, 109, 101, 32, 49, 32, 50] := by
    unfold bodyE
    simp only [z, o, t, h3]
    rfl
  have b1 : bodyE (9, 3, 0, -1) = [57, 32, 116, 111, 108, 100, 32, 48, 32, 45, 49] := by
    unfold bodyE
    simp only [z, h9, m1]
    rfl
  unfold storiedE
  rw [storyL_cons, storyL_cons, b0, b1]
  rfl
theorem storied_right : rightS 0 storiedE := by
  unfold storiedE
  exact ⟨⟨by decide, by decide, by decide, by decide, by decide⟩, ⟨by decide, by decide, by decide, by decide, by decide⟩, trivial⟩
theorem storied_ints : ∀ e ∈ storiedE, intE e := by
  intro e he
  unfold storiedE at he
  simp only [List.mem_cons, List.not_mem_nil, or_false] at he
  rcases he with rfl | rfl
  · unfold intE isInt; decide
  · unfold intE isInt; decide

theorem storied_row (w : World) : EvRow (w.alloc (.cells #[.int .i64 3, .int .i64 1, .int .i64 1, .int .i64 2, .int .i64 9, .int .i64 3, .int .i64 0, .int .i64 (-1)] 49)) (some ⟨w.heap.size, 0, none⟩) 2 storiedE := by
  have h := World.ownsRow_lit (base := w.heap.size) (e := 49) (size := 4) w #[.int .i64 3, .int .i64 1, .int .i64 1, .int .i64 2, .int .i64 9, .int .i64 3, .int .i64 0, .int .i64 (-1)] 2 (Nat.le_refl _) (by decide) rfl
  exact evRow_own (c := 2) (l := storiedE) h rfl

set_option maxHeartbeats 1000000 in
theorem storied_true (w : World) (h : SR w) : Calls Tryd.prog 23 #[] w fun e w' => e = .returned (.bool true) ∧ Below w.heap.size w w' := by
  have hba := (Below.refl w.heap.size w).alloc (Nat.le_refl _) (.cells #[.int .i64 3, .int .i64 1, .int .i64 1, .int .i64 2, .int .i64 9, .int .i64 3, .int .i64 0, .int .i64 (-1)] 49)
  have HP := Lib.hid (st_print storiedE _ 2 2 _ (h.sp.old hba) (storied_row w) rfl storied_ints (by decide))
  have HR := Lib.hid (storied_row w)
  have HBA := Lib.hid hba
  have HC := Lib.hid (h.old hba)
  clear h hba
  unfold ToldStory at HP
  rw [storied_text] at HP
  unfold strV storiedS at HP
  go_enter Tryd.func23, Tryd.ntmps23
  go_wp2_with fail
  refine HP.out.mono ?_
  rintro e w1 ⟨hb1, ⟨rfl, _⟩ | ⟨rfl, hno⟩⟩
  · have HQ := Lib.hid (st_parse storiedS (by decide) w1 (HC.out.old hb1))
    have hw : storyP storiedS = (storiedE, true) := by rw [← storied_text]; exact storyP_whole storied_right storied_ints
    have HR1 := Lib.hid (HR.out.of hb1)
    have HB1 := Lib.hid (HBA.out.trans (hb1.mono HBA.out.size))
    unfold ToldStories at HQ
    rw [hw] at HQ
    unfold strV storiedS at HQ
    clear hb1 HP HR hw
    go_wp2_with fail
    refine HQ.out.mono ?_
    rintro e w2 ⟨hb2, ⟨A, c, rfl, hE, _⟩ | ⟨_, _, _, _, hno⟩⟩
    · have HE := Lib.hid (equalE_same (some ⟨w.heap.size, 0, none⟩) A 2 2 c storiedE w2 (by decide) (HR1.out.of hb2) hE)
      have HB2 := Lib.hid (HB1.out.trans (hb2.mono HB1.out.size))
      clear hb2 hE HQ HR1
      have hl : storiedE.length = 2 := rfl
      rw [hl]
      go_wp2_with fail
      refine HE.out.mono ?_
      rintro e w3 ⟨rfl, q, rfl⟩
      go_wp2
      go_ret
      exact ⟨rfl, below_drewN HB2.out q⟩
    · cases hno
  · exact absurd storied_right hno

theorem EvRow.head {w : World} {A : Option Addr} {n k : Nat} {l : List Ev4} (h : EvRow w A n l) (hk : k ≤ n) : EvRow w A k (l.take k) := fun i hi => by
  have e : (l.take k).getD i default = l.getD i default := by
    rw [List.getD_eq_getElem?_getD, List.getD_eq_getElem?_getD, List.getElem?_take, if_pos hi]
  rw [e]
  exact h i (by omega)
theorem EvRow.rest {w : World} {A : Option Addr} {n k : Nat} {l : List Ev4} (h : EvRow w A n l) (hk : k ≤ n) : EvRow w (A.map fun x => x.add (k * 4)) (n - k) (l.drop k) := fun i hi => by
  obtain ⟨b, off, rfl, c1, c2, c3, c4⟩ := h (k + i) (by omega)
  have e : (l.drop k).getD i default = l.getD (k + i) default := by
    rw [List.getD_eq_getElem?_getD, List.getD_eq_getElem?_getD, List.getElem?_drop]
  have ea : (some (⟨b, off, none⟩ : Addr)).map (fun x => x.add (k * 4)) = some ⟨b, off + k * 4, none⟩ := by rw [Option.map_some, Addr.add_lit]
  rw [e, ea]
  have eo : off + (k + i) * 4 = off + k * 4 + i * 4 := by rw [Nat.add_mul]; omega
  rw [eo] at c1 c2 c3 c4
  exact ⟨b, _, rfl, c1, c2, c3, c4⟩

theorem st_cat (a b : List UInt8) : (⟨a.toArray⟩ : ByteArray) ++ ⟨b.toArray⟩ = ⟨(a ++ b).toArray⟩ := by
  apply ByteArray.ext
  rw [ByteArray.data_append]
  simp
end Go.Proofs.YtdpknbcmjpnfgaaDoor
