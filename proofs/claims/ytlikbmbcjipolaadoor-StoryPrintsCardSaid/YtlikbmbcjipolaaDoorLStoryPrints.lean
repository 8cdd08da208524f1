/-
  Whatever was said, as text: the reference's.
-/
import Derived.Test.YtlikbmbcjipolaaDoorRStP
import Derived.Test.YtlikbmbcjipolaaDoorBare
namespace Go.Proofs.YtlikbmbcjipolaaDoor
set_option maxRecDepth 100000
open Go.RowKit Go.Sort
set_option linter.unusedVariables false
set_option linter.unusedSimpArgs false

theorem sp_nil (w : World) : Calls Tryd.prog 8 #[.nilIface, .int .i64 0] w fun e w' => e = .returned (.bool true) ∧ Below w.heap.size w w' := by
  refine (bare_nil w).mono ?_
  rintro e w' ⟨he, rfl⟩
  exact ⟨he, Below.refl _ _⟩
theorem sp_errno (k : Int) (w : World) (hg : ErrVar w) : Calls Tryd.prog 8 #[.iface 25 (.int .i64 k), .int .i64 k] w fun e w' => e = .returned (.bool true) ∧ Below w.heap.size w w' := by
  refine (bare_errno k w hg).mono ?_
  rintro e w' ⟨he, hb⟩
  exact ⟨he, (Below.refl _ _).grown hb (Nat.le_refl _) (by intro k hk; cases hk)⟩
theorem sp_errVar {w w' : World} (hg : ErrVar w) (hb : Below w.heap.size w w') : ErrVar w' :=
  (World.cell?_of_block (a := ⟨1, 0, none⟩) (hb.block _ (World.block_lt_of_cell? w _ hg))).trans hg

set_option maxHeartbeats 4000000 in
theorem storyPrints_any {w : World} (hC : SP w) (hg : ErrVar w) (A : Option Addr) (n c : Nat) (l : List Ev4) (hlen : l.length = n) (hE : EvRow w A n l) (hi : ∀ e ∈ l, intE e) :
    Calls Tryd.prog 5 #[.slice A n c] w fun e w' => e = .returned (.bool true) ∧ Below w.heap.size w w' := by
  have HC := Lib.hid hC
  have HE := Lib.hid hE
  have HG := Lib.hid hg
  clear hC hE hg
  go_enter Tryd.func5, Tryd.ntmps5
  by_cases h1 : 100 < n
  · have hgt : (100 : Int) < (n : Int) := by omega
    go_wp2
    go_ret
    exact ⟨rfl, Below.refl _ _⟩
  have hgt : ¬ (100 : Int) < (n : Int) := by omega
  have HR := Lib.hid (rStPrint_any l A n c w HC.out HE.out hlen hi (by omega))
  unfold RToldStory at HR
  go_wp2_with fail
  refine HR.out.mono ?_
  rintro e w1 ⟨hb1, hcase⟩
  have HB1 := Lib.hid hb1
  have HP := Lib.hid (st_print l A n c w1 (HC.out.old hb1) (HE.out.of hb1) hlen hi (by omega))
  unfold ToldStory at HP
  clear hb1 HR
  rcases hcase with ⟨rfl, hr⟩ | ⟨rfl, hno⟩
  · have HRR := Lib.hid hr
    clear hr
    unfold strV at HP ⊢
    generalize (⟨(storyL l).toArray⟩ : ByteArray) = BS at *
    go_wp2_with fail
    refine HP.out.mono ?_
    rintro e w2 ⟨hb2, ⟨rfl, _⟩ | ⟨rfl, hno⟩⟩
    rotate_left
    · exact absurd HRR.out hno
    have HB2 := Lib.hid (HB1.out.trans (hb2.mono HB1.out.size))
    have HBA := Lib.hid (sp_nil w2)
    clear hb2 HP
    go_wp2_with fail
    refine HBA.out.mono ?_
    rintro e w3 ⟨rfl, hb3⟩
    have HB3 := Lib.hid (HB2.out.trans (hb3.mono HB2.out.size))
    have HR1 := Lib.hid (stRight_any l A n c w3 (HE.out.of HB3.out) hlen (by omega))
    clear hb3 HBA
    go_wp2_with fail
    refine HR1.out.mono ?_
    rintro e w4 ⟨b4, rfl, hb4b, hb4⟩
    obtain rfl : b4 = true := hb4b.2 HRR.out
    have HB4 := Lib.hid (HB3.out.trans (hb4.mono HB3.out.size))
    have HR2 := Lib.hid (rStRight_any l A n c w4 (HE.out.of HB4.out) hlen (by omega))
    clear hb4 hb4b HR1
    go_wp2_with fail
    refine HR2.out.mono ?_
    rintro e w5 ⟨b5, rfl, hb5b, hb5⟩
    obtain rfl : b5 = true := hb5b.2 HRR.out
    have HB5 := Lib.hid (HB4.out.trans (hb5.mono HB4.out.size))
    clear hb5 hb5b HR2
    go_wp2
    go_ret
    exact ⟨rfl, HB5.out⟩
  · have HNO := Lib.hid hno
    clear hno
    unfold strV at HP ⊢
    go_wp2_with fail
    refine HP.out.mono ?_
    rintro e w2 ⟨hb2, ⟨rfl, hr⟩ | ⟨rfl, _⟩⟩
    · exact absurd hr HNO.out
    have HB2 := Lib.hid (HB1.out.trans (hb2.mono HB1.out.size))
    have HBA := Lib.hid (sp_errno 1 w2 (sp_errVar HG.out HB2.out))
    clear hb2 HP
    go_wp2_with fail
    refine HBA.out.mono ?_
    rintro e w3 ⟨rfl, hb3⟩
    have HB3 := Lib.hid (HB2.out.trans (hb3.mono HB2.out.size))
    have HR1 := Lib.hid (stRight_any l A n c w3 (HE.out.of HB3.out) hlen (by omega))
    clear hb3 HBA
    go_wp2_with fail
    refine HR1.out.mono ?_
    rintro e w4 ⟨b4, rfl, hb4b, hb4⟩
    obtain rfl : b4 = false := Bool.eq_false_iff.2 fun h => HNO.out (hb4b.1 h)
    have HB4 := Lib.hid (HB3.out.trans (hb4.mono HB3.out.size))
    have HR2 := Lib.hid (rStRight_any l A n c w4 (HE.out.of HB4.out) hlen (by omega))
    clear hb4 hb4b HR1
    go_wp2_with fail
    refine HR2.out.mono ?_
    rintro e w5 ⟨b5, rfl, hb5b, hb5⟩
    obtain rfl : b5 = false := Bool.eq_false_iff.2 fun h => HNO.out (hb5b.1 h)
    have HB5 := Lib.hid (HB4.out.trans (hb5.mono HB4.out.size))
    clear hb5 hb5b HR2
    go_wp2
    go_ret
    exact ⟨rfl, HB5.out⟩
end Go.Proofs.YtlikbmbcjipolaaDoor
