/-
  Poke, and Run: pick by pick.
-/
import Derived.Test.YtkmidefgmefohaaDoorMStep
namespace Go.Proofs.YtkmidefgmefohaaDoor
set_option maxRecDepth 100000
open Go.RowKit Go.Shelf Go.Sort
set_option linter.unusedVariables false
set_option linter.unusedSimpArgs false

/-- A row of picks, in a block that is none of the machine's. -/
def Picks (w : World) (S : Nat → Prop) (A : Option Addr) (l : List Int) : Prop :=
  ∀ i, i < l.length → ∃ rb ro, A = some ⟨rb, ro, none⟩ ∧ rb < w.heap.size ∧ ¬ S rb ∧ w.cell? ⟨rb, ro + i, none⟩ = some (.int .i64 (l.getD i 0))
theorem Picks.keep {w w' : World} {A : Option Addr} {l : List Int} {S S' : Nat → Prop} (h : Picks w S A l) (hk : Keeps S w w') (hs : Since S S' w) : Picks w' S' A l := by
  intro i hi
  obtain ⟨rb, ro, e, h1, h2, h3⟩ := h i hi
  refine ⟨rb, ro, e, Nat.lt_of_lt_of_le h1 hk.size, fun h4 => ?_, (World.cell?_of_block (a := ⟨rb, ro + i, none⟩) (hk.block rb h1 h2)).trans h3⟩
  rcases hs rb h4 with h5 | h5
  · exact h2 h5
  · omega

theorem MBig.run {cells0 : List Int} : ∀ (l : List Int) {m : Mach}, MBig cells0 m → MBig cells0 (runM 20000 l m).2
  | [], m, h => h
  | t :: l, m, h => MBig.run l (h.step t)
theorem run_take (l : List Int) (m : Mach) (k : Nat) (hk : k < l.length) : (runM 20000 (l.take (k + 1)) m).2 = (stepM 20000 (runM 20000 (l.take k) m).2 (l.getD k 0)).2 := by
  have e : l.take (k + 1) = l.take k ++ [l.getD k 0] := by
    rw [List.take_add_one, List.getD_eq_getElem?_getD]
    cases hx : l[k]? with
    | none => rw [List.getElem?_eq_none_iff] at hx; omega
    | some v => rfl
  rw [e, runM_append]
  rfl

theorem moved_on {w w' w'' : World} {B : Nat} {S S' : Nat → Prop} {X X' : KB} {m' m'' : Mach} (h : Core w' B S' X' m' ∧ Since S S' w ∧ Keeps S w w' ∧ X'.c = X.c ∧ X'.tv = X.tv) (h2 : Moved w' B S' X' m'' w'') : Moved w B S X m'' w'' := by
  obtain ⟨hC, hS, hK, e1, e2⟩ := h
  obtain ⟨S'', X'', e3, e4, hC2, hS2, hK2⟩ := h2
  exact ⟨S'', X'', e3.trans e1, e4.trans e2, hC2, hS.trans hS2 hK.size, hK.on hS hK2⟩

set_option maxHeartbeats 2000000 in
theorem krun_any {w : World} {B : Nat} {S : Nat → Prop} {X : KB} {cells0 : List Int} {m : Mach} (h : Core w B S X m) (hB : B ≤ w.heap.size) (hb : MBig cells0 m) (A : Option Addr) (cap : Nat) (l : List Int) (hp : Picks w S A l) (hl : l.length ≤ 100000) :
    Calls Tryd.prog 27 #[.pointer (some ⟨X.c, 0, none⟩), .slice A l.length cap] w fun e w' => e = .returned (.int .i64 ((runM 20000 l m).1 : Int)) ∧ Moved w B S X (runM 20000 l m).2 w' := by
  obtain ⟨_, _, _, _, _, c5⟩ := h.cells
  have H0 : Moved w B S X (runM 20000 (l.take 0) m).2 w := by rw [List.take_zero]; exact Moved.of h (Keeps.refl _ _)
  have HS := Lib.hid (runM_steps 20000 l m)
  have HM := Lib.hid (hb.run l).most
  have HZ := Lib.hid hb.most
  have HB := Lib.hid (fun k => hb.run (l.take k))
  have HP := Lib.hid hp
  have HL := Lib.hid (rfl : l.length = l.length)
  have H1 := Lib.hid H0
  obtain ⟨n, hn⟩ : ∃ n, l.length = n := ⟨_, rfl⟩
  have HN := Lib.hid hn
  rw [hn] at hl ⊢
  clear h hb hp hn H0
  go_enter Tryd.func27, Tryd.ntmps27
  go_wp2
  clear c5
  go_loopw [14] (fun j wr => ∃ k : Nat, k ≤ n ∧ j = .int .i64 k ∧ Moved w B S X (runM 20000 (l.take k) m).2 wr) (fun j _ => n - (intOf j).toNat)
  case atStart => exact ⟨0, Nat.zero_le _, rfl, H1.out⟩
  case round =>
    obtain ⟨k, hk, rfl, hm⟩ := hrel
    by_cases hlt : k < n
    · have hkn : (k : Int) < (n : Int) := by omega
      have hkl : k < l.length := by rw [HN.out]; exact hlt
      have HR := Lib.hid (run_take l m k hkl)
      obtain ⟨S', X', e1, e2, hC, hSi, hK⟩ := hm
      obtain ⟨rb, ro, hA, hrb, hns, hcell⟩ := (HP.out.keep hK hSi) k hkl
      subst hA
      have HST := Lib.hid (kstep_any hC (by have := hK.size; omega) (HB.out k) (l.getD k 0))
      rw [← HR.out, e1] at HST
      have HMV := Lib.hid (⟨hC, hSi, hK, e1, e2⟩ : Core _ B S' X' _ ∧ Since S S' w ∧ Keeps S w _ ∧ X'.c = X.c ∧ X'.tv = X.tv)
      generalize (errV (stepM 20000 (runM 20000 (l.take k) m).2 (l.getD k 0)).1) = RV at *
      generalize l.getD k 0 = t at *
      clear hC hSi hK e1 e2 HR hns
      go_wp2_with fail
      refine HST.out.mono ?_
      rintro e w2 ⟨rfl, hm2⟩
      have H2 := Lib.hid (moved_on HMV.out hm2)
      clear hm2 HMV HST hcell hrb
      go_wp2
      go_roundw
      case rel => exact ⟨k + 1, by omega, by go_num, H2.out⟩
      case measure => simp [intOf]; omega
    · have hkn : ¬ (k : Int) < (n : Int) := by omega
      have hkl : k = l.length := by rw [HN.out]; omega
      rw [hkl, List.take_length] at hm
      have H2 := Lib.hid hm
      obtain ⟨S', X', e1, e2, hC, hSi, hK⟩ := hm
      obtain ⟨_, _, _, _, _, d5⟩ := hC.cells
      rw [e1, HS.out] at d5
      have h1 := HM.out
      rw [HS.out] at h1
      have hw : wrap64 (((m.steps + (runM 20000 l m).1 : Nat) : Int) - (m.steps : Int)) = ((runM 20000 l m).1 : Int) := by unfold wrap64; omega
      clear hC hSi hK e1 e2 hkl
      go_wp2
      go_ret
      refine ⟨?_, H2.out⟩
      show Ending.returned (.int .i64 ((m.steps : Int) + ((runM 20000 l m).1 : Int) - (m.steps : Int))) = _
      rw [show (m.steps : Int) + ((runM 20000 l m).1 : Int) - (m.steps : Int) = ((runM 20000 l m).1 : Int) by omega]
end Go.Proofs.YtkmidefgmefohaaDoor
