/-
  THE JUDGE ANSWERS AS THE DOCUMENT: the law.
-/
import Derived.Test.YtoljmleomkkchaaDoorLJudgeChecks
namespace Go.Proofs.YtoljmleomkkchaaDoor
set_option maxRecDepth 100000
open Go.RowKit Go.Shelf Go.WideShapes
set_option linter.unusedVariables false
set_option linter.unusedSimpArgs false

theorem rjudge_out {w : World} (A : Option Addr) (len cap : Nat) (n : Int) (h : ¬ (1 ≤ n ∧ n ≤ 16)) :
    Calls Tryd.prog 7 #[.slice A len cap, .int .i64 n] w fun e w' => e = .returned (.agg #[.int .i64 2, .int .i64 (-1)]) ∧ w.grownBy w' none := by
  have hc := heap_alloc_new w (.cells #[.int .i64 0, .int .i64 0] 25)
  have HC := Lib.hid hc
  have HB := Lib.hid ((Below.refl w.heap.size w).alloc (Nat.le_refl _) (.cells #[.int .i64 0, .int .i64 0] 25))
  have HD := Lib.hid (decide_eq_false h)
  clear hc h
  go_enter Tryd.func7, Tryd.ntmps7
  go_wp2_with fail
  refine (jwithin_any _ _ _ _).mono ?_
  rintro x w' ⟨rfl, rfl⟩
  rw [HD.out]
  go_wp2_with fail
  --MA
  refine (rbare_any _ _).mono ?_
  rintro x w' ⟨rfl, hg⟩
  have hr := (hg.block w.heap.size (Array.getElem?_eq_some_iff.1 HC.out).1 (by simp)).trans HC.out
  have r0 := (cell_of_row _ _ 0 _ _ _ hr).trans (show _ = some (.int .i64 0) from rfl)
  have r1 := (cell_of_row _ _ 1 _ _ _ hr).trans (show _ = some (.int .i64 0) from rfl)
  have r2 := frozen_of_row _ _ 0 _ _ hr
  have r3 := frozen_of_row _ _ 1 _ _ hr
  have hb := HB.out.grown hg HB.out.size (by intro k hk; cases hk)
  have HF := Lib.hid (And.intro (heap_setCell_same _ _ 1 _ _ (.int .i64 (-1)) (heap_setCell_same _ _ 0 _ _ (.int .i64 2) hr)) (grown_belJ (below_setI (i := 1) (v := .int .i64 (-1)) (below_setI (i := 0) (v := .int .i64 2) hb (Nat.le_refl _)) (Nat.le_refl _))))
  clear hg hr hb HC HB
  go_wp2
  --MB
  refine bodyPost_ret (v := .agg #[.int .i64 2, .int .i64 (-1)]) ?_ rfl ⟨rfl, HF.out.2⟩
  exact results_cell_row (fn := Tryd.f7) (p := 4) (ty := 25) (g := w.heap.size) (t := 25) (cs := #[.int .i64 2, .int .i64 (-1)]) (fr := (0, 0)) (by kernel_rfl) _ _ (d := _) (by rfl) HF.out.1 Tryd.underlying25 rfl (by kernel_rfl)

/-- What a call of the judge's comes to: an error that tells so. -/
def TellsE (e i : Int) (w : World) (x : Ending) (w' : World) : Prop := ∃ v, x = .returned v ∧ ErrIs w' v e i ∧ w.grownBy w' none
def TellsR (a b e i : Int) (w : World) (x : Ending) (w' : World) : Prop := ∃ v, x = .returned (.tuple #[.int .i64 a, .int .i64 b, v]) ∧ ErrIs w' v e i ∧ w.grownBy w' none
set_option maxHeartbeats 4000000 in
theorem checks_walk {w : World} (hg : ErrVar w) (A : Option Addr) (len cap : Nat) (n e i a b : Int) (hlen : len ≤ 200)
    (hR : Calls Tryd.prog 7 #[.slice A len cap, .int .i64 n] w fun x w' => x = .returned (.agg #[.int .i64 e, .int .i64 i]) ∧ w.grownBy w' none)
    (hS : ∀ u, w.grownBy u none → Calls Tryd.prog 8 #[.slice A len cap, .int .i64 n] u (TellsR a b e i u))
    (hC : ∀ u, w.grownBy u none → Calls Tryd.prog 10 #[.slice A len cap, .int .i64 n] u (TellsE e i u))
    (h0 : e ≠ 0 → a = 0 ∧ b = 0)
    (hJ : e = 0 → ∀ u, w.grownBy u none → Calls Tryd.prog 12 #[.slice A len cap, .int .i64 n] u fun x w' => x = .returned (.tuple #[.int .i64 a, .int .i64 b]) ∧ u.grownBy w' none) :
    Calls Tryd.prog 3 #[.slice A len cap, .int .i64 n] w fun x w' => x = .returned (.bool true) ∧ w.grownBy w' none := by
  have hln : ¬ (200 : Int) < (len : Int) := by omega
  have HR := Lib.hid hR
  have HS := Lib.hid hS
  have HC := Lib.hid hC
  have H0 := Lib.hid h0
  have HJ := Lib.hid hJ
  have HG := Lib.hid hg
  clear hR hS hC h0 hJ hg hlen
  go_enter Tryd.func3, Tryd.ntmps3
  go_wp2_with fail
  refine HR.out.mono ?_
  rintro x w1 ⟨rfl, hg1⟩
  have hga := World.grownBy_alloc w1 (.cells #[.int .i64 e, .int .i64 i] 25) none
  have HG2 := Lib.hid (hg1.andThen hga (by intro k hk; cases hk))
  have HCe := Lib.hid (heap_alloc_new w1 (.cells #[.int .i64 e, .int .i64 i] 25))
  clear hg1 hga HR
  go_wp2_with fail
  --LA
  refine (HS.out _ HG2.out).mono ?_
  rintro x w3 ⟨v, rfl, hv, hg3⟩
  have HG3 := Lib.hid (HG2.out.andThen hg3 (by intro k hk; cases hk))
  have hce := (hg3.block w1.heap.size (Array.getElem?_eq_some_iff.1 HCe.out).1 (by simp)).trans HCe.out
  have HK := Lib.hid (fun u (hu : w3.grownBy u none) => show u.cell? ⟨w1.heap.size, 0, none⟩ = some (.int .i64 e) ∧ u.cell? ⟨w1.heap.size, 1, none⟩ = some (.int .i64 i) by
    have h := (hu.block w1.heap.size (Array.getElem?_eq_some_iff.1 hce).1 (by simp)).trans hce
    exact ⟨(cell_of_row _ _ 0 _ _ _ h).trans rfl, (cell_of_row _ _ 1 _ _ _ h).trans rfl⟩)
  have HV := Lib.hid (fun u (hu : w3.grownBy u none) => hv.grow hu)
  have HCk := Lib.hid (fun u (hu : w3.grownBy u none) => (HC.out u (HG3.out.andThen hu (by intro k hk; cases hk))).mono (R' := fun x w' => ∃ v, x = .returned v ∧ ErrIs w' v e i ∧ w3.grownBy w' none) (by
    rintro x w' ⟨v, rfl, h1, h2⟩
    exact ⟨v, rfl, h1, hu.andThen h2 (by intro k hk; cases hk)⟩))
  have HPl := Lib.hid (fun u v (hu : w3.grownBy u none) (hv : ErrIs u v e i) => (placed_any hv (errVar_grow HG.out (HG3.out.andThen hu (by intro k hk; cases hk)))).mono (R' := fun x w' => x = .returned (.bool true) ∧ w3.grownBy w' none) (by
    rintro x w' ⟨rfl, h2⟩
    exact ⟨rfl, hu.andThen h2 (by intro k hk; cases hk)⟩))
  clear hv hg3 hce HS HC HG HG2 HCe
  --LB
  have HE0 := Lib.hid (World.grownBy.refl w3 none)
  go_wp2_with fail
  go_region_held3 (fun u => u.cell? ⟨w1.heap.size, 0, none⟩ = some (.int .i64 e) ∧ u.cell? ⟨w1.heap.size, 1, none⟩ = some (.int .i64 i)) (first | exact HK.out _ (by repeat (first | assumption | exact World.grownBy.refl _ none | refine grown_dJ ?_ | refine grown_aJ ?_ _))) (first
    | (go_at_call 10; refine (HCk.out _ (by repeat (first | assumption | exact World.grownBy.refl _ none | refine grown_dJ ?_ | refine grown_aJ ?_ _))).mono ?_; rintro x x1 ⟨v1, rfl, hv1, hg1⟩)
    | (go_at_call 9; (have hseen := hg2); clear hseen; refine (HPl.out _ _ (by repeat (first | assumption | exact World.grownBy.refl _ none | refine grown_dJ ?_ | refine grown_aJ ?_ _)) (HV.out _ (by repeat (first | assumption | exact World.grownBy.refl _ none | refine grown_dJ ?_ | refine grown_aJ ?_ _)))).mono ?_; rintro x x3 ⟨rfl, hg3⟩)
    | (go_at_call 9; refine (HPl.out _ _ (by repeat (first | assumption | exact World.grownBy.refl _ none | refine grown_dJ ?_ | refine grown_aJ ?_ _)) (by first | exact hv1 | exact hv1.grow (grown_drewJ _ 1))).mono ?_; rintro x x2 ⟨rfl, hg2⟩))
  --LC
  obtain ⟨c0, c1⟩ := HK.out x3 hg3
  have HG5 := Lib.hid (HG3.out.andThen hg3 (by intro k hk; cases hk))
  clear hg1 hg2 hg3 hv1 HCk HPl HV HK HE0
  go_wp2_with fail
  refine (faultIs_any _ _ _).mono ?_
  rintro x x4 ⟨rfl, hg4⟩
  have HG6 := Lib.hid (HG5.out.andThen hg4 (by intro k hk; cases hk))
  clear hg4 c0 c1 HG5 HG3
  by_cases he : e = 0
  · have HJ2 := Lib.hid (HJ.out he _ HG6.out)
    subst he
    clear HJ H0
    go_wp2_with fail
    refine HJ2.out.mono ?_
    rintro x x5 ⟨rfl, hg5⟩
    have HG7 := Lib.hid (HG6.out.andThen hg5 (by intro k hk; cases hk))
    clear hg5 HJ2 HG6
    --LD
    go_wp2
    go_ret
    exact ⟨rfl, HG7.out⟩
  · obtain ⟨rfl, rfl⟩ := H0.out he
    have hb : (e == 0) = false := by simpa using he
    clear H0 HJ he
    --LE
    go_wp2
    go_ret
    exact ⟨rfl, HG6.out⟩

theorem errIs_of {w w' : World} {n : Nat} {l : List Ev4} {c i : Nat} {v : Value} (h : AtErr w w' c i v) : ErrIs w' v (c : Int) (i : Int) := by
  obtain ⟨p, rfl, _, hp⟩ := h
  exact .inr (.inr ⟨p, rfl, hp⟩)
theorem judgeP_err {n : Nat} : ∀ (l : List Ev4) {a : List Ev4} {c i : Nat}, judgeP n a l = some (c, i) → c ≠ 0
  | [], a, c, i, h => by cases h
  | e :: l, a, c, i, h => by
    unfold judgeP at h
    split at h
    · exact judgeP_err l h
    · next h1 =>
      injection h with h
      injection h with h2 h3
      rw [← h2]
      exact h1
theorem judgeChecks_any {w : World} (hg : ErrVar w) (A : Option Addr) (len cap : Nat) (l : List Ev4) (hl : l.length = len) (hE : EvRow w A len l) (n : Int) :
    Calls Tryd.prog 3 #[.slice A len cap, .int .i64 n] w fun e w' => e = .returned (.bool true) ∧ Below w.heap.size w w' := by
  have hmono : ∀ {x : Ending} {w' : World}, (x = .returned (.bool true) ∧ w.grownBy w' none) → x = .returned (.bool true) ∧ Below w.heap.size w w' := fun h => ⟨h.1, (Below.refl w.heap.size w).grown h.2 (Nat.le_refl _) (by intro k hk; cases hk)⟩
  by_cases hlen : len ≤ 200
  · by_cases hn : 1 ≤ n ∧ n ≤ 16
    · obtain ⟨m, rfl⟩ : ∃ m : Nat, n = m := ⟨n.toNat, by omega⟩
      have m1 : 1 ≤ m := by omega
      have m16 : m ≤ 16 := by omega
      have hR := rjudge_in A len cap m l hl hlen hE m1 m16
      cases hj : judgeP m [] l with
      | none =>
        rw [hj] at hR
        refine (checks_walk hg A len cap (m : Int) 0 (-1) (jAll m l : Nat) (jAny m l : Nat) hlen hR (fun u hu => ?_) (fun u hu => ?_) (fun h => absurd rfl h) (fun _ u hu => ?_)).mono (fun x w' h => hmono h)
        · refine (jrounds_yes A len cap m l hl (by omega) (hE.grow hu) m1 m16 hj).mono ?_
          rintro x w' ⟨rfl, h⟩
          exact ⟨_, rfl, .inl ⟨rfl, rfl, rfl⟩, h⟩
        · refine (jcheck_yes A len cap m l hl (by omega) (hE.grow hu) m1 m16 hj).mono ?_
          rintro x w' ⟨rfl, h⟩
          exact ⟨_, rfl, .inl ⟨rfl, rfl, rfl⟩, h⟩
        · exact rjrounds_any A len cap m l hl hlen (hE.grow hu) m1 m16 (judge_ok.1 hj)
      | some q =>
        obtain ⟨c, i⟩ := q
        rw [hj] at hR
        have hc := judgeP_err l hj
        refine (checks_walk hg A len cap (m : Int) (c : Int) (i : Int) 0 0 hlen hR (fun u hu => ?_) (fun u hu => ?_) (fun _ => ⟨rfl, rfl⟩) (fun h => absurd h (by omega))).mono (fun x w' h => hmono h)
        · refine (jrounds_no A len cap m l hl (by omega) (hE.grow hu) m1 m16 hj).mono ?_
          rintro x w' ⟨p, rfl, hp, h⟩
          exact ⟨_, rfl, .inr (.inr ⟨p, rfl, hp⟩), h⟩
        · subst hl
          refine (jcheck_any A cap m l (by omega) (hE.grow hu) m1 m16).mono ?_
          rintro x w' ⟨hb, ⟨hj2, _⟩ | ⟨c2, i2, v, hj2, rfl, hv⟩⟩
          · rw [hj] at hj2; cases hj2
          · rw [hj] at hj2
            injection hj2 with hj2
            injection hj2 with e1 e2
            subst e1 e2
            obtain ⟨p, rfl, _, hp⟩ := hv
            exact ⟨_, rfl, .inr (.inr ⟨p, rfl, hp⟩), grown_belJ hb⟩
    · refine (checks_walk hg A len cap n 2 (-1) 0 0 hlen (rjudge_out A len cap n hn) (fun u hu => ?_) (fun u hu => ?_) (fun _ => ⟨rfl, rfl⟩) (fun h => absurd h (by decide))).mono (fun x w' h => hmono h)
      · refine (jrounds_range A len cap n hn).mono ?_
        rintro x w' ⟨rfl, rfl⟩
        exact ⟨_, rfl, .inr (.inl ⟨rfl, rfl⟩), World.grownBy.refl _ none⟩
      · refine (jcheck_range A len cap n hn).mono ?_
        rintro x w' ⟨rfl, rfl⟩
        exact ⟨_, rfl, .inr (.inl ⟨rfl, rfl⟩), World.grownBy.refl _ none⟩
  · have hln : (200 : Int) < (len : Int) := by omega
    clear hlen hE hg hmono
    go_enter Tryd.func3, Tryd.ntmps3
    go_wp2
    go_ret
    exact ⟨rfl, Below.refl _ _⟩
end Go.Proofs.YtoljmleomkkchaaDoor
