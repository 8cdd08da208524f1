/-
  judge.Check and judge.Rounds, by contract; judged: the fact that the laws on the judge ask first.
-/
import Derived.Test.YtoljmleomkkchaaDoorOJudge
import Derived.Test.YtoljmleomkkchaaDoorAsAt
import Derived.Test.YtoljmleomkkchaaDoorPickI
import Derived.Deep.RegionHeld3
namespace Go.Proofs.YtoljmleomkkchaaDoor
set_option maxRecDepth 100000
open Go.RowKit
set_option linter.unusedVariables false
set_option linter.unusedSimpArgs false

/-- An error with a place, in a block of its own. -/
def AtErr (w w' : World) (c i : Nat) (v : Value) : Prop := ∃ p, v = .iface 65 (.pointer (some ⟨p, 0, none⟩)) ∧ w.heap.size ≤ p ∧ w'.heap[p]? = some (.cells #[.int .i64 (c : Nat), .int .i64 (i : Nat)] 67 (0, 0))
theorem AtErr.cell {w' u : World} {c i : Nat} {p : Nat} (h : w'.heap[p]? = some (.cells #[.int .i64 (c : Nat), .int .i64 (i : Nat)] 67 (0, 0))) (hg : w'.grownBy u none) : u.cell? ⟨p, 0, none⟩ = some (.int .i64 (c : Nat)) :=
  (cell_of_row u p 0 _ _ _ ((hg.block p (Array.getElem?_eq_some_iff.1 h).1 (by simp)).trans h)).trans rfl

set_option maxHeartbeats 1000000 in
theorem jcheck_any {w : World} (A : Option Addr) (cap n : Nat) (l : List Ev4) (hl : l.length ≤ 20000) (hE : EvRow w A l.length l) (n1 : 1 ≤ n) (hn : n ≤ 16) :
    Calls Tryd.prog 10 #[.slice A l.length cap, .int .i64 (n : Nat)] w fun e w' => Below w.heap.size w w' ∧ ((judgeP n [] l = none ∧ e = .returned .nilIface) ∨ ∃ c i v, judgeP n [] l = some (c, i) ∧ e = .returned v ∧ AtErr w w' c i v) := by
  have H := Lib.hid (hear_any A cap n l hl hE n1 hn)
  clear hE
  generalize l.length = m at *
  go_enter Tryd.func10, Tryd.ntmps10
  go_wp2_with fail
  refine H.out.mono ?_
  intro e w' h
  obtain ⟨hb, ⟨hj, g, rfl, _, _⟩ | ⟨c, i, p, hj, rfl, h1, h2⟩⟩ := hear_parts h
  · have HJ := Lib.hid (And.intro hb hj)
    clear h hb hj H
    go_wp2
    go_ret
    exact ⟨HJ.out.1, .inl ⟨HJ.out.2, rfl⟩⟩
  · have HJ := Lib.hid (And.intro hb (And.intro hj (And.intro h1 h2)))
    clear h hb hj H h1 h2
    go_wp2
    go_ret
    exact ⟨HJ.out.1, .inr ⟨c, i, _, HJ.out.2.1, rfl, p, rfl, HJ.out.2.2⟩⟩

set_option maxHeartbeats 1000000 in
theorem jrounds_any {w : World} (A : Option Addr) (cap n : Nat) (l : List Ev4) (hl : l.length ≤ 20000) (hE : EvRow w A l.length l) (n1 : 1 ≤ n) (hn : n ≤ 16) :
    Calls Tryd.prog 8 #[.slice A l.length cap, .int .i64 (n : Nat)] w fun e w' => Below w.heap.size w w' ∧ ((judgeP n [] l = none ∧ e = .returned (.tuple #[.int .i64 (jAll n l : Nat), .int .i64 (jAny n l : Nat), .nilIface])) ∨
      ∃ c i v, judgeP n [] l = some (c, i) ∧ e = .returned (.tuple #[.int .i64 0, .int .i64 0, v]) ∧ AtErr w w' c i v) := by
  have H := Lib.hid (hear_any A cap n l hl hE n1 hn)
  have HMin := Lib.hid (fun w' g (h : RowI w' g (timesL n l)) => minI_any (some ⟨g, 0, none⟩) n n (cntEv l) (timesL n l) (h.ints (timesL_len _ _)) (fun t ht => timesL_at l ht) n1 (by omega))
  have HMax := Lib.hid (fun w' g (h : RowI w' g (timesL n l)) => maxI_any (some ⟨g, 0, none⟩) n n (cntEv l) (timesL n l) (h.ints (timesL_len _ _)) (fun t ht => timesL_at l ht) n1 (by omega))
  have hmn := minN_len (n := n) n1 l
  have hmx := maxN_len n l
  rw [jAll_min n1, jAny_max]
  have HG := Lib.hid (fun w => jgone_any (minN (cntEv l) n) (by omega) w)
  have HC := Lib.hid (fun w => jcame_any (maxN (cntEv l) n) (by omega) w)
  generalize minN (cntEv l) n = a at *
  generalize maxN (cntEv l) n = b at *
  clear hE hmn hmx
  generalize l.length = m at *
  go_enter Tryd.func8, Tryd.ntmps8
  go_wp2_with fail
  refine H.out.mono ?_
  intro e w' h
  obtain ⟨hb, ⟨hj, g, rfl, h1, h2⟩ | ⟨c, i, p, hj, rfl, h1, h2⟩⟩ := hear_parts h
  · have HJ := Lib.hid (And.intro hb hj)
    have HR := Lib.hid h2
    clear h hb hj H h1 h2
    go_wp2_with fail
    refine (HMin.out _ _ HR.out).mono ?_
    rintro e w2 ⟨rfl, rfl⟩
    go_wp2_with fail
    refine (HG.out _).mono ?_
    rintro e w2 ⟨rfl, rfl⟩
    go_wp2_with fail
    refine (HMax.out _ _ HR.out).mono ?_
    rintro e w2 ⟨rfl, rfl⟩
    go_wp2_with fail
    refine (HC.out _).mono ?_
    rintro e w2 ⟨rfl, rfl⟩
    go_wp2
    go_ret3
    exact ⟨HJ.out.1, .inl ⟨HJ.out.2, rfl⟩⟩
  · have HJ := Lib.hid (And.intro hb (And.intro hj (And.intro h1 h2)))
    clear h hb hj H h1 h2 HMin HMax HG HC
    go_wp2
    go_ret3
    exact ⟨HJ.out.1, .inr ⟨c, i, _, HJ.out.2.1, rfl, p, rfl, HJ.out.2.2⟩⟩

theorem EvRow.grow {w w' : World} {A : Option Addr} {n : Nat} {l : List Ev4} (h : EvRow w A n l) (hg : w.grownBy w' none) : EvRow w' A n l := h.of ⟨hg.os, hg.tape, hg.output, hg.size, fun k hk => hg.block k hk (by simp)⟩
theorem grown_belJ {w w' : World} (h : Below w.heap.size w w') : w.grownBy w' none := ⟨h.os, h.tape, h.output, h.size, fun k hk _ => h.block k hk⟩
theorem grown_dJ {w w' : World} (h : w.grownBy w' none) : w.grownBy w'.drew none := h.andThen (grown_drewJ w' 1) (fun j hj => by cases hj)
theorem grown_aJ {w w' : World} (h : w.grownBy w' none) (o : Obj) : w.grownBy (w'.alloc o) none := h.andThen (World.grownBy_alloc w' o none) (fun j hj => by cases hj)
def ev3C : Array Value := #[.int .i64 0, .int .i64 1, .int .i64 0, .int .i64 1, .int .i64 0, .int .i64 1, .int .i64 1, .int .i64 1, .int .i64 0, .int .i64 2, .int .i64 0, .int .i64 1]
def ev2C : Array Value := #[.int .i64 0, .int .i64 1, .int .i64 0, .int .i64 1, .int .i64 0, .int .i64 2, .int .i64 0, .int .i64 1]
theorem ev3_row {w : World} {b : Nat} (h : w.heap[b]? = some (.cells ev3C 42)) : EvRow w (some ⟨b, 0, none⟩) 3 [(0, 1, 0, 1), (0, 1, 1, 1), (0, 2, 0, 1)] := fun i hi => by
  have k : ∀ j, w.cell? ⟨b, j, none⟩ = ev3C[j]? := fun j => cell_of_row w b j _ _ _ h
  match i, hi with
  | 0, _ => exact ⟨b, 0, rfl, (k _).trans rfl, (k _).trans rfl, (k _).trans rfl, (k _).trans rfl⟩
  | 1, _ => exact ⟨b, 0, rfl, (k _).trans rfl, (k _).trans rfl, (k _).trans rfl, (k _).trans rfl⟩
  | 2, _ => exact ⟨b, 0, rfl, (k _).trans rfl, (k _).trans rfl, (k _).trans rfl, (k _).trans rfl⟩
theorem ev2_row {w : World} {b : Nat} (h : w.heap[b]? = some (.cells ev2C 42)) : EvRow w (some ⟨b, 0, none⟩) 2 [(0, 1, 0, 1), (0, 2, 0, 1)] := fun i hi => by
  have k : ∀ j, w.cell? ⟨b, j, none⟩ = ev2C[j]? := fun j => cell_of_row w b j _ _ _ h
  match i, hi with
  | 0, _ => exact ⟨b, 0, rfl, (k _).trans rfl, (k _).trans rfl, (k _).trans rfl, (k _).trans rfl⟩
  | 1, _ => exact ⟨b, 0, rfl, (k _).trans rfl, (k _).trans rfl, (k _).trans rfl, (k _).trans rfl⟩
theorem ev3_row2 {w : World} {b : Nat} (h : w.heap[b]? = some (.cells ev3C 42)) : EvRow w (some ⟨b, 0, none⟩) 2 [(0, 1, 0, 1), (0, 1, 1, 1)] := fun i hi => by
  have k : ∀ j, w.cell? ⟨b, j, none⟩ = ev3C[j]? := fun j => cell_of_row w b j _ _ _ h
  match i, hi with
  | 0, _ => exact ⟨b, 0, rfl, (k _).trans rfl, (k _).trans rfl, (k _).trans rfl, (k _).trans rfl⟩
  | 1, _ => exact ⟨b, 0, rfl, (k _).trans rfl, (k _).trans rfl, (k _).trans rfl, (k _).trans rfl⟩
theorem ev3_cells {W u : World} {b : Nat} (h : W.heap[b]? = some (.cells ev3C 42)) (hg : W.grownBy u none) : u.cell? ⟨b, 0, none⟩ = some (.int .i64 0) ∧ u.cell? ⟨b, 1, none⟩ = some (.int .i64 1) ∧ u.cell? ⟨b, 2, none⟩ = some (.int .i64 0) ∧ u.cell? ⟨b, 3, none⟩ = some (.int .i64 1) ∧
    u.cell? ⟨b, 8, none⟩ = some (.int .i64 0) ∧ u.cell? ⟨b, 9, none⟩ = some (.int .i64 2) ∧ u.cell? ⟨b, 10, none⟩ = some (.int .i64 0) ∧ u.cell? ⟨b, 11, none⟩ = some (.int .i64 1) := by
  have h2 := (hg.block b (Array.getElem?_eq_some_iff.1 h).1 (by simp)).trans h
  have k : ∀ j, u.cell? ⟨b, j, none⟩ = ev3C[j]? := fun j => cell_of_row u b j _ _ _ h2
  exact ⟨(k _).trans rfl, (k _).trans rfl, (k _).trans rfl, (k _).trans rfl, (k _).trans rfl, (k _).trans rfl, (k _).trans rfl, (k _).trans rfl⟩
theorem judged_all : jAll 2 [(0, 1, 0, 1), (0, 1, 1, 1), (0, 2, 0, 1)] = 0 ∧ jAny 2 [(0, 1, 0, 1), (0, 1, 1, 1), (0, 2, 0, 1)] = 1 := by decide

set_option maxHeartbeats 4000000 in
theorem judged_any {w : World} (hg : ErrVar w) : Calls Tryd.prog 13 #[] w fun e w' => e = .returned (.bool true) ∧ Below w.heap.size w w' := by
  have HB0 := Lib.hid ((Below.refl w.heap.size w).alloc (Nat.le_refl _) (.cells ev3C 42))
  have HA0 := Lib.hid (heap_alloc_new w (.cells ev3C 42))
  obtain ⟨W, hW⟩ : ∃ W, w.alloc (.cells ev3C 42) = W := ⟨_, rfl⟩
  rw [hW] at HB0 HA0
  have HW := Lib.hid hW
  have hlt := errVar_lt hg
  have HV := Lib.hid (errVar_below hg HB0.out hlt)
  clear hg hW hlt
  unfold ev3C at HW
  go_enter Tryd.func13, Tryd.ntmps13
  go_wp2_with fail
  rw [HW.out]
  refine (jrounds_any (some ⟨w.heap.size, 0, none⟩) 3 2 [(0, 1, 0, 1), (0, 1, 1, 1), (0, 2, 0, 1)] (by decide) (ev3_row HA0.out) (by decide) (by decide)).mono ?_
  rintro e u ⟨hb, ⟨-, rfl⟩ | ⟨c, i, v, hj, _, _⟩⟩
  case inr => rw [judged_1] at hj; cases hj
  rw [judged_all.1, judged_all.2]
  have hgu := grown_belJ hb
  have HU := Lib.hid (HB0.out.trans (hb.mono HB0.out.size))
  have HVu := Lib.hid (errVar_below HV.out (hb.mono (Nat.le_refl _)) (errVar_lt HV.out))
  have HA := Lib.hid ((hgu.block w.heap.size (Array.getElem?_eq_some_iff.1 HA0.out).1 (by simp)).trans HA0.out)
  have HS := Lib.hid (fun x (hx : u.grownBy x none) => ev3_cells HA.out hx)
  have HK1 := Lib.hid (fun x (hx : u.grownBy x none) => (jcheck_any (w := x) (some ⟨w.heap.size, 0, none⟩) 3 3 [(0, 1, 0, 1), (0, 1, 1, 1)] (by decide) ((ev3_row2 HA.out).grow hx) (by decide) (by decide)).mono (R' := fun e w' => e = .returned .nilIface ∧ u.grownBy w' none) (by
    rintro e x1 ⟨hb1, ⟨_, rfl⟩ | ⟨c, i, v, hj, _, _⟩⟩
    · exact ⟨rfl, hx.andThen (grown_belJ hb1) (by intro k hk; cases hk)⟩
    · rw [judged_2] at hj
      cases hj))
  have HE := Lib.hid (fun x (hx : u.grownBy x none) => (show ErrVar x from (World.cell?_of_block (a := ⟨0, 0, none⟩) (hx.block _ (errVar_lt HVu.out) (by simp))).trans HVu.out))
  have HK2 := Lib.hid (fun x (hx : u.grownBy x none) (b : Nat) (hb : x.heap[b]? = some (.cells ev2C 42)) => (jcheck_any (w := x) (some ⟨b, 0, none⟩) 2 2 [(0, 1, 0, 1), (0, 2, 0, 1)] (by decide) (ev2_row hb) (by decide) (by decide)).mono (R' := fun e w' => ∃ p, e = .returned (.iface 65 (.pointer (some ⟨p, 0, none⟩))) ∧ w'.heap[p]? = some (.cells #[.int .i64 (13 : Nat), .int .i64 (1 : Nat)] 67 (0, 0)) ∧ u.grownBy w' none) (by
    rintro e x2 ⟨hb2, ⟨hj, rfl⟩ | ⟨c, i, v, hj, rfl, p, rfl, hp1, hp2⟩⟩
    · rw [judged_3] at hj
      cases hj
    · rw [judged_3] at hj
      injection hj with hj
      injection hj with h1 h2
      subst h1 h2
      exact ⟨p, rfl, hp2, hx.andThen (grown_belJ hb2) (by intro k hk; cases hk)⟩))
  have HT := Lib.hid (fun x (p : Nat) (hx : u.grownBy x none) (hp : x.heap[p]? = some (.cells #[.int .i64 (13 : Nat), .int .i64 (1 : Nat)] 67 (0, 0))) => (tell_at ((13 : Nat) : Int) p x (HE.out x hx) (AtErr.cell hp (World.grownBy.refl _ none))).mono (R' := fun e w' => e = .returned (.int .i64 13) ∧ u.grownBy w' none) (by
    rintro e x4 ⟨rfl, h4⟩
    exact ⟨rfl, hx.andThen h4 (by intro k hk; cases hk)⟩))
  clear hb hgu HV HA0 HB0 HW
  go_wp2_with fail
  go_region_held3 (fun x => x.cell? ⟨w.heap.size, 0, none⟩ = some (.int .i64 0) ∧ x.cell? ⟨w.heap.size, 1, none⟩ = some (.int .i64 1) ∧ x.cell? ⟨w.heap.size, 2, none⟩ = some (.int .i64 0) ∧ x.cell? ⟨w.heap.size, 3, none⟩ = some (.int .i64 1) ∧ x.cell? ⟨w.heap.size, 8, none⟩ = some (.int .i64 0) ∧ x.cell? ⟨w.heap.size, 9, none⟩ = some (.int .i64 2) ∧ x.cell? ⟨w.heap.size, 10, none⟩ = some (.int .i64 0) ∧ x.cell? ⟨w.heap.size, 11, none⟩ = some (.int .i64 1)) (first | exact HS.out _ (by repeat (first | assumption | exact World.grownBy.refl _ none | refine grown_dJ ?_ | refine grown_aJ ?_ _))) (first
    | (go_at_call 10; (have hseen := hg1); clear hseen; refine (HK2.out _ (by repeat (first | assumption | exact World.grownBy.refl _ none | refine grown_dJ ?_ | refine grown_aJ ?_ _)) _ (heap_alloc_new _ _)).mono ?_; rintro e x2 ⟨p, rfl, hp2, hg2⟩)
    | (go_at_call 10; refine (HK1.out _ (by repeat (first | assumption | exact World.grownBy.refl _ none | refine grown_dJ ?_ | refine grown_aJ ?_ _))).mono ?_; rintro e x1 ⟨rfl, hg1⟩)
    | (go_at_call 30; (have hseen := hg2); clear hseen; refine (HT.out _ _ (by repeat (first | assumption | exact World.grownBy.refl _ none | refine grown_dJ ?_ | refine grown_aJ ?_ _)) hp2).mono ?_; rintro e x4 ⟨rfl, hg4⟩)
    | (go_at_call 30; refine (tell_nil _).mono ?_; rintro e x3 ⟨rfl, rfl⟩))
  all_goals
    have HF := Lib.hid (HU.out.grown hg4 HU.out.size (by intro k hk; cases hk))
    clear HK1 HK2 HE HT HS HA HVu hg4 hg2 hg1
    go_wp2
    go_ret
    exact ⟨rfl, by first | exact HF.out | exact HF.out.grown (grown_drewJ _ 1) HF.out.size (by intro k hk; cases hk)⟩
end Go.Proofs.YtoljmleomkkchaaDoor
