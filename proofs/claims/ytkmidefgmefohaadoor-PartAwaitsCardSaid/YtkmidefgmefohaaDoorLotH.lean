/-
  Waking those that sleep at a cell (Wake).
-/
import Derived.Test.YtkmidefgmefohaaDoorLotG
namespace Go.Proofs.YtkmidefgmefohaaDoor
set_option maxRecDepth 100000
open Go.RowKit Go.Shelf

/-- How many are woken. -/
def wakeN (n : Int) (T : List Int) : Nat := min n.toNat T.length

/-- Those that sleep on. -/
def rest (l : List (Int × Int)) (T : List Int) : List (Int × Int) := keepers (fun s => T.contains s.1) l

def Woke (B p : Nat) (nt : Int) (v : Value) (l : List (Int × Int)) (out : List Int) (w : World) (e : Ending) (w' : World) : Prop :=
  ∃ v' A c, e = .returned (.slice A out.length c) ∧ Ints .i64 w' w'.heap.size A out.length out ∧ Lot w' B p nt v' (rest l out) ∧ Keeps (fun k => k = p ∨ some k = v.ownBlock) w w' ∧ v'.ownBlock = v.ownBlock ∧ (0 < out.length → ∃ b off, A = some ⟨b, off, none⟩ ∧ w.heap.size ≤ b)

theorem Ints.take {k : IntKind} {w : World} {B n m : Nat} {A : Option Addr} {xs : List Int} (h : Ints k w B A n xs) (hm : m ≤ n) : Ints k w B A m (xs.take m) := by
  refine ⟨by rw [List.length_take, h.len]; omega, fun h0 => ?_⟩
  obtain ⟨b, off, rfl, hb, hc⟩ := h.row (by omega)
  refine ⟨b, off, rfl, hb, fun i hi => ?_⟩
  rw [hc i (by omega), List.getD_eq_getElem?_getD, List.getD_eq_getElem?_getD, List.getElem?_take, if_pos hi]

/-- What cutting a row, nil or not, to the sleepers r comes to. -/
def CutOwn (B : Nat) (v : Value) (r : List (Int × Int)) (w : World) (e : Ending) (w' : World) : Prop :=
  ∃ v', e = .returned v' ∧ w'.ownsRow B 107 2 v' r.length (cells2 r) ∧ w.grownBy w' v.ownBlock ∧ v'.ownBlock = v.ownBlock

theorem deleteFuncS_own {w : World} {B : Nat} {v : Value} {l : List (Int × Int)} (hown : w.ownsRow B 107 2 v l.length (cells2 l)) (p : Int × Int → Bool) (f : Nat) (lb : Array Value) (eg : ∀ args w, (callFunc f args).run Tryd.prog w = .ok (.enter f args) w) (hp : Pred f lb p w v.ownBlock) :
    Calls Tryd.prog 77 #[v, .func (.func f) #[] lb] w (CutOwn B v (keepers p l) w) := by
  have hown' := hown
  rcases hown.2 with ⟨rfl, e⟩ | ⟨g, cap, cur, rfl, _⟩
  · have hl : l = [] := List.eq_nil_of_length_eq_zero e
    subst hl
    refine (deleteFuncS_nil p f lb eg hp).mono ?_
    rintro e w' ⟨rfl, hg⟩
    exact ⟨_, rfl, World.ownsRow_nil _ _ _ _, hg, rfl⟩
  · refine (deleteFuncS_any hown' p f lb eg hp).mono ?_
    rintro e w' ⟨rfl, h1, h2⟩
    exact ⟨_, rfl, h1, h2, rfl⟩

theorem wakeN_cases (n : Int) (T : List Int) : (n < 0 ∧ wakeN n T = 0) ∨ (¬ n < 0 ∧ n ≤ (T.length : Int) ∧ wakeN n T = n.toNat) ∨ (¬ n < 0 ∧ ¬ n ≤ (T.length : Int) ∧ wakeN n T = T.length) := by
  unfold wakeN
  omega

set_option maxHeartbeats 1000000 in
theorem wake_any {w : World} {B p : Nat} {nt : Int} {v : Value} {l : List (Int × Int)} (h : Lot w B p nt v l) (hsmall : l.length ≤ 1000) (c n : Int) :
    Calls Tryd.prog 68 #[.pointer (some ⟨p, 0, none⟩), .int .i64 c, .int .i64 n] w (Woke B p nt v l ((threadsAt l c).take (wakeN n (threadsAt l c))) w) := by
  have hat := at_any h hsmall c
  have hTl := threadsAt_length l c
  have hvlt : ∀ k, v.ownBlock = some k → k < w.heap.size := fun k hk => (h.own.lt k hk).2
  have hplt := h.lt
  obtain ⟨T, hT⟩ : ∃ T, threadsAt l c = T := ⟨_, rfl⟩
  rw [hT] at hat hTl ⊢
  have eg : ∀ args w, (callFunc 78 args).run Tryd.prog w = .ok (.enter 78 args) w := enters_of Tryd.func78 (by kernel_rfl) rfl
  obtain ⟨Av, cv, hvv⟩ := slice_of_own2 h.own
  have HVV := Lib.hid hvv
  have HA := Lib.hid hat
  have H := Lib.hid h
  have HV := Lib.hid hvlt
  have hmT : wakeN n T ≤ T.length := by unfold wakeN; omega
  have hcases := wakeN_cases n T
  obtain ⟨m, hm⟩ : ∃ m, wakeN n T = m := ⟨_, rfl⟩
  rw [hm] at hcases hmT ⊢
  obtain ⟨O, hO⟩ : ∃ O, T.take m = O := ⟨_, rfl⟩
  have hml : O.length = m := by rw [← hO, List.length_take]; omega
  rw [hO]
  have OO := Lib.hid hO
  have ML := Lib.hid hml
  clear hO hml
  -- what happens behind the two calls, for whatever number that is woken
  have key : ∀ (w1 : World) (A : Option Addr) (c1 : Nat), w1.ownsRow w.heap.size 3 1 (.slice A T.length c1) T.length (T.map (Value.int .i64)) → w.grownBy w1 none →
      Calls Tryd.prog 77 #[v, .func (.func 78) #[] #[.pointer (some ⟨w1.heap.size, 0, none⟩)]] (w1.alloc (.cells #[.slice A m c1] 46)) (CutOwn B v (rest l O) (w1.alloc (.cells #[.slice A m c1] 46))) := by
    intro w1 A c1 hown1 hg1
    have h1 := (H.out.grow hg1).grow (World.grownBy_alloc w1 (.cells #[.slice A m c1] 46) none)
    refine deleteFuncS_own h1.own _ 78 _ eg ?_
    intro W s hgW
    have hsz := hg1.size
    have hb := hgW.block w1.heap.size (by simp) (fun e => by have := HV.out _ e.symm; omega)
    have hcell : W.cell? ⟨w1.heap.size, 0, none⟩ = some (.slice A m c1) := (World.cell?_of_block (a := ⟨w1.heap.size, 0, none⟩) hb).trans (by simp)
    have hownW := (hown1.alloc (.cells #[.slice A m c1] 46)).kept hgW (by
      rcases A with _ | a
      · exact .inl rfl
      · refine .inr (fun e => ?_)
        have h1 := (hown1.lt a.block rfl).1
        have h2 := HV.out a.block e.symm
        omega)
    have hI : Ints .i64 W W.heap.size A m O := by rw [← OO.out]; exact (Ints.of_own hownW).take hmT
    exact wakec_any w1.heap.size A m c1 _ _ s W hcell hI (Nat.le_refl _) (by omega)
  have KEY := Lib.hid key
  -- and behind them
  have fin : ∀ (w1 w2 : World) (A : Option Addr) (c1 : Nat) (v' : Value), w1.ownsRow w.heap.size 3 1 (.slice A T.length c1) T.length (T.map (Value.int .i64)) → w.grownBy w1 none →
      w2.ownsRow B 107 2 v' (rest l O).length (cells2 (rest l O)) → (w1.alloc (.cells #[.slice A m c1] 46)).grownBy w2 v.ownBlock → v'.ownBlock = v.ownBlock →
      w2.cell? ⟨p, 1, none⟩ = some v ∧ w2.frozen? ⟨p, 1, none⟩ = false ∧ (w2.setCell ⟨p, 1, none⟩ v').cell? ⟨w1.heap.size, 0, none⟩ = some (.slice A m c1) ∧
      Woke B p nt v l O w (.returned (.slice A m c1)) (w2.setCell ⟨p, 1, none⟩ v') := by
    intro w1 w2 A c1 v' hown1 hg1 hown2 hg2 hvo
    have hsz := hg1.size
    have hsz2 := hg2.size
    have h1 := (H.out.grow hg1).grow (World.grownBy_alloc w1 (.cells #[.slice A m c1] 46) none)
    have hat2 := (hg2.block p h1.lt (fun e => H.out.apart e.symm)).trans h1.at_
    have hL := Lot.put hat2 h1.lo hown2
    have hwb : w2.heap[w1.heap.size]? = some (.cells #[.slice A m c1] 46 (0, 0)) := (hg2.block w1.heap.size (by simp) (fun e => by have := HV.out _ e.symm; omega)).trans (heap_alloc_new w1 _)
    have hml := ML.out
    refine ⟨by rw [cell_of_row w2 p 1 _ _ _ hat2]; rfl, frozen_of_row w2 p 1 _ _ hat2, ?_, v', A, c1, by rw [hml], ?_, hL, ?_, hvo, fun h0 => by
      obtain ⟨g, cap, hv, hb, _⟩ := hown1.form (by omega : 0 < T.length)
      injection hv with hv1
      exact ⟨g, 0, hv1, hb⟩⟩
    · rw [World.cell?_setCell_other _ _ _ _ (by intro e; injection e with e; omega), cell_of_row w2 _ 0 _ _ _ hwb]
      rfl
    · rw [hml]
      have hown2' := (hown1.alloc (.cells #[.slice A m c1] 46)).kept hg2 (by
        rcases A with _ | a
        · exact .inl rfl
        · refine .inr (fun e => ?_)
          have h1 := (hown1.lt a.block rfl).1
          have h2 := HV.out a.block e.symm
          omega)
      have hne : (Value.slice A T.length c1).ownBlock ≠ some p := by
        rcases A with _ | a
        · simp [Value.ownBlock]
        · intro e
          have h1 := (hown1.lt p e).1
          omega
      rw [← OO.out]
      exact (Ints.of_own (ownsRow_setCell_other hown2' (a := ⟨p, 1, none⟩) hne v')).take hmT
    · exact (((Keeps.of_grown hg1 (by intro k hk; cases hk)).trans (Keeps.of_grown (World.grownBy_alloc w1 (.cells #[.slice A m c1] 46) none) (by intro k hk; cases hk))).trans (Keeps.of_grown hg2 (fun k hk => .inr hk.symm))).setCell _ (.inl rfl) _
  have FIN := Lib.hid fin
  clear hat h hT key fin hvlt hvv eg
  have hvv := HVV.out
  clear HVV
  subst hvv
  rcases hcases with ⟨hn0, hmv⟩ | ⟨hn0, hn1, hmv⟩ | ⟨hn0, hn1, hmv⟩
  all_goals
    subst hmv
    go_enter Tryd.func68, Tryd.ntmps68
    go_wp2_with fail
    refine HA.out.mono ?_
    rintro e w1 ⟨v1, rfl, hown1, hg1⟩
    obtain ⟨A, c1, rfl⟩ := slice_of_own2 hown1
    have hlc : T.length ≤ c1 := by
      rcases hown1.2 with ⟨e, e2⟩ | ⟨_, _, _, e, _, _, h1, _⟩
      · omega
      · injection e with _ _ e; omega
    have h1 := H.out.grow hg1
    obtain ⟨_, hcell, _⟩ := h1.cells
    have hplt1 := h1.lt
    have hp1 : p ≠ w1.heap.size := by omega
    have HO := Lib.hid hown1
    have HG := Lib.hid hg1
    clear h1 hown1 hg1
    go_wp2_with fail
    refine (KEY.out w1 A c1 HO.out HG.out).mono ?_
    rintro e w2 ⟨v', rfl, hown2, hg2, hvo⟩
    obtain ⟨f1, f2, f3, f4⟩ := FIN.out w1 w2 A c1 v' HO.out HG.out hown2 hg2 hvo
    obtain ⟨A2, c2, rfl⟩ := slice_of_own2 hown2
    have F4 := Lib.hid f4
    clear hown2 hg2 hvo f4 hcell
    go_wp2
    go_ret
    exact F4.out
end Go.Proofs.YtkmidefgmefohaaDoor
