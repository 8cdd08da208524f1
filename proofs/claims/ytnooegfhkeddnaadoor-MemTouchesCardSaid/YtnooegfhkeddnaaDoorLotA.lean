/-
  Lots that are only asked: find, has, Cell, At; and a new one.
-/
import Derived.Test.YtnooegfhkeddnaaDoorLot
import Derived.Shelf.Abstract
namespace Go.Proofs.YtnooegfhkeddnaaDoor
set_option maxRecDepth 100000
open Go.RowKit Go.Shelf

/-- At which place thread t sleeps, or -1. -/
def isThread (t : Int) : Int × Int → Bool := fun s => s.1 == t

theorem findc_any (t : Int) (b : Nat) (s : Int × Int) (W : World) (hc : W.cell? ⟨b, 0, none⟩ = some (.int .i64 t)) :
    Calls Tryd.prog 56 #[.agg #[.int .i64 s.1, .int .i64 s.2], .pointer (some ⟨b, 0, none⟩)] W fun e w' => e = .returned (.bool (isThread t s)) ∧ W.grownBy w' none := by
  have hb : b < W.heap.size := World.block_lt_of_cell? W _ hc
  have hne : b ≠ W.heap.size := by omega
  have hd : isThread t s = (s.1 == t) := rfl
  obtain ⟨r, hr⟩ : ∃ r, isThread t s = r := ⟨_, rfl⟩
  rw [hr] at hd ⊢
  rcases s with ⟨s1, s2⟩
  clear hr
  have hd' : (s1 == t) = r := hd.symm
  clear hd
  cases r
  all_goals
    go_enter Tryd.func56, Tryd.ntmps56
    go_wp2
    go_ret
    exact ⟨rfl, World.grownBy_alloc _ _ _⟩

set_option maxHeartbeats 400000 in
theorem find_any {w : World} {B p : Nat} {nt : Int} {v : Value} {l : List (Int × Int)} (h : Lot w B p nt v l) (t : Int) :
    Calls Tryd.prog 40 #[.pointer (some ⟨p, 0, none⟩), .int .i64 t] w (Found (isThread t) l w) := by
  have eg : ∀ args w, (callFunc 56 args).run Tryd.prog w = .ok (.enter 56 args) w := enters_of Tryd.func56 (by kernel_rfl) rfl
  have hg0 := World.grownBy_alloc w (.cells #[.int .i64 t] 3) none
  have h1 := h.grow hg0
  have hp : Pred 56 #[.pointer (some ⟨w.heap.size, 0, none⟩)] (isThread t) (w.alloc (.cells #[.int .i64 t] 3)) none := by
    intro W s hg
    refine findc_any t w.heap.size s W ?_
    have hb := hg.block w.heap.size (by simp) (by simp)
    exact (World.cell?_of_block (a := ⟨w.heap.size, 0, none⟩) hb).trans (by simp)
  have hI := indexFuncS_any h1.row2 (isThread t) 56 _ eg none hp
  unfold Found at hI ⊢
  generalize firstAt (isThread t) l 0 = r at hI ⊢
  have hc := h.cells
  obtain ⟨hc0, hc1, _⟩ := hc
  have hplt := h.lt
  have hpne : p ≠ w.heap.size := by omega
  obtain ⟨A, c, rfl⟩ : ∃ A c, v = .slice A l.length c := by
    rcases h.own.2 with ⟨rfl, e⟩ | ⟨g, cap, cur, rfl, _⟩
    · exact ⟨none, 0, by rw [e]⟩
    · exact ⟨_, _, rfl⟩
  have HI := Lib.hid hI
  have H0 := Lib.hid hg0
  clear h h1 hp hI eg hg0
  go_enter Tryd.func40, Tryd.ntmps40
  go_wp2_with fail
  refine HI.out.mono ?_
  rintro e w' ⟨rfl, hg'⟩
  have hg2 := H0.out.andThen hg' (by intro j hj; cases hj)
  clear HI H0 hg' hc0 hc1
  go_wp2
  go_ret
  exact ⟨rfl, hg2⟩

theorem has_yes {w : World} {B p : Nat} {nt : Int} {v : Value} {l : List (Int × Int)} (h : Lot w B p nt v l) (t : Int) (h0 : 0 ≤ t) (h1 : t < nt) :
    Calls Tryd.prog 39 #[.pointer (some ⟨p, 0, none⟩), .int .i64 t] w fun e w' => e = .returned (.bool true) ∧ w = w' := by
  obtain ⟨hc0, _, _⟩ := h.cells
  clear h
  go_enter Tryd.func39, Tryd.ntmps39
  go_wp2
  go_ret
  exact ⟨rfl, rfl⟩

theorem has_no {w : World} {B p : Nat} {nt : Int} {v : Value} {l : List (Int × Int)} (h : Lot w B p nt v l) (t : Int) (ht : t < 0 ∨ nt ≤ t) :
    Calls Tryd.prog 39 #[.pointer (some ⟨p, 0, none⟩), .int .i64 t] w fun e w' => e = .returned (.bool false) ∧ w = w' := by
  obtain ⟨hc0, _, _⟩ := h.cells
  clear h
  rcases Int.lt_or_le t 0 with h0 | h0
  · have h0' : ¬ 0 ≤ t := by omega
    go_enter Tryd.func39, Tryd.ntmps39
    go_wp2
    go_ret
    exact ⟨rfl, rfl⟩
  · have h1 : ¬ t < nt := by omega
    clear ht
    go_enter Tryd.func39, Tryd.ntmps39
    go_wp2
    go_ret
    exact ⟨rfl, rfl⟩

/-- What a call that makes a lot comes to. -/
def MadeLot (w : World) (nt : Int) (e : Ending) (w' : World) : Prop :=
  ∃ p v, e = .returned (.tuple #[.pointer (some ⟨p, 0, none⟩), .nilIface]) ∧ Lot w' w.heap.size p nt v [] ∧ w.grownBy w' none

theorem pnew_ok {w : World} (n : Int) (h0 : 0 ≤ n) (h1 : n ≤ 16) : Calls Tryd.prog 18 #[.int .i64 n] w (MadeLot w n) := by
  have h0' : ¬ n < 0 := by omega
  have h1' : ¬ 16 < n := by omega
  have hL : Lot (w.alloc (.cells #[.int .i64 n, .slice none 0 0] 82)) w.heap.size w.heap.size n (.slice none 0 0) [] := ⟨heap_alloc_new w _, World.ownsRow_nil _ _ _ _, Nat.le_refl _⟩
  have HL := Lib.hid hL
  clear hL
  go_enter Tryd.func18, Tryd.ntmps18
  go_wp2
  go_ret2
  exact ⟨w.heap.size, _, rfl, HL.out, World.grownBy_alloc _ _ _⟩

/-- What thread t is at: its cell, or -1. -/
def cellOf (l : List (Int × Int)) (t : Int) : Int := ((l.find? (isThread t)).map (·.2)).getD (-1)

theorem firstAt_cases (p : Int × Int → Bool) (l : List (Int × Int)) : (firstAt p l 0 = -1 ∧ ∀ s ∈ l, p s = false) ∨ ∃ k, k < l.length ∧ firstAt p l 0 = (k : Int) ∧ p (l.getD k default) = true ∧ l.find? p = some (l.getD k default) ∧ ∀ j, j < k → p (l.getD j default) = false := by
  induction l with
  | nil => exact .inl ⟨rfl, fun s hs => by cases hs⟩
  | cons s l ih =>
    cases hp : p s with
    | true => exact .inr ⟨0, by simp, by simp [firstAt, hp], hp, by simp [List.find?, hp], fun j hj => absurd hj (Nat.not_lt_zero _)⟩
    | false =>
      rcases ih with ⟨_, h2⟩ | ⟨k, hk, _, h3, h4, h5⟩
      · exact .inl ⟨firstAt_miss p _ 0 (fun t ht => by
          rcases List.mem_cons.1 ht with rfl | ht
          · exact hp
          · exact h2 t ht), fun t ht => by
          rcases List.mem_cons.1 ht with rfl | ht
          · exact hp
          · exact h2 t ht⟩
      · refine .inr ⟨k + 1, by simpa using hk, ?_, h3, ?_, ?_⟩
        · have hall : ∀ j, j < k + 1 → p ((s :: l).getD j default) = false := fun j hj => by
            rcases j with _ | j
            · exact hp
            · exact h5 j (by omega)
          have := firstAt_hit p (s :: l) 0 (k + 1) (by simpa using hk) h3 hall
          rw [this, Nat.zero_add]
        · simp only [List.find?, hp]
          exact h4
        · intro j hj
          rcases j with _ | j
          · exact hp
          · exact h5 j (by omega)

set_option maxHeartbeats 400000 in
theorem cell_any {w : World} {B p : Nat} {nt : Int} {v : Value} {l : List (Int × Int)} (h : Lot w B p nt v l) (t : Int) :
    Calls Tryd.prog 27 #[.pointer (some ⟨p, 0, none⟩), .int .i64 t] w (Told1 (cellOf l t) w) := by
  have hf := find_any h t
  rcases firstAt_cases (isThread t) l with ⟨e1, hall⟩ | ⟨k, hk, e1, _, hfind, _⟩
  · unfold Found at hf
    rw [e1] at hf
    have hn : cellOf l t = -1 := by
      unfold cellOf
      rw [List.find?_eq_none.2 (fun s hs => by rw [hall s hs]; simp)]
      rfl
    rw [hn]
    have HF := Lib.hid hf
    clear hf h e1 hall hn
    go_enter Tryd.func27, Tryd.ntmps27
    go_wp2_with fail
    refine HF.out.mono ?_
    rintro e w' ⟨rfl, hg⟩
    go_wp2
    go_ret
    exact ⟨rfl, hg⟩
  · unfold Found at hf
    rw [e1] at hf
    have hn : cellOf l t = (l.getD k default).2 := by
      unfold cellOf
      rw [hfind]
      rfl
    rw [hn]
    have HF := Lib.hid hf
    have H := Lib.hid h
    have hx2 := (cells2_at l k hk).2
    generalize (l.getD k default).2 = r at hx2 ⊢
    have HX2 := Lib.hid hx2
    clear hx2
    obtain ⟨n, hnl⟩ : ∃ n, l.length = n := ⟨_, rfl⟩
    obtain ⟨g, cap, rfl, _, _, _, _⟩ := h.form hk
    have HN := Lib.hid hnl
    have hlen : l.length ≤ 9223372036854775807 := h.row2.len
    rw [hnl] at hk hlen
    have hkn : (k : Int) < (n : Int) := by omega
    clear hf h e1 hn hfind hnl
    go_enter Tryd.func27, Tryd.ntmps27
    go_wp2_with fail
    refine HF.out.mono ?_
    rintro e w' ⟨rfl, hg⟩
    have h' := H.out.grow hg
    obtain ⟨_, hc1, _⟩ := h'.cells
    have hx := (h'.own.cellAt (k * 2 + 1) (by rw [HN.out]; omega)).trans HX2.out
    rw [HN.out] at hc1
    have HG := Lib.hid hg
    clear h' hg HF H
    go_wp2
    go_ret
    exact ⟨rfl, HG.out⟩
end Go.Proofs.YtnooegfhkeddnaaDoor
