/-
  Lots: falling asleep (Sleep).
-/
import Derived.Test.YtnooegfhkeddnaaDoorLotB
namespace Go.Proofs.YtnooegfhkeddnaaDoor
set_option maxRecDepth 100000
open Go.RowKit Go.Shelf

theorem infoSl : (Tryd.prog.info? 87).map (fun i => (i.zero, i.size, i.bytes)) = some (some (.agg #[.int .i64 0, .int .i64 0]), 2, 16) := by kernel_rfl

/-- The lot behind a store of its slice. -/
theorem Lot.put {w : World} {B p : Nat} {nt : Int} {v v' : Value} {l : List (Int × Int)} (hat : w.heap[p]? = some (.cells #[.int .i64 nt, v] 82 (0, 0))) (hlo : B ≤ p) (hown : w.ownsRow B 87 2 v' l.length (cells2 l)) :
    Lot (w.setCell ⟨p, 1, none⟩ v') B p nt v' l := by
  have hne : v'.ownBlock ≠ some p := by
    rcases hown.2 with ⟨rfl, _⟩ | ⟨g, cap, cur, rfl, _, hh, _⟩
    · simp [Value.ownBlock]
    · intro he
      obtain rfl : g = p := by simpa [Value.ownBlock] using he
      rw [hh] at hat
      injection hat with hat
      injection hat with _ ht
      exact absurd ht (by decide)
  refine ⟨?_, ownsRow_setCell_other hown (a := ⟨p, 1, none⟩) hne v', hlo⟩
  have := heap_setCell_same w p 1 _ _ v' hat
  simpa using this

/-- Threads that sleep. -/
def sleeps (l : List (Int × Int)) (t : Int) : Prop := ∃ s ∈ l, isThread t s = true

def SleptNew (B p : Nat) (nt : Int) (l : List (Int × Int)) (t c : Int) (w : World) (e : Ending) (w' : World) : Prop :=
  ∃ v', e = .returned .nilIface ∧ Lot w' B p nt v' (l ++ [(t, c)]) ∧ Below B w w'

def SleptNew2 (B p : Nat) (nt : Int) (v : Value) (l : List (Int × Int)) (t c : Int) (w : World) (e : Ending) (w' : World) : Prop :=
  ∃ v', e = .returned .nilIface ∧ Lot w' B p nt v' (l ++ [(t, c)]) ∧ Below B w w' ∧ ∀ k, k < w.heap.size → k ≠ p → some k ≠ v.ownBlock → w'.heap[k]? = w.heap[k]?

set_option maxHeartbeats 400000 in
theorem sleep_new2 {w : World} {B p : Nat} {nt : Int} {v : Value} {l : List (Int × Int)} (h : Lot w B p nt v l) (hB : B ≤ w.heap.size) (hsmall : l.length ≤ 1000) (t c : Int) (ht0 : 0 ≤ t) (ht1 : t < nt) (hc0 : 0 ≤ c) (hc1 : c < 300) (hs : ∀ s ∈ l, isThread t s = false) :
    Calls Tryd.prog 20 #[.pointer (some ⟨p, 0, none⟩), .int .i64 t, .int .i64 c] w (SleptNew2 B p nt v l t c w) := by
  obtain ⟨i0, hi, hz0, hz1, hz2⟩ := info_parts infoSl
  have hh := has_yes h t ht0 ht1
  have hf := find_any h t
  unfold Found at hf
  rw [firstAt_miss _ _ _ hs] at hf
  have hlv := slice_of_own2 h.own
  obtain ⟨A, cap, rfl⟩ := hlv
  have H := Lib.hid h
  have HH := Lib.hid hh
  have HF := Lib.hid hf
  have h1c : ∀ u ∈ [Value.int .i64 t, Value.int .i64 c], u.oneCell' = true := by
    intro u hu
    simp only [List.mem_cons, List.not_mem_nil, or_false] at hu
    rcases hu with rfl | rfl <;> rfl
  have H1C := Lib.hid h1c
  have hc0' : ¬ c < 0 := by omega
  have hc1' : ¬ 300 ≤ c := by omega
  clear h hh hf hs h1c hc0 hc1
  go_enter Tryd.func20, Tryd.ntmps20
  go_wp2_with fail
  refine HH.out.mono ?_
  rintro e w1 ⟨rfl, rfl⟩
  go_wp2_with fail
  refine HF.out.mono ?_
  rintro e w1 ⟨rfl, hg⟩
  have h1 := H.out.grow hg
  obtain ⟨_, hcell, hfz⟩ := h1.cells
  have hbel := (Below.refl B w).grown hg hB (by intro k hk; cases hk)
  have H1 := Lib.hid h1
  have HB := Lib.hid hbel
  have hp1 : p ≠ w1.heap.size := by have := h1.lt; omega
  have HGK := Lib.hid hg
  clear h1 hg H HH HF hbel
  go_wp2_with (at_builtin; refine wpList_append_own _ rfl (.tmp 29) (.tmp 33) 80 rfl B 87 i0 (.agg #[.int .i64 0, .int .i64 0]) 2 16 Tryd.underlying80 hi hz0 hz1 hz2 rfl (by decide) _ l.length (cells2 l) rfl ?hown ⟨w1.heap.size, 0, none⟩ 1 1 [.int .i64 t, .int .i64 c] rfl rfl ?c1 H1C.out ?c3 ?c4 ?c5 ?_)
  case hown => exact H1.out.own.alloc _
  case c1 => exact World.news_of_block (cs := #[.int .i64 t, .int .i64 c]) (heap_alloc_new w1 _)
  case c3 => unfold maxLen; omega
  case c4 => omega
  case c5 => have := HB.out.size; simp; omega
  intro v' w2 hown2 hg2 _
  obtain ⟨A2, cap2, rfl⟩ := slice_of_own2 hown2
  have hap := H1.out.apart
  have hat2 : w2.heap[p]? = some (.cells #[.int .i64 nt, .slice A l.length cap] 82 (0, 0)) :=
    (hg2.block p (by have := H1.out.lt; simp; omega) (fun e => hap e.symm)).trans ((Below.heap_alloc w1 _ p H1.out.lt).trans H1.out.at_)
  have hown2' : w2.ownsRow B 87 2 (.slice A2 (l.length + 1) cap2) (l ++ [(t, c)]).length (cells2 (l ++ [(t, c)])) := by
    rw [cells2_append, List.length_append]
    exact hown2
  have hL := Lot.put hat2 H1.out.lo hown2'
  have hcell2 : w2.cell? ⟨p, 1, none⟩ = some (.slice A l.length cap) := by rw [cell_of_row w2 p 1 _ _ _ hat2]; rfl
  have hfz2 : w2.frozen? ⟨p, 1, none⟩ = false := frozen_of_row w2 p 1 _ _ hat2
  have hbel2 : Below B w (w2.setCell ⟨p, 1, none⟩ (.slice A2 (l.length + 1) cap2)) :=
    ((HB.out.alloc (Nat.le_trans hB HB.out.size) _).grown hg2 (by have := HB.out.size; simp; omega) (fun k hk => (H1.out.own.lt k hk).1)).setCell (p := ⟨p, 1, none⟩) H1.out.lo _
  have HL := Lib.hid hL
  have HB2 := Lib.hid hbel2
  have HKK := Lib.hid (show ∀ k, k < w.heap.size → k ≠ p → some k ≠ (Value.slice A l.length cap).ownBlock → (w2.setCell ⟨p, 1, none⟩ (.slice A2 (l.length + 1) cap2)).heap[k]? = w.heap[k]? from fun k hk h1 h2 => by
    have hs1 := HGK.out.size
    exact (heap_setCell_other w2 ⟨p, 1, none⟩ k _ h1).trans ((hg2.block k (by simp; omega) h2).trans ((Below.heap_alloc w1 _ k (by omega)).trans (HGK.out.block k hk (by simp)))))
  clear hL hbel2 hown2 hown2' hg2 hat2 hap hcell hfz HGK
  go_wp2
  go_ret
  exact ⟨_, rfl, HL.out, HB2.out, HKK.out⟩

theorem sleep_new {w : World} {B p : Nat} {nt : Int} {v : Value} {l : List (Int × Int)} (h : Lot w B p nt v l) (hB : B ≤ w.heap.size) (hsmall : l.length ≤ 1000) (t c : Int) (ht0 : 0 ≤ t) (ht1 : t < nt) (hc0 : 0 ≤ c) (hc1 : c < 300) (hs : ∀ s ∈ l, isThread t s = false) :
    Calls Tryd.prog 20 #[.pointer (some ⟨p, 0, none⟩), .int .i64 t, .int .i64 c] w (SleptNew B p nt l t c w) :=
  (sleep_new2 h hB hsmall t c ht0 ht1 hc0 hc1 hs).mono fun _ _ ⟨v', h1, h2, h3, _⟩ => ⟨v', h1, h2, h3⟩

/-- A call that tells an error, or none, and makes no more than blocks. -/
def ToldErr (v : Value) (w : World) (e : Ending) (w' : World) : Prop := e = .returned v ∧ w.grownBy w' none

set_option maxHeartbeats 400000 in
theorem sleep_twice {w : World} {B p : Nat} {nt : Int} {v : Value} {l : List (Int × Int)} (h : Lot w B p nt v l) (t c : Int) (ht0 : 0 ≤ t) (ht1 : t < nt) (hc0 : 0 ≤ c) (hc1 : c < 300) (hs : sleeps l t) :
    Calls Tryd.prog 20 #[.pointer (some ⟨p, 0, none⟩), .int .i64 t, .int .i64 c] w (ToldErr (.iface 30 (.int .i64 6)) w) := by
  have hh := has_yes h t ht0 ht1
  have hf := find_any h t
  unfold Found at hf
  obtain ⟨k, hk⟩ : ∃ k : Nat, firstAt (isThread t) l 0 = (k : Int) := by
    rcases firstAt_cases (isThread t) l with ⟨_, hall⟩ | ⟨k, _, e, _⟩
    · obtain ⟨s, hm, he⟩ := hs
      rw [hall s hm] at he
      cases he
    · exact ⟨k, e⟩
  rw [hk] at hf
  have HH := Lib.hid hh
  have HF := Lib.hid hf
  have hc0' : ¬ c < 0 := by omega
  have hc1' : ¬ 300 ≤ c := by omega
  have hk0 : (0 : Int) ≤ (k : Int) := by omega
  clear h hh hf hs hc0 hc1 hk
  go_enter Tryd.func20, Tryd.ntmps20
  go_wp2_with fail
  refine HH.out.mono ?_
  rintro e w1 ⟨rfl, rfl⟩
  go_wp2_with fail
  refine HF.out.mono ?_
  rintro e w1 ⟨rfl, hg⟩
  have HG := Lib.hid hg
  clear HH HF hg
  go_wp2
  go_ret
  exact ⟨rfl, HG.out⟩

set_option maxHeartbeats 400000 in
theorem sleep_range {w : World} {B p : Nat} {nt : Int} {v : Value} {l : List (Int × Int)} (h : Lot w B p nt v l) (t c : Int) (hr : t < 0 ∨ nt ≤ t ∨ c < 0 ∨ 300 ≤ c) :
    Calls Tryd.prog 20 #[.pointer (some ⟨p, 0, none⟩), .int .i64 t, .int .i64 c] w (ToldErr (.iface 30 (.int .i64 2)) w) := by
  by_cases ht : t < 0 ∨ nt ≤ t
  · have HH := Lib.hid (has_no h t ht)
    clear h hr ht
    go_enter Tryd.func20, Tryd.ntmps20
    go_wp2_with fail
    refine HH.out.mono ?_
    rintro e w1 ⟨rfl, rfl⟩
    go_wp2
    go_ret
    exact ⟨rfl, World.grownBy.refl _ _⟩
  · have HH := Lib.hid (has_yes h t (by omega) (by omega))
    have hcc : c < 0 ∨ ¬ c < 0 ∧ 300 ≤ c := by omega
    clear h hr ht
    rcases hcc with hc | ⟨hc, hc2⟩
    all_goals
      go_enter Tryd.func20, Tryd.ntmps20
      go_wp2_with fail
      refine HH.out.mono ?_
      rintro e w1 ⟨rfl, rfl⟩
      go_wp2
      go_ret
      exact ⟨rfl, World.grownBy.refl _ _⟩
end Go.Proofs.YtnooegfhkeddnaaDoor
