/-
  Package phaser: what comes of a call.
-/
import Derived.Test.YtaklikgdlalhdabPkCode
import Derived.Test.YtaklikgdlalhdabKPhaser
namespace Go.Proofs.Ytaklikgdlalhdab
open Go.RowKit
set_option linter.unusedVariables false
set_option linter.unusedSimpArgs false

theorem phNewTwo (w : World) (o : Bool) (f p q : Int) : Below w.heap.size w ((w.alloc (.cells #[.bool o, .int .i64 f, .int .i64 p, .int .i64 q] 23)).alloc (.cells #[.bool false, .int .i64 0, .int .i64 0, .int .i64 0] 23)) :=
  ((Below.refl w.heap.size w).alloc (Nat.le_refl _) _).alloc (by simp) _

/-! goOn. -/
theorem goOn_zero (o : Bool) (f q : Int) (w : World) : Calls Try.prog 20 #[.agg #[.bool o, .int .i64 f, .int .i64 0, .int .i64 q]] w fun e w' => e = .returned (.agg #[.bool true, .int .i64 f, .int .i64 0, .int .i64 q]) ∧ Below w.heap.size w w' := by
  go_enter Try.func20, Try.ntmps20
  go_wp2
  --MA
  exact bodyPost_ret ((PhAt.new2 _ _ true f 0 q).res1 (fn := Try.f20) (p0 := 2) (by kernel_rfl) _ (by rfl)) rfl ⟨rfl, ((Below.refl w.heap.size w).alloc (Nat.le_refl _) _).alloc (by simp) _⟩
theorem goOn_top (o : Bool) (p q : Int) (w : World) (hp : 1 ≤ p) : Calls Try.prog 20 #[.agg #[.bool o, .int .i64 2147483647, .int .i64 p, .int .i64 q]] w fun e w' => e = .returned (.agg #[.bool o, .int .i64 0, .int .i64 p, .int .i64 p]) ∧ Below w.heap.size w w' := by
  have hp0 : (p == 0) = false := by simp; omega
  clear hp
  go_enter Try.func20, Try.ntmps20
  go_wp2
  --MB
  exact bodyPost_ret ((PhAt.new2 _ _ o 0 p p).res1 (fn := Try.f20) (p0 := 2) (by kernel_rfl) _ (by rfl)) rfl ⟨rfl, ((Below.refl w.heap.size w).alloc (Nat.le_refl _) _).alloc (by simp) _⟩
theorem goOn_up (o : Bool) (f p q : Int) (w : World) (hp : 1 ≤ p) (h0 : 0 ≤ f) (h1 : f < 2147483647) : Calls Try.prog 20 #[.agg #[.bool o, .int .i64 f, .int .i64 p, .int .i64 q]] w fun e w' => e = .returned (.agg #[.bool o, .int .i64 (f + 1), .int .i64 p, .int .i64 p]) ∧ Below w.heap.size w w' := by
  have hp0 : (p == 0) = false := by simp; omega
  have hf0 : (f == 2147483647) = false := by simp; omega
  clear hp
  go_enter Try.func20, Try.ntmps20
  go_wp2
  --MC
  exact bodyPost_ret ((PhAt.new2 _ _ o (f + 1) p p).res1 (fn := Try.f20) (p0 := 2) (by kernel_rfl) _ (by rfl)) rfl ⟨rfl, ((Below.refl w.heap.size w).alloc (Nat.le_refl _) _).alloc (by simp) _⟩
theorem goOn_any (o : Bool) (f p : Int) (w : World) (hf : 0 ≤ f ∧ f ≤ 2147483647) (hp : 0 ≤ p) {o' : Bool} {f' p' q' : Int} (hx : phTurn ⟨o, f, p, 0⟩ = ⟨o', f', p', q'⟩) :
    Calls Try.prog 20 #[.agg #[.bool o, .int .i64 f, .int .i64 p, .int .i64 0]] w fun e w' => e = .returned (.agg #[.bool o', .int .i64 f', .int .i64 p', .int .i64 q']) ∧ Below w.heap.size w w' := by
  unfold phTurn at hx
  rw [if_pos rfl] at hx
  by_cases h0 : p = 0
  · rw [if_pos h0] at hx
    simp only [PhS.mk.injEq] at hx
    obtain ⟨rfl, rfl, rfl, rfl⟩ := hx
    subst h0
    exact goOn_zero o f 0 w
  · rw [if_neg h0] at hx
    unfold phUp at hx
    by_cases h1 : f = 2147483647
    · rw [if_pos h1] at hx
      simp only [PhS.mk.injEq] at hx
      obtain ⟨rfl, rfl, rfl, rfl⟩ := hx
      subst h1
      exact goOn_top o p 0 w (by omega)
    · rw [if_neg h1] at hx
      simp only [PhS.mk.injEq] at hx
      obtain ⟨rfl, rfl, rfl, rfl⟩ := hx
      exact goOn_up o f p 0 w (by omega) hf.1 (by omega)

/-! watch. -/
theorem watch_any (o : Bool) (f p q n : Int) (w : World) : Calls Try.prog 19 #[.agg #[.bool o, .int .i64 f, .int .i64 p, .int .i64 q], .int .i64 n] w fun e w' => e = .returned (.int .i64 (if f = n then -4 else f)) ∧ Below w.heap.size w w' := by
  by_cases h : f = n
  · rw [if_pos h]
    subst h
    go_enter Try.func19, Try.ntmps19
    go_wp2
    go_ret
    exact ⟨rfl, (Below.refl _ _).alloc (Nat.le_refl _) _⟩
  · rw [if_neg h]
    have h' : (f == n) = false := by simp; exact h
    clear h
    go_enter Try.func19, Try.ntmps19
    go_wp2
    go_ret
    exact ⟨rfl, (Below.refl _ _).alloc (Nat.le_refl _) _⟩

/-! arrive. -/
theorem arrive_none (o : Bool) (f p l : Int) (w : World) : Calls Try.prog 18 #[.agg #[.bool o, .int .i64 f, .int .i64 p, .int .i64 0], .int .i64 l] w fun e w' => e = .returned (.tuple #[.agg #[.bool o, .int .i64 f, .int .i64 p, .int .i64 0], .int .i64 (-2)]) ∧ Below w.heap.size w w' := by
  go_enter Try.func18, Try.ntmps18
  go_wp2
  --MD
  exact bodyPost_ret ((PhAt.new2 _ _ o f p 0).res2 (fn := Try.f18) (p0 := 4) (u := 5) (v := .int .i64 (-2)) (by kernel_rfl) _ (by rfl) (by rfl)) rfl ⟨rfl, ((Below.refl w.heap.size w).alloc (Nat.le_refl _) _).alloc (by simp) _⟩
theorem arrive_more (o : Bool) (f p q l : Int) (w : World) (h2 : 2 ≤ q) (hp : q ≤ p) (hp1 : p ≤ 65535) (hl : 0 ≤ l) (hl1 : l ≤ 1) : Calls Try.prog 18 #[.agg #[.bool o, .int .i64 f, .int .i64 p, .int .i64 q], .int .i64 l] w fun e w' => e = .returned (.tuple #[.agg #[.bool o, .int .i64 f, .int .i64 (p - l), .int .i64 (q - 1)], .int .i64 f]) ∧ Below w.heap.size w w' := by
  have h0 : (q == 0) = false := by simp; omega
  have h1 : (q - 1 == 0) = false := by simp; omega
  go_enter Try.func18, Try.ntmps18
  go_wp2
  --ME
  exact bodyPost_ret ((PhAt.new2 _ _ o f (p - l) (q - 1)).res2 (fn := Try.f18) (p0 := 4) (u := 5) (v := .int .i64 f) (by kernel_rfl) _ (by rfl) (by rfl)) rfl ⟨rfl, ((Below.refl w.heap.size w).alloc (Nat.le_refl _) _).alloc (by simp) _⟩
theorem sub_zero' (p : Int) : p - 0 = p := by omega
set_option maxHeartbeats 2000000 in
theorem arrive_last (o : Bool) (f p l : Int) (w : World) (hf : 0 ≤ f ∧ f ≤ 2147483647) (hp : 1 ≤ p) (hp1 : p ≤ 65535) (hl : 0 ≤ l) (hl1 : l ≤ 1) {o' : Bool} {f' p' q' : Int} (hx : phTurn ⟨o, f, p - l, 0⟩ = ⟨o', f', p', q'⟩) :
    Calls Try.prog 18 #[.agg #[.bool o, .int .i64 f, .int .i64 p, .int .i64 1], .int .i64 l] w fun e w' => e = .returned (.tuple #[.agg #[.bool o', .int .i64 f', .int .i64 p', .int .i64 q'], .int .i64 f]) ∧ Below w.heap.size w w' := by
  have HG := Lib.hid (fun W => goOn_any o f (p - l) W hf (by omega) hx)
  have HX := Lib.hid (((Below.refl w.heap.size w).alloc (Nat.le_refl _) (.cells #[.bool o, .int .i64 f, .int .i64 (p - l), .int .i64 0] 23)).alloc (by simp) (.cells #[.bool false, .int .i64 0, .int .i64 0, .int .i64 0] 23))
  have HP := Lib.hid ((PhAt.new w o f (p - l) 0).alloc (.cells #[.bool false, .int .i64 0, .int .i64 0, .int .i64 0] 23))
  have HP2 := Lib.hid (PhAt.new2 w (.cells #[.bool o, .int .i64 f, .int .i64 (p - l), .int .i64 0] 23) false 0 0 0)
  clear hx hf
  go_enter Try.func18, Try.ntmps18
  go_wp2_with fail
  --MF
  refine (HG.out _).mono ?_
  rintro e w1 ⟨rfl, hb⟩
  have HB := Lib.hid (HX.out.trans (hb.mono (by simp; omega)))
  have HA := Lib.hid (HP.out.below hb (by simp; omega))
  have HR := Lib.hid (HP2.out.below hb (by simp))
  obtain ⟨c0, c1, c2, c3⟩ := HA.out.cells
  have cf := HA.out.frozen
  obtain ⟨d0, d1, d2, d3⟩ := HR.out.cells
  have df := HR.out.frozen
  clear hb HG
  go_wp2
  --MG
  have hn : w.heap.size + 1 ≠ w.heap.size := by omega
  exact bodyPost_ret (((HR.out.far4 hn o' f' p' q').set4 o' f' p' q').res2 (fn := Try.f18) (p0 := 4) (u := 5) (v := .int .i64 f) (by kernel_rfl) _ (by rfl) (by rfl)) rfl ⟨rfl, below4 (below4 HB.out (Nat.le_refl _) o' f' p' q') (by omega) o' f' p' q'⟩
theorem arrive_any (o : Bool) (f p q l : Int) (w : World) (h : PhS.ok ⟨o, f, p, q⟩) (hl : 0 ≤ l) (hl1 : l ≤ 1) {o' : Bool} {f' p' q' k : Int} (hx : phArrive ⟨o, f, p, q⟩ l = (⟨o', f', p', q'⟩, k)) :
    Calls Try.prog 18 #[.agg #[.bool o, .int .i64 f, .int .i64 p, .int .i64 q], .int .i64 l] w fun e w' => e = .returned (.tuple #[.agg #[.bool o', .int .i64 f', .int .i64 p', .int .i64 q'], .int .i64 k]) ∧ Below w.heap.size w w' := by
  obtain ⟨h1, h2, h3⟩ := h
  have h3' : 0 ≤ q ∧ q ≤ p := h3
  have h2' : 0 ≤ p ∧ p ≤ 65535 := h2
  by_cases h0 : q = 0
  · rw [phArrive_none (x := ⟨o, f, p, q⟩) h0] at hx
    simp only [Prod.mk.injEq, PhS.mk.injEq] at hx
    obtain ⟨⟨rfl, rfl, rfl, rfl⟩, rfl⟩ := hx
    subst h0
    exact arrive_none o f p l w
  · by_cases h4 : q = 1
    · subst h4
      unfold phArrive at hx
      rw [if_neg (by show ¬ (1 : Int) = 0; decide)] at hx
      simp only [Prod.mk.injEq] at hx
      obtain ⟨hx, rfl⟩ := hx
      exact arrive_last o f p l w h1 (by omega) (by omega) hl hl1 hx
    · rw [phArrive_more (x := ⟨o, f, p, q⟩) (by show 2 ≤ q; omega)] at hx
      simp only [Prod.mk.injEq, PhS.mk.injEq] at hx
      obtain ⟨⟨rfl, rfl, rfl, rfl⟩, rfl⟩ := hx
      exact arrive_more o f p q l w (by omega) h3'.2 h2'.2 hl hl1

/-! register. -/
theorem register_full (o : Bool) (f p q n : Int) (w : World) (h : 65535 < p + n) (hp : p ≤ 65535) (hn : n ≤ 65535) : Calls Try.prog 17 #[.agg #[.bool o, .int .i64 f, .int .i64 p, .int .i64 q], .int .i64 n] w fun e w' => e = .returned (.tuple #[.agg #[.bool o, .int .i64 f, .int .i64 p, .int .i64 q], .int .i64 (-3)]) ∧ Below w.heap.size w w' := by
  go_enter Try.func17, Try.ntmps17
  go_wp2
  --MH
  exact bodyPost_ret ((PhAt.new2 _ _ o f p q).res2 (fn := Try.f17) (p0 := 4) (u := 5) (v := .int .i64 (-3)) (by kernel_rfl) _ (by rfl) (by rfl)) rfl ⟨rfl, ((Below.refl w.heap.size w).alloc (Nat.le_refl _) _).alloc (by simp) _⟩
theorem register_in (o : Bool) (f p q n : Int) (w : World) (h : p + n ≤ 65535) (h0 : 0 ≤ q) (hq : q ≤ p) (hn : 0 ≤ n) : Calls Try.prog 17 #[.agg #[.bool o, .int .i64 f, .int .i64 p, .int .i64 q], .int .i64 n] w fun e w' => e = .returned (.tuple #[.agg #[.bool o, .int .i64 f, .int .i64 (p + n), .int .i64 (q + n)], .int .i64 f]) ∧ Below w.heap.size w w' := by
  have h' : ¬ 65535 < p + n := by omega
  have hp0 : 0 ≤ p := by omega
  have hp1 : p ≤ 65535 := by omega
  have hn1 : n ≤ 65535 := by omega
  have hq1 : q ≤ 65535 := by omega
  clear h hq
  go_enter Try.func17, Try.ntmps17
  go_wp2
  --MI
  go_region
  all_goals
    go_wp2
    --MJ
    exact bodyPost_ret (PhAt.res2 (fn := Try.f17) (p0 := 4) (u := 5) (v := .int .i64 f) (PhAt.new2 w (.cells #[.bool o, .int .i64 f, .int .i64 (p + n), .int .i64 (q + n)] 23) o f (p + n) (q + n)).drew (by kernel_rfl) _ (by rfl) (by rfl)) rfl ⟨rfl, (((Below.refl w.heap.size w).alloc (Nat.le_refl _) _).alloc (by simp) _).drew⟩

/-! Fits. -/
theorem fits_yes (a n : Int) (w : World) (h : fitsC a n) : Calls Try.prog 15 #[.agg #[.int .i64 a, .int .i64 n]] w fun e w' => e = .returned (.bool true) ∧ Below w.heap.size w w' := by
  rcases h with ⟨rfl, h1, h2⟩ | ⟨rfl, h1, h2⟩ | ⟨h | h | h | h, rfl⟩
  · go_enter Try.func15, Try.ntmps15
    go_wp2
    go_ret
    exact ⟨rfl, (Below.refl _ _).alloc (Nat.le_refl _) _⟩
  · go_enter Try.func15, Try.ntmps15
    go_wp2
    go_ret
    exact ⟨rfl, (Below.refl _ _).alloc (Nat.le_refl _) _⟩
  all_goals
    subst h
    go_enter Try.func15, Try.ntmps15
    go_wp2
    go_ret
    exact ⟨rfl, (Below.refl _ _).alloc (Nat.le_refl _) _⟩
theorem fits_no (a n : Int) (w : World) (h : ¬ fitsC a n) : Calls Try.prog 15 #[.agg #[.int .i64 a, .int .i64 n]] w fun e w' => e = .returned (.bool false) ∧ Below w.heap.size w w' := by
  unfold fitsC at h
  by_cases e6 : a = 6
  · subst e6
    by_cases h1 : 1 ≤ n
    · have h2 : ¬ n ≤ 65535 := by omega
      clear h
      go_enter Try.func15, Try.ntmps15
      go_wp2
      go_ret
      exact ⟨rfl, (Below.refl _ _).alloc (Nat.le_refl _) _⟩
    · clear h
      go_enter Try.func15, Try.ntmps15
      go_wp2
      go_ret
      exact ⟨rfl, (Below.refl _ _).alloc (Nat.le_refl _) _⟩
  · by_cases e10 : a = 10
    · subst e10
      by_cases h1 : 0 ≤ n
      · have h2 : ¬ n ≤ 2147483647 := by omega
        clear h e6
        go_enter Try.func15, Try.ntmps15
        go_wp2
        go_ret
        exact ⟨rfl, (Below.refl _ _).alloc (Nat.le_refl _) _⟩
      · clear h e6
        go_enter Try.func15, Try.ntmps15
        go_wp2
        go_ret
        exact ⟨rfl, (Below.refl _ _).alloc (Nat.le_refl _) _⟩
    · by_cases e4 : a = 7 ∨ a = 8 ∨ a = 9 ∨ a = 11
      · have hn : (n == 0) = false := by simp; omega
        clear h e6 e10
        rcases e4 with rfl | rfl | rfl | rfl
        all_goals
          go_enter Try.func15, Try.ntmps15
          go_wp2
          go_ret
          exact ⟨rfl, (Below.refl _ _).alloc (Nat.le_refl _) _⟩
      · have h6 : (a == 6) = false := by simp; omega
        have h10 : (a == 10) = false := by simp; omega
        have h7 : (a == 7) = false := by simp; omega
        have h8 : (a == 8) = false := by simp; omega
        have h9 : (a == 9) = false := by simp; omega
        have h11 : (a == 11) = false := by simp; omega
        clear h e6 e10 e4
        go_enter Try.func15, Try.ntmps15
        go_wp2
        go_ret
        exact ⟨rfl, (Below.refl _ _).alloc (Nat.le_refl _) _⟩

/-! next. -/
theorem phNewThree (w : World) (A B C : Obj) : Below w.heap.size w (((w.alloc A).alloc B).alloc C) :=
  (((Below.refl w.heap.size w).alloc (Nat.le_refl _) _).alloc (by simp) _).alloc (by simp; omega) _
/-- A call's two numbers. -/
def CaAt (w : World) (b : Nat) (a n : Int) : Prop := w.heap[b]? = some (.cells #[.int .i64 a, .int .i64 n] 32 (0, 0))
theorem CaAt.cells {w : World} {b : Nat} {a n : Int} (h : CaAt w b a n) : w.cell? ⟨b, 0, none⟩ = some (.int .i64 a) ∧ w.cell? ⟨b, 1, none⟩ = some (.int .i64 n) :=
  ⟨cell_of_row w b 0 _ _ _ h, cell_of_row w b 1 _ _ _ h⟩
theorem CaAt.lt {w : World} {b : Nat} {a n : Int} (h : CaAt w b a n) : b < w.heap.size := by
  unfold CaAt at h
  exact (Array.getElem?_eq_some_iff.1 h).1
theorem CaAt.frozen {w : World} {b : Nat} {a n : Int} (h : CaAt w b a n) (i : Nat) : w.frozen? ⟨b, i, none⟩ = false := frozen_of_row w b i _ _ h
theorem CaAt.below {w w' : World} {b B : Nat} {a n : Int} (h : CaAt w b a n) (hb : Below B w w') (hB : b < B) : CaAt w' b a n := (hb.block b hB).trans h
theorem CaAt.alloc {w : World} {b : Nat} {a n : Int} (h : CaAt w b a n) (O : Obj) : CaAt (w.alloc O) b a n := (Below.heap_alloc w O b h.lt).trans h
theorem CaAt.new2 (w : World) (O : Obj) (a n : Int) : CaAt ((w.alloc O).alloc (.cells #[.int .i64 a, .int .i64 n] 32)) (w.heap.size + 1) a n := by
  have : CaAt ((w.alloc O).alloc (.cells #[.int .i64 a, .int .i64 n] 32)) (w.alloc O).heap.size a n := heap_alloc_new (w.alloc O) _
  rwa [World.size_alloc] at this
/-- What stands at the beginning of next. -/
def nextW (w : World) (o : Bool) (f p q a n : Int) : World := ((w.alloc (.cells #[.bool o, .int .i64 f, .int .i64 p, .int .i64 q] 23)).alloc (.cells #[.int .i64 a, .int .i64 n] 32)).alloc (.cells #[.bool false, .int .i64 0, .int .i64 0, .int .i64 0] 23)
theorem nextW_facts (w : World) (o : Bool) (f p q a n : Int) : Below w.heap.size w (nextW w o f p q a n) ∧ PhAt (nextW w o f p q a n) w.heap.size o f p q ∧ CaAt (nextW w o f p q a n) (w.heap.size + 1) a n ∧ PhAt (nextW w o f p q a n) (w.heap.size + 1 + 1) false 0 0 0 ∧ (nextW w o f p q a n).heap.size = w.heap.size + 1 + 1 + 1 :=
  ⟨phNewThree _ _ _ _, ((PhAt.new _ _ _ _ _).alloc _).alloc _, (CaAt.new2 _ _ _ _).alloc _, PhAt.new3 _ _ _ _ _ _ _, by simp [nextW]⟩
theorem next_over (f p q a n : Int) (w : World) : Calls Try.prog 16 #[.agg #[.bool true, .int .i64 f, .int .i64 p, .int .i64 q], .agg #[.int .i64 a, .int .i64 n]] w fun e w' => e = .returned (.tuple #[.agg #[.bool true, .int .i64 f, .int .i64 p, .int .i64 q], .int .i64 (-1)]) ∧ Below w.heap.size w w' := by
  go_enter Try.func16, Try.ntmps16
  go_wp2
  --MK
  exact bodyPost_ret ((PhAt.new3 _ _ _ true f p q).res2 (fn := Try.f16) (p0 := 4) (u := 5) (v := .int .i64 (-1)) (by kernel_rfl) _ (by rfl) (by rfl)) rfl ⟨rfl, phNewThree _ _ _ _⟩
theorem next_close (f p q n : Int) (w : World) : Calls Try.prog 16 #[.agg #[.bool false, .int .i64 f, .int .i64 p, .int .i64 q], .agg #[.int .i64 11, .int .i64 n]] w fun e w' => e = .returned (.tuple #[.agg #[.bool true, .int .i64 f, .int .i64 p, .int .i64 q], .int .i64 0]) ∧ Below w.heap.size w w' := by
  go_enter Try.func16, Try.ntmps16
  go_wp2
  --ML
  exact bodyPost_ret ((PhAt.new3 _ _ _ true f p q).res2 (fn := Try.f16) (p0 := 4) (u := 5) (v := .int .i64 0) (by kernel_rfl) _ (by rfl) (by rfl)) rfl ⟨rfl, phNewThree _ _ _ _⟩
/-- A call handed on to another function. -/
def nextIn (w : World) (o : Bool) (f p q k : Int) (e : Ending) (w' : World) : Prop := e = .returned (.tuple #[.agg #[.bool o, .int .i64 f, .int .i64 p, .int .i64 q], .int .i64 k]) ∧ Below w.heap.size w w'
set_option maxHeartbeats 2000000 in
theorem next_arrive (f p q : Int) (w : World) (h : PhS.ok ⟨false, f, p, q⟩) {o' : Bool} {f' p' q' k : Int} (hx : phArrive ⟨false, f, p, q⟩ 0 = (⟨o', f', p', q'⟩, k)) : Calls Try.prog 16 #[.agg #[.bool false, .int .i64 f, .int .i64 p, .int .i64 q], .agg #[.int .i64 7, .int .i64 0]] w fun e w' => e = .returned (.tuple #[.agg #[.bool o', .int .i64 f', .int .i64 p', .int .i64 q'], .int .i64 k]) ∧ Below w.heap.size w w' := by
  have HC := Lib.hid (fun W => arrive_any false f p q 0 W h (by decide) (by decide) hx)
  have HN := Lib.hid (nextW_facts w false f p q 7 0)
  clear hx h
  go_enter Try.func16, Try.ntmps16
  go_wp2_with fail
  --MM
  refine (HC.out _).mono ?_
  rintro e w1 ⟨rfl, hb⟩
  have HB := Lib.hid (HN.out.1.trans (hb.mono (HN.out.1.size)))
  have HR := Lib.hid (HN.out.2.2.2.1.below hb HN.out.2.2.2.1.lt)
  obtain ⟨d0, d1, d2, d3⟩ := HR.out.cells
  have df := HR.out.frozen
  clear hb HC
  go_wp2
  exact bodyPost_ret ((HR.out.set4 o' f' p' q').res2 (fn := Try.f16) (p0 := 4) (u := 5) (v := .int .i64 k) (by kernel_rfl) _ (by rfl) (by rfl)) rfl ⟨rfl, below4 HB.out (by omega) o' f' p' q'⟩
set_option maxHeartbeats 2000000 in
theorem next_leave (f p q : Int) (w : World) (h : PhS.ok ⟨false, f, p, q⟩) {o' : Bool} {f' p' q' k : Int} (hx : phArrive ⟨false, f, p, q⟩ 1 = (⟨o', f', p', q'⟩, k)) : Calls Try.prog 16 #[.agg #[.bool false, .int .i64 f, .int .i64 p, .int .i64 q], .agg #[.int .i64 8, .int .i64 0]] w fun e w' => e = .returned (.tuple #[.agg #[.bool o', .int .i64 f', .int .i64 p', .int .i64 q'], .int .i64 k]) ∧ Below w.heap.size w w' := by
  have HC := Lib.hid (fun W => arrive_any false f p q 1 W h (by decide) (by decide) hx)
  have HN := Lib.hid (nextW_facts w false f p q 8 0)
  clear hx h
  go_enter Try.func16, Try.ntmps16
  go_wp2_with fail
  --MN
  refine (HC.out _).mono ?_
  rintro e w1 ⟨rfl, hb⟩
  have HB := Lib.hid (HN.out.1.trans (hb.mono (HN.out.1.size)))
  have HR := Lib.hid (HN.out.2.2.2.1.below hb HN.out.2.2.2.1.lt)
  obtain ⟨d0, d1, d2, d3⟩ := HR.out.cells
  have df := HR.out.frozen
  clear hb HC
  go_wp2
  exact bodyPost_ret ((HR.out.set4 o' f' p' q').res2 (fn := Try.f16) (p0 := 4) (u := 5) (v := .int .i64 k) (by kernel_rfl) _ (by rfl) (by rfl)) rfl ⟨rfl, below4 HB.out (by omega) o' f' p' q'⟩
set_option maxHeartbeats 2000000 in
theorem next_full (f p q n : Int) (w : World) (h : 65535 < p + n) (hp : p ≤ 65535) (hn : n ≤ 65535) : Calls Try.prog 16 #[.agg #[.bool false, .int .i64 f, .int .i64 p, .int .i64 q], .agg #[.int .i64 6, .int .i64 n]] w fun e w' => e = .returned (.tuple #[.agg #[.bool false, .int .i64 f, .int .i64 p, .int .i64 q], .int .i64 (-3)]) ∧ Below w.heap.size w w' := by
  have HC := Lib.hid (fun W => register_full false f p q n W h hp hn)
  have HN := Lib.hid (nextW_facts w false f p q 6 n)
  clear h hp hn
  go_enter Try.func16, Try.ntmps16
  go_wp2_with fail
  refine (HC.out _).mono ?_
  rintro e w1 ⟨rfl, hb⟩
  have HB := Lib.hid (HN.out.1.trans (hb.mono (HN.out.1.size)))
  have HR := Lib.hid (HN.out.2.2.2.1.below hb HN.out.2.2.2.1.lt)
  obtain ⟨d0, d1, d2, d3⟩ := HR.out.cells
  have df := HR.out.frozen
  clear hb HC
  go_wp2
  exact bodyPost_ret ((HR.out.set4 false f p q).res2 (fn := Try.f16) (p0 := 4) (u := 5) (v := .int .i64 (-3)) (by kernel_rfl) _ (by rfl) (by rfl)) rfl ⟨rfl, below4 HB.out (by omega) false f p q⟩
set_option maxHeartbeats 2000000 in
theorem next_in (f p q n : Int) (w : World) (h : p + n ≤ 65535) (h0 : 0 ≤ q) (hq : q ≤ p) (hn : 0 ≤ n) : Calls Try.prog 16 #[.agg #[.bool false, .int .i64 f, .int .i64 p, .int .i64 q], .agg #[.int .i64 6, .int .i64 n]] w fun e w' => e = .returned (.tuple #[.agg #[.bool false, .int .i64 f, .int .i64 (p + n), .int .i64 (q + n)], .int .i64 f]) ∧ Below w.heap.size w w' := by
  have HC := Lib.hid (fun W => register_in false f p q n W h h0 hq hn)
  have HN := Lib.hid (nextW_facts w false f p q 6 n)
  clear h h0 hq hn
  go_enter Try.func16, Try.ntmps16
  go_wp2_with fail
  refine (HC.out _).mono ?_
  rintro e w1 ⟨rfl, hb⟩
  have HB := Lib.hid (HN.out.1.trans (hb.mono (HN.out.1.size)))
  have HR := Lib.hid (HN.out.2.2.2.1.below hb HN.out.2.2.2.1.lt)
  obtain ⟨d0, d1, d2, d3⟩ := HR.out.cells
  have df := HR.out.frozen
  clear hb HC
  go_wp2
  exact bodyPost_ret ((HR.out.set4 false f (p + n) (q + n)).res2 (fn := Try.f16) (p0 := 4) (u := 5) (v := .int .i64 f) (by kernel_rfl) _ (by rfl) (by rfl)) rfl ⟨rfl, below4 HB.out (by omega) false f (p + n) (q + n)⟩
end Go.Proofs.Ytaklikgdlalhdab
