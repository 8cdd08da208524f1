/-
  THE JUDGE ANSWERS AS THE DOCUMENT: what is wrong, and where; how many rounds.
-/
import Derived.Test.YtoljmleomkkchaaDoorLJudgeRef
import Derived.Test.YtoljmleomkkchaaDoorIMap
import Derived.Deep.Cut
namespace Go.Proofs.YtoljmleomkkchaaDoor
set_option maxRecDepth 100000
open Go.RowKit Go.Shelf Go.WideShapes
set_option linter.unusedVariables false
set_option linter.unusedSimpArgs false

/-- An error as the model's value, with what it tells and its place. -/
def ErrIs (w : World) (v : Value) (e i : Int) : Prop :=
  (v = .nilIface ∧ e = 0 ∧ i = -1) ∨ (v = .iface 23 (.int .i64 e) ∧ i = -1) ∨ ∃ p, v = .iface 65 (.pointer (some ⟨p, 0, none⟩)) ∧ w.heap[p]? = some (.cells #[.int .i64 e, .int .i64 i] 67 (0, 0))
theorem ErrIs.grow {w w' : World} {v : Value} {e i : Int} (h : ErrIs w v e i) (hg : w.grownBy w' none) : ErrIs w' v e i := by
  rcases h with h | h | ⟨p, h1, h2⟩
  · exact .inl h
  · exact .inr (.inl h)
  · exact .inr (.inr ⟨p, h1, (hg.block p (Array.getElem?_eq_some_iff.1 h2).1 (by simp)).trans h2⟩)
theorem errVar_grow {w w' : World} (h : ErrVar w) (hg : w.grownBy w' none) : ErrVar w' := (World.cell?_of_block (a := ⟨0, 0, none⟩) (hg.block _ (errVar_lt h) (by simp))).trans h
theorem isAt (v : Value) (w : World) : (Instr.typeAssert (.iface 65 v) 28 65 true).run Tryd.prog w = .ok (.tuple #[v, .bool true]) w := by kernel_rfl
set_option maxHeartbeats 1000000 in
theorem place_at {w : World} (e i : Int) (p : Nat) (hg0 : ErrVar w) (hp : w.heap[p]? = some (.cells #[.int .i64 e, .int .i64 i] 67 (0, 0))) : Calls Tryd.prog 29 #[.iface 65 (.pointer (some ⟨p, 0, none⟩))] w fun x w' => x = .returned (.tuple #[.int .i64 e, .int .i64 i]) ∧ w.grownBy w' none := by
  have HT := Lib.hid (tell_at e p w hg0 ((cell_of_row w p 0 _ _ _ hp).trans rfl))
  have HP := Lib.hid hp
  have hA := isAt (.pointer (some ⟨p, 0, none⟩))
  clear hg0 hp
  go_enter Tryd.func29, Tryd.ntmps29
  go_wp2_with fail
  refine HT.out.mono ?_
  rintro x w' ⟨rfl, hg⟩
  have HG := Lib.hid hg
  have c1 : w'.cell? ⟨p, 1, none⟩ = some (.int .i64 i) := (cell_of_row w' p 1 _ _ _ ((hg.block p (Array.getElem?_eq_some_iff.1 HP.out).1 (by simp)).trans HP.out)).trans rfl
  clear hg HT
  go_wp2
  refine wp_loop_rounds 1 ?_
  rw [rounds_succ]
  --MA
  go_wp2
  --MB
  go_region
  all_goals
    go_wp2
    go_ret2
    exact ⟨rfl, HG.out.andThen (grown_drewJ _ 1) (by intro k hk; cases hk)⟩
theorem place_any {w : World} {v : Value} {e i : Int} (h : ErrIs w v e i) (hg0 : ErrVar w) : Calls Tryd.prog 29 #[v] w fun x w' => x = .returned (.tuple #[.int .i64 e, .int .i64 i]) ∧ w.grownBy w' none := by
  rcases h with ⟨rfl, rfl, rfl⟩ | ⟨rfl, rfl⟩ | ⟨p, rfl, hp⟩
  · refine (place_nil w).mono ?_
    rintro x w' ⟨rfl, rfl⟩
    exact ⟨rfl, World.grownBy.refl _ none⟩
  · exact place_errno e w hg0
  · exact place_at e i p hg0 hp
set_option maxHeartbeats 1000000 in
theorem placed_any {w : World} {v : Value} {e i : Int} (h : ErrIs w v e i) (hg0 : ErrVar w) : Calls Tryd.prog 9 #[v, .agg #[.int .i64 e, .int .i64 i]] w fun x w' => x = .returned (.bool true) ∧ w.grownBy w' none := by
  have hga := World.grownBy_alloc w (.cells #[.int .i64 e, .int .i64 i] 25) none
  have HP := Lib.hid (place_any (h.grow hga) (errVar_grow hg0 hga))
  have HG0 := Lib.hid hga
  have HC := Lib.hid (heap_alloc_new w (.cells #[.int .i64 e, .int .i64 i] 25))
  clear h hg0 hga
  go_enter Tryd.func9, Tryd.ntmps9
  --MC
  go_wp2_with fail
  refine HP.out.mono ?_
  rintro x w' ⟨rfl, hg⟩
  have hc := (hg.block w.heap.size (Array.getElem?_eq_some_iff.1 HC.out).1 (by simp)).trans HC.out
  have c0 : w'.cell? ⟨w.heap.size, 0, none⟩ = some (.int .i64 e) := (cell_of_row w' _ 0 _ _ _ hc).trans rfl
  have c1 : w'.cell? ⟨w.heap.size, 1, none⟩ = some (.int .i64 i) := (cell_of_row w' _ 1 _ _ _ hc).trans rfl
  have HG := Lib.hid (HG0.out.andThen hg (by intro k hk; cases hk))
  clear hg hc HP
  --MD
  go_wp2
  go_ret
  exact ⟨rfl, HG.out⟩

/-! What is no number of threads. -/
theorem jhear_range {w : World} (A : Option Addr) (len cap : Nat) (n : Int) (h : ¬ (1 ≤ n ∧ n ≤ 16)) :
    Calls Tryd.prog 24 #[.slice A len cap, .int .i64 n] w fun x w' => x = .returned (.tuple #[.slice none 0 0, .iface 23 (.int .i64 2)]) ∧ w = w' := by
  by_cases h1 : n < 1
  · clear h
    go_enter Tryd.func24, Tryd.ntmps24
    go_wp2
    go_ret2
    exact ⟨rfl, rfl⟩
  · have h2 : (16 : Int) < n := by omega
    clear h
    go_enter Tryd.func24, Tryd.ntmps24
    go_wp2
    go_ret2
    exact ⟨rfl, rfl⟩
theorem jcheck_range {w : World} (A : Option Addr) (len cap : Nat) (n : Int) (h : ¬ (1 ≤ n ∧ n ≤ 16)) :
    Calls Tryd.prog 10 #[.slice A len cap, .int .i64 n] w fun x w' => x = .returned (.iface 23 (.int .i64 2)) ∧ w = w' := by
  have H := Lib.hid (fun w => jhear_range (w := w) A len cap n h)
  clear h
  go_enter Tryd.func10, Tryd.ntmps10
  go_wp2_with fail
  refine (H.out _).mono ?_
  rintro x w' ⟨rfl, rfl⟩
  go_wp2
  go_ret
  exact ⟨rfl, rfl⟩
theorem jrounds_range {w : World} (A : Option Addr) (len cap : Nat) (n : Int) (h : ¬ (1 ≤ n ∧ n ≤ 16)) :
    Calls Tryd.prog 8 #[.slice A len cap, .int .i64 n] w fun x w' => x = .returned (.tuple #[.int .i64 0, .int .i64 0, .iface 23 (.int .i64 2)]) ∧ w = w' := by
  have H := Lib.hid (fun w => jhear_range (w := w) A len cap n h)
  clear h
  go_enter Tryd.func8, Tryd.ntmps8
  go_wp2_with fail
  refine (H.out _).mono ?_
  rintro x w' ⟨rfl, rfl⟩
  go_wp2
  go_ret3
  exact ⟨rfl, rfl⟩
theorem jwithin_any (x a b : Int) (w : World) : Calls Tryd.prog 21 #[.int .i64 x, .int .i64 a, .int .i64 b] w fun e w' => e = .returned (.bool (decide (a ≤ x ∧ x ≤ b))) ∧ w = w' := by
  by_cases h : a ≤ x
  · by_cases h2 : x ≤ b
    · have e : decide (a ≤ x ∧ x ≤ b) = true := decide_eq_true ⟨h, h2⟩
      rw [e]
      go_enter Tryd.func21, Tryd.ntmps21
      go_wp2
      go_ret
      exact ⟨rfl, rfl⟩
    · have e : decide (a ≤ x ∧ x ≤ b) = false := decide_eq_false fun h => h2 h.2
      rw [e]
      go_enter Tryd.func21, Tryd.ntmps21
      go_wp2
      go_ret
      exact ⟨rfl, rfl⟩
  · have e : decide (a ≤ x ∧ x ≤ b) = false := decide_eq_false fun h' => h h'.1
    rw [e]
    go_enter Tryd.func21, Tryd.ntmps21
    go_wp2
    go_ret
    exact ⟨rfl, rfl⟩
theorem rbare_any (k : Int) (w : World) : Calls Tryd.prog 22 #[.int .i64 k] w fun e w' => e = .returned (.agg #[.int .i64 k, .int .i64 (-1)]) ∧ w.grownBy w' none := by
  have HG := Lib.hid (World.grownBy_alloc w (.cells #[.int .i64 k, .int .i64 (-1)] 25) none)
  go_enter Tryd.func22, Tryd.ntmps22
  go_wp2
  --MG
  refine bodyPost_ret (v := .agg #[.int .i64 k, .int .i64 (-1)]) ?_ rfl ⟨rfl, HG.out⟩
  exact results_cell_row (fn := Tryd.f22) (p := 2) (ty := 25) (g := w.heap.size) (t := 25) (cs := #[.int .i64 k, .int .i64 (-1)]) (fr := (0, 0)) (by kernel_rfl) _ _ (d := _) (by rfl) (heap_alloc_new w _) Tryd.underlying25 rfl (by kernel_rfl)
theorem rgood_any (w : World) : Calls Tryd.prog 23 #[] w fun e w' => e = .returned (.agg #[.int .i64 0, .int .i64 (-1)]) ∧ w.grownBy w' none := by
  have HG := Lib.hid (World.grownBy_alloc w (.cells #[.int .i64 0, .int .i64 (-1)] 25) none)
  go_enter Tryd.func23, Tryd.ntmps23
  go_wp2
  --MG2
  refine bodyPost_ret (v := .agg #[.int .i64 0, .int .i64 (-1)]) ?_ rfl ⟨rfl, HG.out⟩
  exact results_cell_row (fn := Tryd.f23) (p := 0) (ty := 25) (g := w.heap.size) (t := 25) (cs := #[.int .i64 0, .int .i64 (-1)]) (fr := (0, 0)) (by kernel_rfl) _ _ (d := _) (by rfl) (heap_alloc_new w _) Tryd.underlying25 rfl (by kernel_rfl)
theorem faultIs_any (e i : Int) (w : World) : Calls Tryd.prog 11 #[.agg #[.int .i64 e, .int .i64 i]] w fun x w' => x = .returned (.bool (e == 0)) ∧ w.grownBy w' none := by
  have HG := Lib.hid (World.grownBy_alloc w (.cells #[.int .i64 e, .int .i64 i] 25) none)
  go_enter Tryd.func11, Tryd.ntmps11
  --MF
  go_wp2
  go_ret
  exact ⟨rfl, HG.out⟩

/-! The reference's judge. -/
theorem jZero (W : World) : (zeroValue 3).run Tryd.prog W = .ok (.int .i64 0) W := by kernel_rfl
/-- How often each said something, as the reference's map holds it. -/
def SaidM (w : World) (b : Nat) (l : List Ev4) (n : Nat) : Prop := ∃ f, IM .i64 3 w b l.length f ∧ ∀ t : Nat, t < n → (f (t : Int)).getD 0 = (cntEv l t : Int)
theorem SaidM.made (w : World) (n : Nat) : SaidM (w.alloc (.map #[] 0)) w.heap.size [] n := ⟨_, IM.made .i64 3 w, fun _ _ => rfl⟩
theorem jint_wf {x : Int} (h0 : 0 ≤ x) (h1 : x < 100000) : (Lit.int .i64 x).wf = true := WalkArith.wf_i64 (by omega)
theorem SaidM.look {w : World} {b n : Nat} {l : List Ev4} (h : SaidM w b l n) {t : Nat} (ht : t < n) (hn : n ≤ 16) : (Instr.lookup 54 (.map (some b)) (.int .i64 (t : Int)) false).run Tryd.prog w = .ok (.int .i64 (cntEv l t : Nat)) w := by
  obtain ⟨f, h1, h2⟩ := h
  have := h1.look Tryd.underlying54 Tryd.underlying3 (jZero w) (t : Int) (jint_wf (by omega) (by omega))
  rwa [h2 t ht] at this
theorem SaidM.put {w : World} {b n : Nat} {l : List Ev4} (h : SaidM w b l n) (e : Ev4) {t : Nat} (ht : t < n) (hn : n ≤ 16) (he : e.2.2.1 = (t : Int)) (hl : l.length ≤ 1000) :
    ∃ w', (Instr.mapUpdate 54 (.map (some b)) (.int .i64 (t : Int)) (.int .i64 ((cntEv l t + 1 : Nat) : Int))).run Tryd.prog w = .ok () w' ∧ SaidM w' b (l ++ [e]) n ∧ w.grownBy w' (some b) := by
  obtain ⟨f, h1, h2⟩ := h
  have hc : cntEv l t ≤ l.length := List.length_filter_le _ _
  obtain ⟨w', k1, k2, k3⟩ := h1.put Tryd.underlying54 Tryd.underlying3 (by unfold maxLen; omega) (t : Int) ((cntEv l t + 1 : Nat) : Int) (jint_wf (by omega) (by omega)) (jint_wf (by omega) (by omega))
  refine ⟨w', k1, ⟨_, by rw [List.length_append]; exact k2, fun u hu => ?_⟩, k3⟩
  have hs : cntEv (l ++ [e]) u = cntEv l u + if u = t then 1 else 0 := by
    obtain ⟨a1, a2, a3, a4⟩ := e
    dsimp only at he
    subst he
    unfold cntEv
    rw [List.filter_append, List.length_append]
    congr 1
    by_cases e : u = t
    · subst e; simp
    · rw [if_neg e, List.filter_cons_of_neg (by simp; omega)]; rfl
  rw [hs]
  unfold putAt
  by_cases e : u = t
  · subst e
    simp
  · rw [if_neg (by omega), h2 u hu, if_neg e]
    rfl

/-- What the reference finds. -/
def verd (R : Option (Nat × Nat)) : Int × Int := match R with
  | none => (0, -1)
  | some (c, i) => ((c : Int), (i : Int))
/-- The reference's call so far. -/
structure RJ (w : World) (n : Nat) (l : List Ev4) (R : Option (Nat × Nat)) (i : Nat) (wr : World) : Prop where
  grow : w.grownBy wr none
  res : wr.heap[w.heap.size]? = some (.cells #[.int .i64 0, .int .i64 0] 25 (0, 0))
  map : SaidM wr (w.heap.size + 1) (l.take i) n
  left : R = judgeP n (l.take i) (l.drop i)
theorem RJ.wrong {w x : World} {n i : Nat} {l : List Ev4} {R : Option (Nat × Nat)} (h : RJ w n l R i x) (c j : Int) :
    ((x.setCell ⟨w.heap.size, 0, none⟩ (.int .i64 c)).setCell ⟨w.heap.size, 1, none⟩ (.int .i64 j)).heap[w.heap.size]? = some (.cells #[.int .i64 c, .int .i64 j] 25 (0, 0)) ∧ w.grownBy ((x.setCell ⟨w.heap.size, 0, none⟩ (.int .i64 c)).setCell ⟨w.heap.size, 1, none⟩ (.int .i64 j)) none := by
  have hb := (Below.refl w.heap.size w).grown h.grow (Nat.le_refl _) (by intro k hk; cases hk)
  exact ⟨heap_setCell_same _ _ 1 _ _ _ (heap_setCell_same _ _ 0 _ _ _ h.res), grown_belJ (below_setI (below_setI hb (Nat.le_refl _)) (Nat.le_refl _))⟩
theorem verd_some {n i c : Nat} {l : List Ev4} {R : Option (Nat × Nat)} {x : Ev4} (hS : judgeP n (l.take i) (l.drop i) = if jErr n (l.take i) x = 0 then judgeP n (l.take (i + 1)) (l.drop (i + 1)) else some (jErr n (l.take i) x, i)) (hR : R = judgeP n (l.take i) (l.drop i)) (hc : jErr n (l.take i) x = c) (h0 : c ≠ 0) : verd R = ((c : Int), (i : Int)) := by
  rw [hR, hS, hc, if_neg h0]
  rfl
theorem RJ.grown {w x x' : World} {n i : Nat} {l : List Ev4} {R : Option (Nat × Nat)} (h : RJ w n l R i x) (hg : x.grownBy x' none) : RJ w n l R i x' := by
  obtain ⟨k1, k2, ⟨f, m1, m2⟩, k4⟩ := h
  exact ⟨k1.andThen hg (by intro k hk; cases hk), (hg.block _ (Array.getElem?_eq_some_iff.1 k2).1 (by simp)).trans k2, ⟨f, m1.kept hg (by simp), m2⟩, k4⟩
theorem jErr_at {n : Nat} {a : List Ev4} {a1 a2 a4 : Int} {t : Nat} (h1 : a2 = 1 ∨ a2 = 2) (ht : t < n) : jErr n a (a1, a2, (t : Int), a4) =
    if a2 ≠ ((1 + cntEv a t % 2 : Nat) : Int) ∨ a4 ≠ ((1 + cntEv a t / 2 : Nat) : Int) then 10 else if a2 = 2 ∧ ∃ u, u < n ∧ cntEv a u < cntEv a t then 13 else 0 := by
  unfold jErr
  dsimp only
  rw [if_neg (by omega), if_neg (by omega)]
  rfl
theorem jErr_out {n : Nat} {a : List Ev4} {a1 a2 a3 a4 : Int} (h1 : a2 = 1 ∨ a2 = 2) (h : ¬ (0 ≤ a3 ∧ a3 ≤ (n : Int) - 1)) : jErr n a (a1, a2, a3, a4) = 2 := by
  unfold jErr
  dsimp only
  rw [if_neg (by omega), if_pos (by omega)]
theorem RJ.next {w x : World} {n i t : Nat} {l : List Ev4} {R : Option (Nat × Nat)} {e : Ev4} (h : RJ w n l R i x) (hS : judgeP n (l.take i) (l.drop i) = if jErr n (l.take i) e = 0 then judgeP n (l.take (i + 1)) (l.drop (i + 1)) else some (jErr n (l.take i) e, i)) (h0 : jErr n (l.take i) e = 0)
    (hM : l.take (i + 1) = l.take i ++ [e]) (he : e.2.2.1 = (t : Int)) (ht : t < n) (hn : n ≤ 16) (hl : (l.take i).length ≤ 1000) :
    ∃ w', (Instr.mapUpdate 54 (.map (some (w.heap.size + 1))) (.int .i64 (t : Int)) (.int .i64 (wrap64 ((cntEv (l.take i) t : Int) + 1)))).run Tryd.prog x = .ok () w' ∧ RJ w n l R (i + 1) w' := by
  have hc : cntEv (l.take i) t ≤ (l.take i).length := List.length_filter_le _ _
  obtain ⟨w', k1, k2, k3⟩ := h.map.put e ht hn he hl
  have hw : wrap64 ((cntEv (l.take i) t : Int) + 1) = ((cntEv (l.take i) t + 1 : Nat) : Int) := by clear k1 k2 k3 hS hM; unfold wrap64; omega
  rw [hw]
  have hb := (Below.refl w.heap.size w).grown h.grow (Nat.le_refl _) (by intro k hk; cases hk)
  refine ⟨w', k1, grown_belJ (hb.grown k3 hb.size (by intro k hk; injection hk with hk; omega)), (k3.block _ (Array.getElem?_eq_some_iff.1 h.res).1 (by simp)).trans h.res, ?_, h.left.trans (hS.trans (if_pos h0))⟩
  rw [hM]
  exact k2
set_option maxHeartbeats 8000000 in
theorem rjudge_in {w : World} (A : Option Addr) (len cap n : Nat) (l : List Ev4) (hl : l.length = len) (hlen : len ≤ 200) (hE : EvRow w A len l) (n1 : 1 ≤ n) (hn : n ≤ 16) :
    Calls Tryd.prog 7 #[.slice A len cap, .int .i64 (n : Nat)] w fun e w' => e = .returned (.agg #[.int .i64 (verd (judgeP n [] l)).1, .int .i64 (verd (judgeP n [] l)).2]) ∧ w.grownBy w' none := by
  obtain ⟨R, hR⟩ : ∃ R, judgeP n [] l = R := ⟨_, rfl⟩
  have hg1 := World.grownBy_alloc w (.cells #[.int .i64 0, .int .i64 0] 25) none
  have hg2 := World.grownBy_alloc (w.alloc (.cells #[.int .i64 0, .int .i64 0] 25)) (.map #[] 0) none
  have hc := heap_alloc_new w (.cells #[.int .i64 0, .int .i64 0] 25)
  have H0 := Lib.hid (show RJ w n l R 0 ((w.alloc (.cells #[.int .i64 0, .int .i64 0] 25)).alloc (.map #[] 0)) from
    ⟨hg1.andThen hg2 (by intro k hk; cases hk), (hg2.block _ (Array.getElem?_eq_some_iff.1 hc).1 (by simp)).trans hc, by
      have h := SaidM.made (w.alloc (.cells #[.int .i64 0, .int .i64 0] 25)) n
      rw [World.size_alloc] at h
      exact h, by rw [← hR]; simp⟩)
  have HE := Lib.hid hE
  have HL := Lib.hid (And.intro hl (And.intro hlen (And.intro n1 hn)))
  have HEnd := Lib.hid (judge_end (n := n) l)
  have HStep := Lib.hid (fun i hi x hx => judge_step (n := n) i l hi x hx)
  have HMore := Lib.hid (fun i (hi : i < l.length) => (by
    have e : l.getD i default = l[i] := by rw [List.getD_eq_getElem?_getD, List.getElem?_eq_getElem hi]; rfl
    rw [e, List.take_append_getElem] : l.take (i + 1) = l.take i ++ [l.getD i default]))
  have HLen := Lib.hid (fun i => show (l.take i).length ≤ 1000 by rw [List.length_take]; omega)
  have HNw := Lib.hid (show wrap64 ((n : Int) - 1) = (n : Int) - 1 by clear HStep HMore HEnd HE HLen; unfold wrap64; omega)
  have HIn := Lib.hid (decide_eq_true (show (1 : Int) ≤ (n : Int) ∧ (n : Int) ≤ 16 by omega))
  have hmk : ∀ W : World, (Instr.makeMap 54 none).run Tryd.prog W = .ok (.map (some W.heap.size)) (W.alloc (.map #[] 0)) := fun W => run_makeMap 54 W
  rw [hR]
  clear hE hl hlen n1 hn hg1 hg2 hc hR
  go_enter Tryd.func7, Tryd.ntmps7
  go_wp2_with fail
  refine (jwithin_any _ _ _ _).mono ?_
  rintro x w' ⟨rfl, rfl⟩
  rw [HIn.out]
  --RA
  go_wp2
  clear hmk
  --RB
  go_loopw [17] (fun j wr => ∃ i : Nat, i ≤ len ∧ j = .int .i64 i ∧ Hid (RJ w n l R i wr)) (fun j _ => len - (intOf j).toNat)
  case atStart => exact ⟨0, Nat.zero_le _, rfl, H0.out⟩
  case round =>
    obtain ⟨i, hi, rfl, hx⟩ := hrel
    by_cases hlt : i < len
    · have hkn : (i : Int) < (len : Int) := Int.ofNat_lt.2 hlt
      have HX := Lib.hid hx.out
      obtain ⟨b, off, rfl, x1, x2, x3, x4⟩ := (HE.out.grow hx.out.grow) i hlt
      have HS := Lib.hid (HStep.out i (by rw [HL.out.1]; exact hlt) _ rfl)
      have HM := Lib.hid (HMore.out i (by rw [HL.out.1]; exact hlt))
      have HI := Lib.hid hlt
      clear hx hi hlt
      generalize l.getD i default = x at *
      obtain ⟨a1, a2, a3, a4⟩ := x
      dsimp only at x1 x2 x3 x4
      have HWa := Lib.hid (show RJ w n l R i (wr.alloc (.cells #[.int .i64 a1, .int .i64 a2, .int .i64 a3, .int .i64 a4] 42)) by
        have hg := World.grownBy_alloc wr (.cells #[.int .i64 a1, .int .i64 a2, .int .i64 a3, .int .i64 a4] 42) none
        obtain ⟨k1, k2, ⟨f, m1, m2⟩, k4⟩ := HX.out
        exact ⟨k1.andThen hg (by intro k hk; cases hk), (hg.block _ (Array.getElem?_eq_some_iff.1 k2).1 (by simp)).trans k2, ⟨f, m1.kept hg (by simp), m2⟩, k4⟩)
      have hr := HWa.out.res
      have r0 : (wr.alloc (.cells #[.int .i64 a1, .int .i64 a2, .int .i64 a3, .int .i64 a4] 42)).cell? ⟨w.heap.size, 0, none⟩ = some (.int .i64 0) := (cell_of_row _ _ 0 _ _ _ hr).trans rfl
      have r1 : (wr.alloc (.cells #[.int .i64 a1, .int .i64 a2, .int .i64 a3, .int .i64 a4] 42)).cell? ⟨w.heap.size, 1, none⟩ = some (.int .i64 0) := (cell_of_row _ _ 1 _ _ _ hr).trans rfl
      have r2 := frozen_of_row _ _ 0 _ _ hr
      have r3 := frozen_of_row _ _ 1 _ _ hr
      clear hr
      by_cases h1 : a2 = 1 ∨ a2 = 2
      · rcases h1 with rfl | rfl
        · go_wp2_with fail
          refine (jwithin_any _ _ _ _).mono ?_
          rintro x w' ⟨rfl, rfl⟩
          rw [HNw.out]
          by_cases h2 : 0 ≤ a3 ∧ a3 ≤ (n : Int) - 1
          · rw [decide_eq_true h2]
            obtain ⟨t, rfl⟩ : ∃ t : Nat, a3 = t := ⟨a3.toNat, by omega⟩
            have ht : t < n := by omega
            have hlk := HWa.out.map.look ht HL.out.2.2.2
            have HT := Lib.hid ht
            have HJe := Lib.hid (jErr_at (a := l.take i) (a1 := a1) (a2 := 1) (a4 := a4) (by decide) ht)
            have HMu := Lib.hid (fun (X : World) (hX : RJ w n l R i X) (h0 : jErr n (l.take i) (a1, 1, (t : Int), a4) = 0) => hX.next HS.out h0 HM.out rfl ht HL.out.2.2.2 (HLen.out i))
            clear h2 ht
            generalize hk : cntEv (l.take i) t = k at *
            have HK := Lib.hid hk
            obtain ⟨j, hj⟩ : ∃ j, k / 2 = j := ⟨_, rfl⟩
            have ed : ((k : Nat) : Int).tdiv 2 = ((j : Nat) : Int) := by rw [← hj]; rfl
            have HKj := Lib.hid hj
            have hk1 : k ≤ 1000 := by rw [← HK.out]; exact Nat.le_trans (List.length_filter_le _ _) (HLen.out i)
            have HK1 := Lib.hid hk1
            clear hj hk1 hk
            by_cases hp : k % 2 = 0
            · have em : ((k : Nat) : Int).tmod 2 = 0 := by have : ((k : Nat) : Int).tmod 2 = ((k % 2 : Nat) : Int) := rfl; rw [this]; omega
              have HP := Lib.hid (show k % 2 = 0 by omega)
              clear hp
              obtain ⟨y, hy⟩ : ∃ y : Int, y = (j : Int) + 1 := ⟨_, rfl⟩
              have hw : wrap64 (wrap64 (j : Int) + 1) = y := by have h1 := HKj.out; have h2 := HK1.out; clear em ed hlk; rw [hy, show wrap64 (j : Int) = (j : Int) by unfold wrap64; omega]; unfold wrap64; omega
              have HY := Lib.hid hy
              clear hy
              by_cases h4 : a4 = y
              · have hw4 : (a4 != wrap64 (wrap64 (j : Int) + 1)) = false := by rw [hw, h4]; simp
                have HA4 := Lib.hid (show a4 = (j : Int) + 1 from h4.trans HY.out)
                clear h4 hw
                have hat := heap_alloc_new wr (.cells #[.int .i64 a1, .int .i64 1, .int .i64 (t : Int), .int .i64 a4] 42)
                have b1 := (cell_of_row _ _ 1 _ _ _ hat).trans (show _ = some (.int .i64 1) from rfl)
                have b2 := (cell_of_row _ _ 2 _ _ _ hat).trans (show _ = some (.int .i64 (t : Int)) from rfl)
                have b3 := (cell_of_row _ _ 3 _ _ _ hat).trans (show _ = some (.int .i64 a4) from rfl)
                clear hat
                go_wp2
                --L1
                generalize wr.alloc (.cells #[.int .i64 a1, .int .i64 1, .int .i64 (t : Int), .int .i64 a4] 42) = X at *
                generalize wr.heap.size = g at *
                clear hw4 ed em x1 x2 x3 x4
                go_loopw [61] (fun v wr2 => ∃ u : Nat, u ≤ n ∧ v = .int .i64 u ∧ wr2 = X) (fun v _ => n - (intOf v).toNat)
                case atStart => exact ⟨0, Nat.zero_le _, rfl, rfl⟩
                case round =>
                  obtain ⟨u, hu, rfl, rfl⟩ := hrel
                  by_cases hlt : u < n
                  · have hkn2 : (u : Int) < (n : Int) := Int.ofNat_lt.2 hlt
                    have HU := Lib.hid hlt
                    clear hu hlt hlk
                    go_wp2
                    --N1
                    rw [jnext HU.out (by have := HL.out; omega)]
                    exact ⟨⟨u + 1, HU.out, rfl, (by first | rfl | trivial)⟩, jlessR HU.out⟩
                  · have hkn2 : ¬ (u : Int) < (n : Int) := fun h => hlt (Int.ofNat_lt.1 h)
                    have h0 := HJe.out.trans ((if_neg (by have h1 := HP.out; have h2 := HKj.out; have h3 := HA4.out; omega)).trans (if_neg (by simp)))
                    obtain ⟨w2, hr, hN⟩ := HMu.out _ HWa.out h0
                    have HR := Lib.hid hN
                    clear hN h0 hu hlt
                    go_wp2
                    --N2
                    rw [jnext HI.out (by have := HL.out; omega)]
                    exact ⟨⟨i + 1, HI.out, rfl, HR.out⟩, jlessR HI.out⟩
              · have hw4 : (a4 != wrap64 (wrap64 (j : Int) + 1)) = true := by rw [hw]; simpa using h4
                have HF := Lib.hid (HWa.out.wrong 10 (i : Int))
                have HV := Lib.hid (verd_some HS.out HWa.out.left (c := 10) (HJe.out.trans (if_pos (.inr fun h => h4 (by rw [HY.out]; have := HKj.out; rw [h]; omega)))) (by decide))
                clear HS HM HMu h4 hw
                go_wp2
                refine bodyPost_ret (v := .agg #[.int .i64 10, .int .i64 (i : Int)]) ?_ rfl ⟨by rw [HV.out]; rfl, HF.out.2⟩
                exact results_cell_row (fn := Tryd.f7) (p := 4) (ty := 25) (g := w.heap.size) (t := 25) (cs := #[.int .i64 10, .int .i64 (i : Int)]) (fr := (0, 0)) (by kernel_rfl) _ _ (d := _) (by rfl) HF.out.1 Tryd.underlying25 rfl (by kernel_rfl)
            · have em : ((k : Nat) : Int).tmod 2 = 1 := by have : ((k : Nat) : Int).tmod 2 = ((k % 2 : Nat) : Int) := rfl; rw [this]; omega
              have HP := Lib.hid (show k % 2 = 1 by omega)
              clear hp
              have HF := Lib.hid (HWa.out.wrong 10 (i : Int))
              have HV := Lib.hid (verd_some HS.out HWa.out.left (c := 10) (HJe.out.trans (if_pos (.inl (by rw [HP.out]; decide)))) (by decide))
              clear HS HM HMu
              go_wp2
              refine bodyPost_ret (v := .agg #[.int .i64 10, .int .i64 (i : Int)]) ?_ rfl ⟨by rw [HV.out]; rfl, HF.out.2⟩
              exact results_cell_row (fn := Tryd.f7) (p := 4) (ty := 25) (g := w.heap.size) (t := 25) (cs := #[.int .i64 10, .int .i64 (i : Int)]) (fr := (0, 0)) (by kernel_rfl) _ _ (d := _) (by rfl) HF.out.1 Tryd.underlying25 rfl (by kernel_rfl)
          · rw [decide_eq_false h2]
            have HF := Lib.hid (HWa.out.wrong 2 (i : Int))
            have HV := Lib.hid (verd_some HS.out HWa.out.left (c := 2) (jErr_out (by decide) h2) (by decide))
            clear HS HM h2
            go_wp2
            refine bodyPost_ret (v := .agg #[.int .i64 2, .int .i64 (i : Int)]) ?_ rfl ⟨by rw [HV.out]; rfl, HF.out.2⟩
            exact results_cell_row (fn := Tryd.f7) (p := 4) (ty := 25) (g := w.heap.size) (t := 25) (cs := #[.int .i64 2, .int .i64 (i : Int)]) (fr := (0, 0)) (by kernel_rfl) _ _ (d := _) (by rfl) HF.out.1 Tryd.underlying25 rfl (by kernel_rfl)
        · go_wp2_with fail
          refine (jwithin_any _ _ _ _).mono ?_
          rintro x w' ⟨rfl, rfl⟩
          rw [HNw.out]
          by_cases h2 : 0 ≤ a3 ∧ a3 ≤ (n : Int) - 1
          · rw [decide_eq_true h2]
            obtain ⟨t, rfl⟩ : ∃ t : Nat, a3 = t := ⟨a3.toNat, by omega⟩
            have ht : t < n := by omega
            have hlk := HWa.out.map.look ht HL.out.2.2.2
            have HT := Lib.hid ht
            have HJe := Lib.hid (jErr_at (a := l.take i) (a1 := a1) (a2 := 2) (a4 := a4) (by decide) ht)
            have HMu := Lib.hid (fun (X : World) (hX : RJ w n l R i X) (h0 : jErr n (l.take i) (a1, 2, (t : Int), a4) = 0) => hX.next HS.out h0 HM.out rfl ht HL.out.2.2.2 (HLen.out i))
            clear h2 ht
            generalize hk : cntEv (l.take i) t = k at *
            have HK := Lib.hid hk
            obtain ⟨j, hj⟩ : ∃ j, k / 2 = j := ⟨_, rfl⟩
            have ed : ((k : Nat) : Int).tdiv 2 = ((j : Nat) : Int) := by rw [← hj]; rfl
            have HKj := Lib.hid hj
            have hk1 : k ≤ 1000 := by rw [← HK.out]; exact Nat.le_trans (List.length_filter_le _ _) (HLen.out i)
            have HK1 := Lib.hid hk1
            clear hj hk1 hk
            by_cases hp : k % 2 = 0
            · have em : ((k : Nat) : Int).tmod 2 = 0 := by have : ((k : Nat) : Int).tmod 2 = ((k % 2 : Nat) : Int) := rfl; rw [this]; omega
              have HP := Lib.hid (show k % 2 = 0 by omega)
              clear hp
              have HF := Lib.hid (HWa.out.wrong 10 (i : Int))
              have HV := Lib.hid (verd_some HS.out HWa.out.left (c := 10) (HJe.out.trans (if_pos (.inl (by rw [HP.out]; decide)))) (by decide))
              clear HS HM HMu
              go_wp2
              refine bodyPost_ret (v := .agg #[.int .i64 10, .int .i64 (i : Int)]) ?_ rfl ⟨by rw [HV.out]; rfl, HF.out.2⟩
              exact results_cell_row (fn := Tryd.f7) (p := 4) (ty := 25) (g := w.heap.size) (t := 25) (cs := #[.int .i64 10, .int .i64 (i : Int)]) (fr := (0, 0)) (by kernel_rfl) _ _ (d := _) (by rfl) HF.out.1 Tryd.underlying25 rfl (by kernel_rfl)
            · have em : ((k : Nat) : Int).tmod 2 = 1 := by have : ((k : Nat) : Int).tmod 2 = ((k % 2 : Nat) : Int) := rfl; rw [this]; omega
              have HP := Lib.hid (show k % 2 = 1 by omega)
              clear hp
              obtain ⟨y, hy⟩ : ∃ y : Int, y = (j : Int) + 1 := ⟨_, rfl⟩
              have hw : wrap64 (wrap64 (j : Int) + 1) = y := by have h1 := HKj.out; have h2 := HK1.out; clear em ed hlk; rw [hy, show wrap64 (j : Int) = (j : Int) by unfold wrap64; omega]; unfold wrap64; omega
              have HY := Lib.hid hy
              clear hy
              by_cases h4 : a4 = y
              · have hw4 : (a4 != wrap64 (wrap64 (j : Int) + 1)) = false := by rw [hw, h4]; simp
                have HA4 := Lib.hid (show a4 = (j : Int) + 1 from h4.trans HY.out)
                clear h4 hw
                have hat := heap_alloc_new wr (.cells #[.int .i64 a1, .int .i64 2, .int .i64 (t : Int), .int .i64 a4] 42)
                have b1 := (cell_of_row _ _ 1 _ _ _ hat).trans (show _ = some (.int .i64 2) from rfl)
                have b2 := (cell_of_row _ _ 2 _ _ _ hat).trans (show _ = some (.int .i64 (t : Int)) from rfl)
                have b3 := (cell_of_row _ _ 3 _ _ _ hat).trans (show _ = some (.int .i64 a4) from rfl)
                clear hat
                go_wp2
                --L2
                generalize wr.alloc (.cells #[.int .i64 a1, .int .i64 2, .int .i64 (t : Int), .int .i64 a4] 42) = X at *
                generalize wr.heap.size = g at *
                clear hw4 ed em x1 x2 x3 x4
                have hw5 : wrap64 (wrap64 (2 * a4) - 1) = (k : Int) := by have h1 := HP.out; have h2 := HKj.out; have h3 := HA4.out; have h5 := HK1.out; rw [h3, show wrap64 (2 * ((j : Int) + 1)) = 2 * ((j : Int) + 1) by unfold wrap64; omega]; unfold wrap64; omega
                have HW5 := Lib.hid hw5
                clear hw5
                go_loopw [61] (fun v wr2 => ∃ u : Nat, u ≤ n ∧ v = .int .i64 u ∧ wr2 = X ∧ Hid (∀ v, v < u → k ≤ cntEv (l.take i) v)) (fun v _ => n - (intOf v).toNat)
                case atStart => exact ⟨0, Nat.zero_le _, rfl, rfl, fun v hv => absurd hv (Nat.not_lt_zero _)⟩
                case round =>
                  obtain ⟨u, hu, rfl, rfl, hall⟩ := hrel
                  by_cases hlt : u < n
                  · have hkn2 : (u : Int) < (n : Int) := Int.ofNat_lt.2 hlt
                    have HU := Lib.hid (And.intro hlt hall.out)
                    have hlu := HWa.out.map.look hlt HL.out.2.2.2
                    clear hu hall hlk
                    have hw5 := HW5.out
                    by_cases hc : cntEv (l.take i) u < k
                    · have HF := Lib.hid (HWa.out.wrong 13 (i : Int))
                      have HV := Lib.hid (verd_some HS.out HWa.out.left (c := 13) (HJe.out.trans ((if_neg (by have h1 := HP.out; have h2 := HKj.out; have h3 := HA4.out; omega)).trans (if_pos ⟨(by first | rfl | trivial), u, hlt, hc⟩))) (by decide))
                      have hci : ((cntEv (l.take i) u : Nat) : Int) < (k : Int) := Int.ofNat_lt.2 hc
                      clear HS HM HMu hlt hc
                      generalize cntEv (l.take i) u = cu at *
                      go_wp2
                      --N3
                      refine bodyPost_ret (v := .agg #[.int .i64 13, .int .i64 (i : Int)]) ?_ rfl ⟨by rw [HV.out]; rfl, HF.out.2⟩
                      exact results_cell_row (fn := Tryd.f7) (p := 4) (ty := 25) (g := w.heap.size) (t := 25) (cs := #[.int .i64 13, .int .i64 (i : Int)]) (fr := (0, 0)) (by kernel_rfl) _ _ (d := _) (by rfl) HF.out.1 Tryd.underlying25 rfl (by kernel_rfl)
                    · have HU2 := Lib.hid (show ∀ v, v < u + 1 → k ≤ cntEv (l.take i) v from fun v hv => by
                        by_cases e : v = u
                        · subst e; omega
                        · exact HU.out.2 v (by omega))
                      have hci : ¬ ((cntEv (l.take i) u : Nat) : Int) < (k : Int) := fun h => hc (Int.ofNat_lt.1 h)
                      clear hc hlt
                      generalize cntEv (l.take i) u = cu at hlu hci
                      go_wp2
                      --N4
                      rw [jnext HU.out.1 (by have := HL.out; omega)]
                      exact ⟨⟨u + 1, HU.out.1, rfl, (by first | rfl | trivial), HU2.out⟩, jlessR HU.out.1⟩
                  · have hkn2 : ¬ (u : Int) < (n : Int) := fun h => hlt (Int.ofNat_lt.1 h)
                    have h0 := HJe.out.trans ((if_neg (by have h1 := HP.out; have h2 := HKj.out; have h3 := HA4.out; omega)).trans (if_neg (by rintro ⟨_, v, hv, hc⟩; have := hall.out v (by omega); omega)))
                    obtain ⟨w2, hr, hN⟩ := HMu.out _ HWa.out h0
                    have HR := Lib.hid hN
                    clear hN h0 hu hlt hall
                    go_wp2
                    --N5
                    rw [jnext HI.out (by have := HL.out; omega)]
                    exact ⟨⟨i + 1, HI.out, rfl, HR.out⟩, jlessR HI.out⟩
              · have hw4 : (a4 != wrap64 (wrap64 (j : Int) + 1)) = true := by rw [hw]; simpa using h4
                have HF := Lib.hid (HWa.out.wrong 10 (i : Int))
                have HV := Lib.hid (verd_some HS.out HWa.out.left (c := 10) (HJe.out.trans (if_pos (.inr fun h => h4 (by rw [HY.out]; have := HKj.out; rw [h]; omega)))) (by decide))
                clear HS HM HMu h4 hw
                go_wp2
                refine bodyPost_ret (v := .agg #[.int .i64 10, .int .i64 (i : Int)]) ?_ rfl ⟨by rw [HV.out]; rfl, HF.out.2⟩
                exact results_cell_row (fn := Tryd.f7) (p := 4) (ty := 25) (g := w.heap.size) (t := 25) (cs := #[.int .i64 10, .int .i64 (i : Int)]) (fr := (0, 0)) (by kernel_rfl) _ _ (d := _) (by rfl) HF.out.1 Tryd.underlying25 rfl (by kernel_rfl)
          · rw [decide_eq_false h2]
            have HF := Lib.hid (HWa.out.wrong 2 (i : Int))
            have HV := Lib.hid (verd_some HS.out HWa.out.left (c := 2) (jErr_out (by decide) h2) (by decide))
            clear HS HM h2
            go_wp2
            refine bodyPost_ret (v := .agg #[.int .i64 2, .int .i64 (i : Int)]) ?_ rfl ⟨by rw [HV.out]; rfl, HF.out.2⟩
            exact results_cell_row (fn := Tryd.f7) (p := 4) (ty := 25) (g := w.heap.size) (t := 25) (cs := #[.int .i64 2, .int .i64 (i : Int)]) (fr := (0, 0)) (by kernel_rfl) _ _ (d := _) (by rfl) HF.out.1 Tryd.underlying25 rfl (by kernel_rfl)
      · have h1a : (a2 != 1) = true := by simp; exact fun h => h1 (.inl h)
        have h1b : (a2 != 2) = true := by simp; exact fun h => h1 (.inr h)
        have HF := Lib.hid (HWa.out.wrong 1 (i : Int))
        have HV := Lib.hid (verd_some HS.out HWa.out.left (c := 1) (if_pos ⟨fun h => h1 (.inl h), fun h => h1 (.inr h)⟩) (by decide))
        clear h1 HS HM
        go_wp2
        refine bodyPost_ret (v := .agg #[.int .i64 1, .int .i64 (i : Int)]) ?_ rfl ⟨by rw [HV.out]; rfl, HF.out.2⟩
        exact results_cell_row (fn := Tryd.f7) (p := 4) (ty := 25) (g := w.heap.size) (t := 25) (cs := #[.int .i64 1, .int .i64 (i : Int)]) (fr := (0, 0)) (by kernel_rfl) _ _ (d := _) (by rfl) HF.out.1 Tryd.underlying25 rfl (by kernel_rfl)
    · have hkn : ¬ (i : Int) < (len : Int) := fun h => hlt (Int.ofNat_lt.1 h)
      obtain rfl : len = i := Nat.le_antisymm (Nat.le_of_not_lt hlt) hi
      have hnone : R = none := hx.out.left.trans (by have h := HEnd.out; rwa [HL.out.1] at h)
      have HX := Lib.hid hx.out
      have HV := Lib.hid (show verd R = (0, -1) by rw [hnone]; rfl)
      clear hx hi hlt hnone
      go_wp2_with fail
      --N6
      refine (rgood_any _).mono ?_
      rintro x w' ⟨rfl, hg⟩
      have h2 := HX.out.grown hg
      have hr := h2.res
      have r0 := (cell_of_row _ _ 0 _ _ _ hr).trans (show _ = some (.int .i64 0) from rfl)
      have r1 := (cell_of_row _ _ 1 _ _ _ hr).trans (show _ = some (.int .i64 0) from rfl)
      have r2 := frozen_of_row _ _ 0 _ _ hr
      have r3 := frozen_of_row _ _ 1 _ _ hr
      have HF := Lib.hid (h2.wrong 0 (-1))
      clear hg h2 hr
      go_wp2
      --N7
      refine bodyPost_ret (v := .agg #[.int .i64 0, .int .i64 (-1)]) ?_ rfl ⟨by rw [HV.out], HF.out.2⟩
      exact results_cell_row (fn := Tryd.f7) (p := 4) (ty := 25) (g := w.heap.size) (t := 25) (cs := #[.int .i64 0, .int .i64 (-1)]) (fr := (0, 0)) (by kernel_rfl) _ _ (d := _) (by rfl) HF.out.1 Tryd.underlying25 rfl (by kernel_rfl)
end Go.Proofs.YtoljmleomkkchaaDoor
