/-
  WHO AWAITS SLEEPS TILL IT IS TOLD: the walk of PartAwaits.
-/
import Derived.Test.YtkmidefgmefohaaDoorPRounds
import Derived.Test.YtkmidefgmefohaaDoorKAwait
import Derived.Test.YtkmidefgmefohaaDoorOpenS
import Derived.Deep.RegionHeld3
import Derived.Deep.AppendLies
import Derived.Deep.DeepCutAuto
import Derived.Deep.CutRange
namespace Go.Proofs.YtkmidefgmefohaaDoor
set_option maxRecDepth 100000
open Go.RowKit Go.Shelf Go.Sort
set_option linter.unusedVariables false

def endC : Array Value := #[.int .i64 16, .int .i64 3, .int .i64 0, .int .i64 0, .int .i64 0]
def oneC : Array Value := #[.int .i64 1, .int .i64 0, .int .i64 1, .int .i64 0, .int .i64 0]

theorem awaitA_is : [(1, 0, 1, 0, 0)] ++ awaitP 1 0 ++ [(16, 3, 0, 0, 0), (0, 0, 0, 0, 0)] = awaitA := by
  unfold awaitP awaitA
  rw [wrap_place _ (by decide), wrap_place _ (by decide)]
  rfl
theorem awaitB_is : [(1, 0, 1, 0, 0)] ++ tellP 0 1 ++ [(16, 3, 0, 0, 0), (0, 0, 0, 0, 0)] = awaitB := rfl
theorem await_fit : Fit [awaitA, awaitB] 1 := by
  refine ⟨by decide, by decide, fun i hi => ?_⟩
  have h2 : i < 2 := hi
  match i, h2 with
  | 0, _ => exact ⟨by decide, by decide, by decide, by decide, fun j hj => (by
      have h3 : j < 8 := hj
      match j, h3 with
      | 0, _ | 1, _ | 2, _ | 3, _ | 4, _ | 5, _ | 6, _ | 7, _ => exact ⟨by decide, by decide, by decide⟩), .inl rfl⟩
  | 1, _ => exact ⟨by decide, by decide, by decide, by decide, fun j hj => (by
      have h3 : j < 5 := hj
      match j, h3 with
      | 0, _ | 1, _ | 2, _ | 3, _ | 4, _ => exact ⟨by decide, by decide, by decide⟩), .inl rfl⟩
theorem await_done {n : Nat} {m : Mach} (h : AwaitAt ⟨8, 1, false, 5⟩ n m) : endsM m = (true, false) ∧ m.events.length = 2 := by
  obtain ⟨ho, ac, ev, st, rfl, hs, hl, he⟩ := h
  exact ⟨rfl, hl⟩
theorem pick_one2 : pickI 1 2 = 1 := by decide

/-- Two instructions that lie in blocks of their own. -/
theorem eo_grown {W u : World} {p q : Nat} (hE : W.heap[p]? = some (.cells endC 48)) (hO : W.heap[q]? = some (.cells oneC 48)) (hg : W.grownBy u none) :
    (u.cell? ⟨p, 0, none⟩ = some (.int .i64 16) ∧ u.cell? ⟨p, 1, none⟩ = some (.int .i64 3) ∧ u.cell? ⟨p, 2, none⟩ = some (.int .i64 0) ∧ u.cell? ⟨p, 3, none⟩ = some (.int .i64 0) ∧ u.cell? ⟨p, 4, none⟩ = some (.int .i64 0)) ∧
    u.cell? ⟨q, 0, none⟩ = some (.int .i64 1) ∧ u.cell? ⟨q, 1, none⟩ = some (.int .i64 0) ∧ u.cell? ⟨q, 2, none⟩ = some (.int .i64 1) ∧ u.cell? ⟨q, 3, none⟩ = some (.int .i64 0) ∧ u.cell? ⟨q, 4, none⟩ = some (.int .i64 0) := by
  have h1 := (hg.block p (lt_of_block hE) (by simp)).trans hE
  have h2 := (hg.block q (lt_of_block hO) (by simp)).trans hO
  exact ⟨⟨(cell_in h1 0).trans rfl, (cell_in h1 1).trans rfl, (cell_in h1 2).trans rfl, (cell_in h1 3).trans rfl, (cell_in h1 4).trans rfl⟩, (cell_in h2 0).trans rfl, (cell_in h2 1).trans rfl, (cell_in h2 2).trans rfl, (cell_in h2 3).trans rfl, (cell_in h2 4).trans rfl⟩

/-- A row of instructions that is written down, by its block's number. -/
theorem own_lit2 {w : World} {cs : Array Value} {l : List In5} {n b B : Nat} (hb : w.heap.size = b) (hcs : cs.toList = cells5 l) (hl : l.length = n) (hn : n ≤ 1000) (hB : B ≤ w.heap.size) : (w.alloc (.cells cs 48)).ownsRow B 48 5 (.slice (some ⟨b, 0, none⟩) n n) n (cells5 l) := by
  subst hb
  exact own_lit hcs hl hn B hB
/-- append of a row to a row, at a step of a region that draws its order. -/
theorem step_append_ins {W0 w : World} {ops : Array Oper} {o : Oper} {a : Act} {K : Act → World → Prop} {Q : Exit → Act → World → Prop} {E : Prop} (hgd : o.guard = none) (s x : Operand)
    (ho : o.op = .call { callee := .builtin .append, args := #[s, x], argTypes := #[35, 35] }) {A A' : Option Addr} {n m c c' B' : Nat} {xs news : List In5}
    (hs : a.eval s = .slice A n c) (hx : a.eval x = .slice A' m c') (hg0 : W0.grownBy w none) (hown : w.ownsRow W0.heap.size 48 5 (.slice A n c) n (cells5 xs)) (hnews : w.ownsRow B' 48 5 (.slice A' m c') m (cells5 news)) (hm : news.length = m) (hn : n + m ≤ 1000)
    (h : ∀ A1 c1 w', w'.ownsRow W0.heap.size 48 5 (.slice A1 (n + m) c1) (n + m) (cells5 (xs ++ news)) → W0.grownBy w' none → (∀ (B1 : Nat) (v1 : Value) (n1 : Nat) (l1 : List Value), w.ownsRow B1 48 5 v1 n1 l1 → v1.ownBlock ≠ Value.ownBlock (.slice A n c) → w'.ownsRow B1 48 5 v1 n1 l1) → K (a.put o.dst (.slice A1 (n + m) c1)) w') :
    if Region.wanted o (yielded ops a.tmps) = true then Oper.wp Tryd.prog o a w K Q else E := by
  have hw : Region.wanted o (yielded ops a.tmps) = true := by simp [Region.wanted, hgd]
  rw [if_pos hw]
  obtain ⟨v', w', hr, ho1, hg1⟩ := run_appendP (c := c') hown (Inss.of_own hnews hm) (by omega) hg0.size o.type
  obtain ⟨A1, c1, rfl⟩ := slice_of_own ho1
  refine Lib.wp_append_run w s x _ _ ho _ _ hs hx _ _ hr (h A1 c1 w' ho1 (hg0.andThen hg1 (fun k hk => .inl (hown.lt k hk).1)) (fun B1 v1 n1 l1 h1 hne => ?_))
  exact h1.kept hg1 (Or.inr hne)

set_option maxHeartbeats 4000000 in
theorem partAwaits_any {w : World} (hw : CW w) (A : Option Addr) (n c : Nat) (xs : List Int) (hI : Ints .i64 w w.heap.size A n xs) (hn : n ≤ 9223372036854775807) : Calls Tryd.prog 5 #[.slice A n c] w fun e w' => e = .returned (.bool true) ∧ Below w.heap.size w w' := by
  have HG := Lib.hid (fun w1 (h : Below w.heap.size w w1) => gone_any (hw.old h))
  have HW := Lib.hid hw
  have HI := Lib.hid hI
  clear hw hI
  go_enter Tryd.func5, Tryd.ntmps5
  go_wp2_with fail
  refine (pieced_any w).mono ?_
  rintro e w1 ⟨rfl, hb1⟩
  have HB1 := Lib.hid hb1
  clear hb1
  go_wp2_with fail
  refine (HG.out w1 HB1.out).mono ?_
  rintro e w2 ⟨rfl, hb2⟩
  have HB2 := Lib.hid (HB1.out.trans (hb2.mono HB1.out.size))
  clear hb2 HB1 HG
  by_cases h60 : 60 < n
  · have h60' : (60 : Int) < (n : Int) := by omega
    go_wp2
    go_ret
    exact ⟨rfl, HB2.out⟩
  have h60' : ¬ (60 : Int) < (n : Int) := by omega
  have d60 : decide ((60 : Int) < (n : Int)) = false := by simp; omega
  go_upto_region 7 with (fail)
  have hE := Lib.hid ((Below.heap_alloc (w2.alloc (.cells endC 48)) (.cells oneC 48) w2.heap.size (by simp)).trans (heap_alloc_new w2 (.cells endC 48)))
  have hO := Lib.hid (heap_alloc_new (w2.alloc (.cells endC 48)) (.cells oneC 48))
  have hBW := Lib.hid ((HB2.out.alloc HB2.out.size (.cells endC 48)).alloc (by have := HB2.out.size; simp; omega) (.cells oneC 48))
  rw [show (w2.alloc (.cells endC 48)).heap.size = w2.heap.size + 1 by simp] at hO
  have hsz : ((w2.alloc (.cells endC 48)).alloc (.cells oneC 48)).heap.size = w2.heap.size + 2 := by simp
  unfold endC oneC at hE hO hBW hsz
  generalize (w2.alloc (.cells #[.int .i64 16, .int .i64 3, .int .i64 0, .int .i64 0, .int .i64 0] 48)).alloc (.cells #[.int .i64 1, .int .i64 0, .int .i64 1, .int .i64 0, .int .i64 0] 48) = W0 at *
  have HEO := Lib.hid (fun u (hg : W0.grownBy u none) => eo_grown hE.out hO.out hg)
  obtain ⟨q, hq⟩ : ∃ q, w2.heap.size + 1 = q := ⟨_, rfl⟩
  rw [hq] at HEO ⊢
  have hpq : w2.heap.size < q := by omega
  obtain ⟨p, hp⟩ : ∃ p, w2.heap.size = p := ⟨_, rfl⟩
  rw [hp] at HEO hpq ⊢
  clear hE hO hsz hq hp HB2
  go_cut [5] from 29 to 36 (fun v wx => ∃ (A1 : Option Addr) (c1 : Nat), v = .slice A1 8 c1 ∧ Hid (wx.ownsRow W0.heap.size 48 5 (.slice A1 8 c1) 8 (cells5 awaitA)) ∧ Hid (W0.grownBy wx none))
  case first =>
    go_region_held3 (fun u => (u.cell? ⟨p, 0, none⟩ = some (.int .i64 16) ∧ u.cell? ⟨p, 1, none⟩ = some (.int .i64 3) ∧ u.cell? ⟨p, 2, none⟩ = some (.int .i64 0) ∧ u.cell? ⟨p, 3, none⟩ = some (.int .i64 0) ∧ u.cell? ⟨p, 4, none⟩ = some (.int .i64 0)) ∧ u.cell? ⟨q, 0, none⟩ = some (.int .i64 1) ∧ u.cell? ⟨q, 1, none⟩ = some (.int .i64 0) ∧ u.cell? ⟨q, 2, none⟩ = some (.int .i64 1) ∧ u.cell? ⟨q, 3, none⟩ = some (.int .i64 0) ∧ u.cell? ⟨q, 4, none⟩ = some (.int .i64 0))
      (first | exact HEO.out _ (by repeat (first | assumption | exact World.grownBy.refl _ none | refine grown_d ?_ | refine grown_a ?_ _)))
      (first
        | (go_at_call 19; refine (pawait_any 1 0 _).mono ?_; rintro e u ⟨rfl, rfl⟩)
        | (refine step_append_ins (W0 := W0) (by rfl) _ _ (by rfl) (xs := [(1, 0, 1, 0, 0)]) (news := (awaitP 1 0)) (n := 1) (m := 5) (by rfl) (by rfl) (by repeat (first | assumption | exact World.grownBy.refl _ none | refine grown_d ?_ | refine grown_a ?_ _)) (by first | exact own_lit2 (by simp) rfl rfl (by decide) (by simp <;> omega) | exact World.ownsRow.alloc (own_lit2 (by simp) rfl rfl (by decide) (by simp <;> omega)) _ | exact World.ownsRow.alloc (World.ownsRow.alloc (own_lit2 (by simp) rfl rfl (by decide) (by simp <;> omega)) _) _ | exact World.ownsRow.drew (own_lit2 (by simp) rfl rfl (by decide) (by simp <;> omega)) | exact World.ownsRow.drew (World.ownsRow.alloc (own_lit2 (by simp) rfl rfl (by decide) (by simp <;> omega)) _) | exact World.ownsRow.drew (World.ownsRow.alloc (World.ownsRow.alloc (own_lit2 (by simp) rfl rfl (by decide) (by simp <;> omega)) _) _)) (by first | exact own_lit2 (B := 0) (by simp) rfl rfl (by decide) (Nat.zero_le _) | exact World.ownsRow.alloc (own_lit2 (B := 0) (by simp) rfl rfl (by decide) (Nat.zero_le _)) _ | exact World.ownsRow.alloc (World.ownsRow.alloc (own_lit2 (B := 0) (by simp) rfl rfl (by decide) (Nat.zero_le _)) _) _ | exact World.ownsRow.drew (own_lit2 (B := 0) (by simp) rfl rfl (by decide) (Nat.zero_le _)) | exact World.ownsRow.drew (World.ownsRow.alloc (own_lit2 (B := 0) (by simp) rfl rfl (by decide) (Nat.zero_le _)) _) | exact World.ownsRow.drew (World.ownsRow.alloc (World.ownsRow.alloc (own_lit2 (B := 0) (by simp) rfl rfl (by decide) (Nat.zero_le _)) _) _)) (by rfl) (by decide) ?_; intro A3 c3 w3 hown3 hg3 hkeep3)
        | (refine step_append_ins (W0 := W0) (by rfl) _ _ (by rfl) (xs := [(1, 0, 1, 0, 0)] ++ (awaitP 1 0)) (news := [(16, 3, 0, 0, 0), (0, 0, 0, 0, 0)]) (n := 6) (m := 2) (by rfl) (by rfl) (by repeat (first | assumption | exact World.grownBy.refl _ none | refine grown_d ?_ | refine grown_a ?_ _)) (by first | exact hown3 | exact World.ownsRow.alloc hown3 _ | exact World.ownsRow.drew hown3 | exact World.ownsRow.drew (World.ownsRow.alloc hown3 _)) (by first | exact own_lit2 (B := 0) (by simp) rfl rfl (by decide) (Nat.zero_le _) | exact World.ownsRow.drew (own_lit2 (B := 0) (by simp) rfl rfl (by decide) (Nat.zero_le _)) | exact hkeep3 _ _ _ _ (own_lit2 (B := 0) (by simp) rfl rfl (by decide) (Nat.zero_le _)) (by simp [Value.ownBlock] <;> omega) | exact World.ownsRow.drew (hkeep3 _ _ _ _ (own_lit2 (B := 0) (by simp) rfl rfl (by decide) (Nat.zero_le _)) (by simp [Value.ownBlock] <;> omega)) | exact hkeep3 _ _ _ _ (World.ownsRow.alloc (own_lit2 (B := 0) (by simp) rfl rfl (by decide) (Nat.zero_le _)) _) (by simp [Value.ownBlock] <;> omega) | exact World.ownsRow.drew (hkeep3 _ _ _ _ (World.ownsRow.alloc (own_lit2 (B := 0) (by simp) rfl rfl (by decide) (Nat.zero_le _)) _) (by simp [Value.ownBlock] <;> omega)) | exact hkeep3 _ _ _ _ (World.ownsRow.alloc (World.ownsRow.alloc (own_lit2 (B := 0) (by simp) rfl rfl (by decide) (Nat.zero_le _)) _) _) (by simp [Value.ownBlock] <;> omega) | exact World.ownsRow.drew (hkeep3 _ _ _ _ (World.ownsRow.alloc (World.ownsRow.alloc (own_lit2 (B := 0) (by simp) rfl rfl (by decide) (Nat.zero_le _)) _) _) (by simp [Value.ownBlock] <;> omega)) | exact hkeep3 _ _ _ _ (World.ownsRow.drew (own_lit2 (B := 0) (by simp) rfl rfl (by decide) (Nat.zero_le _))) (by simp [Value.ownBlock] <;> omega) | exact World.ownsRow.drew (hkeep3 _ _ _ _ (World.ownsRow.drew (own_lit2 (B := 0) (by simp) rfl rfl (by decide) (Nat.zero_le _))) (by simp [Value.ownBlock] <;> omega)) | exact hkeep3 _ _ _ _ (World.ownsRow.drew (World.ownsRow.alloc (own_lit2 (B := 0) (by simp) rfl rfl (by decide) (Nat.zero_le _)) _)) (by simp [Value.ownBlock] <;> omega) | exact World.ownsRow.drew (hkeep3 _ _ _ _ (World.ownsRow.drew (World.ownsRow.alloc (own_lit2 (B := 0) (by simp) rfl rfl (by decide) (Nat.zero_le _)) _)) (by simp [Value.ownBlock] <;> omega)) | exact hkeep3 _ _ _ _ (World.ownsRow.drew (World.ownsRow.alloc (World.ownsRow.alloc (own_lit2 (B := 0) (by simp) rfl rfl (by decide) (Nat.zero_le _)) _) _)) (by simp [Value.ownBlock] <;> omega) | exact World.ownsRow.drew (hkeep3 _ _ _ _ (World.ownsRow.drew (World.ownsRow.alloc (World.ownsRow.alloc (own_lit2 (B := 0) (by simp) rfl rfl (by decide) (Nat.zero_le _)) _) _)) (by simp [Value.ownBlock] <;> omega))) (by rfl) (by decide) ?_; intro A4 c4 w4 hown4 hg4 hkeep4))
    all_goals (go_wp2_with fail; go_meet; exact ⟨_, _, rfl, Lib.hid (awaitA_is ▸ hown4), Lib.hid hg4⟩)
  case rest =>
    obtain ⟨A5, c5, rfl, HO5, HG5⟩ := hcut
    have HEO2 := Lib.hid (fun u (hg : wc.grownBy u none) => HEO.out u (HG5.out.andThen hg (fun j hj => by cases hj)))
    have HB5 := Lib.hid (hBW.out.grown HG5.out hBW.out.size (by intro k hk; cases hk))
    have HS5 := Lib.hid HG5.out.size
    clear HG5 HEO hBW
    generalize wc = W1 at *
    go_upto_region 8 with (fail)
    go_cut [6] from 37 to 44 (fun v wx => ∃ (A1 : Option Addr) (c1 : Nat), v = .slice A1 5 c1 ∧ Hid (wx.ownsRow W1.heap.size 48 5 (.slice A1 5 c1) 5 (cells5 awaitB)) ∧ Hid (W1.grownBy wx none))
    case first =>
      go_region_held3 (fun u => (u.cell? ⟨p, 0, none⟩ = some (.int .i64 16) ∧ u.cell? ⟨p, 1, none⟩ = some (.int .i64 3) ∧ u.cell? ⟨p, 2, none⟩ = some (.int .i64 0) ∧ u.cell? ⟨p, 3, none⟩ = some (.int .i64 0) ∧ u.cell? ⟨p, 4, none⟩ = some (.int .i64 0)) ∧ u.cell? ⟨q, 0, none⟩ = some (.int .i64 1) ∧ u.cell? ⟨q, 1, none⟩ = some (.int .i64 0) ∧ u.cell? ⟨q, 2, none⟩ = some (.int .i64 1) ∧ u.cell? ⟨q, 3, none⟩ = some (.int .i64 0) ∧ u.cell? ⟨q, 4, none⟩ = some (.int .i64 0))
        (first | exact HEO2.out _ (by repeat (first | assumption | exact World.grownBy.refl _ none | refine grown_d ?_ | refine grown_a ?_ _)))
        (first
          | (go_at_call 20; refine (ptell_any 0 1 _).mono ?_; rintro e u ⟨rfl, rfl⟩)
          | (refine step_append_ins (W0 := W1) (by rfl) _ _ (by rfl) (xs := [(1, 0, 1, 0, 0)]) (news := (tellP 0 1)) (n := 1) (m := 2) (by rfl) (by rfl) (by repeat (first | assumption | exact World.grownBy.refl _ none | refine grown_d ?_ | refine grown_a ?_ _)) (by first | exact own_lit2 (by simp) rfl rfl (by decide) (by simp <;> omega) | exact World.ownsRow.alloc (own_lit2 (by simp) rfl rfl (by decide) (by simp <;> omega)) _ | exact World.ownsRow.alloc (World.ownsRow.alloc (own_lit2 (by simp) rfl rfl (by decide) (by simp <;> omega)) _) _ | exact World.ownsRow.drew (own_lit2 (by simp) rfl rfl (by decide) (by simp <;> omega)) | exact World.ownsRow.drew (World.ownsRow.alloc (own_lit2 (by simp) rfl rfl (by decide) (by simp <;> omega)) _) | exact World.ownsRow.drew (World.ownsRow.alloc (World.ownsRow.alloc (own_lit2 (by simp) rfl rfl (by decide) (by simp <;> omega)) _) _)) (by first | exact own_lit2 (B := 0) (by simp) rfl rfl (by decide) (Nat.zero_le _) | exact World.ownsRow.alloc (own_lit2 (B := 0) (by simp) rfl rfl (by decide) (Nat.zero_le _)) _ | exact World.ownsRow.alloc (World.ownsRow.alloc (own_lit2 (B := 0) (by simp) rfl rfl (by decide) (Nat.zero_le _)) _) _ | exact World.ownsRow.drew (own_lit2 (B := 0) (by simp) rfl rfl (by decide) (Nat.zero_le _)) | exact World.ownsRow.drew (World.ownsRow.alloc (own_lit2 (B := 0) (by simp) rfl rfl (by decide) (Nat.zero_le _)) _) | exact World.ownsRow.drew (World.ownsRow.alloc (World.ownsRow.alloc (own_lit2 (B := 0) (by simp) rfl rfl (by decide) (Nat.zero_le _)) _) _)) (by rfl) (by decide) ?_; intro A3 c3 w3 hown3 hg3 hkeep3)
          | (refine step_append_ins (W0 := W1) (by rfl) _ _ (by rfl) (xs := [(1, 0, 1, 0, 0)] ++ (tellP 0 1)) (news := [(16, 3, 0, 0, 0), (0, 0, 0, 0, 0)]) (n := 3) (m := 2) (by rfl) (by rfl) (by repeat (first | assumption | exact World.grownBy.refl _ none | refine grown_d ?_ | refine grown_a ?_ _)) (by first | exact hown3 | exact World.ownsRow.alloc hown3 _ | exact World.ownsRow.drew hown3 | exact World.ownsRow.drew (World.ownsRow.alloc hown3 _)) (by first | exact own_lit2 (B := 0) (by simp) rfl rfl (by decide) (Nat.zero_le _) | exact World.ownsRow.drew (own_lit2 (B := 0) (by simp) rfl rfl (by decide) (Nat.zero_le _)) | exact hkeep3 _ _ _ _ (own_lit2 (B := 0) (by simp) rfl rfl (by decide) (Nat.zero_le _)) (by simp [Value.ownBlock] <;> omega) | exact World.ownsRow.drew (hkeep3 _ _ _ _ (own_lit2 (B := 0) (by simp) rfl rfl (by decide) (Nat.zero_le _)) (by simp [Value.ownBlock] <;> omega)) | exact hkeep3 _ _ _ _ (World.ownsRow.alloc (own_lit2 (B := 0) (by simp) rfl rfl (by decide) (Nat.zero_le _)) _) (by simp [Value.ownBlock] <;> omega) | exact World.ownsRow.drew (hkeep3 _ _ _ _ (World.ownsRow.alloc (own_lit2 (B := 0) (by simp) rfl rfl (by decide) (Nat.zero_le _)) _) (by simp [Value.ownBlock] <;> omega)) | exact hkeep3 _ _ _ _ (World.ownsRow.alloc (World.ownsRow.alloc (own_lit2 (B := 0) (by simp) rfl rfl (by decide) (Nat.zero_le _)) _) _) (by simp [Value.ownBlock] <;> omega) | exact World.ownsRow.drew (hkeep3 _ _ _ _ (World.ownsRow.alloc (World.ownsRow.alloc (own_lit2 (B := 0) (by simp) rfl rfl (by decide) (Nat.zero_le _)) _) _) (by simp [Value.ownBlock] <;> omega)) | exact hkeep3 _ _ _ _ (World.ownsRow.drew (own_lit2 (B := 0) (by simp) rfl rfl (by decide) (Nat.zero_le _))) (by simp [Value.ownBlock] <;> omega) | exact World.ownsRow.drew (hkeep3 _ _ _ _ (World.ownsRow.drew (own_lit2 (B := 0) (by simp) rfl rfl (by decide) (Nat.zero_le _))) (by simp [Value.ownBlock] <;> omega)) | exact hkeep3 _ _ _ _ (World.ownsRow.drew (World.ownsRow.alloc (own_lit2 (B := 0) (by simp) rfl rfl (by decide) (Nat.zero_le _)) _)) (by simp [Value.ownBlock] <;> omega) | exact World.ownsRow.drew (hkeep3 _ _ _ _ (World.ownsRow.drew (World.ownsRow.alloc (own_lit2 (B := 0) (by simp) rfl rfl (by decide) (Nat.zero_le _)) _)) (by simp [Value.ownBlock] <;> omega)) | exact hkeep3 _ _ _ _ (World.ownsRow.drew (World.ownsRow.alloc (World.ownsRow.alloc (own_lit2 (B := 0) (by simp) rfl rfl (by decide) (Nat.zero_le _)) _) _)) (by simp [Value.ownBlock] <;> omega) | exact World.ownsRow.drew (hkeep3 _ _ _ _ (World.ownsRow.drew (World.ownsRow.alloc (World.ownsRow.alloc (own_lit2 (B := 0) (by simp) rfl rfl (by decide) (Nat.zero_le _)) _) _)) (by simp [Value.ownBlock] <;> omega))) (by rfl) (by decide) ?_; intro A4 c4 w4 hown4 hg4 hkeep4))
      all_goals (go_wp2_with fail; go_meet; exact ⟨_, _, rfl, Lib.hid (awaitB_is ▸ hown4), Lib.hid hg4⟩)
    case rest =>
      obtain ⟨A6, c6, rfl, HO6, HG6⟩ := hcut
      have HO5 := Lib.hid (own_grown0 HO5.out HG6.out)
      have HB6 := Lib.hid (HB5.out.grown HG6.out HB5.out.size (by intro k hk; cases hk))
      clear HG6 HEO2 HB5 HS5
      generalize wc = W2 at *
      go_wp2_with fail
      obtain ⟨W3, hW3⟩ : ∃ W3, (W2.alloc (.cells #[.slice A5 8 c5, .slice A6 5 c6] 35)).alloc (.cells #[.int .u64 0] 50) = W3 := ⟨_, rfl⟩
      have hat1 : W3.heap[W2.heap.size]? = some (.cells #[.slice A5 8 c5, .slice A6 5 c6] 35 (0, 0)) := by
        rw [← hW3]
        exact (Below.heap_alloc _ _ _ (by simp)).trans (heap_alloc_new W2 _)
      have hat2 : W3.heap[W2.heap.size + 1]? = some (.cells #[.int .u64 0] 50 (0, 0)) := by
        rw [← hW3]
        have := heap_alloc_new (W2.alloc (.cells #[.slice A5 8 c5, .slice A6 5 c6] 35)) (.cells #[.int .u64 0] 50)
        rwa [show (W2.alloc (.cells #[.slice A5 8 c5, .slice A6 5 c6] 35)).heap.size = W2.heap.size + 1 by simp] at this
      have hO5 := HO5.out
      have hO6 := HO6.out
      have hb3 : Below w.heap.size w W3 := by
        rw [← hW3]
        exact (HB6.out.alloc HB6.out.size _).alloc (by have := HB6.out.size; simp; omega) _
      replace hO5 : W3.ownsRow W0.heap.size 48 5 (.slice A5 8 c5) 8 (cells5 awaitA) := hW3 ▸ (hO5.alloc _).alloc _
      replace hO6 : W3.ownsRow W1.heap.size 48 5 (.slice A6 5 c6) 5 (cells5 awaitB) := hW3 ▸ (hO6.alloc _).alloc _
      have hsz3 : W2.heap.size + 1 < W3.heap.size := lt_of_block hat2
      rw [hW3]
      have hP : Progs W3 W3.heap.size (some ⟨W2.heap.size, 0, none⟩) 2 [awaitA, awaitB] := by
        refine ⟨rfl, fun _ => ⟨_, _, rfl, by omega, fun i hi => ?_⟩⟩
        match i, hi with
        | 0, _ => exact ⟨A5, c5, (cell_in hat1 0).trans rfl, Inss.of_own hO5 rfl⟩
        | 1, _ => exact ⟨A6, c6, (cell_in hat1 1).trans rfl, Inss.of_own hO6 rfl⟩
      have hC : Ints .u64 W3 W3.heap.size (some ⟨W2.heap.size + 1, 0, none⟩) 1 [0] := by
        refine ⟨rfl, fun _ => ⟨_, _, rfl, hsz3, fun i hi => ?_⟩⟩
        match i, hi with
        | 0, _ => exact (cell_in hat2 0).trans rfl
      refine (new_at HW.out hb3 _ _ 2 2 1 1 [awaitA, awaitB] [0] hP hC (by decide) (by decide) (fun i hi => await_fit.2.2 i hi)).mono ?_
      rintro e w4 ⟨b, rfl, hA⟩
      have HA := Lib.hid hA
      have HM := Lib.hid (newM_big (ps := [awaitA, awaitB]) (cells := [0]) await_fit (by intro v hv; simp at hv; subst hv; exact ⟨by decide, by decide⟩))
      have HX := Lib.hid await_new
      generalize newM [awaitA, awaitB] [0] = m0 at *
      clear hA hP hC hat1 hat2 hO5 hO6 hb3 hsz3 hW3 HO5 HO6 HB6 HW
      clear hn
      go_wp2
      go_loopw [61] (fun j wr => ∃ (k : Nat) (x : Two2) (m : Mach), k ≤ n ∧ j = .int .i64 k ∧ Hid (AwaitAt x k m) ∧ Hid (MBig [0] m) ∧ Hid (At w b m wr)) (fun j _ => n - (intOf j).toNat)
      case atStart => exact ⟨0, _, m0, Nat.zero_le _, rfl, HX, HM, HA⟩
      case round =>
        obtain ⟨k, x, m, hk, rfl, hX, hM, hA⟩ := hrel
        by_cases hlt : k < n
        · have hkn : (k : Int) < (n : Int) := by omega
          obtain ⟨ba, off, rfl, hba, hcell⟩ := HI.out.row (by omega)
          have hc0 : wr.cell? ⟨ba, off + k, none⟩ = some (.int .i64 (xs.getD k 0)) := (hA.out.bel.cell (p := ⟨ba, off + k, none⟩) hba).trans (hcell k hlt)
          generalize xs.getD k 0 = t at hc0
          obtain ⟨v, hv⟩ := nat_of (pickI_lo t 2)
          have hv2 := pickI_hi t 2 (by omega)
          rw [hv] at hv2
          have hstep : ∃ x', AwaitAt x' (k + 1) (stepM 20000 m (v : Int)).2 := by
            have : v = 0 ∨ v = 1 := by omega
            rcases this with rfl | rfl
            · exact ⟨_, await_0 hX.out (by omega)⟩
            · exact ⟨_, await_1 hX.out (by omega)⟩
          obtain ⟨x', hx'⟩ := hstep
          have HX' := Lib.hid hx'
          have HM' := Lib.hid (hM.out.step (v : Int))
          have HAS := Lib.hid (at_step hA.out hM.out (v : Int))
          clear hx' hX hM hA hcell
          generalize (errV (stepM 20000 m (v : Int)).1) = RV at *
          generalize (stepM 20000 m (v : Int)).2 = m' at *
          go_wp2_with fail
          refine (pick_det t _ 2 _ (by go_num) (by omega) (by omega)).mono ?_
          rintro e w5 ⟨rfl, rfl⟩
          rw [hv]
          clear hv
          go_wp2_with fail
          refine HAS.out.mono ?_
          rintro e w5 ⟨rfl, hA5⟩
          have HA5 := Lib.hid hA5
          clear hA5 HAS hc0
          obtain ⟨vc, hvc, hsafe⟩ := await_safe HX'.out
          obtain ⟨hfew, hprogs⟩ := await_few HX'.out
          obtain ⟨L, hL⟩ : ∃ L, m'.events.length = L := ⟨_, rfl⟩
          go_wp2_with fail
          refine (at_events HA5.out (by omega)).mono ?_
          rintro e w6 ⟨A7, c7, rfl, ho7, hg7⟩
          have HA7 := Lib.hid (HA5.out.grow hg7)
          rw [hL] at ho7 hfew hsafe ⊢
          have HO7 := Lib.hid ho7
          have HL := Lib.hid hL
          have HVC := Lib.hid hvc
          have HSF := Lib.hid hsafe
          clear ho7 hg7 HA5 hL hvc hsafe
          go_wp2
          go_loopw [11, 12, 72] (fun a c j wr => ∃ (i : Nat) (z y : Int), i ≤ L ∧ j = .int .i64 i ∧ a = .int .i64 z ∧ c = .int .i64 y ∧ (z = -1 ∨ 0 ≤ z ∧ 0 < L) ∧ (y = -1 ∨ 0 ≤ y ∧ 0 < L) ∧ Hid (wr.ownsRow w5.heap.size 44 4 (.slice A7 L c7) L (cellsE m'.events)) ∧ Hid (At w b m' wr)) (fun _ _ j _ => L - (intOf j).toNat)
          case atStart => exact ⟨0, -1, -1, Nat.zero_le _, rfl, rfl, rfl, .inl rfl, .inl rfl, HO7, HA7⟩
          case round =>
            obtain ⟨i, z, y, hi, rfl, rfl, rfl, hz, hy, hO, hA⟩ := hrel
            by_cases hil : i < L
            · have hiL : (i : Int) < (L : Int) := by omega
              have hi0 : (0 : Int) ≤ (i : Int) := by omega
              obtain ⟨g7, off7, e7, x1, x2, x3, x4⟩ := evRow_own hO.out HL.out i hil
              subst e7
              generalize m'.events.getD i default = ev at x1 x2 x3 x4
              obtain ⟨z1, z2, z3, z4⟩ := ev
              dsimp only at x1 x2 x3 x4
              have HO := Lib.hid hO.out
              have HA := Lib.hid hA.out
              clear hO hA HO7 HA7
              by_cases h3 : z3 = 0
              · subst h3
                go_wp2
                go_roundw
                case rel => exact ⟨i + 1, i, y, by omega, by go_num, rfl, rfl, .inr ⟨hi0, by omega⟩, hy, Lib.hid (HO.out.alloc _), Lib.hid (HA.out.grow (grown_a (World.grownBy.refl _ none) _))⟩
                case measure => simp [intOf]; omega
              · have h3' : (z3 == 0) = false := beq_eq_false_iff_ne.2 h3
                go_wp2
                go_roundw
                case rel => exact ⟨i + 1, z, i, by omega, by go_num, rfl, rfl, hz, .inr ⟨hi0, by omega⟩, Lib.hid (HO.out.alloc _), Lib.hid (HA.out.grow (grown_a (World.grownBy.refl _ none) _))⟩
                case measure => simp [intOf]; omega
            · have hiL : ¬ (i : Int) < (L : Int) := by omega
              have HA := Lib.hid hA.out
              clear hO hA HO7 HA7
              go_wp2_with fail
              refine (at_cells HA.out (by rw [HVC.out]; simp)).mono ?_
              rw [HVC.out]
              rintro e w8 ⟨A8, c8, rfl, ho8, hg8⟩
              have HA8 := Lib.hid (HA.out.grow hg8)
              clear ho8 hg8 HA
              go_wp2_with fail
              refine (at_cells HA8.out (by rw [HVC.out]; simp)).mono ?_
              rw [HVC.out]
              rintro e w9 ⟨A9, c9, rfl, ho9, hg9⟩
              have HA9 := Lib.hid (HA8.out.grow hg9)
              obtain ⟨g9, c9', hv9, hb9, hlt9⟩ := ho9.form (by simp)
              obtain ⟨rfl, rfl⟩ : A9 = some ⟨g9, 0, none⟩ ∧ c9 = c9' := by injection hv9 with h1 _ h3; exact ⟨h1, h3⟩
              have hcv : w9.cell? ⟨g9, 0, none⟩ = some (.int .u64 vc) := (ho9.cellAt 0 (by simp)).trans rfl
              clear ho9 hg9 HA8 hv9 hb9
              by_cases hv1 : vc = 1
              · subst hv1
                rcases hz with rfl | ⟨hz0, -⟩
                · rcases hy with rfl | ⟨hy0, -⟩
                  · go_wp2
                    go_roundw
                    case rel => exact ⟨k + 1, x', m', by omega, by go_num, HX', HM', HA9⟩
                    case measure => simp [intOf]; omega
                  · go_wp2
                    go_roundw
                    case rel => exact ⟨k + 1, x', m', by omega, by go_num, HX', HM', HA9⟩
                    case measure => simp [intOf]; omega
                · rcases hy with rfl | ⟨hy0, -⟩
                  · go_wp2
                    go_roundw
                    case rel => exact ⟨k + 1, x', m', by omega, by go_num, HX', HM', HA9⟩
                    case measure => simp [intOf]; omega
                  · go_wp2
                    go_roundw
                    case rel => exact ⟨k + 1, x', m', by omega, by go_num, HX', HM', HA9⟩
                    case measure => simp [intOf]; omega
              · have hL0 : ¬ 0 < L := fun h => hv1 (HSF.out h)
                have hv1' : (vc == 1) = false := beq_eq_false_iff_ne.2 hv1
                rcases hz with rfl | ⟨_, hz1⟩
                · rcases hy with rfl | ⟨_, hy1⟩
                  · go_wp2
                    go_roundw
                    case rel => exact ⟨k + 1, x', m', by omega, by go_num, HX', HM', HA9⟩
                    case measure => simp [intOf]; omega
                  · exact absurd hy1 hL0
                · exact absurd hz1 hL0
        · have hkn : ¬ (k : Int) < (n : Int) := by omega
          have hfin := Lib.hid (await_all hX.out)
          have HA0 := Lib.hid hA.out
          have HX0 := Lib.hid hX.out
          have HM0 := Lib.hid hM.out
          clear hX hM hA HX HM HA
          go_wp2
          go_loopw [109] (fun j wr => ∃ (i : Nat) (x : Two2) (m : Mach), i ≤ 30 ∧ j = .int .i64 i ∧ Hid (bothT (30 - i) x = ⟨8, 1, false, 5⟩) ∧ Hid (AwaitAt x (k + 2 * i) m) ∧ Hid (MBig [0] m) ∧ Hid (At w b m wr)) (fun j _ => 30 - (intOf j).toNat)
          case atStart => exact ⟨0, x, m, Nat.zero_le _, rfl, hfin, HX0, HM0, HA0⟩
          case round =>
            clear HX0 HM0 HA0 hfin
            obtain ⟨i, x, m, hi, rfl, hF, hX, hM, hA⟩ := hrel
            by_cases hil : i < 30
            · have hiL : (i : Int) < 30 := by omega
              have hX1 := Lib.hid (await_1 hX.out (by omega))
              have hX2 := Lib.hid (await_0 hX1.out (by omega))
              have hF2 : bothT (30 - (i + 1)) (stepA (stepB x)) = ⟨8, 1, false, 5⟩ := by
                have := hF.out
                rw [show 30 - i = (30 - (i + 1)) + 1 by omega] at this
                exact this
              have HF2 := Lib.hid hF2
              have HM1 := Lib.hid (hM.out.step 1)
              have HM2 := Lib.hid (HM1.out.step 0)
              have HAS := Lib.hid (at_step hA.out hM.out 1)
              have HAS2 := Lib.hid (fun (wr : World) (h : At w b (stepM 20000 m 1).2 wr) => at_step h HM1.out 0)
              clear hX hX1 hF hF2 hM HM1 hA
              generalize (errV (stepM 20000 m 1).1) = RV at *
              generalize (stepM 20000 m 1).2 = m1 at *
              generalize (errV (stepM 20000 m1 0).1) = RV2 at *
              generalize (stepM 20000 m1 0).2 = m2 at *
              go_wp2_with fail
              refine (pick_det 1 _ 2 _ (by go_num) (by omega) (by omega)).mono ?_
              rintro e w5 ⟨rfl, rfl⟩
              rw [pick_one2]
              go_wp2_with fail
              refine HAS.out.mono ?_
              rintro e w6 ⟨rfl, hA6⟩
              have HA6 := Lib.hid hA6
              clear hA6 HAS
              go_wp2_with fail
              refine (HAS2.out _ HA6.out).mono ?_
              rintro e w7 ⟨rfl, hA7⟩
              have HA7 := Lib.hid hA7
              clear hA7 HAS2 HA6
              go_wp2
              go_roundw
              case rel => exact ⟨i + 1, _, m2, by omega, by go_num, HF2, Lib.hid (by have := hX2.out; rwa [show k + 2 * i + 1 + 1 = k + 2 * (i + 1) by omega] at this), HM2, HA7⟩
              case measure => simp [intOf]; omega
            · have hiL : ¬ (i : Int) < 30 := by omega
              have h30 : i = 30 := by omega
              subst h30
              have hx8 : x = ⟨8, 1, false, 5⟩ := hF.out
              subst hx8
              obtain ⟨hes, hel⟩ := await_done hX.out
              obtain ⟨_, hprogs⟩ := await_few hX.out
              have HA6 := Lib.hid hA.out
              clear hA hX hM hF
              go_wp2_with fail
              refine (at_ends HA6.out (by rw [hprogs]; decide)).mono ?_
              rw [hes]
              rintro e w6 ⟨rfl, hg6⟩
              have HA7 := Lib.hid (HA6.out.grow hg6)
              clear hg6 HA6
              go_wp2_with fail
              refine (at_events HA7.out (by omega)).mono ?_
              rw [hel]
              rintro e w7 ⟨A7, c7, rfl, ho7, hg7⟩
              have HB7 := Lib.hid (HA7.out.grow hg7).bel
              clear ho7 hg7 HA7
              go_wp2
              go_ret
              exact ⟨rfl, HB7.out⟩
end Go.Proofs.YtkmidefgmefohaaDoor
