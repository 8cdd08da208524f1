/-
  slices.Clone, slices.IndexFunc and slices.DeleteFunc at []api.Move.
-/
import Derived.Test.YtjlhinjmnhpdaaaGreatDoorQE3
import Derived.Test.YtjlhinjmnhpdaaaGreatDoorQA
namespace Go.Proofs.YtjlhinjmnhpdaaaGreatDoor
set_option maxRecDepth 100000
open Go.RowKit Go.Shelf
set_option linter.unusedVariables false
set_option linter.unusedSimpArgs false

theorem infoMove : (Tryz.prog.info? 48).map (fun i => (i.zero, i.size, i.bytes)) = some (some (.agg #[.int .i64 0, .bool false]), 2, 16) := by kernel_rfl

/-- The cells of sleepers, one behind the other. -/
def cellsM : List (Int × Bool) → List Value
  | [] => []
  | s :: l => .int .i64 s.1 :: .bool s.2 :: cellsM l

theorem cellsM_length (l : List (Int × Bool)) : (cellsM l).length = l.length * 2 := by
  induction l with
  | nil => rfl
  | cons s l ih => simp only [cellsM, List.length_cons, ih]; omega

theorem cellsM_append (l r : List (Int × Bool)) : cellsM (l ++ r) = cellsM l ++ cellsM r := by
  induction l with
  | nil => rfl
  | cons s l ih => simp only [List.cons_append, cellsM, ih]

theorem cellsM_at (l : List (Int × Bool)) (k : Nat) (h : k < l.length) : (cellsM l)[k * 2]? = some (.int .i64 (l.getD k default).1) ∧ (cellsM l)[k * 2 + 1]? = some (.bool (l.getD k default).2) := by
  induction l generalizing k with
  | nil => exact absurd h (Nat.not_lt_zero _)
  | cons s l ih =>
    rcases k with _ | k
    · exact ⟨rfl, rfl⟩
    · have h1 := ih k (by simpa using h)
      rw [show (k + 1) * 2 = k * 2 + 1 + 1 from by omega]
      exact h1

theorem cellsM_take (l : List (Int × Bool)) (k : Nat) : (cellsM l).take (k * 2) = cellsM (l.take k) := by
  induction l generalizing k with
  | nil => simp [cellsM]
  | cons s l ih =>
    rcases k with _ | k
    · rfl
    · rw [show (k + 1) * 2 = k * 2 + 1 + 1 from by omega]
      simp only [cellsM, List.take_succ_cons, ih k]

theorem cellsM_one (l : List (Int × Bool)) : ∀ u ∈ cellsM l, u.oneCell' = true := by
  induction l with
  | nil => intro u hu; cases hu
  | cons s l ih =>
    intro u hu
    simp only [cellsM, List.mem_cons] at hu
    rcases hu with rfl | rfl | hu
    · rfl
    · rfl
    · exact ih u hu

theorem news_of_moves {w : World} {B : Nat} {ad : Addr} {n : Nat} {l : List (Int × Bool)} (h : Moves w B (some ad) n l) : ∀ j u, (cellsM l)[j]? = some u → w.cell? (ad.add j) = some u := by
  intro j u hu
  have hl := h.len
  have hj : j < (cellsM l).length := (List.getElem?_eq_some_iff.1 hu).1
  rw [cellsM_length] at hj
  obtain ⟨b, off, e, _, hc⟩ := h.row (by omega)
  obtain rfl : ad = ⟨b, off, none⟩ := by injection e
  obtain ⟨c1, c2⟩ := hc (j / 2) (by omega)
  obtain ⟨h1, h2⟩ := cellsM_at l (j / 2) (by omega)
  have ha : (⟨b, off, none⟩ : Addr).add j = ⟨b, off + j, none⟩ := by unfold Addr.add; split <;> simp_all
  rw [ha]
  have hr : j % 2 = 0 ∨ j % 2 = 1 := by omega
  rcases hr with hr | hr
  · rw [show off + j = off + j / 2 * 2 by omega, c1, ← h1, show j / 2 * 2 = j by omega, hu]
  · rw [show off + j = off + j / 2 * 2 + 1 by omega, c2, ← h2, show j / 2 * 2 + 1 = j by omega, hu]
theorem moves_own {w : World} {B n : Nat} {A : Option Addr} {c : Nat} {l : List (Int × Bool)} (h : w.ownsRow B 48 2 (.slice A n c) n (cellsM l)) (hl : l.length = n) : Moves w w.heap.size A n l := by
  refine ⟨hl, fun hn => ?_⟩
  obtain ⟨g, cap, hv, hb, hlt⟩ := h.form hn
  obtain ⟨rfl, rfl⟩ : A = some ⟨g, 0, none⟩ ∧ c = cap := by injection hv with h1 _ h3; exact ⟨h1, h3⟩
  refine ⟨g, 0, rfl, hlt, fun i hi => ?_⟩
  obtain ⟨h1, h2⟩ := cellsM_at l i (by omega)
  have hl2 := cellsM_length l
  rw [Nat.zero_add]
  exact ⟨(h.cellAt _ (by omega)).trans h1, (h.cellAt _ (by omega)).trans h2⟩

set_option maxHeartbeats 400000 in
theorem cloneM_any {w : World} {B : Nat} (A : Option Addr) (n c : Nat) (xs : List (Int × Bool)) (h : Moves w B A n xs) (hn : n ≤ 1000000) :
    Calls Tryz.prog 25 #[.slice A n c] w fun e w' => ∃ v, e = .returned v ∧ w'.ownsRow w.heap.size 48 2 v n (cellsM xs) ∧ w.grownBy w' none := by
  rcases A with _ | ad
  · have h0 : n = 0 := by
      rcases Nat.eq_zero_or_pos n with h0 | h0
      · exact h0
      · obtain ⟨_, _, e, _⟩ := h.row h0
        cases e
    subst h0
    have hx : xs = [] := List.eq_nil_of_length_eq_zero h.len
    subst hx
    have hq := fun (w : World) => Lib.run_eql_slice_nil (P := Tryz.prog) w 22 48 none 0 c 0 0 Tryz.underlying22
    clear h
    go_enter Tryz.func25, Tryz.ntmps25
    go_wp2
    go_ret
    exact ⟨_, rfl, World.ownsRow_nil _ _ _ _, World.grownBy.refl w _⟩
  · have hq := fun (w : World) => Lib.run_eql_slice_nil (P := Tryz.prog) w 22 48 (some ad) n c 0 0 Tryz.underlying22
    have hnews := news_of_moves h
    have hl := h.len
    obtain ⟨i0, hi, hz0, hz1, hz2⟩ := info_parts infoMove
    clear h
    go_enter Tryz.func25, Tryz.ntmps25
    have hown0 := World.ownsRow_made (base := w.heap.size) (e := 48) (size := 2) w #[] 0 (Nat.le_refl _) (by decide) rfl
    have hnews' : ∀ j u, (cellsM xs)[j]? = some u → (w.alloc (.cells #[] 48)).cell? (ad.add j) = some u := fun j u hu => Lib.cell?_alloc_some _ (hnews j u hu)
    have H0 := Lib.hid hown0
    have H1 := Lib.hid hnews'
    have H2 := Lib.hid hl
    clear hown0 hnews' hl hnews
    go_wp2_with (at_builtin; refine wpList_append_own _ rfl (.tmp 5) (.tmp 6) 22 rfl w.heap.size 48 i0 (.agg #[.int .i64 0, .bool false]) 2 16 Tryz.underlying22 hi hz0 hz1 hz2 rfl (by decide) _ 0 [] rfl H0.out ad n c (cellsM xs) rfl ?c1 H1.out ?c2 ?c3 ?c4 ?c5 ?_)
    case c1 => rw [cellsM_length, H2.out]
    case c2 => exact cellsM_one xs
    case c3 => unfold maxLen; omega
    case c4 => omega
    case c5 => simp
    intro v' w1 hown1 hg1 _
    have hg := (World.grownBy_alloc w (.cells #[] 48) none).andThen hg1 (by intro j hj; simp only [Value.ownBlock, Option.some.injEq] at hj; omega)
    have H3 := Lib.hid hown1
    have H4 := Lib.hid hg1
    clear hown1 hg1 H0 H1
    go_wp2
    go_ret
    exact ⟨v', rfl, by simpa using H3.out, hg⟩

/-- A row of sleepers that is read: by a slice value whose cells lie from block g on. -/
structure RowM (w : World) (v : Value) (l : List (Int × Bool)) : Prop where
  row : ∃ A cap, v = .slice A l.length cap ∧ (0 < l.length → ∃ g, A = some ⟨g, 0, none⟩ ∧ g < w.heap.size ∧ ∀ k, k < l.length → w.cell? ⟨g, k * 2, none⟩ = some (.int .i64 (l.getD k default).1) ∧ w.cell? ⟨g, k * 2 + 1, none⟩ = some (.bool (l.getD k default).2))
  len : l.length ≤ 9223372036854775807

/-- What is asked of a predicate on sleepers: whatever else is made, it answers p, and makes no more than blocks. -/
def PredM (g : Nat) (lb : Array Value) (p : Int × Bool → Bool) (w : World) (row : Option Nat) : Prop :=
  ∀ (W : World) (s : Int × Bool), w.grownBy W row → Calls Tryz.prog g (#[.agg #[.int .i64 s.1, .bool s.2]] ++ lb) W fun e w' => e = .returned (.bool (p s)) ∧ W.grownBy w' none

/-- The first place at which p holds, or -1. -/
def firstM (p : Int × Bool → Bool) : List (Int × Bool) → Nat → Int
  | [], _ => -1
  | s :: l, i => if p s then (i : Int) else firstM p l (i + 1)

theorem firstM_miss (p : Int × Bool → Bool) (l : List (Int × Bool)) (i : Nat) (h : ∀ s ∈ l, p s = false) : firstM p l i = -1 := by
  induction l generalizing i with
  | nil => rfl
  | cons s l ih =>
    rw [firstM, h s (by simp)]
    exact ih _ fun t ht => h t (by simp [ht])

theorem firstM_hit (p : Int × Bool → Bool) (l : List (Int × Bool)) (i k : Nat) (hk : k < l.length) (hp : p (l.getD k default) = true) (h : ∀ j, j < k → p (l.getD j default) = false) : firstM p l i = ((i + k : Nat) : Int) := by
  induction l generalizing i k with
  | nil => exact absurd hk (Nat.not_lt_zero _)
  | cons s l ih =>
    rcases k with _ | k
    · have : p s = true := hp
      rw [firstM, this]
      simp
    · have h0 : p s = false := h 0 (by omega)
      rw [firstM, h0]
      have := ih (i + 1) k (by simpa using hk) hp (fun j hj => h (j + 1) (by omega))
      simp only [Bool.false_eq_true, if_false]
      rw [this]
      congr 1
      omega

def FoundM (p : Int × Bool → Bool) (l : List (Int × Bool)) (w : World) (e : Ending) (w' : World) : Prop := Told1 (firstM p l 0) w e w'

set_option maxHeartbeats 400000 in
theorem indexFuncM_any {w : World} {v : Value} {l : List (Int × Bool)} (h : RowM w v l) (p : Int × Bool → Bool) (g : Nat) (lb : Array Value) (eg : ∀ args w, (callFunc g args).run Tryz.prog w = .ok (.enter g args) w) (row : Option Nat) (hp : PredM g lb p w row) :
    Calls Tryz.prog 46 #[v, .func (.func g) #[] lb] w (FoundM p l w) := by
  have hlen := h.len
  obtain ⟨A, cap, rfl, hr⟩ := h.row
  obtain ⟨n, hn⟩ : ∃ n, l.length = n := ⟨_, rfl⟩
  rw [hn] at hlen hr ⊢
  have HN := Lib.hid hn
  have H := Lib.hid h
  have HP := Lib.hid hp
  clear h hp hn
  go_enter Tryz.func46, Tryz.ntmps46
  go_wp2
  go_loopw [5, 8] (fun _ j wr => ∃ k : Nat, k ≤ n ∧ j = .int .i64 k ∧ w.grownBy wr none ∧ Hid (∀ j, j < k → p (l.getD j default) = false)) (fun _ j _ => n - (intOf j).toNat)
  case atStart => exact ⟨0, Nat.zero_le _, rfl, World.grownBy.refl w _, fun j hj => absurd hj (Nat.not_lt_zero _)⟩
  case round =>
    obtain ⟨k, hk, rfl, hg, hall⟩ := hrel
    by_cases hlt : k < n
    · have hkn : (k : Int) < (n : Int) := by omega
      obtain ⟨b, rfl, hb, hc⟩ := hr (by omega)
      obtain ⟨c1, c2⟩ := hc k hlt
      have hbl := hg.block b hb (by simp)
      have d1 := (World.cell?_of_block (a := ⟨b, k * 2, none⟩) hbl).trans c1
      have d2 := (World.cell?_of_block (a := ⟨b, k * 2 + 1, none⟩) hbl).trans c2
      obtain ⟨s, hs⟩ : ∃ s, l.getD k default = s := ⟨_, rfl⟩
      rw [hs] at d1 d2
      have HS := Lib.hid hs
      have HC := Lib.hid (And.intro hg hall.out)
      have hcall := HP.out wr s (hg.but row)
      clear hc c1 c2 hbl hr hs hg hall
      cases hq : p s with
      | true =>
        rw [hq] at hcall
        have HQ := Lib.hid hq
        have HCALL := Lib.hid hcall
        clear hq hcall
        go_wp2_with fail
        refine HCALL.out.mono ?_
        rintro e w' ⟨rfl, hg'⟩
        go_wp2
        go_ret
        refine ⟨ret_int ?_, HC.out.1.andThen hg' (by intro j hj; cases hj)⟩
        rw [firstM_hit p l 0 k (by rw [HN.out]; exact hlt) (by rw [HS.out]; exact HQ.out) HC.out.2, Nat.zero_add]
      | false =>
        rw [hq] at hcall
        have HQ := Lib.hid hq
        have HCALL := Lib.hid hcall
        clear hq hcall
        go_wp2_with fail
        refine HCALL.out.mono ?_
        rintro e w' ⟨rfl, hg'⟩
        have hg2 := HC.out.1.andThen hg' (by intro j hj; cases hj)
        go_wp2
        go_roundw
        case rel =>
          refine ⟨k + 1, by omega, by go_num, hg2, Lib.hid fun j hj => ?_⟩
          by_cases e : j = k
          · subst e; rw [HS.out]; exact HQ.out
          · exact HC.out.2 j (by omega)
        case measure => simp [intOf]; omega
    · have hkn : ¬ (k : Int) < (n : Int) := by omega
      have HC := Lib.hid (And.intro hg hall.out)
      clear hg hall
      go_wp2
      go_ret
      refine ⟨ret_int ?_, HC.out.1⟩
      rw [firstM_miss p l 0 (fun s hs => ?_)]
      obtain ⟨j, hj, rfl⟩ := List.mem_iff_getElem.1 hs
      have := HC.out.2 j (by have := HN.out; omega)
      rw [List.getD_eq_getElem?_getD, List.getElem?_eq_getElem hj] at this
      exact this

theorem firstM_cases (p : Int × Bool → Bool) (l : List (Int × Bool)) : (firstM p l 0 = -1 ∧ ∀ s ∈ l, p s = false) ∨ ∃ k, k < l.length ∧ firstM p l 0 = (k : Int) ∧ p (l.getD k default) = true ∧ l.find? p = some (l.getD k default) ∧ ∀ j, j < k → p (l.getD j default) = false := by
  induction l with
  | nil => exact .inl ⟨rfl, fun s hs => by cases hs⟩
  | cons s l ih =>
    cases hp : p s with
    | true => exact .inr ⟨0, by simp, by simp [firstM, hp], hp, by simp [List.find?, hp], fun j hj => absurd hj (Nat.not_lt_zero _)⟩
    | false =>
      rcases ih with ⟨_, h2⟩ | ⟨k, hk, _, h3, h4, h5⟩
      · exact .inl ⟨firstM_miss p _ 0 (fun t ht => by
          rcases List.mem_cons.1 ht with rfl | ht
          · exact hp
          · exact h2 t ht), fun t ht => by
          rcases List.mem_cons.1 ht with rfl | ht
          · exact hp
          · exact h2 t ht⟩
      · refine .inr ⟨k + 1, by simpa using hk, ?_, h3, ?_, ?_⟩
        · have hall : ∀ j, j < k + 1 → p ((s :: l).getD j default) = false := fun j hj => by
            rcases j with _ | j
            · exact hp
            · exact h5 j (by omega)
          have := firstM_hit p (s :: l) 0 (k + 1) (by simpa using hk) h3 hall
          rw [this, Nat.zero_add]
        · simp only [List.find?, hp]
          exact h4
        · intro j hj
          rcases j with _ | j
          · exact hp
          · exact h5 j (by omega)

/-- The parts of a row that owns sleepers. -/
theorem own_partsM {w : World} {B g cap : Nat} {l : List (Int × Bool)} (h : w.ownsRow B 48 2 (.slice (some ⟨g, 0, none⟩) l.length cap) l.length (cellsM l)) :
    ∃ cur, w.heap[g]? = some (.cells cur 48 (0, 0)) ∧ B ≤ g ∧ l.length ≤ cap ∧ cap ≤ maxLen ∧ cur.size = cap * 2 ∧ ∀ i, i < l.length * 2 → cur[i]? = (cellsM l)[i]? := by
  rcases h.2 with ⟨e, _⟩ | ⟨g', cap', cur, e, hb, hh, h1, h2, h3, h4⟩
  · simp at e
  · simp only [Value.slice.injEq, Option.some.injEq, Addr.mk.injEq, and_true, true_and] at e
    obtain ⟨rfl, rfl⟩ := e
    refine ⟨cur, hh, hb, h1, h2, h3, fun i hi => ?_⟩
    rw [← h4, List.getElem?_take, if_pos hi, Array.getElem?_toList]

theorem own_of_partsM {w : World} {B g cap n : Nat} {cur : Array Value} {l : List (Int × Bool)} (hn : l.length = n) (hh : w.heap[g]? = some (.cells cur 48 (0, 0))) (hb : B ≤ g) (h1 : l.length ≤ cap) (h2 : cap ≤ maxLen) (h3 : cur.size = cap * 2) (h : ∀ i, i < l.length * 2 → cur[i]? = (cellsM l)[i]?) :
    w.ownsRow B 48 2 (.slice (some ⟨g, 0, none⟩) n cap) l.length (cellsM l) := by
  subst hn
  exact ⟨cellsM_length l, .inr ⟨g, cap, cur, rfl, hb, hh, h1, h2, h3, toList_take_ext (cellsM_length l) h⟩⟩

/-- 'clear' on a slice of sleepers. -/
theorem run_clearM (w : World) (ty : TypeId) (b o n c : Nat) (hc : ∀ j, j < n * 2 → (w.cell? ⟨b, o + j, none⟩).isSome = true) (hf : ∀ j, j < n * 2 → w.frozen? ⟨b, o + j, none⟩ = false) :
    (Builtin.clear_ #[22] ty #[.slice (some ⟨b, o, none⟩) n c]).run Tryz.prog w = .ok (.tuple #[]) (w.setCells b o (Builtin.zeroCells #[.int .i64 0, .bool false] n).toList) := by
  have hz : ∀ w, (zeroValue 48).run Tryz.prog w = .ok (.agg #[.int .i64 0, .bool false]) w := fun w => by kernel_rfl
  have hl : (Builtin.zeroCells #[Value.int .i64 0, .bool false] n).toList.length = n * 2 := by simp [Builtin.zeroCells]
  have h1 : ∀ v ∈ (Builtin.zeroCells #[Value.int .i64 0, .bool false] n).toList, v.oneCell' = true := by
    intro v hv
    simp [Builtin.zeroCells] at hv
    obtain ⟨i, _, rfl⟩ := hv
    rcases Nat.mod_two_eq_zero_or_one i with e | e <;> simp [e] <;> rfl
  rcases n with _ | m
  · simp [Builtin.clear_, run_underlying Tryz.underlying22, Builtin.zeroCells, World.setCells]
  · have hst := run_storeCells_cells (P := Tryz.prog) b o _ 0 w (by rw [hl]; simpa using hc) (by rw [hl]; simpa using hf) h1
    simp only [Nat.add_zero] at hst
    simp [Builtin.clear_, run_underlying Tryz.underlying22, hz, Value.cells, hst]

/-- What cutting a row to the sleepers r comes to. -/
def CutM (B g cap : Nat) (r : List (Int × Bool)) (w : World) (e : Ending) (w' : World) : Prop :=
  e = .returned (.slice (some ⟨g, 0, none⟩) r.length cap) ∧ w'.ownsRow B 48 2 (.slice (some ⟨g, 0, none⟩) r.length cap) r.length (cellsM r) ∧ w.grownBy w' (some g)

/-- Those that are kept. -/
def keepM (p : Int × Bool → Bool) (l : List (Int × Bool)) : List (Int × Bool) := l.filter fun s => !p s

theorem keepM_step (p : Int × Bool → Bool) (l : List (Int × Bool)) (j : Nat) (hj : j < l.length) : keepM p (l.take (j + 1)) = keepM p (l.take j) ++ (if p (l.getD j default) then [] else [l.getD j default]) := by
  unfold keepM
  rw [List.take_succ_eq_append_getElem hj, List.filter_append, List.getD_eq_getElem?_getD, List.getElem?_eq_getElem hj]
  congr 1
  simp only [List.filter_cons, List.filter_nil, Option.getD_some]
  cases p l[j] <;> rfl

theorem keepM_all (p : Int × Bool → Bool) (l : List (Int × Bool)) (h : ∀ s ∈ l, p s = false) : keepM p l = l := by
  unfold keepM
  exact List.filter_eq_self.2 fun s hs => by rw [h s hs]; rfl

/-- What holds at every head of the loop: j are looked at, i of them kept. -/
structure SieveM (w wr : World) (g cap : Nat) (cur : Array Value) (l : List (Int × Bool)) (p : Int × Bool → Bool) (i j : Nat) : Prop where
  hj : j ≤ l.length
  hij : i < j
  row : ∃ cu, wr.heap[g]? = some (.cells cu 48 (0, 0)) ∧ cu.size = cap * 2 ∧ (∀ x, x < i * 2 → cu[x]? = (cellsM (keepM p (l.take j)))[x]?) ∧ ∀ x, j * 2 ≤ x → cu[x]? = cur[x]?
  len : (keepM p (l.take j)).length = i
  grow : w.grownBy wr (some g)

theorem SieveM.drop {w wr w' : World} {g cap : Nat} {cur : Array Value} {l : List (Int × Bool)} {p : Int × Bool → Bool} {i j : Nat} (h : SieveM w wr g cap cur l p i j) (hlt : j < l.length) (hp : p (l.getD j default) = true) (hg : wr.grownBy w' none) : SieveM w w' g cap cur l p i (j + 1) := by
  obtain ⟨cu, h1, h2, h3, h4⟩ := h.row
  have e : keepM p (l.take (j + 1)) = keepM p (l.take j) := by rw [keepM_step p l j hlt, hp, if_pos rfl, List.append_nil]
  refine ⟨by omega, by have := h.hij; omega, ⟨cu, (hg.block g (lt_of_block h1) (by simp)).trans h1, h2, by rw [e]; exact h3, fun x hx => h4 x (by omega)⟩, by rw [e]; exact h.len, h.grow.andThen hg (by intro k hk; cases hk)⟩

theorem SieveM.keep {w wr w1 : World} {g cap : Nat} {cur : Array Value} {l : List (Int × Bool)} {p : Int × Bool → Bool} {i j : Nat} (h : SieveM w wr g cap cur l p i j) (hlt : j < l.length) (hcap : l.length ≤ cap) (hp : p (l.getD j default) = false) (hg : wr.grownBy w1 none) :
    SieveM w ((w1.setCell ⟨g, i * 2, none⟩ (.int .i64 (l.getD j default).1)).setCell ⟨g, i * 2 + 1, none⟩ (.bool (l.getD j default).2)) g cap cur l p (i + 1) (j + 1) := by
  obtain ⟨cu, h1, h2, h3, h4⟩ := h.row
  have hij := h.hij
  have e : keepM p (l.take (j + 1)) = keepM p (l.take j) ++ [l.getD j default] := by rw [keepM_step p l j hlt, hp, if_neg (by simp)]
  have hh1 : w1.heap[g]? = some (.cells cu 48 (0, 0)) := (hg.block g (lt_of_block h1) (by simp)).trans h1
  have hs := heap_setCells g 48 [.int .i64 (l.getD j default).1, .bool (l.getD j default).2] (i * 2) w1 cu hh1
  refine ⟨by omega, by omega, ⟨_, hs.1, by rw [laid_size]; exact h2, fun x hx => ?_, fun x hx => ?_⟩, ?_, ?_⟩
  · rw [laid_at _ _ _ _ (by rw [h2]; simp; omega), e, cellsM_append]
    by_cases hx2 : x < i * 2
    · rw [if_neg (by omega), h3 x hx2, List.getElem?_append_left (by rw [cellsM_length, h.len]; exact hx2)]
    · rw [if_pos (by simp; omega), List.getElem?_append_right (by rw [cellsM_length, h.len]; omega), cellsM_length, h.len]
      rfl
  · rw [laid_at _ _ _ _ (by rw [h2]; simp; omega), if_neg (by simp; omega), h4 x (by omega)]
  · rw [e, List.length_append, h.len]
    rfl
  · exact (h.grow.andThen hg (by intro k hk; cases hk)).andThen hs.2 (fun k hk => .inr hk)

set_option maxHeartbeats 1000000 in
theorem deleteFuncM_any {w : World} {B g cap : Nat} {l : List (Int × Bool)} (hown : w.ownsRow B 48 2 (.slice (some ⟨g, 0, none⟩) l.length cap) l.length (cellsM l)) (p : Int × Bool → Bool) (f : Nat) (lb : Array Value) (eg : ∀ args w, (callFunc f args).run Tryz.prog w = .ok (.enter f args) w) (hp : PredM f lb p w (some g)) :
    Calls Tryz.prog 24 #[.slice (some ⟨g, 0, none⟩) l.length cap, .func (.func f) #[] lb] w (CutM B g cap (keepM p l) w) := by
  obtain ⟨cur, hh, hb, hlc, hcm, hcs, hat⟩ := own_partsM hown
  unfold maxLen at hcm
  have hrow : RowM w (.slice (some ⟨g, 0, none⟩) l.length cap) l := by
    refine ⟨⟨_, _, rfl, fun _ => ⟨g, rfl, lt_of_block hh, fun k hk => ?_⟩⟩, by omega⟩
    obtain ⟨h1, h2⟩ := cellsM_at l k hk
    exact ⟨(hown.cellAt (k * 2) (by omega)).trans h1, (hown.cellAt (k * 2 + 1) (by omega)).trans h2⟩
  have hf := indexFuncM_any hrow p f lb eg (some g) hp
  unfold FoundM at hf
  rcases firstM_cases p l with ⟨e1, hall⟩ | ⟨k0, hk0, e1, hpk, _, hpj⟩
  · rw [e1] at hf
    rw [keepM_all p l hall]
    have HF := Lib.hid hf
    have HO := Lib.hid hown
    clear hf hown hall e1 hat hh hp hrow
    go_enter Tryz.func24, Tryz.ntmps24
    go_wp2_with fail
    refine HF.out.mono ?_
    rintro e w' ⟨rfl, hg⟩
    have ho : w'.ownsRow B 48 2 (.slice (some ⟨g, 0, none⟩) l.length cap) l.length (cellsM l) := HO.out.kept hg (.inr (by simp [Value.ownBlock]))
    have HO2 := Lib.hid ho
    have HG := Lib.hid (hg.but (some g))
    clear ho hg HF HO
    go_wp2
    go_ret
    exact ⟨rfl, HO2.out, HG.out⟩
  · rw [e1] at hf
    have hne : ((k0 : Int) == -1) = false := beq_eq_false_iff_ne.2 (by omega)
    have hs0 : ∀ W, w.grownBy W none → SieveM w W g cap cur l p k0 (k0 + 1) := fun W hg => by
      have e : keepM p (l.take (k0 + 1)) = l.take k0 := by
        rw [keepM_step p l k0 hk0, hpk, if_pos rfl, List.append_nil, keepM_all]
        intro s hs
        obtain ⟨j, hj, rfl⟩ := List.mem_iff_getElem.1 hs
        have hj2 : j < k0 := by rw [List.length_take] at hj; omega
        have := hpj j hj2
        rw [List.getD_eq_getElem?_getD, List.getElem?_eq_getElem (by omega)] at this
        rw [List.getElem_take]
        exact this
      refine ⟨hk0, by omega, ⟨cur, (hg.block g (lt_of_block hh) (by simp)).trans hh, hcs, fun x hx => ?_, fun x _ => rfl⟩, by rw [e, List.length_take]; omega, hg.but _⟩
      rw [e, ← cellsM_take, List.getElem?_take, if_pos hx]
      exact hat x (by omega)
    have S0 := Lib.hid hs0
    have HF := Lib.hid hf
    have HP := Lib.hid hp
    have HAT := Lib.hid hat
    have hlen9 : l.length ≤ 9223372036854775807 := by omega
    clear hs0 hf hp hat hown hpk hpj e1 hrow hh
    go_enter Tryz.func24, Tryz.ntmps24
    go_wp2_with fail
    refine HF.out.mono ?_
    rintro e w' ⟨rfl, hg⟩
    have S1 := Lib.hid (S0.out w' hg)
    clear HF S0 hg
    go_wp2
    go_loopw [5, 6] (fun s5 s6 wr => ∃ i j : Nat, s5 = .int .i64 i ∧ s6 = .int .i64 j ∧ Hid (SieveM w wr g cap cur l p i j)) (fun _ s6 _ => l.length - (intOf s6).toNat)
    case atStart => exact ⟨k0, k0 + 1, rfl, by go_num, S1⟩
    case round =>
      obtain ⟨i, j, rfl, rfl, hS⟩ := hrel
      have hij := hS.out.hij
      have hjn := hS.out.hj
      obtain ⟨cu, hh, hcs2, _, hhi⟩ := hS.out.row
      by_cases hlt : j < l.length
      · have hjl : (j : Int) < (l.length : Int) := by omega
        obtain ⟨a1, a2⟩ := cellsM_at l j hlt
        have c1 : wr.cell? ⟨g, j * 2, none⟩ = some (.int .i64 (l.getD j default).1) := by
          rw [cell_of_row wr g _ _ _ _ hh, hhi _ (by omega), HAT.out _ (by omega), a1]
        have c2 : wr.cell? ⟨g, j * 2 + 1, none⟩ = some (.bool (l.getD j default).2) := by
          rw [cell_of_row wr g _ _ _ _ hh, hhi _ (by omega), HAT.out _ (by omega), a2]
        obtain ⟨s, hs⟩ : ∃ s, l.getD j default = s := ⟨_, rfl⟩
        rw [hs] at c1 c2
        have HS := Lib.hid hs
        have hglt : g < wr.heap.size := lt_of_block hh
        have hgne : g ≠ wr.heap.size := by omega
        have hcall := HP.out (wr.alloc (.cells #[.int .i64 s.1, .bool s.2] 48)) s (hS.out.grow.andThen (World.grownBy_alloc _ _ none) (by intro k hk; cases hk))
        have HC := Lib.hid hcall
        have HH := Lib.hid hh
        clear hs a1 a2 hhi hcall hh
        cases hq : p s with
        | true =>
          have hc := HC.out
          rw [hq] at hc
          have HC2 := Lib.hid hc
          have HQ := Lib.hid hq
          clear hc HC hq
          go_wp2_with fail
          refine HC2.out.mono ?_
          rintro e w1 ⟨rfl, hg1⟩
          have hS2 := hS.out.drop hlt (by rw [HS.out]; exact HQ.out) ((World.grownBy_alloc wr (.cells #[.int .i64 s.1, .bool s.2] 48) none).andThen hg1 (by intro k hk; cases hk))
          have HS2 := Lib.hid hS2
          clear hS2 hg1 HC2
          go_wp2
          go_roundw
          case rel => exact ⟨i, j + 1, rfl, by go_num, HS2⟩
          case measure => simp [intOf]; omega
        | false =>
          have hc := HC.out
          rw [hq] at hc
          have HC2 := Lib.hid hc
          have HQ := Lib.hid hq
          clear hc HC hq
          go_wp2_with fail
          refine HC2.out.mono ?_
          rintro e w1 ⟨rfl, hg1⟩
          have hS2 := hS.out.keep (w1 := w1) hlt hlc (by rw [HS.out]; exact HQ.out) ((World.grownBy_alloc wr (.cells #[.int .i64 s.1, .bool s.2] 48) none).andThen hg1 (by intro k hk; cases hk))
          rw [HS.out] at hS2
          have hh1 : w1.heap[g]? = some (.cells cu 48 (0, 0)) := (hg1.block g (by simp; omega) (by simp)).trans ((Below.heap_alloc wr _ g hglt).trans HH.out)
          have hv1 : w1.heap[wr.heap.size]? = some (.cells #[.int .i64 s.1, .bool s.2] 48 (0, 0)) := (hg1.block wr.heap.size (by simp) (by simp)).trans (heap_alloc_new wr _)
          have e1 : w1.cell? ⟨wr.heap.size, 0, none⟩ = some (.int .i64 s.1) := by rw [cell_of_row w1 _ _ _ _ _ hv1]; rfl
          have e2 : w1.cell? ⟨wr.heap.size, 1, none⟩ = some (.bool s.2) := by rw [cell_of_row w1 _ _ _ _ _ hv1]; rfl
          obtain ⟨o1, e3⟩ : ∃ o, w1.cell? ⟨g, i * 2, none⟩ = some o := ⟨cu[i * 2]'(by omega), by rw [cell_of_row w1 g _ _ _ _ hh1, Array.getElem?_eq_getElem (by omega)]⟩
          obtain ⟨o2, e4⟩ : ∃ o, w1.cell? ⟨g, i * 2 + 1, none⟩ = some o := ⟨cu[i * 2 + 1]'(by omega), by rw [cell_of_row w1 g _ _ _ _ hh1, Array.getElem?_eq_getElem (by omega)]⟩
          have e5 : w1.frozen? ⟨g, i * 2, none⟩ = false := frozen_of_row w1 g _ _ _ hh1
          have e6 : w1.frozen? ⟨g, i * 2 + 1, none⟩ = false := frozen_of_row w1 g _ _ _ hh1
          have hil : (i : Int) < (l.length : Int) := by omega
          have HS2 := Lib.hid hS2
          clear hS2 hg1 HC2 hh1 hv1 c1 c2
          go_wp2
          go_roundw
          case rel => exact ⟨i + 1, j + 1, by go_num, by go_num, HS2⟩
          case measure => simp [intOf]; omega
      · obtain rfl : j = l.length := by omega
        have hjl : ¬ (l.length : Int) < (l.length : Int) := by omega
        have hcl := fun ty => run_clearM wr ty g (i * 2) (l.length - i) (cap - i) (fun x hx => by
          rw [cell_of_row wr g _ _ _ _ hh, Array.getElem?_eq_getElem (by omega)]
          rfl) (fun x _ => frozen_of_row wr g _ _ _ hh)
        have hset := heap_setCells g 48 (Builtin.zeroCells #[.int .i64 0, .bool false] (l.length - i)).toList (i * 2) wr cu hh
        have hlen := hS.out.len
        rw [List.take_length] at hlen
        have hend : (wr.setCells g (i * 2) (Builtin.zeroCells #[.int .i64 0, .bool false] (l.length - i)).toList).ownsRow B 48 2 (.slice (some ⟨g, 0, none⟩) i cap) (keepM p l).length (cellsM (keepM p l)) := by
          refine own_of_partsM hlen hset.1 hb (by omega) (by unfold maxLen; omega) (by rw [laid_size, hcs2]) (fun x hx => ?_)
          have hz : (Builtin.zeroCells #[Value.int .i64 0, .bool false] (l.length - i)).toList.length = (l.length - i) * 2 := by simp [Builtin.zeroCells]
          rw [laid_at _ _ _ _ (by rw [hz, hcs2]; omega), if_neg (by omega)]
          obtain ⟨cu', hh', _, h3, _⟩ := hS.out.row
          rw [hh] at hh'
          injection hh' with hh'
          injection hh' with hh'
          subst hh'
          rw [List.take_length] at h3
          exact h3 x (by omega)
        have hgrow := hS.out.grow.andThen hset.2 (fun k hk => .inr hk)
        have X := Lib.hid hend
        have Y := Lib.hid hgrow
        have Z := Lib.hid hlen
        have hic : i ≤ cap := by omega
        have hil : i ≤ l.length := by omega
        have hne2 : ¬ cap = i := by omega
        have hi0 : (0 : Int) ≤ (i : Int) := by omega
        clear hend hgrow hset hh hhi hlen hS HP
        go_wp2
        go_ret
        unfold CutM
        have x := X.out
        rw [Z.out] at x ⊢
        exact ⟨rfl, x, Y.out⟩

set_option maxHeartbeats 400000 in
theorem deleteFuncM_nil {w : World} (p : Int × Bool → Bool) (f : Nat) (lb : Array Value) (eg : ∀ args w, (callFunc f args).run Tryz.prog w = .ok (.enter f args) w) (hp : PredM f lb p w none) :
    Calls Tryz.prog 24 #[.slice none 0 0, .func (.func f) #[] lb] w fun e w' => e = .returned (.slice none 0 0) ∧ w.grownBy w' none := by
  have hrow : RowM w (.slice none 0 0) [] := ⟨⟨none, 0, rfl, fun h => absurd h (Nat.lt_irrefl 0)⟩, by decide⟩
  have hf := indexFuncM_any hrow p f lb eg none hp
  have HF := Lib.hid hf
  clear hf hrow hp
  go_enter Tryz.func24, Tryz.ntmps24
  go_wp2_with fail
  refine HF.out.mono ?_
  rintro e w' ⟨he, hg⟩
  obtain rfl : e = .returned (.int .i64 (-1)) := he
  have HG := Lib.hid hg
  clear hg HF
  go_wp2
  go_ret
  exact ⟨rfl, HG.out⟩
end Go.Proofs.YtjlhinjmnhpdaaaGreatDoor
