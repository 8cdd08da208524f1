/-
  WHOEVER GOES FIRST: in whatever order the threads come and go, the judge finds as many rounds as there were.
-/
import Derived.Test.YtoljmleomkkchaaDoorLJudgeRounds
import Derived.Test.YtoljmleomkkchaaDoorRowE
import Derived.Lib.AppendZeros
namespace Go.Proofs.YtoljmleomkkchaaDoor
set_option maxRecDepth 100000
open Go.RowKit
set_option linter.unusedVariables false
set_option linter.unusedSimpArgs false

def nI (l : List Nat) : List Int := l.map (fun (t : Nat) => (t : Int))
theorem nI_len (l : List Nat) : (nI l).length = l.length := List.length_map _
theorem nI_at (l : List Nat) (i : Nat) : (nI l).getD i 0 = ((l.getD i 0 : Nat) : Int) := by
  unfold nI
  rw [List.getD_eq_getElem?_getD, List.getElem?_map, List.getD_eq_getElem?_getD]
  cases l[i]? <;> rfl
def swapN (l : List Nat) (i j : Nat) : List Nat := (l.set i (l.getD j 0)).set j (l.getD i 0)
theorem swapN_perm {l : List Nat} {i j : Nat} (hi : i < l.length) (hj : j < l.length) : (swapN l i j).Perm l := by
  unfold swapN
  have e1 : l.getD i 0 = l[i] := by rw [List.getD_eq_getElem?_getD, List.getElem?_eq_getElem hi]; rfl
  have e2 : l.getD j 0 = l[j] := by rw [List.getD_eq_getElem?_getD, List.getElem?_eq_getElem hj]; rfl
  rw [e1, e2]
  exact List.set_set_perm hi hj
theorem nI_swap (l : List Nat) (i j : Nat) : ((nI l).set i ((nI l).getD j 0)).set j ((nI l).getD i 0) = nI (swapN l i j) := by
  rw [nI_at, nI_at]
  unfold nI swapN
  rw [List.map_set, List.map_set]
/-- The numbers below i, the others not yet laid. -/
def begun (m i : Nat) : List Int := nI (List.range i) ++ List.replicate (m - i) 0
theorem begun_len {m i : Nat} (h : i ≤ m) : (begun m i).length = m := by
  unfold begun
  rw [List.length_append, nI_len, List.length_range, List.length_replicate]
  omega
theorem begun_set {m i : Nat} (h : i < m) : (begun m i).set i (i : Int) = begun m (i + 1) := by
  unfold begun
  rw [List.set_append_right _ _ (by rw [nI_len, List.length_range]; exact Nat.le_refl _), nI_len, List.length_range, Nat.sub_self, show m - i = (m - (i + 1)) + 1 by omega, List.replicate_succ, List.set_cons_zero]
  unfold nI
  rw [List.range_succ, List.map_append]
  simp
theorem begun_all (m : Nat) : begun m m = nI (List.range m) := by unfold begun; simp

/-- What the closure's variables hold: how many threads, a number to draw from, what was said. -/
structure JF (w : World) (m bn bs bl : Nat) (l : List Ev4) (wr : World) : Prop where
  bel : Below w.heap.size w wr
  lo : w.heap.size ≤ bn ∧ w.heap.size ≤ bs ∧ w.heap.size ≤ bl
  cn : wr.heap[bn]? = some (.cells #[.int .i64 (m : Nat)] 3 (0, 0))
  cs : ∃ s : Int, wr.heap[bs]? = some (.cells #[.int .u64 s] 37 (0, 0))
  row : ∃ A c, wr.heap[bl]? = some (.cells #[.slice A l.length c] 22 (0, 0)) ∧ wr.ownsRow w.heap.size 42 4 (.slice A l.length c) l.length (cellsE l)
theorem jf_own {w w' : World} {B n : Nat} {v : Value} {xs : List Value} (h : w.ownsRow B 42 4 v n xs) (hk : ∀ (k : Nat) C f, w.heap[k]? = some (.cells C 42 f) → w'.heap[k]? = w.heap[k]?) : w'.ownsRow B 42 4 v n xs := by
  refine ⟨h.1, ?_⟩
  rcases h.2 with hn | ⟨g, cap, cur, rfl, hb, hg, rest⟩
  · exact .inl hn
  · exact .inr ⟨g, cap, cur, rfl, hb, (hk _ _ _ hg).trans hg, rest⟩
theorem jf_ty {C D : Array Value} {t u : TypeId} {x : Option Obj} (h : x = some (.cells C t (0, 0))) (k : x = some (.cells D u (0, 0))) : t = u ∧ C = D := by
  rw [h] at k
  injection k with k
  injection k with h1 h2
  exact ⟨h2, h1⟩
section
variable {w wr w' : World} {m bn bs bl : Nat} {l : List Ev4}
theorem JF.keep (h : JF w m bn bs bl l wr) (hb : Below w.heap.size w w') (hk : ∀ (k : Nat) C t f, wr.heap[k]? = some (.cells C t f) → (k = bn ∨ t ≠ 3) → w'.heap[k]? = wr.heap[k]?) : JF w m bn bs bl l w' := by
  obtain ⟨s, hs⟩ := h.cs
  obtain ⟨A, c, h1, h2⟩ := h.row
  exact ⟨hb, h.lo, (hk _ _ _ _ h.cn (.inl rfl)).trans h.cn, ⟨s, (hk _ _ _ _ hs (.inr (by decide))).trans hs⟩, ⟨A, c, (hk _ _ _ _ h1 (.inr (by decide))).trans h1, jf_own h2 fun k C f hc => hk _ _ _ _ hc (.inr (by decide))⟩⟩
theorem JF.grow (h : JF w m bn bs bl l wr) (hg : wr.grownBy w' none) : JF w m bn bs bl l w' :=
  h.keep (h.bel.grown hg h.bel.size (by intro k hk; cases hk)) fun k C t f hc _ => hg.block k (Array.getElem?_eq_some_iff.1 hc).1 (by simp)
theorem JF.ints (h : JF w m bn bs bl l wr) {g : Nat} {C : Array Value} (hg : wr.heap[g]? = some (.cells C 3 (0, 0))) (hb : w.heap.size ≤ g) (hn : g ≠ bn) (i : Nat) (v : Value) : JF w m bn bs bl l (wr.setCell ⟨g, i, none⟩ v) :=
  h.keep (below_setI h.bel hb) fun k C' t f hc ht => Below.heap_setCell wr ⟨g, i, none⟩ v k (by
    show k ≠ g
    rintro rfl
    rw [hg] at hc
    injection hc with hc
    injection hc with h1 h2
    rcases ht with rfl | ht
    · exact hn rfl
    · exact ht h2.symm)
theorem JF.seed (h : JF w m bn bs bl l wr) (s : Int) : JF w m bn bs bl l (wr.setCell ⟨bs, 0, none⟩ (.int .u64 s)) := by
  obtain ⟨s0, hs⟩ := h.cs
  obtain ⟨A, c, h1, h2⟩ := h.row
  have hk : ∀ (k : Nat) C t f, wr.heap[k]? = some (.cells C t f) → t ≠ 37 → (wr.setCell ⟨bs, 0, none⟩ (.int .u64 s)).heap[k]? = wr.heap[k]? := fun k C t f hc ht => Below.heap_setCell wr _ _ k (by
    show k ≠ bs
    rintro rfl
    rw [hs] at hc
    injection hc with hc
    injection hc with h1 h2
    exact ht h2.symm)
  exact ⟨below_setI h.bel h.lo.2.1, h.lo, (hk _ _ _ _ h.cn (by decide)).trans h.cn, ⟨s, heap_setCell_same wr bs 0 _ _ _ hs⟩, ⟨A, c, (hk _ _ _ _ h1 (by decide)).trans h1, jf_own h2 fun k C f hc => hk _ _ _ _ hc (by decide)⟩⟩
theorem JF.app (h : JF w m bn bs bl l wr) (x : Ev4) (hn : l.length ≤ 100000) :
    ∃ A c A' c' w', wr.heap[bl]? = some (.cells #[.slice A l.length c] 22 (0, 0)) ∧ (Builtin.append_ #[22, 22] 22 #[.slice A l.length c, .slice (some ⟨wr.heap.size, 0, none⟩) 1 1]).run Tryd.prog (wr.alloc (.cells #[.int .i64 x.1, .int .i64 x.2.1, .int .i64 x.2.2.1, .int .i64 x.2.2.2] 42)) = .ok (.slice A' (l.length + 1) c') w' ∧
      w'.heap[bl]? = some (.cells #[.slice A l.length c] 22 (0, 0)) ∧ JF w m bn bs bl (l ++ [x]) (w'.setCell ⟨bl, 0, none⟩ (.slice A' (l.length + 1) c')) ∧ ∀ (g : Nat) C, wr.heap[g]? = some (.cells C 3 (0, 0)) → (w'.setCell ⟨bl, 0, none⟩ (.slice A' (l.length + 1) c')).heap[g]? = some (.cells C 3 (0, 0)) := by
  obtain ⟨i0, hi, hz0, hz1, hz2⟩ := info_parts infoEv
  obtain ⟨s, hs⟩ := h.cs
  obtain ⟨A, c, h1, h2⟩ := h.row
  have hb := h.bel.alloc h.bel.size (.cells #[.int .i64 x.1, .int .i64 x.2.1, .int .i64 x.2.2.1, .int .i64 x.2.2.2] 42)
  have hat := heap_alloc_new wr (.cells #[.int .i64 x.1, .int .i64 x.2.1, .int .i64 x.2.2.1, .int .i64 x.2.2.2] 42)
  have hnews := World.news_of_block (cs := #[.int .i64 x.1, .int .i64 x.2.1, .int .i64 x.2.2.1, .int .i64 x.2.2.2]) hat
  obtain ⟨v', w', hr, ho, hg, _⟩ := run_append_own (P := Tryd.prog) (wr.alloc (.cells #[.int .i64 x.1, .int .i64 x.2.1, .int .i64 x.2.2.1, .int .i64 x.2.2.2] 42)) w.heap.size 22 22 42 i0 (.agg #[.int .i64 0, .int .i64 0, .int .i64 0, .int .i64 0]) 4 32 Tryd.underlying22 hi hz0 hz1 hz2 rfl (by decide) (.slice A l.length c) l.length _ (h2.alloc _) ⟨wr.heap.size, 0, none⟩ 1 1 (evC x) rfl (by simpa [evC] using hnews) (by intro u hu; simp [evC] at hu; rcases hu with rfl | rfl | rfl | rfl <;> rfl) (by unfold maxLen; omega) (by omega) hb.size
  obtain ⟨A', c', rfl⟩ : ∃ A' c', v' = .slice A' (l.length + 1) c' := by
    rcases ho.2 with ⟨rfl, e⟩ | ⟨g, cap, cur, rfl, _⟩
    · exact ⟨none, 0, by rw [e]⟩
    · exact ⟨_, _, rfl⟩
  have hk : ∀ (k : Nat) C t f, wr.heap[k]? = some (.cells C t f) → t ≠ 42 → w'.heap[k]? = wr.heap[k]? := fun k C t f hc ht => by
    have hlt := (Array.getElem?_eq_some_iff.1 hc).1
    have e1 : (wr.alloc (.cells #[.int .i64 x.1, .int .i64 x.2.1, .int .i64 x.2.2.1, .int .i64 x.2.2.2] 42)).heap[k]? = wr.heap[k]? := (World.grownBy_alloc wr (.cells #[.int .i64 x.1, .int .i64 x.2.1, .int .i64 x.2.2.1, .int .i64 x.2.2.2] 42) none).block k hlt (by simp)
    refine (hg.block k (by rw [World.size_alloc]; omega) ?_).trans e1
    intro hown
    rcases h2.2 with ⟨e, _⟩ | ⟨g, cap, cur, e, _, hh, _⟩
    · rw [e] at hown; simp [Value.ownBlock] at hown
    · rw [e] at hown
      simp only [Value.ownBlock, Option.some.injEq] at hown
      subst hown
      rw [hh] at hc
      injection hc with hc
      injection hc with q1 q2
      exact ht q2.symm
  have hbl := (hk _ _ _ _ h1 (by decide)).trans h1
  have hb' := hb.grown hg hb.size (fun k hk => (h2.lt k hk).1)
  have hst : ∀ (k : Nat) C t f, w'.heap[k]? = some (.cells C t f) → t ≠ 22 → (w'.setCell ⟨bl, 0, none⟩ (.slice A' (l.length + 1) c')).heap[k]? = w'.heap[k]? := fun k C t f hc ht => Below.heap_setCell w' _ _ k (by
    show k ≠ bl
    rintro rfl
    rw [hbl] at hc
    injection hc with hc
    injection hc with h1 h2
    exact ht h2.symm)
  have both : ∀ (k : Nat) C t, wr.heap[k]? = some (.cells C t (0, 0)) → t ≠ 42 → t ≠ 22 → (w'.setCell ⟨bl, 0, none⟩ (.slice A' (l.length + 1) c')).heap[k]? = some (.cells C t (0, 0)) := fun k C t hc t1 t2 => by
    have e1 := (hk _ _ _ _ hc t1).trans hc
    exact (hst _ _ _ _ e1 t2).trans e1
  have hln : (l ++ [x]).length = l.length + 1 := List.length_append
  refine ⟨A, c, A', c', w', h1, hr, hbl, ⟨below_setI hb' h.lo.2.2, h.lo, both _ _ _ h.cn (by decide) (by decide), ⟨s, both _ _ _ hs (by decide) (by decide)⟩, ⟨A', c', ?_, ?_⟩⟩, fun g C hc => both _ _ _ hc (by decide) (by decide)⟩
  · rw [hln]
    exact heap_setCell_same w' bl 0 _ _ _ hbl
  · rw [hln, cellsE_append, cellsE_one]
    exact jf_own ho fun k C f hc => hst _ _ _ _ hc (by decide)
end
theorem j_next {q m : Nat} (h : q < m) (hm : m ≤ 16) : wrap64 ((q : Int) + 1) = ((q + 1 : Nat) : Int) := by unfold wrap64; omega
theorem j_less {q n : Nat} (h : q < n) : n - (intOf (Value.int IntKind.i64 ((q + 1 : Nat) : Int))).toNat < n - (intOf (Value.int IntKind.i64 (q : Int))).toNat := by
  show n - (((q + 1 : Nat) : Int)).toNat < n - ((q : Int)).toNat
  rw [Int.toNat_natCast, Int.toNat_natCast]
  omega
theorem jdraw (y : Int) {i : Nat} (hi : i < 16) : ∃ j : Nat, j < i + 1 ∧ wrap64 ((IntKind.u64.wrap y / 8589934592).tmod (IntKind.u64.wrap (wrap64 ((i : Int) + 1)))) = (j : Int) := by
  have h0 : 0 ≤ IntKind.u64.wrap y := by simp [IntKind.wrap, IntKind.signed, IntKind.bits]; omega
  have e1 : IntKind.u64.wrap (wrap64 ((i : Int) + 1)) = ((i + 1 : Nat) : Int) := by
    rw [show wrap64 ((i : Int) + 1) = ((i + 1 : Nat) : Int) by unfold wrap64; omega]
    simp [IntKind.wrap, IntKind.signed, IntKind.bits]; omega
  have h1 : 0 ≤ IntKind.u64.wrap y / 8589934592 := Int.ediv_nonneg h0 (by decide)
  rw [e1]
  generalize IntKind.u64.wrap y / 8589934592 = z at *
  obtain ⟨u, rfl⟩ : ∃ u : Nat, z = u := ⟨z.toNat, by omega⟩
  refine ⟨u % (i + 1), Nat.mod_lt _ (by omega), ?_⟩
  have hlt : u % (i + 1) < i + 1 := Nat.mod_lt _ (by omega)
  have e2 : ((u : Nat) : Int).tmod ((i + 1 : Nat) : Int) = ((u % (i + 1) : Nat) : Int) := rfl
  rw [e2]
  unfold wrap64
  omega
set_option maxHeartbeats 4000000 in
/-- All threads, in whatever order, say one thing. -/
theorem jturn_any {w x0 : World} {m bn bs bl : Nat} {l : List Ev4} (h : JF w m bn bs bl l x0) (m1 : 1 ≤ m) (m16 : m ≤ 16) (hl : l.length ≤ 1000) (a r : Int) :
    Calls Tryd.prog 15 #[.int .i64 a, .int .i64 r, .pointer (some ⟨bn, 0, none⟩), .pointer (some ⟨bs, 0, none⟩), .pointer (some ⟨bl, 0, none⟩)] x0 fun e w' => e = .returned (.tuple #[]) ∧ ∃ at_ : List Nat, at_.Perm (List.range m) ∧ JF w m bn bs bl (l ++ at_.map fun (t : Nat) => ((0, a, (t : Int), r) : Ev4)) w' := by
  obtain ⟨C, hC, hmk⟩ := make_ints m (by omega)
  have H0 : RowI (x0.alloc (.cells C 3)) x0.heap.size (begun m 0) := ⟨C, heap_alloc_new x0 _, hC⟩
  have HH0 := Lib.hid H0
  have HJ0 := Lib.hid (h.grow (World.grownBy_alloc x0 (.cells C 3) none))
  have hc0 : x0.cell? ⟨bn, 0, none⟩ = some (.int .i64 (m : Nat)) := (cell_of_row x0 bn 0 _ _ _ h.cn).trans rfl
  have HG := Lib.hid (show w.heap.size ≤ x0.heap.size ∧ x0.heap.size ≠ bn from ⟨h.bel.size, by have := (Array.getElem?_eq_some_iff.1 h.cn).1; omega⟩)
  have HN := Lib.hid (show 1 ≤ m ∧ m ≤ 16 ∧ l.length ≤ 1000 from ⟨m1, m16, hl⟩)
  clear H0 h m1 m16 hl hC
  go_enter Tryd.func15, Tryd.ntmps15
  go_wp2
  clear hmk hc0
  --MA
  go_loopw [17] (fun j wr => ∃ i : Nat, i ≤ m ∧ j = .int .i64 i ∧ Hid (JF w m bn bs bl l wr ∧ RowI wr x0.heap.size (begun m i))) (fun j _ => m - (intOf j).toNat)
  case atStart => exact ⟨0, Nat.zero_le _, rfl, ⟨HJ0.out, HH0.out⟩⟩
  case round =>
    obtain ⟨i, hi, rfl, hx⟩ := hrel
    by_cases hlt : i < m
    · have hkn : (i : Int) < (m : Int) := Int.ofNat_lt.2 hlt
      have HX := Lib.hid hx.out
      obtain ⟨c1, c2⟩ := hx.out.2.cell (i := i) (by rw [begun_len hi]; exact hlt)
      have HR := Lib.hid (hx.out.2.set i (i : Int))
      rw [begun_set hlt] at HR
      have HJ := Lib.hid (by
        obtain ⟨C1, k1, k2⟩ := hx.out.2
        exact hx.out.1.ints k1 HG.out.1 HG.out.2 i (.int .i64 (i : Nat)))
      have HI := Lib.hid hlt
      clear hx hi hlt HX
      go_wp2
      --MB
      have hlt := HI.out
      rw [j_next hlt HN.out.2.1]
      exact ⟨⟨i + 1, hlt, rfl, HJ.out, HR.out⟩, j_less hlt⟩
    · have hkn : ¬ (i : Int) < (m : Int) := fun h => hlt (Int.ofNat_lt.1 h)
      obtain rfl : m = i := Nat.le_antisymm (Nat.le_of_not_lt hlt) hi
      have hx1 := hx.out
      rw [begun_all] at hx1
      have HX := Lib.hid hx1
      have hc0 : wr.cell? ⟨bn, 0, none⟩ = some (.int .i64 (m : Nat)) := (cell_of_row wr bn 0 _ _ _ hx1.1.cn).trans rfl
      clear hx hx1 hi hlt HJ0 HH0
      go_wp2
      clear hc0
      --MC
      rw [show wrap64 ((m : Int) - 1) = ((m - 1 : Nat) : Int) by have := HN.out; unfold wrap64; omega]
      clear hkn
      go_loopw [9] (fun j wr => ∃ (i : Nat) (xs : List Nat), j = .int .i64 i ∧ i < m ∧ Hid (xs.Perm (List.range m) ∧ JF w m bn bs bl l wr ∧ RowI wr x0.heap.size (nI xs))) (fun j _ => (intOf j).toNat)
      case atStart => exact ⟨m - 1, List.range m, rfl, by have := HN.out; omega, List.Perm.refl _, HX.out⟩
      case round =>
        obtain ⟨i, xs, rfl, hi, hx⟩ := hrel
        by_cases h0 : 0 < i
        · have hkn : (0 : Int) < (i : Int) := Int.ofNat_lt.2 h0
          obtain ⟨hp, hj, hr⟩ := hx.out
          obtain ⟨s, hs⟩ := hj.cs
          have c1 : wr.cell? ⟨bs, 0, none⟩ = some (.int .u64 s) := (cell_of_row wr bs 0 _ _ _ hs).trans rfl
          have c2 : wr.frozen? ⟨bs, 0, none⟩ = false := frozen_of_row wr bs 0 _ _ hs
          have HS := Lib.hid (fun v => hj.seed v)
          have HXs := Lib.hid (And.intro hp (And.intro h0 hi))
          have HRw := Lib.hid (fun v => show RowI (wr.setCell ⟨bs, 0, none⟩ (.int .u64 v)) x0.heap.size (nI xs) by
            obtain ⟨C1, k1, k2⟩ := hr
            refine ⟨C1, (Below.heap_setCell wr _ _ _ ?_).trans k1, k2⟩
            show x0.heap.size ≠ bs
            intro e
            rw [e] at k1
            exact absurd (jf_ty k1 hs).1 (by decide))
          have hz : ¬ IntKind.u64.wrap (wrap64 ((i : Int) + 1)) = 0 := by
            have h1 := HN.out.2.1
            rw [show wrap64 ((i : Int) + 1) = ((i + 1 : Nat) : Int) by clear hs c1 c2; unfold wrap64; omega]
            simp [IntKind.wrap, IntKind.signed, IntKind.bits]; omega
          clear hp hj hr hs hx hi h0 HX
          go_wp2_with fail
          --MD
          obtain ⟨y, hy⟩ : ∃ y, y = IntKind.u64.wrap (s * 6364136223846793005) + 1442695040888963407 := ⟨_, rfl⟩
          have hi16 : i < 16 := by have h1 := HN.out; have h2 := HXs.out; omega
          obtain ⟨j, hj, ej⟩ := jdraw y hi16
          rw [← hy, ej]
          obtain ⟨v, hv⟩ : ∃ v, v = IntKind.u64.wrap y := ⟨_, rfl⟩
          rw [← hv]
          have hxl : xs.length = m := by rw [HXs.out.1.length_eq, List.length_range]
          have HJ1 := Lib.hid (HS.out v)
          have hR1 := HRw.out v
          have HI := Lib.hid (show i < xs.length ∧ j < xs.length ∧ i < m by have := HXs.out; omega)
          clear hy ej hv HS HRw c1 c2 hkn hi16 hj hxl hz
          generalize wr.setCell ⟨bs, 0, none⟩ (.int .u64 v) = W1 at *
          have HR1 := Lib.hid hR1
          obtain ⟨c1, c2⟩ := hR1.cell (i := i) (by rw [nI_len]; exact HI.out.1)
          obtain ⟨c3, c4⟩ := hR1.cell (i := j) (by rw [nI_len]; exact HI.out.2.1)
          have hR2 := hR1.set i ((nI xs).getD j 0)
          obtain ⟨c5, c6⟩ := hR2.cell (i := j) (by rw [List.length_set, nI_len]; exact HI.out.2.1)
          have HR2 := Lib.hid (hR2.set j ((nI xs).getD i 0))
          rw [nI_swap] at HR2
          have hib : (i : Int) < (m : Int) := by have := HI.out; omega
          have hjb : (j : Int) < (m : Int) := by have h1 := HI.out; have h2 := HXs.out.1.length_eq; rw [List.length_range] at h2; omega
          generalize (nI xs).getD i 0 = xi at *
          generalize (nI xs).getD j 0 = xj at *
          clear hR1 hR2
          --ME
          go_region
          --MF
          have HJ2 := Lib.hid (show JF w m bn bs bl l ((W1.setCell ⟨x0.heap.size, i, none⟩ (.int .i64 xj)).setCell ⟨x0.heap.size, j, none⟩ (.int .i64 xi)).drew by
            obtain ⟨C1, k1, k2⟩ := HR1.out
            exact ((HJ1.out.ints k1 HG.out.1 HG.out.2 i (.int .i64 xj)).ints (heap_setCell_same _ _ _ _ _ _ k1) HG.out.1 HG.out.2 j (.int .i64 xi)).grow (grown_drewJ _ 1))
          have HR3 := Lib.hid (show RowI ((W1.setCell ⟨x0.heap.size, i, none⟩ (.int .i64 xj)).setCell ⟨x0.heap.size, j, none⟩ (.int .i64 xi)).drew x0.heap.size (nI (swapN xs i j)) from HR2.out)
          clear c1 c2 c3 c4 c5 c6 hib hjb HR1 HR2 HJ1
          go_wp2
          --MG
          rw [show wrap64 ((i : Int) - 1) = ((i - 1 : Nat) : Int) by have h1 := HXs.out.2; have h2 := HN.out.2.1; unfold wrap64; omega]
          refine ⟨⟨i - 1, swapN xs i j, rfl, by have := HI.out; omega, (swapN_perm HI.out.1 HI.out.2.1).trans HXs.out.1, HJ2.out, HR3.out⟩, ?_⟩
          show (((i - 1 : Nat) : Int)).toNat < ((i : Int)).toNat
          have := HXs.out.2
          omega
        · have hkn : ¬ (0 : Int) < (i : Int) := fun h => h0 (Int.ofNat_lt.1 h)
          have hxl : xs.length = m := by rw [hx.out.1.length_eq, List.length_range]
          have HX3 := Lib.hid (And.intro hx.out hxl)
          clear hx h0 hxl HX
          go_wp2
          --MH
          go_loopw [57] (fun j wr => ∃ q : Nat, q ≤ m ∧ j = .int .i64 q ∧ Hid (JF w m bn bs bl (l ++ (xs.take q).map fun (t : Nat) => ((0, a, (t : Int), r) : Ev4)) wr ∧ RowI wr x0.heap.size (nI xs))) (fun j _ => m - (intOf j).toNat)
          case atStart => exact ⟨0, Nat.zero_le _, rfl, by simpa using HX3.out.1.2.1, HX3.out.1.2.2⟩
          case round =>
            obtain ⟨q, hq, rfl, hx⟩ := hrel
            by_cases hlt : q < m
            · have hkn2 : (q : Int) < (m : Int) := Int.ofNat_lt.2 hlt
              obtain ⟨c1, c2⟩ := hx.out.2.cell (i := q) (by rw [nI_len, HX3.out.2]; exact hlt)
              rw [nI_at] at c1
              have hq2 : q < xs.length := by rw [HX3.out.2]; exact hlt
              have htk : (xs.take (q + 1)).map (fun (t : Nat) => ((0, a, (t : Int), r) : Ev4)) = (xs.take q).map (fun (t : Nat) => ((0, a, (t : Int), r) : Ev4)) ++ [(0, a, ((xs.getD q 0 : Nat) : Int), r)] := by
                have e : xs.getD q 0 = xs[q] := by rw [List.getD_eq_getElem?_getD, List.getElem?_eq_getElem hq2]; rfl
                rw [e, ← List.take_append_getElem hq2, List.map_append]
                rfl
              generalize xs.getD q 0 = t at *
              have hlen : (l ++ (xs.take q).map fun (t : Nat) => ((0, a, (t : Int), r) : Ev4)).length ≤ 100000 := by
                rw [List.length_append, List.length_map, List.length_take]
                have := HN.out
                omega
              obtain ⟨A, c, A', c', w', k1, hrun, k2, hj', hk⟩ := hx.out.1.app (0, a, (t : Int), r) hlen
              have c3 : wr.cell? ⟨bl, 0, none⟩ = some (.slice A _ c) := (cell_of_row wr bl 0 _ _ _ k1).trans rfl
              have c4 : w'.cell? ⟨bl, 0, none⟩ = some (.slice A _ c) := (cell_of_row w' bl 0 _ _ _ k2).trans rfl
              have c5 : w'.frozen? ⟨bl, 0, none⟩ = false := frozen_of_row w' bl 0 _ _ k2
              have HR := Lib.hid hrun
              rw [List.append_assoc, ← htk] at hj'
              have HJ := Lib.hid hj'
              have HI := Lib.hid hlt
              have HRw := Lib.hid (by
                obtain ⟨C1, q1, q2⟩ := hx.out.2
                exact (show RowI _ x0.heap.size (nI xs) from ⟨C1, hk _ _ q1, q2⟩))
              dsimp only at HR
              clear hx hq hlt hq2 htk hlen k1 k2 hrun hj' hk
              generalize (l ++ (xs.take q).map fun (t : Nat) => ((0, a, (t : Int), r) : Ev4)).length = n0 at *
              go_wp2_with (at_builtin; refine Lib.wpList_append_run _ rfl _ _ _ _ rfl _ _ rfl rfl _ _ HR.out ?_; clear HR)
              --MI
              have hlt := HI.out
              rw [j_next hlt HN.out.2.1]
              exact ⟨⟨q + 1, hlt, rfl, HJ.out, HRw.out⟩, j_less hlt⟩
            · have hkn2 : ¬ (q : Int) < (m : Int) := fun h => hlt (Int.ofNat_lt.1 h)
              obtain rfl : m = q := Nat.le_antisymm (Nat.le_of_not_lt hlt) hq
              have hx1 := hx.out.1
              rw [show xs.take m = xs by rw [← HX3.out.2, List.take_length]] at hx1
              have HF := Lib.hid hx1
              clear hx hx1 hq hlt
              go_wp2
              go_end0
              exact ⟨rfl, xs, HX3.out.1.1, HF.out⟩

theorem ev_come (t q : Nat) : ((0, 1, (t : Int), ((q + 1 : Nat) : Int)) : Ev4) = evAt 0 t (2 * q) := by
  unfold evAt
  rw [show 1 + 2 * q % 2 = 1 by omega, show 1 + 2 * q / 2 = q + 1 by omega]
  rfl
theorem ev_go (t q : Nat) : ((0, 2, (t : Int), ((q + 1 : Nat) : Int)) : Ev4) = evAt 0 t (2 * q + 1) := by
  unfold evAt
  rw [show 1 + (2 * q + 1) % 2 = 2 by omega, show 1 + (2 * q + 1) / 2 = q + 1 by omega]
  rfl
/-- So many whole rounds were said. -/
structure Free (m q : Nat) (l : List Ev4) : Prop where
  ok : OkEv m l
  cnt : ∀ u, u < m → cntEv l u = 2 * q
  len : l.length = 2 * m * q
theorem Free.more {m q : Nat} {l : List Ev4} (h : Free m q l) {A B : List Nat} (hA : A.Perm (List.range m)) (hB : B.Perm (List.range m)) : Free m (q + 1) ((l ++ A.map fun (t : Nat) => ((0, 1, (t : Int), ((q + 1 : Nat) : Int)) : Ev4)) ++ B.map fun (t : Nat) => ((0, 2, (t : Int), ((q + 1 : Nat) : Int)) : Ev4)) := by
  simp only [ev_come, ev_go]
  obtain ⟨h1, h2⟩ := judge_round h.ok h.cnt (hA.nodup_iff.2 List.nodup_range) (hB.nodup_iff.2 List.nodup_range) (fun t => hA.mem_iff.trans List.mem_range) (fun t => hB.mem_iff.trans List.mem_range)
  refine ⟨h1, h2, ?_⟩
  rw [List.length_append, List.length_append, List.length_map, List.length_map, h.len, hA.length_eq, hB.length_eq, List.length_range, Nat.mul_succ]
  omega
theorem free_len {m q : Nat} (hm : m ≤ 16) (hq : q ≤ 5) : 2 * m * q ≤ 160 := Nat.mul_le_mul (by omega : 2 * m ≤ 32) hq

set_option maxHeartbeats 4000000 in
theorem judgeFree_any {w : World} (hg : ErrVar w) (n rounds seed : Int) :
    Calls Tryd.prog 4 #[.int .i64 n, .int .i64 rounds, .int .u64 seed] w fun e w' => e = .returned (.bool true) ∧ Below w.heap.size w w' := by
  obtain ⟨m, m1, m16, hm, hp16⟩ := pick16 n
  have HP := Lib.hid hp16
  have hmw : wrap64 (1 + pickI n 16) = (m : Int) := by rw [hm]; unfold wrap64; omega
  have HMW := Lib.hid hmw
  obtain ⟨R, hR, hpR⟩ := pickN rounds 5 (by decide) (by decide)
  have HPR := Lib.hid hpR
  have HN := Lib.hid (And.intro m1 (And.intro m16 hR))
  have hb0 := (Below.refl w.heap.size w).alloc (Nat.le_refl _) (.cells #[.int .i64 n] 3)
  have hb1 := hb0.alloc hb0.size (.cells #[.int .u64 seed] 37)
  have HJ := Lib.hid (judged_any (errVar_below hg hb1 (errVar_lt hg)))
  have HB1 := Lib.hid hb1
  have hn0 : ((w.alloc (.cells #[.int .i64 n] 3)).alloc (.cells #[.int .u64 seed] 37)).heap[w.heap.size]? = some (.cells #[.int .i64 n] 3 (0, 0)) := by
    have h1 := heap_alloc_new w (.cells #[.int .i64 n] 3)
    exact ((World.grownBy_alloc _ (.cells #[.int .u64 seed] 37) none).block _ (Array.getElem?_eq_some_iff.1 h1).1 (by simp)).trans h1
  have hs0 : ((w.alloc (.cells #[.int .i64 n] 3)).alloc (.cells #[.int .u64 seed] 37)).heap[w.heap.size + 1]? = some (.cells #[.int .u64 seed] 37 (0, 0)) := by
    have h1 := heap_alloc_new (w.alloc (.cells #[.int .i64 n] 3)) (.cells #[.int .u64 seed] 37)
    rwa [World.size_alloc] at h1
  have HB0 := Lib.hid (And.intro hn0 hs0)
  clear hg hp16 hm hmw hpR m1 m16 hR hb0 hb1 hn0 hs0
  generalize pickI n 16 = z at *
  go_enter Tryd.func4, Tryd.ntmps4
  go_wp2_with fail
  --NA
  refine HJ.out.mono ?_
  rintro e w1 ⟨rfl, hb1⟩
  have hbn := (hb1.block w.heap.size (by rw [World.size_alloc, World.size_alloc]; omega)).trans HB0.out.1
  have hbs := (hb1.block (w.heap.size + 1) (by rw [World.size_alloc, World.size_alloc]; omega)).trans HB0.out.2
  have hb2 := HB1.out.trans (hb1.mono HB1.out.size)
  have hsz : w.heap.size + 2 ≤ w1.heap.size := by
    have := hb1.size
    rw [World.size_alloc, World.size_alloc] at this
    exact this
  have HJF := Lib.hid (show JF w m w.heap.size (w.heap.size + 1) w1.heap.size [] ((w1.setCell ⟨w.heap.size, 0, none⟩ (.int .i64 (m : Nat))).alloc (.cells #[.slice none 0 0] 22)) by
    have g0 : ∀ (k : Nat), k < w1.heap.size → ((w1.setCell ⟨w.heap.size, 0, none⟩ (.int .i64 (m : Nat))).alloc (.cells #[.slice none 0 0] 22)).heap[k]? = (w1.setCell ⟨w.heap.size, 0, none⟩ (.int .i64 (m : Nat))).heap[k]? := fun k hk => (World.grownBy_alloc _ (.cells #[.slice none 0 0] 22) none).block k (by simpa using hk) (by simp)
    have h1 : (w1.setCell ⟨w.heap.size, 0, none⟩ (.int .i64 (m : Nat))).heap[w.heap.size]? = some (.cells #[.int .i64 (m : Nat)] 3 (0, 0)) := heap_setCell_same w1 w.heap.size 0 _ _ _ hbn
    have h2 := Below.heap_setCell w1 ⟨w.heap.size, 0, none⟩ (.int .i64 (m : Nat)) (w.heap.size + 1) (by show w.heap.size + 1 ≠ w.heap.size; omega)
    have h3 := heap_alloc_new (w1.setCell ⟨w.heap.size, 0, none⟩ (.int .i64 (m : Nat))) (.cells #[.slice none 0 0] 22)
    have hbb := below_setI (i := 0) (v := .int .i64 (m : Nat)) hb2 (Nat.le_refl w.heap.size)
    refine ⟨hbb.alloc hbb.size _, ⟨Nat.le_refl _, by omega, by omega⟩, (g0 _ (by omega)).trans h1, ⟨seed, (g0 _ (by omega)).trans (h2.trans hbs)⟩, none, 0, ?_, World.ownsRow_nil _ _ _ _⟩
    have e : (w1.setCell ⟨w.heap.size, 0, none⟩ (.int .i64 (m : Nat))).heap.size = w1.heap.size := by simp
    rw [e] at h3
    exact h3)
  have c1 : w1.cell? ⟨w.heap.size, 0, none⟩ = some (.int .i64 n) := (cell_of_row w1 _ 0 _ _ _ hbn).trans rfl
  have c2 : w1.frozen? ⟨w.heap.size, 0, none⟩ = false := frozen_of_row w1 _ 0 _ _ hbn
  clear hb1 HJ HB0 HB1 hbn hbs hb2 hsz
  go_wp2_with fail
  --NB
  refine (HP.out _).mono ?_
  rintro e w2 ⟨rfl, rfl⟩
  go_wp2_with fail
  refine (HPR.out _).mono ?_
  rintro e w2 ⟨rfl, rfl⟩
  rw [HMW.out]
  clear HP HPR HMW
  --NC
  go_wp2
  clear c1 c2
  --ND
  have HT := Lib.hid (fun (x : World) (l : List Ev4) (hx : JF w m w.heap.size (w.heap.size + 1) w1.heap.size l x) (hl : l.length ≤ 1000) (a r : Int) => jturn_any hx HN.out.1 HN.out.2.1 hl a r)
  go_loopw [9] (fun j wr => ∃ (q : Nat) (l : List Ev4), j = .int .i64 ((q + 1 : Nat) : Int) ∧ q ≤ R ∧ Hid (JF w m w.heap.size (w.heap.size + 1) w1.heap.size l wr ∧ Free m q l)) (fun j _ => R + 1 - (intOf j).toNat)
  case atStart => exact ⟨0, [], rfl, Nat.zero_le _, HJF.out, ⟨OkEv.nil, fun _ _ => rfl, rfl⟩⟩
  case round =>
    obtain ⟨q, l, rfl, hq, hx⟩ := hrel
    have HX := Lib.hid hx.out
    by_cases hlt : q + 1 ≤ R
    · have hkn : ((q + 1 : Nat) : Int) ≤ (R : Int) := Int.ofNat_le.2 hlt
      have HI := Lib.hid hlt
      clear hq hx hlt
      obtain ⟨y, hy⟩ : ∃ y : Int, y = ((q + 1 : Nat) : Int) := ⟨_, rfl⟩
      rw [← hy] at hkn ⊢
      have HY := Lib.hid hy
      clear hy
      go_wp2_with fail
      --NE
      have hl1 : l.length ≤ 1000 := by have h1 := HX.out.2.len; have h2 := free_len (q := q) HN.out.2.1 (by have := HI.out; have := HN.out; omega); omega
      refine (HT.out _ l HX.out.1 hl1 1 y).mono ?_
      rintro e x1 ⟨rfl, A, hA, hj1⟩
      have HJ1 := Lib.hid hj1
      have HA := Lib.hid hA
      clear hj1 hA
      go_wp2_with fail
      --NF
      have hl2 : (l ++ A.map fun (t : Nat) => ((0, 1, (t : Int), y) : Ev4)).length ≤ 1000 := by
        rw [List.length_append, List.length_map, HA.out.length_eq, List.length_range]
        have h1 := HX.out.2.len
        have h2 := free_len (q := q) HN.out.2.1 (by have := HI.out; have := HN.out; omega)
        have h3 := HN.out
        omega
      refine (HT.out _ _ HJ1.out hl2 2 y).mono ?_
      rintro e x2 ⟨rfl, B, hB, hj2⟩
      have HJ2 := Lib.hid hj2
      have hF := HX.out.2.more HA.out hB
      rw [← HY.out] at hF
      have HF := Lib.hid hF
      clear hj2 hB hF HJ1 HA hl1 hl2
      go_wp2
      --NG
      have hy2 : wrap64 (y + 1) = ((q + 1 + 1 : Nat) : Int) := by rw [HY.out]; have h1 := HI.out; have h2 := HN.out; unfold wrap64; omega
      rw [hy2]
      refine ⟨⟨q + 1, _, rfl, HI.out, HJ2.out, HF.out⟩, ?_⟩
      rw [HY.out]
      show R + 1 - (((q + 1 + 1 : Nat) : Int)).toNat < R + 1 - (((q + 1 : Nat) : Int)).toNat
      have := HI.out
      omega
    · have hkn : ¬ ((q + 1 : Nat) : Int) ≤ (R : Int) := fun h => hlt (Int.ofNat_le.1 h)
      obtain rfl : R = q := by omega
      clear hq hx hlt
      obtain ⟨y, hy⟩ : ∃ y : Int, y = ((R + 1 : Nat) : Int) := ⟨_, rfl⟩
      rw [← hy] at hkn ⊢
      clear hy
      obtain ⟨A, c, hrow, hown⟩ := HX.out.1.row
      have c1 : wr.cell? ⟨w1.heap.size, 0, none⟩ = some (.slice A l.length c) := (cell_of_row wr _ 0 _ _ _ hrow).trans rfl
      have c2 : wr.cell? ⟨w.heap.size, 0, none⟩ = some (.int .i64 (m : Nat)) := (cell_of_row wr _ 0 _ _ _ HX.out.1.cn).trans rfl
      have HR := Lib.hid (jrounds_yes (w := wr) A l.length c m l rfl (by have h1 := HX.out.2.len; have h2 := free_len (q := R) HN.out.2.1 (by have := HN.out; omega); omega) (evRow_own hown rfl) HN.out.1 HN.out.2.1 (judge_ok.2 HX.out.2.ok))
      obtain ⟨r1, r2⟩ := jAll_same HN.out.1 HX.out.2.cnt
      rw [r1, r2] at HR
      clear r1 r2 hrow hown
      go_wp2_with fail
      --NH
      refine HR.out.mono ?_
      rintro e x1 ⟨rfl, hg1⟩
      have HF := Lib.hid (HX.out.1.bel.grown hg1 HX.out.1.bel.size (by intro k hk; cases hk))
      clear hg1 HR c1 c2
      go_wp2
      go_ret
      exact ⟨rfl, HF.out⟩
end Go.Proofs.YtoljmleomkkchaaDoor
