/-
  The laws' helpers on threads that ask for calls: answers. The rows of what threads were told, beside a map that is filled. Sets of ints: maps from int to bool, as functions. Sets of ints with how many there are: maps from int to bool, exactly.
-/
import Derived.Test.YtkhaeabbbhfloaaDoorQL3
import Derived.Maps.AppendAt
import Derived.Deep.AppendLies
import Derived.Test.YtkhaeabbbhfloaaDoorQA
import Derived.Test.YtkhaeabbbhfloaaDoorQN
import Derived.Maps.Views
import Derived.Maps.OwnSet
namespace Go.Proofs.YtkhaeabbbhfloaaDoor
set_option maxRecDepth 100000
open Go.RowKit Go.Shelf Go.Sort
set_option linter.unusedVariables false
set_option linter.unusedSimpArgs false

theorem step_append_run {P : Program} {ops : Array Oper} {o : Oper} {a : Act} {wx : World} {K : Act → World → Prop} {Q : Exit → Act → World → Prop} {E : Prop} (hgd : o.guard = none) (s x : Operand) (t u : TypeId) (ho : o.op = .call { callee := .builtin .append, args := #[s, x], argTypes := #[t, u] }) {v y v' : Value} {w' : World} (hs : a.eval s = v) (hx : a.eval x = y) (hr : (Builtin.append_ #[t, u] o.type #[v, y]).run P wx = .ok v' w') (hK : K (a.put o.dst v') w') :
    if Region.wanted o (yielded ops a.tmps) = true then Oper.wp P o a wx K Q else E := by
  have hw : Region.wanted o (yielded ops a.tmps) = true := by simp [Region.wanted, hgd]
  rw [if_pos hw]
  exact Lib.wp_append_run wx s x _ _ ho _ _ hs hx _ _ hr hK
theorem infoIntA : (Tryd.prog.info? 3).map (fun i => (i.zero, i.size, i.bytes)) = some (some (.int .i64 0), 1, 8) := by kernel_rfl
theorem infoSIA : (Tryd.prog.info? 49).map (fun i => (i.zero, i.size, i.bytes)) = some (some (.slice none 0 0), 1, 24) := by kernel_rfl

theorem ans_cap {w : World} {B e sz n c : Nat} {A : Option Addr} {xs : List Value} (h : w.ownsRow B e sz (.slice A n c) n xs) : n ≤ c := by
  rcases h.2 with ⟨_, h0⟩ | ⟨g, cap, cur, hv, _, _, hc, _⟩
  · omega
  · injection hv with _ _ h3
    omega
/-- What threads were told, row by row. -/
structure AnsTo (w : World) (g n : Nat) (e : List Ev4) (w2 : World) : Prop where
  bel : Below w.heap.size w w2
  row : ∃ xs, w2.ownsRow w.heap.size 49 1 (.slice (some ⟨g, 0, none⟩) n n) n xs ∧ (∀ u, u < n → ∃ Au cu, xs[u]? = some (.slice Au (ansOf e u).length cu) ∧ w2.ownsRow w.heap.size 3 1 (.slice Au (ansOf e u).length cu) (ansOf e u).length ((ansOf e u).map (Value.int .i64))) ∧
    ∀ u v b, u < n → v < n → u ≠ v → (xs.getD u undef).ownBlock = some b → (xs.getD v undef).ownBlock ≠ some b
theorem AnsTo.more {w w2 : World} {g n t : Nat} {e : List Ev4} (h : AnsTo w g n e w2) (ht : t < n) (v : Int) (hlen : (ansOf e t).length ≤ 50000) :
    ∃ A c A' c' w3, w2.cell? ⟨g, t, none⟩ = some (.slice A (ansOf e t).length c) ∧ w2.frozen? ⟨g, t, none⟩ = false ∧ (Builtin.append_ #[49, 49] 49 #[.slice A (ansOf e t).length c, .slice (some ⟨w2.heap.size, 0, none⟩) 1 1]).run Tryd.prog (w2.drew.alloc (.cells #[.int .i64 v] 3)) = .ok (.slice A' ((ansOf e t).length + 1) c') w3 ∧
      (∀ (k : Nat) (cur : Array Value) (ty : TypeId) (f : Nat × Nat), w2.heap[k]? = some (Obj.cells cur ty f) → ty ≠ 3 → w3.heap[k]? = some (Obj.cells cur ty f)) ∧
      ∀ s q : Int, AnsTo w g n (e ++ [(s, q, (t : Int), v)]) (w3.setCell ⟨g, t, none⟩ (.slice A' ((ansOf e t).length + 1) c')) := by
  obtain ⟨i0, hi0, hz0, hz1, hz2⟩ := info_parts infoIntA
  obtain ⟨xs, h1, h2, h3⟩ := h.row
  obtain ⟨A, c, hx, ho⟩ := h2 t ht
  have hxl := h1.1
  have hgd : xs.getD t undef = .slice A (ansOf e t).length c := by rw [List.getD_eq_getElem?_getD, hx]; rfl
  have hsz : (w2.drew.alloc (.cells #[.int .i64 v] 3)).heap.size = w2.heap.size + 1 := by rw [World.size_alloc]; rfl
  have hgr : w2.grownBy (w2.drew.alloc (.cells #[.int .i64 v] 3)) none := grown_a (grown_d (World.grownBy.refl w2 none)) _
  have kept0 : ∀ {B ee s m : Nat} {vv : Value} {ys : List Value}, w2.ownsRow B ee s vv m ys → (w2.drew.alloc (.cells #[.int .i64 v] 3)).ownsRow B ee s vv m ys := fun {B ee s m vv ys} q => q.kept hgr (by cases hv : vv.ownBlock <;> simp)
  have hat := heap_alloc_new w2.drew (.cells #[.int .i64 v] 3)
  have hnews := World.news_of_block (cs := #[.int .i64 v]) hat
  obtain ⟨v', w3, hr, ho3, hg3, _, hfr⟩ := run_append_own_at (P := Tryd.prog) (w2.drew.alloc (.cells #[.int .i64 v] 3)) w.heap.size 49 49 3 i0 (.int .i64 0) 1 8 Tryd.underlying49 hi0 hz0 hz1 hz2 rfl (by decide) (.slice A (ansOf e t).length c) _ _ (kept0 ho) ⟨w2.heap.size, 0, none⟩ 1 1 [.int .i64 v] rfl hnews (fun u hu => by rw [List.mem_singleton.1 hu]; rfl) (by unfold maxLen; omega) (by omega) (by rw [hsz]; have := h.bel.size; omega)
  obtain ⟨A', c', rfl⟩ := slice_of_own ho3
  have hk : Keeps (fun k => some k = (Value.slice A (ansOf e t).length c).ownBlock) (w2.drew.alloc (.cells #[.int .i64 v] 3)) w3 := Keeps.of_grown hg3 (fun k e => e.symm)
  have htg : Tagged (w2.drew.alloc (.cells #[.int .i64 v] 3)) (fun k => some k = (Value.slice A (ansOf e t).length c).ownBlock) [3] := tagged_row (kept0 ho)
  have hout : w3.ownsRow w.heap.size 49 1 (.slice (some ⟨g, 0, none⟩) n n) n xs := own_tags (kept0 h1) hk htg (by decide)
  have hcell : w2.cell? ⟨g, t, none⟩ = some (.slice A (ansOf e t).length c) := (h1.cellAt t (by omega)).trans hx
  have hold : ∀ k, k < w2.heap.size → (w2.drew.alloc (.cells #[.int .i64 v] 3)).heap[k]? = w2.heap[k]? := fun k hk => hgr.block k hk (by simp)
  refine ⟨A, c, A', c', w3, hcell, h1.frozenAt t, hr, fun k cur ty f hkk hty => ?_, fun s q => ?_⟩
  · have hlt : k < w2.heap.size := (Array.getElem?_eq_some_iff.1 hkk).1
    have hW := (hold k hlt).trans hkk
    by_cases e1 : some k = (Value.slice A (ansOf e t).length c).ownBlock
    · have := htg k e1 cur ty f hW
      exact absurd (List.mem_singleton.1 this) hty
    · exact (hg3.block k (by rw [hsz]; omega) e1).trans hW
  · have hkp := keeps_setCell w3 ⟨g, t, none⟩ (.slice A' ((ansOf e t).length + 1) c')
    have htg3 : Tagged w3 (fun k => k = g) [49] := by
      have := tagged_row hout
      simpa [Value.ownBlock] using this
    obtain ⟨h4, _⟩ := hout.stored t (.slice A' ((ansOf e t).length + 1) c')
    have hgb : w.heap.size ≤ g := (h1.lt g rfl).1
    refine ⟨((h.bel.grown hgr h.bel.size (by intro k hk; cases hk)).grown hg3 (by rw [hsz]; have := h.bel.size; omega) (fun b hb => (ho.lt b hb).1)).setCell hgb _, xs.set t _, h4, fun u hu => ?_, fun u u2 b hu hu2 hne hb => ?_⟩
    · by_cases e1 : u = t
      · subst e1
        refine ⟨A', c', ?_, ?_⟩
        · rw [ansOf_self, List.length_append]
          exact set_at_eq xs _ (by omega)
        · rw [ansOf_self, List.length_append, List.map_append]
          exact own_tags ho3 hkp htg3 (by decide)
      · obtain ⟨Au, cu, q1, q2⟩ := h2 u hu
        refine ⟨Au, cu, ?_, ?_⟩
        · rw [ansOf_ne _ _ _ _ e1, List.getElem?_set_ne (Ne.symm e1)]
          exact q1
        · rw [ansOf_ne _ _ _ _ e1]
          have hb1 : (Value.slice Au (ansOf e u).length cu).ownBlock = none ∨ (Value.slice Au (ansOf e u).length cu).ownBlock ≠ (Value.slice A (ansOf e t).length c).ownBlock := by
            cases hbu : (Value.slice Au (ansOf e u).length cu).ownBlock with
            | none => exact .inl rfl
            | some b =>
              right
              intro e2
              refine h3 u t b hu ht e1 ?_ ?_
              · rw [List.getD_eq_getElem?_getD, q1]; exact hbu
              · rw [hgd]; exact e2.symm
          exact own_tags ((kept0 q2).kept hg3 hb1) hkp htg3 (by decide)
    · have hget : ∀ z, z < n → (xs.set t (.slice A' ((ansOf e t).length + 1) c')).getD z undef = if z = t then .slice A' ((ansOf e t).length + 1) c' else xs.getD z undef := fun z hz => by
        by_cases e1 : z = t
        · subst e1
          rw [if_pos rfl, List.getD_eq_getElem?_getD, set_at_eq xs _ (by omega)]; rfl
        · rw [if_neg e1, List.getD_eq_getElem?_getD, List.getElem?_set_ne (Ne.symm e1), ← List.getD_eq_getElem?_getD]
      have hlow : ∀ z b, z < n → z ≠ t → (xs.getD z undef).ownBlock = some b → b < w2.heap.size := fun z b hz _ hb => by
        obtain ⟨Az, cz, q1, q2⟩ := h2 z hz
        rw [List.getD_eq_getElem?_getD, q1] at hb
        exact (q2.lt b hb).2
      rw [hget u hu] at hb
      rw [hget u2 hu2]
      by_cases e1 : u = t
      · rw [if_pos e1] at hb
        rw [if_neg (by omega)]
        subst e1
        intro hb2
        rcases hfr with hfr | hfr
        · rw [hfr] at hb
          exact h3 u u2 b hu hu2 hne (by rw [hgd]; exact hb) hb2
        · rw [hfr, hsz] at hb
          have := hlow u2 b hu2 (Ne.symm hne) hb2
          injection hb with hb
          omega
      · rw [if_neg e1] at hb
        by_cases e2 : u2 = t
        · rw [if_pos e2]
          subst e2
          intro hb2
          rcases hfr with hfr | hfr
          · rw [hfr] at hb2
            exact h3 u u2 b hu hu2 hne hb (by rw [hgd]; exact hb2)
          · rw [hfr, hsz] at hb2
            have := hlow u b hu e1 hb
            injection hb2 with hb2
            omega
        · rw [if_neg e2]
          exact h3 u u2 b hu hu2 hne hb
theorem AnsTo.outer {w w2 : World} {g n : Nat} {e : List Ev4} (h : AnsTo w g n e w2) : ∃ (cur : Array Value) (f : Nat × Nat), w2.heap[g]? = some (Obj.cells cur 49 f) := by
  obtain ⟨xs, h1, _⟩ := h.row
  rcases h1.2 with ⟨e, _⟩ | ⟨g', cap, cur, e, _, hh, _⟩
  · cases e
  · injection e with e _ _
    injection e with e
    injection e with e
    subst e
    exact ⟨_, _, hh⟩
theorem own_same {w w' : World} {B e s n : Nat} {v : Value} {xs : List Value} (h : w.ownsRow B e s v n xs) (hk : ∀ (k : Nat) (cur : Array Value) (f : Nat × Nat), w.heap[k]? = some (Obj.cells cur e f) → w'.heap[k]? = some (Obj.cells cur e f)) : w'.ownsRow B e s v n xs := by
  refine ⟨h.1, ?_⟩
  rcases h.2 with h0 | ⟨g, cap, cur, h1, h2, h3, h4⟩
  · exact .inl h0
  · exact .inr ⟨g, cap, cur, h1, h2, hk g cur _ h3, h4⟩
theorem AnsTo.alloc {w w2 : World} {g n : Nat} {e : List Ev4} (h : AnsTo w g n e w2) (o : Obj) : AnsTo w g n e (w2.alloc o) := by
  obtain ⟨xs, h1, h2, h3⟩ := h.row
  refine ⟨h.bel.alloc h.bel.size o, xs, h1.alloc o, fun u hu => ?_, h3⟩
  obtain ⟨Au, cu, q1, q2⟩ := h2 u hu
  exact ⟨Au, cu, q1, q2.alloc o⟩
theorem AnsTo.grow {w w2 w3 : World} {g n : Nat} {e : List Ev4} (h : AnsTo w g n e w2) (hb : Below w2.heap.size w2 w3) : AnsTo w g n e w3 := by
  have hk := keeps_below hb (Nat.le_refl _)
  obtain ⟨xs, h1, h2, h3⟩ := h.row
  refine ⟨h.bel.trans (hb.mono h.bel.size), xs, own_tags h1 hk (show Tagged w2 (fun _ => False) [] from fun k hk => hk.elim) (by simp), fun u hu => ?_, h3⟩
  obtain ⟨Au, cu, q1, q2⟩ := h2 u hu
  exact ⟨Au, cu, q1, own_tags q2 hk (show Tagged w2 (fun _ => False) [] from fun k hk => hk.elim) (by simp)⟩
theorem AnsTo.rows {w w2 : World} {g n : Nat} {e : List Ev4} (h : AnsTo w g n e w2) : IRows w2 w2.heap.size (some ⟨g, 0, none⟩) n ((List.range n).map (ansOf e)) := by
  obtain ⟨xs, h1, h2, h3⟩ := h.row
  refine ⟨by simp, fun h0 => ⟨g, 0, rfl, (h1.lt g rfl).2, fun i hi => ?_⟩⟩
  obtain ⟨Au, cu, q1, q2⟩ := h2 i hi
  have he : ((List.range n).map (ansOf e)).getD i [] = ansOf e i := by
    rw [List.getD_eq_getElem?_getD, List.getElem?_map, List.getElem?_range hi]
    rfl
  rw [he]
  exact ⟨Au, cu, by rw [Nat.zero_add]; exact (h1.cellAt i (by have := h1.1; omega)).trans q1, ans_cap q2, Ints.of_own q2⟩

set_option maxHeartbeats 4000000 in
theorem answers_any {w0 w : World} {c n : Nat} {m : Mach} (hA : At w0 c m w) (hm : m.events.length ≤ 20000) (hE : ∀ x ∈ m.events, ∃ s v : Int, ∃ u : Nat, u < n ∧ x = (s, 3, (u : Int), v)) (hn : n ≤ 16) :
    Calls Tryd.prog 23 #[.pointer (some ⟨c, 0, none⟩), .int .i64 (n : Nat)] w fun e w' => ∃ g, e = .returned (.slice (some ⟨g, 0, none⟩) n n) ∧ AnsTo w g n m.events w' := by
  have HEv := Lib.hid hE
  obtain ⟨i0, hi, hz0, hz1, hz2⟩ := info_parts infoSIA
  have HA := Lib.hid hA
  have HM := Lib.hid hm
  clear hA hm hE
  go_enter Tryd.func23, Tryd.ntmps23
  go_wp2_with (at_make; refine wpList_make_full _ rfl _ _ 52 rfl w.heap.size 49 i0 (.slice none 0 0) 1 Tryd.underlying52 hi hz0 hz1 _ _ _ _ n rfl rfl rfl rfl ?b1 ?b2 ?b3 ?_)
  case b1 => rw [hz2]; omega
  case b2 => simp [maxLen]; omega
  case b3 => exact Nat.le_refl _
  intro w2 hown hg2
  have HN0 : AnsTo w w.heap.size n [] w2 := by
    refine ⟨(Below.refl _ _).grown hg2 (Nat.le_refl _) (by intro k hk; cases hk), _, hown, fun u hu => ⟨none, 0, ?_, World.ownsRow_nil _ _ _ _⟩, fun u v b hu hv hne hb => ?_⟩
    · have := toList_madeCells_one (Value.slice none 0 0) (n * 1)
      rw [Nat.mul_one] at this
      first | (rw [this]; rw [List.getElem?_replicate, if_pos hu]; rfl) | (show (madeCells #[Value.slice none 0 0] n).toList[u]? = _; rw [this, List.getElem?_replicate, if_pos hu]; rfl)
    · have := toList_madeCells_one (Value.slice none 0 0) (n * 1)
      rw [Nat.mul_one] at this
      have h0 : (madeCells #[Value.slice none 0 0] n).toList.getD u undef = Value.slice none 0 0 := by rw [this, List.getD_eq_getElem?_getD, List.getElem?_replicate, if_pos hu]; rfl
      rw [h0] at hb
      cases hb
  have HN := Lib.hid HN0
  have HA2 := Lib.hid (HA.out.grow hg2)
  clear hown hg2 hi hz0 hz1 hz2 HN0
  obtain ⟨g, hg⟩ : ∃ g, w.heap.size = g := ⟨_, rfl⟩
  rw [hg] at HN ⊢
  clear hg
  have HEvs := Lib.hid (at_events HA2.out HM.out)
  go_wp2_with fail
  --MA
  refine HEvs.out.mono ?_
  rintro e w3 ⟨A5, c5, rfl, ho5, hg5⟩
  have HN3 := Lib.hid (HN.out.grow ((Below.refl w2.heap.size w2).grown hg5 (Nat.le_refl _) (by intro k hk; cases hk)))
  have HO5 := Lib.hid ho5
  clear HEvs ho5 hg5 HN HA2 HA
  obtain ⟨ev, hEV⟩ : ∃ ev, m.events = ev := ⟨_, rfl⟩
  rw [hEV] at HO5 HM HEv ⊢
  have HEV := Lib.hid hEV
  clear hEV
  obtain ⟨ne, hne⟩ : ∃ ne, ev.length = ne := ⟨_, rfl⟩
  rw [hne] at HO5 HM ⊢
  have HNe := Lib.hid hne
  clear hne
  go_wp2
  go_loopw [13] (fun j wr => ∃ i : Nat, i ≤ ne ∧ j = .int .i64 i ∧ AnsTo w g n (ev.take i) wr ∧ wr.ownsRow w2.heap.size 79 4 (.slice A5 ne c5) ne (cellsE ev)) (fun j _ => ne - (intOf j).toNat)
  case atStart => exact ⟨0, Nat.zero_le _, rfl, HN3.out, HO5.out⟩
  case round =>
    obtain ⟨i, hi, rfl, hm, ho⟩ := hrel
    by_cases hlt : i < ne
    · have hin : (i : Int) < (ne : Int) := by omega
      obtain ⟨b, off, hA, x0, x1, x2, x3⟩ := evRow_own ho HNe.out i hlt
      subst hA
      have hil : i < ev.length := by rw [HNe.out]; exact hlt
      obtain ⟨s, v, t, ht, hx⟩ := HEv.out (ev.getD i default) (by rw [List.getD_eq_getElem?_getD, List.getElem?_eq_getElem hil]; exact List.getElem_mem hil)
      have htk : ev.take (i + 1) = ev.take i ++ [(s, 3, (t : Int), v)] := by
        rw [List.take_add_one, ← hx, List.getD_eq_getElem?_getD, List.getElem?_eq_getElem hil]
        rfl
      have HTk := Lib.hid htk
      rw [hx] at x0 x1 x2 x3
      dsimp only at x0 x1 x2 x3
      have hi2 : i < 20000 := by have := HM.out; omega
      have htn : (t : Int) < (n : Int) := by omega
      have ht0 : (0 : Int) ≤ (t : Int) := by omega
      have hlen : (ansOf (ev.take i) t).length ≤ 50000 := by
        unfold ansOf
        rw [List.length_map]
        have := List.length_filter_le (fun x : Ev4 => x.2.2.1 == (t : Int)) (ev.take i)
        rw [List.length_take] at this
        omega
      have HX := Lib.hid (And.intro hm (And.intro ho (And.intro ht hlen)))
      clear hm ho hx htk ht hlen
      obtain ⟨W1, hW1⟩ : ∃ W1, wr.alloc (.cells #[.int .i64 s, .int .i64 3, .int .i64 (t : Int), .int .i64 v] 79) = W1 := ⟨_, rfl⟩
      have hbox : W1.heap[wr.heap.size]? = some (.cells #[.int .i64 s, .int .i64 3, .int .i64 (t : Int), .int .i64 v] 79) := by rw [← hW1]; exact heap_alloc_new wr _
      have hAn1 : AnsTo w g n (ev.take i) W1 := by rw [← hW1]; exact HX.out.1.alloc _
      have ho1 : W1.ownsRow w2.heap.size 79 4 (.slice (some ⟨b, off, none⟩) ne c5) ne (cellsE ev) := by rw [← hW1]; exact HX.out.2.1.alloc _
      obtain ⟨A0, c0, A1, c1, w3, m1, m2, m3, m4, m5⟩ := hAn1.more HX.out.2.2.1 v HX.out.2.2.2
      have hgs : g < W1.heap.size := World.block_lt_of_cell? W1 _ m1
      have hx2 : W1.cell? ⟨wr.heap.size, 2, none⟩ = some (.int .i64 (t : Int)) := (cell_of_row _ _ 2 _ _ _ hbox).trans rfl
      have hx3 : W1.cell? ⟨wr.heap.size, 3, none⟩ = some (.int .i64 v) := (cell_of_row _ _ 3 _ _ _ hbox).trans rfl
      have hW3 : w3.heap[wr.heap.size]? = some (.cells #[.int .i64 s, .int .i64 3, .int .i64 (t : Int), .int .i64 v] 79) := m4 _ _ _ _ hbox (by decide)
      have hy2 : w3.cell? ⟨wr.heap.size, 2, none⟩ = some (.int .i64 (t : Int)) := (cell_of_row _ _ 2 _ _ _ hW3).trans rfl
      have hy3 : w3.cell? ⟨wr.heap.size, 3, none⟩ = some (.int .i64 v) := (cell_of_row _ _ 3 _ _ _ hW3).trans rfl
      have hgo := hAn1.outer
      obtain ⟨cur, fz, hgb⟩ := hgo
      have hgc : ∀ (a : Addr), a.block = g → w3.cell? a = W1.cell? a ∧ w3.frozen? a = W1.frozen? a := fun a ha => by
        have h1 := m4 g cur _ fz hgb (by decide)
        have h2 : w3.heap[a.block]? = W1.heap[a.block]? := by rw [ha, h1, hgb]
        exact ⟨World.cell?_of_block h2, World.frozen?_of_block h2⟩
      have hy1 : w3.cell? ⟨g, t, none⟩ = some (.slice A0 (ansOf (ev.take i) t).length c0) := (hgc ⟨g, t, none⟩ rfl).1.trans m1
      have hyf : w3.frozen? ⟨g, t, none⟩ = false := (hgc ⟨g, t, none⟩ rfl).2.trans m2
      have hev3 : w3.ownsRow w2.heap.size 79 4 (.slice (some ⟨b, off, none⟩) ne c5) ne (cellsE ev) := own_same ho1 fun k cur f hk => m4 k cur _ f hk (by decide)
      have hev4 : (w3.setCell ⟨g, t, none⟩ (.slice A1 ((ansOf (ev.take i) t).length + 1) c1)).ownsRow w2.heap.size 79 4 (.slice (some ⟨b, off, none⟩) ne c5) ne (cellsE ev) := by
        refine own_tags hev3 (keeps_setCell w3 ⟨g, t, none⟩ _) (show Tagged w3 (fun k => k = g) [49] from fun k hk cur2 ty f hc => ?_) (by decide)
        subst hk
        rw [m4 _ cur _ fz hgb (by decide)] at hc
        injection hc with hc
        injection hc with _ hc _
        exact List.mem_singleton.2 hc.symm
      have HEv4 := Lib.hid hev4
      have HTold := Lib.hid (m5 s 3)
      rw [← HTk.out] at HTold
      have HRun := Lib.hid m3
      have HSx := Lib.hid (show W1.cell? ⟨wr.heap.size, 2, none⟩ = some (.int .i64 (t : Int)) ∧ W1.cell? ⟨wr.heap.size, 3, none⟩ = some (.int .i64 v) ∧ W1.cell? ⟨g, t, none⟩ = some (.slice A0 (ansOf (ev.take i) t).length c0) from ⟨hx2, hx3, m1⟩)
      have HSy := Lib.hid (show w3.cell? ⟨wr.heap.size, 2, none⟩ = some (.int .i64 (t : Int)) ∧ w3.cell? ⟨wr.heap.size, 3, none⟩ = some (.int .i64 v) ∧ w3.cell? ⟨g, t, none⟩ = some (.slice A0 (ansOf (ev.take i) t).length c0) from ⟨hy2, hy3, hy1⟩)
      have HFz := Lib.hid hyf
      have HLt := Lib.hid hgs
      have HW1 := Lib.hid hW1
      have HXb := Lib.hid (show wr.heap.size < W1.heap.size from (Array.getElem?_eq_some_iff.1 hbox).1)
      generalize (ansOf (ev.take i) t).length = ml at *
      clear hbox hAn1 ho1 m1 m2 m3 m4 m5 hgs hx2 hx3 hW3 hy2 hy3 hgb hgc hy1 hyf hev3 hev4 HX HTk hW1 hil
      go_wp2_with fail
      rw [HW1.out]
      obtain ⟨xb, hxb⟩ : ∃ xb, wr.heap.size = xb := ⟨_, rfl⟩
      rw [hxb] at HSx HSy HXb ⊢
      clear hxb
      --MC
      refine region_heldL (L := 13) (S := fun u => u.cell? ⟨xb, 2, none⟩ = some (.int .i64 (t : Int)) ∧ u.cell? ⟨xb, 3, none⟩ = some (.int .i64 v) ∧ u.cell? ⟨g, t, none⟩ = some (.slice A0 ml c0)) 14 rfl (by kernel_rfl) HSx.out (fun hHeld => ?_)
      refine heldL_take (n := 13) (i := 0) (oi := _) (v := ?v0) (dst := some 31) rfl rfl rfl (by kernel_rfl) (by kernel_rfl) (by kernel_rfl) (by kernel_rfl) (by kernel_rfl) (fun _ _ _ h => h) (Or.inl ⟨by rfl, ?hy0⟩) (by assumption) ?rest0
      case hy0 => intro u hSu; (try dsimp only at hSu); go_simp; try (with_reducible rfl)
      simp only [Act.put, List.setIfInBounds_toArray, List.set_cons_zero, List.set_cons_succ]
      refine heldL_take (n := 12) (i := 1) (oi := _) (v := ?v1) (dst := some 32) rfl rfl rfl (by kernel_rfl) (by kernel_rfl) (by kernel_rfl) (by kernel_rfl) (by kernel_rfl) (fun _ _ _ h => h) (Or.inl ⟨by rfl, ?hy1⟩) (by assumption) ?rest1
      case hy1 => intro u hSu; (try dsimp only at hSu); go_simp; try (with_reducible rfl)
      simp only [Act.put, List.setIfInBounds_toArray, List.set_cons_zero, List.set_cons_succ]
      refine heldL_take (n := 11) (i := 2) (oi := _) (v := ?v2) (dst := some 33) rfl rfl rfl (by kernel_rfl) (by kernel_rfl) (by kernel_rfl) (by kernel_rfl) (by kernel_rfl) (fun _ _ _ h => h) (Or.inl ⟨by rfl, ?hy2⟩) (by assumption) ?rest2
      case hy2 => intro u hSu; (try dsimp only at hSu); go_simp; try (with_reducible rfl)
      simp only [Act.put, List.setIfInBounds_toArray, List.set_cons_zero, List.set_cons_succ]
      refine heldL_take (n := 10) (i := 3) (oi := _) (v := ?v3) (dst := some 34) rfl rfl rfl (by kernel_rfl) (by kernel_rfl) (by kernel_rfl) (by kernel_rfl) (by kernel_rfl) (fun _ _ _ h => h) (Or.inl ⟨by rfl, ?hy3⟩) (by assumption) ?rest3
      case hy3 => intro u hSu; (try dsimp only at hSu); go_simp; try (with_reducible rfl)
      simp only [Act.put, List.setIfInBounds_toArray, List.set_cons_zero, List.set_cons_succ]
      refine heldL_take (n := 9) (i := 4) (oi := _) (v := ?v4) (dst := some 35) rfl rfl rfl (by kernel_rfl) (by kernel_rfl) (by kernel_rfl) (by kernel_rfl) (by kernel_rfl) (fun _ _ _ h => h) (Or.inl ⟨by rfl, ?hy4⟩) (by assumption) ?rest4
      case hy4 => intro u hSu; (try dsimp only at hSu); go_simp; try (with_reducible rfl)
      simp only [Act.put, List.setIfInBounds_toArray, List.set_cons_zero, List.set_cons_succ]
      refine heldL_take (n := 8) (i := 5) (oi := _) (v := ?v5) (dst := some 36) rfl rfl rfl (by kernel_rfl) (by kernel_rfl) (by kernel_rfl) (by kernel_rfl) (by kernel_rfl) (fun _ _ _ h => h) (Or.inl ⟨by rfl, ?hy5⟩) (by assumption) ?rest5
      case hy5 => intro u hSu; (try dsimp only at hSu); go_simp; try (with_reducible rfl)
      simp only [Act.put, List.setIfInBounds_toArray, List.set_cons_zero, List.set_cons_succ]
      refine heldL_take (n := 7) (i := 6) (oi := _) (v := ?v6) (dst := some 37) rfl rfl rfl (by kernel_rfl) (by kernel_rfl) (by kernel_rfl) (by kernel_rfl) (by kernel_rfl) (fun _ _ _ h => h) (Or.inl ⟨by rfl, ?hy6⟩) (by assumption) ?rest6
      case hy6 => intro u hSu; (try dsimp only at hSu); go_simp; try (with_reducible rfl)
      simp only [Act.put, List.setIfInBounds_toArray, List.set_cons_zero, List.set_cons_succ]
      refine heldL_take (n := 6) (i := 7) (oi := _) (v := ?v7) (dst := some 38) rfl rfl rfl (by kernel_rfl) (by kernel_rfl) (by kernel_rfl) (by kernel_rfl) (by kernel_rfl) (fun _ _ _ h => h) (Or.inl ⟨by rfl, ?hy7⟩) (by assumption) ?rest7
      case hy7 => intro u hSu; (try dsimp only at hSu); go_simp; try (with_reducible rfl)
      simp only [Act.put, List.setIfInBounds_toArray, List.set_cons_zero, List.set_cons_succ]
      refine heldL_take (n := 5) (i := 8) (oi := _) (v := ?v8) (dst := some 39) rfl rfl rfl (by kernel_rfl) (by kernel_rfl) (by kernel_rfl) (by kernel_rfl) (by kernel_rfl) (fun _ _ _ h => h) (Or.inl ⟨by rfl, ?hy8⟩) (by assumption) ?rest8
      case hy8 => intro u hSu; (try dsimp only at hSu); go_simp; try (with_reducible rfl)
      simp only [Act.put, List.setIfInBounds_toArray, List.set_cons_zero, List.set_cons_succ]
      refine heldL_take (n := 4) (i := 9) (oi := _) (v := ?v9) (dst := some 40) rfl rfl rfl (by kernel_rfl) (by kernel_rfl) (by kernel_rfl) (by kernel_rfl) (by kernel_rfl) (fun _ _ _ h => h) (Or.inl ⟨by rfl, ?hy9⟩) (by assumption) ?rest9
      case hy9 => intro u hSu; (try dsimp only at hSu); go_simp; try (with_reducible rfl)
      simp only [Act.put, List.setIfInBounds_toArray, List.set_cons_zero, List.set_cons_succ]
      refine heldL_step (n := 3) (i := 10) (o := _) rfl (by kernel_rfl) rfl (fun K hK => ?_)
      have HK2 := Lib.hid hK
      clear hK
      go_simp
      refine HK2.out _ _ ⟨(World.cell?_alloc_lt _ _ ⟨xb, 2, none⟩ HXb.out).trans HSx.out.1, (World.cell?_alloc_lt _ _ ⟨xb, 3, none⟩ HXb.out).trans HSx.out.2.1, (World.cell?_alloc_lt _ _ ⟨g, t, none⟩ HLt.out).trans HSx.out.2.2⟩ (fun hHeld => ?_)
      clear HK2 K
      --MD
      refine heldL_step (n := 2) (i := 11) (o := _) rfl (by kernel_rfl) rfl (fun K hK => ?_)
      have HK2 := Lib.hid hK
      clear hK
      refine step_append_run rfl _ _ _ _ rfl (by simp [Act.eval]) (by simp [Act.eval]) HRun.out ?_
      refine HK2.out _ _ HSy.out (fun hHeld => ?_)
      clear HK2 K
      simp only [Act.put, List.setIfInBounds_toArray, List.set_cons_zero, List.set_cons_succ]
      refine heldL_step (n := 1) (i := 12) (o := _) rfl (by kernel_rfl) rfl (fun K hK => ?_)
      have HK2 := Lib.hid hK
      clear hK
      go_simp
      refine HK2.out _ _ HSy.out (fun hHeld => ?_)
      clear HK2 K
      have hyf := HFz.out
      have hy1 := HSy.out.2.2
      refine heldL_last (n := 0) (o := _) rfl (by kernel_rfl) (by kernel_rfl) (by decide) rfl (fun K hK => ?_)
      have HK2 := Lib.hid hK
      clear hK
      go_simp
      refine HK2.out _ _ ?_
      clear HK2
      --ME
      go_wp2
      go_roundw
      case rel => exact ⟨i + 1, by omega, by go_num, HTold.out, HEv4.out⟩
      case measure => simp [intOf]; omega
    · have hin : ¬ (i : Int) < (ne : Int) := by omega
      obtain rfl : i = ne := by omega
      have hall : ev.take i = ev := List.take_of_length_le (by rw [HNe.out]; exact Nat.le_refl _)
      rw [hall] at hm
      have HM2 := Lib.hid hm
      clear hm ho hall
      go_wp2
      go_ret
      rw [HEV.out]
      exact ⟨g, rfl, HM2.out⟩
end Go.Proofs.YtkhaeabbbhfloaaDoor

namespace Go.Proofs.YtkhaeabbbhfloaaDoor
set_option maxRecDepth 100000
open Go.RowKit Go.Shelf Go.Sort
set_option linter.unusedVariables false
set_option linter.unusedSimpArgs false

/-- The rows of what threads were told. -/
def AnsRows (B g n : Nat) (e : List Ev4) (xs : List Value) (w2 : World) : Prop := w2.ownsRow B 49 1 (.slice (some ⟨g, 0, none⟩) n n) n xs ∧ ∀ u, u < n → ∃ Au cu, xs[u]? = some (.slice Au (ansOf e u).length cu) ∧ w2.ownsRow B 3 1 (.slice Au (ansOf e u).length cu) (ansOf e u).length ((ansOf e u).map (Value.int .i64))
theorem AnsTo.given {w w2 : World} {g n : Nat} {e : List Ev4} (h : AnsTo w g n e w2) : ∃ xs, AnsRows w.heap.size g n e xs w2 := by
  obtain ⟨xs, h1, h2, _⟩ := h.row
  exact ⟨xs, h1, h2⟩
theorem AnsRows.kept {B g n b : Nat} {e : List Ev4} {xs : List Value} {w2 w3 : World} (h : AnsRows B g n e xs w2) (hg : w2.grownBy w3 (some b)) (hb : b < B) : AnsRows B g n e xs w3 := by
  obtain ⟨h1, h2⟩ := h
  have hk : ∀ {ee s m : Nat} {vv : Value} {ys : List Value}, w2.ownsRow B ee s vv m ys → w3.ownsRow B ee s vv m ys := fun {ee s m vv ys} q => q.kept hg (by
    cases hv : vv.ownBlock with
    | none => exact .inl rfl
    | some z =>
      right
      intro e
      injection e with e
      have := (q.lt z hv).1
      omega)
  refine ⟨hk h1, fun u hu => ?_⟩
  obtain ⟨Au, cu, q1, q2⟩ := h2 u hu
  exact ⟨Au, cu, q1, hk q2⟩
theorem AnsRows.at {B g n : Nat} {e : List Ev4} {xs : List Value} {w2 : World} (h : AnsRows B g n e xs w2) {u : Nat} (hu : u < n) : ∃ Au cu, xs[u]? = some (.slice Au (ansOf e u).length cu) ∧ w2.cell? ⟨g, u, none⟩ = some (.slice Au (ansOf e u).length cu) ∧ Ints .i64 w2 w2.heap.size Au (ansOf e u).length (ansOf e u) := by
  obtain ⟨h1, h2⟩ := h
  obtain ⟨Au, cu, q1, q2⟩ := h2 u hu
  exact ⟨Au, cu, q1, (h1.cellAt u (by have := h1.1; omega)).trans q1, Ints.of_own q2⟩
theorem cnt_wf {n : Nat} (h : n ≤ 100000) : (Lit.int .i64 (n : Int)).wf = true := by
  simp [Lit.wf, IntKind.min, IntKind.max, IntKind.signed, IntKind.bits]
  omega
end Go.Proofs.YtkhaeabbbhfloaaDoor

namespace Go.Proofs.YtkhaeabbbhfloaaDoor
set_option maxRecDepth 100000
open Go.RowKit Go.Shelf
open Go.WideShapes

theorem plainElem_bool_back {P : Program} {e : TypeId} (he : P.underlying e = some .bool) {v : Value} {z : DataW Unit × List MemPlace} (h : plainElem P e v = some z) : ∃ x, v = .bool x ∧ z = (.lit (.bool x), []) := by
  unfold plainElem at h
  rw [he] at h
  cases v <;> simp at h
  exact ⟨_, rfl, h.symm⟩
/-- Block b is a set of at most m ints: those of which f says so. -/
def BM (te : TypeId) (w : World) (b m : Nat) (f : Int → Bool) : Prop :=
  ∃ D : DataW Unit, w.ownsMap Tryd.prog 3 (plainElem Tryd.prog te) b m D ∧ ∀ a : Int, (Lit.int .i64 a).wf = true → D.atKey (.int .i64 a) (.lit (.bool false)) = .lit (.bool (f a))
section
variable {te : TypeId} {w w' : World} {b m : Nat} {f : Int → Bool}
theorem BM.made (te : TypeId) (w : World) : BM te (w.alloc (.map #[] 0)) w.heap.size 0 fun _ => false :=
  ⟨_, World.ownsMap_made w Tryd.prog 3 _, fun _ _ => rfl⟩
theorem BM.kept (h : BM te w b m f) {row : Option Nat} (hg : w.grownBy w' row) (hne : some b ≠ row) : BM te w' b m f := by
  obtain ⟨D, hD, hf⟩ := h
  exact ⟨D, hD.kept hg hne, hf⟩
theorem BM.lt (h : BM te w b m f) : b < w.heap.size := by
  obtain ⟨D, hD, _⟩ := h
  exact hD.lt
theorem BM.look (h : BM te w b m f) {t : TypeId} (ht : Tryd.prog.underlying t = some (.map 3 te)) (he : Tryd.prog.underlying te = some .bool) (hz : (zeroValue te).run Tryd.prog w = .ok (.bool false) w) (a : Int) (ha : (Lit.int .i64 a).wf = true) :
    (Instr.lookup t (.map (some b)) (.int .i64 a) false).run Tryd.prog w = .ok (.bool (f a)) w := by
  obtain ⟨D, hD, hf⟩ := h
  obtain ⟨v, ps, hrun, hv⟩ := hD.lookup keyedInt ht hz (plainElem_bool he false) (Maps.keyOf_int_mk Tryd.underlying3 ha)
  obtain ⟨x, rfl, hx⟩ := plainElem_bool_back he hv
  rw [hrun]
  simp only [Prod.mk.injEq] at hx
  rw [hf a ha] at hx
  have : f a = x := by
    have h1 := hx.1
    injection h1 with h1
    injection h1
  rw [this]
def setAt (f : Int → Bool) (a : Int) : Int → Bool := fun x => if x = a then true else f x
theorem BM.put (h : BM te w b m f) {t : TypeId} (ht : Tryd.prog.underlying t = some (.map 3 te)) (he : Tryd.prog.underlying te = some .bool) (hm : m < maxLen) (a : Int) (ha : (Lit.int .i64 a).wf = true) :
    ∃ w', (Instr.mapUpdate t (.map (some b)) (.int .i64 a) (.bool true)).run Tryd.prog w = .ok () w' ∧ BM te w' b (m + 1) (setAt f a) ∧ w.grownBy w' (some b) := by
  obtain ⟨D, hD, hf⟩ := h
  obtain ⟨w', hrun, hD', hg⟩ := hD.update keyedInt ht hm (Maps.keyOf_int_mk Tryd.underlying3 ha) (plainElem_bool he true)
  refine ⟨w', hrun, ⟨_, hD', fun x hx => ?_⟩, hg⟩
  have hk := keyedInt.key (Maps.keyOf_int_mk Tryd.underlying3 ha)
  by_cases e : x = a
  · subst e
    rw [Maps.atKey_put_same hD.isMap hk]
    simp [setAt]
  · rw [Maps.atKey_put_other (lit_ne e), hf x hx]
    simp [setAt, e]
end
end Go.Proofs.YtkhaeabbbhfloaaDoor

namespace Go.Proofs.YtkhaeabbbhfloaaDoor
set_option maxRecDepth 100000
open Go.RowKit Go.Shelf
open Go.WideShapes

/-- Block b is a set of just m ints: those of which f says so. -/
def EM (te : TypeId) (w : World) (b m : Nat) (f : Int → Bool) : Prop :=
  ∃ D : DataW Unit, w.ownsMap Tryd.prog 3 (plainElem Tryd.prog te) b m D ∧ Maps.Tidy D ∧ Maps.size D = m ∧ ∀ a : Int, (Lit.int .i64 a).wf = true → Maps.has D (.int .i64 a) = f a
section
variable {te : TypeId} {w w' : World} {b m : Nat} {f : Int → Bool}
theorem EM.made (te : TypeId) (w : World) : EM te (w.alloc (.map #[] 0)) w.heap.size 0 fun _ => false :=
  ⟨_, World.ownsMap_made w Tryd.prog 3 _, Maps.tidy_empty, rfl, fun _ _ => rfl⟩
theorem EM.kept (h : EM te w b m f) {row : Option Nat} (hg : w.grownBy w' row) (hne : some b ≠ row) : EM te w' b m f := by
  obtain ⟨D, hD, hf⟩ := h
  exact ⟨D, hD.kept hg hne, hf⟩
theorem EM.lt (h : EM te w b m f) : b < w.heap.size := by
  obtain ⟨D, hD, _⟩ := h
  exact hD.lt
theorem EM.len (h : EM te w b m f) {t : TypeId} (ht : Tryd.prog.underlying t = some (.map 3 te)) (ty : TypeId) : (Builtin.len_ #[t] ty #[.map (some b)]).run Tryd.prog w = .ok (.int .i64 (m : Nat)) w := by
  obtain ⟨D, hD, _, hs, _⟩ := h
  have := hD.len ht ty
  rw [hs] at this
  exact this
theorem EM.put (h : EM te w b m f) {t : TypeId} (ht : Tryd.prog.underlying t = some (.map 3 te)) (he : Tryd.prog.underlying te = some .bool) (hm : m < maxLen) (a : Int) (ha : (Lit.int .i64 a).wf = true) (hn : f a = false) :
    ∃ w', (Instr.mapUpdate t (.map (some b)) (.int .i64 a) (.bool true)).run Tryd.prog w = .ok () w' ∧ EM te w' b (m + 1) (setAt f a) ∧ w.grownBy w' (some b) := by
  obtain ⟨D, hD, hT, hs, hf⟩ := h
  have hK := Maps.keyOf_int_mk Tryd.underlying3 ha
  obtain ⟨w', hrun, hD', hg⟩ := hD.update keyedInt ht hm hK (plainElem_bool he true)
  have hk := keyedInt.key hK
  refine ⟨w', hrun, ⟨_, hD', hT.put hk _, ?_, fun x hx => ?_⟩, hg⟩
  · rw [Maps.size_put hT, hf a ha, hn, hs]
    simp
  · by_cases e : x = a
    · subst e
      rw [Maps.has_put_same hD.isMap hk]
      simp [setAt]
    · rw [Maps.has_put_other (lit_ne e), hf x hx]
      simp [setAt, e]
end
end Go.Proofs.YtkhaeabbbhfloaaDoor
