/-
  combine: two by two, up a tree, and down again. combine's program, and how many cells it wants.
-/
import Derived.Test.YtgkfhihnfllmhaaGreatDoorQXK
import Derived.Test.YtgkfhihnfllmhaaGreatDoorQXK2
import Derived.Test.YtgkfhihnfllmhaaGreatDoorQXK3
import Derived.BigQuiet
namespace Go.Proofs.YtgkfhihnfllmhaaGreatDoor
set_option maxRecDepth 100000
open Go.RowKit Go.Shelf Go.Sort
set_option linter.unusedVariables false
set_option linter.unusedSimpArgs false

/-! The body, piece by piece. -/
theorem comb_meet {n id j : Nat} (hj : j < cmH n) (h4 : cmH n ≤ 4) (hc : (ndL n id j).1 ≤ 1000) (hs : 1 ≤ (ndL n id j).2) (hs2 : (ndL n id j).2 ≤ 1000) {p e : Int} (hp : p = 5 + 8 * (j : Int)) (he : e = 5 + 8 * (cmH n : Int) + 4 * ((cmH n : Int) - 1 - ((j : Int) - 1))) :
    bodyTo (combineC n id) j ++ meetP p (ndL n id j).1 (ndL n id j).2 e = bodyTo (combineC n id) (j + 1) := by
  have h1 := comb_offs_up (n := n) (id := id) (j := j) (by omega)
  have h2 := comb_offs_dn (n := n) (id := id) (q := cmH n - j) (by omega)
  have h3 := meetP_is (j := 0) (c := (ndL n id j).1) (s := (ndL n id j).2) (d := cmH n + (cmH n - j)) (combineC n id) j (by rw [h1]; omega) hc hs hs2
  rw [bodyTo_succ, comb_up hj, show 2 * cmH n - j = cmH n + (cmH n - j) by omega, ← h3, h1, h2]
  have e1 : p = 5 + ((8 * j : Nat) : Int) := by omega
  have e2 : e = 5 + ((8 * cmH n + 4 * (cmH n - j) : Nat) : Int) := by omega
  rw [e1, e2]
theorem comb_open {n id q : Nat} (hq : q < cmH n) (hc : (ndL n id (cmH n - 1 - q)).1 ≤ 1000) :
    bodyTo (combineC n id) (cmH n + q) ++ openP (ndL n id (cmH n - 1 - q)).1 (ndL n id (cmH n - 1 - q)).2 = bodyTo (combineC n id) (cmH n + (q + 1)) := by
  rw [← Nat.add_assoc, bodyTo_succ, comb_dn hq, openP_is _ _ hc]

theorem cmup_any {w : World} {j : Nat} (hj : j ≤ 100) : Calls Tryz.prog 241 #[.int .i64 (j : Nat)] w fun e w' => e = .returned (.int .i64 (5 + 8 * (j : Int))) ∧ w = w' := by
  have e1 : wrap64 (8 * (j : Int)) = 8 * (j : Int) := wrapI (by omega) (by omega)
  have e2 : wrap64 (5 + 8 * (j : Int)) = 5 + 8 * (j : Int) := wrapI (by omega) (by omega)
  go_enter Tryz.func241, Tryz.ntmps241
  go_wp2
  go_ret
  exact ⟨by first | rfl | (rw [e1, e2]), rfl⟩
theorem cmdown_any {w : World} {b1 b2 h : Nat} (j : Int) (h1 : -1 ≤ j) (h2 : j ≤ 8) (hh : h ≤ 4) (c1 : w.cell? ⟨b1, 0, none⟩ = some (.func (.func 241) #[] #[])) (c2 : w.cell? ⟨b2, 0, none⟩ = some (.int .i64 (h : Nat))) :
    Calls Tryz.prog 242 #[.int .i64 j, .pointer (some ⟨b1, 0, none⟩), .pointer (some ⟨b2, 0, none⟩)] w fun e w' => e = .returned (.int .i64 (5 + 8 * (h : Int) + 4 * ((h : Int) - 1 - j))) ∧ w.grownBy w' none := by
  have HU := Lib.hid (fun u => cmup_any (w := u) (j := h) (by omega))
  have e1 : wrap64 ((h : Int) - 1) = (h : Int) - 1 := wrapI (by omega) (by omega)
  have e2 : wrap64 ((h : Int) - 1 - j) = (h : Int) - 1 - j := wrapI (by omega) (by omega)
  have e3 : wrap64 (4 * ((h : Int) - 1 - j)) = 4 * ((h : Int) - 1 - j) := wrapI (by omega) (by omega)
  have e4 : wrap64 (5 + 8 * (h : Int) + 4 * ((h : Int) - 1 - j)) = 5 + 8 * (h : Int) + 4 * ((h : Int) - 1 - j) := wrapI (by omega) (by omega)
  clear h1 h2 hh
  go_enter Tryz.func242, Tryz.ntmps242
  go_wp2
  go_quiet ((refine Calls.quiet_of_same ((HU.out _).mono fun e u2 ⟨he, hu⟩ => ⟨he, hu.symm⟩)))
  go_wp2
  go_ret
  exact ⟨congrArg (fun z => Ending.returned (.int .i64 z)) e4, grown_drewN _ _⟩

theorem run_store_func (P : Program) (w : World) (a : Addr) (f : Fn) (x y : Array Value) (m : Mode) :
    (store a (.func f x y) m).run P w = match w.cell? a with
      | some _ => if w.frozen? a then .halt (.unsupported (.unsafePointer "a write to bytes that a string shares")) w else .ok () (w.setCell a (.func f x y))
      | none => match w.farStore P a (.func f x y) (m == .atomic) with
        | .ok (w', _) => .ok () w'
        | .error h => .halt h w := run_store P w a _ m rfl
attribute [local go_sem] run_store_func Oper.semAt_some

/-- A post that lets no panic by. -/
def calm (Q : Exit → Act → World → Prop) : Exit → Act → World → Prop
  | .panic _, _, _ => False
  | .outgrown, _, _ => False
  | e, a, w => Q e a w
theorem calm_le {Q : Exit → Act → World → Prop} : ∀ e a w, calm Q e a w → Q e a w := fun e a w h => by cases e <;> first | exact h | exact h.elim
/-- What an append of instructions turns: rows of instructions alone. -/
structure TurnsIns (w w' : World) : Prop where
  size : w.heap.size ≤ w'.heap.size
  same : ∀ (b : Nat) (o : Obj), w.heap[b]? = some o → (∀ (C : Array Value) (z : Nat × Nat), o ≠ Obj.cells C 95 z) → w'.heap[b]? = some o
theorem TurnsIns.cell {w w' : World} (h : TurnsIns w w') {b i : Nat} {C : Array Value} {ty : TypeId} (hb : w.heap[b]? = some (.cells C ty (0, 0))) (hn : ty ≠ 95) : w'.cell? ⟨b, i, none⟩ = w.cell? ⟨b, i, none⟩ :=
  World.cell?_of_block (a := ⟨b, i, none⟩) ((h.same b _ hb (fun C z e => hn (by injection e))).trans hb.symm)
theorem turns_of {w w' : World} {base n k : Nat} {v : Value} {xs : List Value} (ho : w.ownsRow base 95 k v n xs) (hg : w.grownBy w' v.ownBlock) : TurnsIns w w' := by
  refine ⟨hg.size, fun b o hb hn => (hg.block b (Array.getElem?_eq_some_iff.1 hb).1 ?_).trans hb⟩
  rcases ho.2 with ⟨rfl, _⟩ | ⟨g, cap, cur, rfl, _, hat, _⟩
  · simp [Value.ownBlock]
  · intro e
    obtain rfl : b = g := by simpa [Value.ownBlock] using e
    rw [hb] at hat
    exact hn _ _ (Option.some.inj hat)
/-- A round: calls that lay new blocks, an append, a store in block B: whatever is no row of instructions, and not B, lies as it lay. -/
theorem round_keeps {W u u1 : World} {B k : Nat} {v : Value} {o : Obj} (hg : W.grownBy u none) (ht : TurnsIns u u1) (hk : W.heap[k]? = some o) (hB : k ≠ B) (hn : ∀ (C : Array Value) (z : Nat × Nat), o ≠ Obj.cells C 95 z) : (u1.setCell ⟨B, 0, none⟩ v).heap[k]? = some o := by
  rw [Below.heap_setCell _ _ _ _ (by show k ≠ B; exact hB)]
  exact ht.same k o ((hg.block k (Array.getElem?_eq_some_iff.1 hk).1 (by simp)).trans hk) hn
theorem below_two {n : Nat} {X A B : World} (h : Below n X A) (g : Below n X B) (hs : A.heap.size ≤ B.heap.size) : Below n A B := ⟨g.os.trans h.os.symm, g.tape.trans h.tape.symm, g.output.trans h.output.symm, hs, fun k hk => (g.block k hk).trans (h.block k hk).symm⟩
theorem BoxB.kept {w W W' : World} {b : Nat} {A : Option Addr} {n c : Nat} {l : List In5} {row : Option Nat} (h : BoxB w b A n c l W) (hg : W.grownBy W' row) (hr : ∀ r, row = some r → w.heap.size ≤ r ∧ ∃ o : Obj, W.heap[r]? = some o ∧ o.isCells = false) : BoxB w b A n c l W' := by
  refine ⟨h.len, h.own.kept hg ?_, h.bel.grown hg h.bel.size (fun k e => (hr k e).1), (hg.block b h.lt ?_).trans h.box, h.lo⟩
  · rcases h.own.2 with ⟨e, _⟩ | ⟨g, cap, cur, e, _, hat, _⟩
    · exact .inl (by rw [e]; rfl)
    · refine .inr fun e' => ?_
      cases e
      obtain ⟨_, o, ho, hc⟩ := hr g e'.symm
      rw [hat] at ho
      cases ho
      cases hc
  · intro e'
    obtain ⟨_, o, ho, hc⟩ := hr b e'.symm
    rw [h.box] at ho
    cases ho
    cases hc
def downO (nd : Nat → Nat × Nat) (pre : List Nat) : List In5 := pre.flatMap fun x => openP ((nd x).1 : Int) ((nd x).2 : Int)
theorem downO_snoc (nd : Nat → Nat × Nat) (pre : List Nat) (x : Nat) : downO nd (pre ++ [x]) = downO nd pre ++ openP ((nd x).1 : Int) ((nd x).2 : Int) := by unfold downO; simp
theorem downO_len (nd : Nat → Nat × Nat) : ∀ pre : List Nat, (downO nd pre).length = 4 * pre.length
  | [] => rfl
  | x :: pre => by
    have h := downO_len nd pre
    have e : downO nd (x :: pre) = openP ((nd x).1 : Int) ((nd x).2 : Int) ++ downO nd pre := by unfold downO; simp
    rw [e, List.length_append, h, List.length_cons]
    show 4 + _ = _
    omega
theorem downO_is {n id : Nat} (hc : ∀ j, j < cmH n → (ndL n id j).1 ≤ 1000) : ∀ k, k ≤ cmH n → bodyTo (combineC n id) (cmH n) ++ downO (ndL n id) (dnL (cmH n) k) = bodyTo (combineC n id) (cmH n + k)
  | 0, _ => by show _ ++ [] = _; simp
  | k + 1, h => by rw [dnL_succ, downO_snoc, ← List.append_assoc, downO_is hc k (by omega), comb_open (by omega) (hc _ (by omega))]
theorem BoxB.more2 {w W wx : World} {b : Nat} {A B : Option Addr} {n c m d : Nat} {l news : List In5} (h : BoxB w b A n c l W) (hg : W.grownBy wx none) (hI : Inss wx wx.heap.size B m news) (hn : n + m ≤ 100000) (ty : TypeId) :
    ∃ A' c' w', (Builtin.append_ #[89, 89] ty #[.slice A n c, .slice B m d]).run Tryz.prog wx = .ok (.slice A' (n + m) c') w' ∧ BoxN w b A A' n c (n + m) c' (l ++ news) w' ∧ TurnsIns wx w' := by
  have hk := h.keep hg
  obtain ⟨v', w', hr, ho, hg2⟩ := run_appendP (c := d) hk.own hI hn (by have := hk.lt; omega) ty
  obtain ⟨A', c', rfl⟩ := slice_of_own ho
  refine ⟨A', c', w', hr, ⟨by rw [List.length_append, h.len, hI.len], ho, hk.bel.grown hg2 hk.bel.size (fun k hk2 => by have := (hk.own.lt k hk2).1; have := h.lo; omega), ?_, h.lo⟩, turns_of hk.own hg2⟩
  exact (hg2.block b hk.lt (fun e => by have := (hk.own.lt b e.symm).1; omega)).trans hk.box
theorem step_append_box2 {w W wx : World} {ops : Array Oper} {o : Oper} {a : Act} {K : Act → World → Prop} {Q : Exit → Act → World → Prop} {E : Prop} {b : Nat} {A B : Option Addr} {n c m d : Nat} {l news : List In5} (h : BoxB w b A n c l W) (hn : n + m ≤ 100000)
    (hgd : o.guard = none) (s x : Operand) (ho : o.op = .call { callee := .builtin .append, args := #[s, x], argTypes := #[89, 89] }) (hs : a.eval s = .slice A n c) (hx : a.eval x = .slice B m d)
    (hg : W.grownBy wx none) (hI : Inss wx wx.heap.size B m news)
    (hK : ∀ A' c' w', BoxN w b A A' n c (n + m) c' (l ++ news) w' → w'.cell? ⟨b, 0, none⟩ = some (.slice A n c) → w'.frozen? ⟨b, 0, none⟩ = false → TurnsIns wx w' → K (a.put o.dst (.slice A' (n + m) c')) w') :
    if Region.wanted o (yielded ops a.tmps) = true then Oper.wp Tryz.prog o a wx K Q else E := by
  have hw : Region.wanted o (yielded ops a.tmps) = true := by simp [Region.wanted, hgd]
  rw [if_pos hw]
  obtain ⟨A', c', w', hr, h1, h2⟩ := h.more2 (d := d) hg hI hn o.type
  exact Lib.wp_append_run wx s x _ _ ho _ _ hs hx _ _ hr (hK A' c' w' h1 h1.cell.1 h1.cell.2 h2)
/-- A piece that was laid by a call, in words. -/
def LaidB (W : World) (n : Nat) (news : List In5) (e : Ending) (w' : World) : Prop := ∃ B d, e = .returned (.slice B n d) ∧ W.grownBy w' none ∧ Inss w' w'.heap.size B n news
theorem pmeet_laid (place cell size els : Int) {W wx : World} (hg : W.grownBy wx none) : Calls Tryz.prog 218 #[.int .i64 place, .int .i64 cell, .int .i64 size, .int .i64 els] wx (LaidB W 8 (meetP place cell size els)) := by
  refine (pmeet_any place cell size els wx).mono ?_
  rintro e w' ⟨A, c, rfl, hb⟩
  exact ⟨A, c, rfl, hg.andThen (grown_of_below hb.bel) (by intro k hk; cases hk), Inss.of_own hb.own hb.len⟩
theorem popen_laid (cell size : Int) {W wx : World} (hg : W.grownBy wx none) : Calls Tryz.prog 220 #[.int .i64 cell, .int .i64 size] wx (LaidB W 4 (openP cell size)) := by
  refine (popen_any cell size wx).mono ?_
  rintro e w' ⟨A, c, rfl, hb⟩
  exact ⟨A, c, rfl, hg.andThen (grown_of_below hb.bel) (by intro k hk; cases hk), Inss.of_own hb.own hb.len⟩

/-- A node's copy in a block of its own. -/
def NodeAt (w : World) (b : Nat) (x : Nat × Nat) : Prop := w.heap[b]? = some (.cells #[.int .i64 (x.1 : Int), .int .i64 (x.2 : Int)] 309 (0, 0))
theorem NodeAt.cells {w : World} {b : Nat} {x : Nat × Nat} (h : NodeAt w b x) : w.cell? ⟨b, 0, none⟩ = some (.int .i64 (x.1 : Int)) ∧ w.cell? ⟨b, 1, none⟩ = some (.int .i64 (x.2 : Int)) :=
  ⟨(cell_of_row w b 0 _ _ _ h).trans rfl, (cell_of_row w b 1 _ _ _ h).trans rfl⟩
theorem NodeAt.grown {w w' : World} {b : Nat} {x : Nat × Nat} (h : NodeAt w b x) (hg : w.grownBy w' none) : NodeAt w' b x := (hg.block b (Array.getElem?_eq_some_iff.1 h).1 (by simp)).trans h

set_option maxHeartbeats 4000000 in
theorem cmbody_up {w : World} {A : Option Addr} {c h n id : Nat} (hh : cmH n = h) (h1 : 1 ≤ h) (h4 : h ≤ 4) (hnd : ∀ j, j < h → (ndL n id j).1 ≤ 1000 ∧ (j < h → 1 ≤ (ndL n id j).2) ∧ (ndL n id j).2 ≤ 2) (hrow : NodeRow w A h (pathL n id h)) :
    CallsIn Fence.wide 5 Tryz.prog 222 #[.slice A h c] w (BodyOf w (bodyI (combineC n id))) := by
  have f0 := heap_alloc_new w (.cells #[.int .i64 (h : Nat)] 3)
  have f1 := heap_alloc_new (w.alloc (.cells #[.int .i64 (h : Nat)] 3)) (.cells #[.nilFunc] 112)
  rw [World.size_alloc] at f1
  have f1c : ((w.alloc (.cells #[.int .i64 (h : Nat)] 3)).alloc (.cells #[.nilFunc] 112)).cell? ⟨w.heap.size + 1, 0, none⟩ = some .nilFunc := (cell_of_row _ _ 0 _ _ _ f1).trans rfl
  have f1f : ((w.alloc (.cells #[.int .i64 (h : Nat)] 3)).alloc (.cells #[.nilFunc] 112)).frozen? ⟨w.heap.size + 1, 0, none⟩ = false := frozen_of_row _ _ 0 _ _ f1
  have f2 := heap_alloc_new (w.alloc (.cells #[.int .i64 (h : Nat)] 3)) (.cells #[.func (.func 241) #[] #[]] 112)
  rw [World.size_alloc] at f2
  have f3 : ((w.alloc (.cells #[.int .i64 (h : Nat)] 3)).alloc (.cells #[.func (.func 241) #[] #[]] 112)).heap[w.heap.size]? = some (.cells #[.int .i64 (h : Nat)] 3 (0, 0)) := by
    rw [Below.heap_alloc _ _ _ (by rw [World.size_alloc]; omega)]
    exact f0
  have hbel : Below w.heap.size w ((w.alloc (.cells #[.int .i64 (h : Nat)] 3)).alloc (.cells #[.func (.func 241) #[] #[]] 112)) := ((Below.refl _ w).alloc (Nat.le_refl _) _).alloc (by rw [World.size_alloc]; omega) _
  have hsz : ((w.alloc (.cells #[.int .i64 (h : Nat)] 3)).alloc (.cells #[.func (.func 241) #[] #[]] 112)).heap.size = w.heap.size + 1 + 1 := by simp
  obtain ⟨W2, hW2⟩ : ∃ W2, ((w.alloc (.cells #[.int .i64 (h : Nat)] 3)).alloc (.cells #[.func (.func 241) #[] #[]] 112)) = W2 := ⟨_, rfl⟩
  rw [hW2] at f2 f3 hbel hsz
  have HF := Lib.hid (⟨(cell_of_row _ _ 0 _ _ _ f3).trans rfl, (cell_of_row _ _ 0 _ _ _ f2).trans rfl⟩ : W2.cell? ⟨w.heap.size, 0, none⟩ = some (.int .i64 (h : Nat)) ∧ W2.cell? ⟨w.heap.size + 1, 0, none⟩ = some (.func (.func 241) #[] #[]))
  have HF2 := Lib.hid (⟨f3, f2⟩ : W2.heap[w.heap.size]? = some (.cells #[.int .i64 (h : Nat)] 3 (0, 0)) ∧ W2.heap[w.heap.size + 1]? = some (.cells #[.func (.func 241) #[] #[]] 112 (0, 0)))
  have HB2 := Lib.hid hbel
  have HW2 := Lib.hid hW2
  have HZ := Lib.hid hsz
  have HRow := Lib.hid hrow
  have HN := Lib.hid hnd
  have HN2 := Lib.hid hnd
  have HB0 := Lib.hid (BoxB.new W2 (Below.refl _ W2))
  clear f0 f1 f2 f3 hbel hsz hW2 hrow hnd
  refine callsIn_of_wp_marks Tryz.func222 rfl trivial ?_ rfl
  simp only [Tryz.ntmps222, List.size_toArray, List.length_cons, List.length_nil, Nat.reduceAdd, Nat.reduceSub, Array.replicate_succ, Array.replicate_zero, List.push_toArray, List.append_toArray, List.nil_append, List.cons_append]
  refine Code.wpIn_mono calm_le ?_
  refine wpIn_wide.2 ?_
  go_wp2
  clear f1c f1f
  rw [HW2.out]
  --MA
  go_loopw [16] (fun i wr => ∃ (j : Nat) (A2 : Option Addr) (m c2 : Nat), j ≤ h ∧ i = .int .i64 (j : Nat) ∧ Hid (BoxB W2 (w.heap.size + 1 + 1) A2 m c2 (bodyTo (combineC n id) j) wr)) (fun i _ => h - (intOf i).toNat)
  case atStart => exact ⟨0, none, 0, 0, Nat.zero_le _, rfl, by rw [HZ.out] at HB0; exact HB0⟩
  case round =>
    obtain ⟨j, A2, m, c2, hj, rfl, hb⟩ := hrel
    by_cases hlt : j < h
    · have hkn : (j : Int) < (h : Int) := by omega
      obtain ⟨bn, rfl, hbn, hx1, hx2⟩ := (HRow.out.of (HB2.out.trans (hb.out.bel.mono HB2.out.size))) j hlt
      have hnj := HN.out j hlt
      rw [pathL_get hlt] at hx1 hx2
      have hm := comb_meet (n := n) (id := id) (j := j) (by omega) (by omega) hnj.1 (hnj.2.1 hlt) (by omega) (p := 5 + 8 * (j : Int)) (e := 5 + 8 * (cmH n : Int) + 4 * ((cmH n : Int) - 1 - ((j : Int) - 1))) rfl rfl
      have hml : m = 8 * j := by
        rw [← hb.out.len, bodyTo_len _ _ (by rw [comb_len]; omega), comb_offs_up (by omega)]
      rw [hh] at hm
      obtain ⟨x1, hx1'⟩ : ∃ x1, (ndL n id j).1 = x1 := ⟨_, rfl⟩
      obtain ⟨x2, hx2'⟩ : ∃ x2, (ndL n id j).2 = x2 := ⟨_, rfl⟩
      rw [hx1'] at hx1 hm hnj
      rw [hx2'] at hx2 hm hnj
      have eJ : wrap64 ((j : Int) - 1) = (j : Int) - 1 := wrapI (by omega) (by omega)
      have HU := Lib.hid (fun u => cmup_any (w := u) (j := j) (by omega))
      have hwn := World.grownBy_alloc wr (.cells #[.int .i64 (x1 : Nat), .int .i64 (x2 : Nat)] 309) none
      have HBN := Lib.hid (hb.out.keep hwn)
      have hN0 : NodeAt (wr.alloc (.cells #[.int .i64 (x1 : Nat), .int .i64 (x2 : Nat)] 309)) wr.heap.size (x1, x2) := heap_alloc_new wr _
      clear hwn
      obtain ⟨wn, hwn⟩ : ∃ wn, wr.alloc (.cells #[.int .i64 (x1 : Nat), .int .i64 (x2 : Nat)] 309) = wn := ⟨_, rfl⟩
      rw [hwn] at HBN hN0
      have HWN := Lib.hid hwn
      have HNA := Lib.hid hN0
      have hlow : ∀ u, Below W2.heap.size W2 u → u.cell? ⟨w.heap.size + 1, 0, none⟩ = some (.func (.func 241) #[] #[]) ∧ u.cell? ⟨w.heap.size, 0, none⟩ = some (.int .i64 (h : Nat)) := fun u hu =>
        ⟨(hu.cell (p := ⟨w.heap.size + 1, 0, none⟩) (by rw [HZ.out]; show w.heap.size + 1 < _; omega)).trans HF.out.2, (hu.cell (p := ⟨w.heap.size, 0, none⟩) (by rw [HZ.out]; show w.heap.size < _; omega)).trans HF.out.1⟩
      have HL := Lib.hid hlow
      have HK := Lib.hid (fun u (hg : wn.grownBy u none) => (⟨(HBN.out.keep hg).cell.1, (HL.out u (HBN.out.keep hg).bel).1, (HL.out u (HBN.out.keep hg).bel).2, (HNA.out.grown hg).cells.1, (HNA.out.grown hg).cells.2⟩ : u.cell? ⟨w.heap.size + 1 + 1, 0, none⟩ = some (.slice A2 m c2) ∧ u.cell? ⟨w.heap.size + 1, 0, none⟩ = some (.func (.func 241) #[] #[]) ∧ u.cell? ⟨w.heap.size, 0, none⟩ = some (.int .i64 (h : Nat)) ∧ u.cell? ⟨wr.heap.size, 0, none⟩ = some (.int .i64 (x1 : Nat)) ∧ u.cell? ⟨wr.heap.size, 1, none⟩ = some (.int .i64 (x2 : Nat))))
      have HK1 := Lib.hid (fun u u1 (hg : wn.grownBy u none) (ht : TurnsIns u u1) => (⟨(ht.cell (b := w.heap.size + 1) (((HBN.out.keep hg).bel.block _ (by rw [HZ.out]; omega)).trans HF2.out.2) (by decide)).trans (HK.out u hg).2.1, (ht.cell (b := w.heap.size) (((HBN.out.keep hg).bel.block _ (by rw [HZ.out]; omega)).trans HF2.out.1) (by decide)).trans (HK.out u hg).2.2.1, (ht.cell (HNA.out.grown hg) (by decide)).trans (HK.out u hg).2.2.2.1, (ht.cell (HNA.out.grown hg) (by decide)).trans (HK.out u hg).2.2.2.2⟩ : u1.cell? ⟨w.heap.size + 1, 0, none⟩ = some (.func (.func 241) #[] #[]) ∧ u1.cell? ⟨w.heap.size, 0, none⟩ = some (.int .i64 (h : Nat)) ∧ u1.cell? ⟨wr.heap.size, 0, none⟩ = some (.int .i64 (x1 : Nat)) ∧ u1.cell? ⟨wr.heap.size, 1, none⟩ = some (.int .i64 (x2 : Nat))))
      have hD := fun u (hg : wn.grownBy u none) => cmdown_any (w := u) (b1 := w.heap.size + 1) (b2 := w.heap.size) (h := h) ((j : Int) - 1) (by omega) (by omega) h4 (HK.out u hg).2.1 (HK.out u hg).2.2.1
      obtain ⟨q, hq⟩ : ∃ q : Int, 5 + 8 * (h : Int) + 4 * ((h : Int) - 1 - ((j : Int) - 1)) = q := ⟨_, rfl⟩
      obtain ⟨p, hp⟩ : ∃ p : Int, 5 + 8 * (j : Int) = p := ⟨_, rfl⟩
      obtain ⟨j1, hj1⟩ : ∃ j1 : Int, (j : Int) - 1 = j1 := ⟨_, rfl⟩
      rw [hq] at hD hm
      rw [hp] at HU hm
      rw [hj1] at hD
      have eJ1 : wrap64 ((j : Int) - 1) = j1 := eJ.trans hj1
      have eJ2 : IntKind.i64.wrap ((j : Int) - 1) = j1 := (wrapK _).trans eJ1
      clear eJ
      have HD := Lib.hid hD
      have HE := Lib.hid hm
      have HBo := Lib.hid hb.out
      have hm40 : m ≤ 40 := by omega
      clear hD hm hq hp hj1 hx1' hx2' hwn hN0 hlow hnj hb hml
      have hx1b := hx1
      have hx2b := hx2
      go_wp2
      rw [HWN.out]
      --MC
      --REGION8
      refine region_heldL (L := 14) (S := (fun u => u.cell? ⟨w.heap.size + 1 + 1, 0, none⟩ = some (.slice A2 m c2) ∧ u.cell? ⟨w.heap.size + 1, 0, none⟩ = some (.func (.func 241) #[] #[]) ∧ u.cell? ⟨w.heap.size, 0, none⟩ = some (.int .i64 (h : Nat)) ∧ u.cell? ⟨wr.heap.size, 0, none⟩ = some (.int .i64 (x1 : Nat)) ∧ u.cell? ⟨wr.heap.size, 1, none⟩ = some (.int .i64 (x2 : Nat)))) 15 rfl (by kernel_rfl) (HK.out _ (grown_drew _)) (fun hHeld => ?_)
      --Q8_0
      refine heldL_take (n := 14) (i := 0) (oi := _) (v := ?v0x8) (dst := some 21) rfl rfl rfl (by kernel_rfl) (by kernel_rfl) (by kernel_rfl) (by kernel_rfl) (by kernel_rfl) (fun _ _ _ h => h) (Or.inl ⟨by rfl, ?hy0x8⟩) (by assumption) ?rest0x8
      case hy0x8 => intro u hSu; (try dsimp only at hSu); obtain ⟨s1, s2, s3, s4, s5⟩ := hSu; go_simp; try (with_reducible rfl)
      simp only [Act.put, List.setIfInBounds_toArray, List.set_cons_zero, List.set_cons_succ]
      --Q8_1
      refine heldL_take (n := 13) (i := 1) (oi := _) (v := ?v1x8) (dst := some 22) rfl rfl rfl (by kernel_rfl) (by kernel_rfl) (by kernel_rfl) (by kernel_rfl) (by kernel_rfl) (fun _ _ _ h => h) (Or.inl ⟨by rfl, ?hy1x8⟩) (by assumption) ?rest1x8
      case hy1x8 => intro u hSu; (try dsimp only at hSu); obtain ⟨s1, s2, s3, s4, s5⟩ := hSu; go_simp; try (with_reducible rfl)
      simp only [Act.put, List.setIfInBounds_toArray, List.set_cons_zero, List.set_cons_succ]
      --Q8_2
      refine heldL_take (n := 12) (i := 2) (oi := _) (v := ?v2x8) (dst := some 23) rfl rfl rfl (by kernel_rfl) (by kernel_rfl) (by kernel_rfl) (by kernel_rfl) (by kernel_rfl) (fun _ _ _ h => h) (Or.inl ⟨by rfl, ?hy2x8⟩) (by assumption) ?rest2x8
      case hy2x8 => intro u hSu; (try dsimp only at hSu); obtain ⟨s1, s2, s3, s4, s5⟩ := hSu; go_simp; try (with_reducible rfl)
      simp only [Act.put, List.setIfInBounds_toArray, List.set_cons_zero, List.set_cons_succ]
      --Q8_4
      refine heldL_take (n := 11) (i := 4) (oi := _) (v := ?v4x8) (dst := some 25) rfl rfl rfl (by kernel_rfl) (by kernel_rfl) (by kernel_rfl) (by kernel_rfl) (by kernel_rfl) (fun _ _ _ h => h) (Or.inl ⟨by rfl, ?hy4x8⟩) (by assumption) ?rest4x8
      case hy4x8 => intro u hSu; (try dsimp only at hSu); obtain ⟨s1, s2, s3, s4, s5⟩ := hSu; go_simp; try (with_reducible rfl)
      simp only [Act.put, List.setIfInBounds_toArray, List.set_cons_zero, List.set_cons_succ]
      --Q8_5
      refine heldL_take (n := 10) (i := 5) (oi := _) (v := ?v5x8) (dst := some 26) rfl rfl rfl (by kernel_rfl) (by kernel_rfl) (by kernel_rfl) (by kernel_rfl) (by kernel_rfl) (fun _ _ _ h => h) (Or.inl ⟨by rfl, ?hy5x8⟩) (by assumption) ?rest5x8
      case hy5x8 => intro u hSu; (try dsimp only at hSu); obtain ⟨s1, s2, s3, s4, s5⟩ := hSu; go_simp; try (with_reducible rfl)
      simp only [Act.put, List.setIfInBounds_toArray, List.set_cons_zero, List.set_cons_succ]
      --Q8_6
      refine heldL_take (n := 9) (i := 6) (oi := _) (v := ?v6x8) (dst := some 27) rfl rfl rfl (by kernel_rfl) (by kernel_rfl) (by kernel_rfl) (by kernel_rfl) (by kernel_rfl) (fun _ _ _ h => h) (Or.inl ⟨by rfl, ?hy6x8⟩) (by assumption) ?rest6x8
      case hy6x8 => intro u hSu; (try dsimp only at hSu); obtain ⟨s1, s2, s3, s4, s5⟩ := hSu; go_simp; try (with_reducible rfl)
      simp only [Act.put, List.setIfInBounds_toArray, List.set_cons_zero, List.set_cons_succ]
      --Q8_7
      refine heldL_take (n := 8) (i := 7) (oi := _) (v := ?v7x8) (dst := some 28) rfl rfl rfl (by kernel_rfl) (by kernel_rfl) (by kernel_rfl) (by kernel_rfl) (by kernel_rfl) (fun _ _ _ h => h) (Or.inl ⟨by rfl, ?hy7x8⟩) (by assumption) ?rest7x8
      case hy7x8 => intro u hSu; (try dsimp only at hSu); obtain ⟨s1, s2, s3, s4, s5⟩ := hSu; go_simp; try (with_reducible rfl)
      simp only [Act.put, List.setIfInBounds_toArray, List.set_cons_zero, List.set_cons_succ]
      --Q8_8
      refine heldL_take (n := 7) (i := 8) (oi := _) (v := ?v8x8) (dst := some 29) rfl rfl rfl (by kernel_rfl) (by kernel_rfl) (by kernel_rfl) (by kernel_rfl) (by kernel_rfl) (fun _ _ _ h => h) (Or.inl ⟨by rfl, ?hy8x8⟩) (by assumption) ?rest8x8
      case hy8x8 => intro u hSu; (try dsimp only at hSu); obtain ⟨s1, s2, s3, s4, s5⟩ := hSu; go_simp; try (with_reducible rfl)
      simp only [Act.put, List.setIfInBounds_toArray, List.set_cons_zero, List.set_cons_succ]
      --Q8_9
      refine heldL_take (n := 6) (i := 9) (oi := _) (v := ?v9x8) (dst := some 30) rfl rfl rfl (by kernel_rfl) (by kernel_rfl) (by kernel_rfl) (by kernel_rfl) (by kernel_rfl) (fun _ _ _ h => h) (Or.inl ⟨by rfl, ?hy9x8⟩) (by assumption) ?rest9x8
      case hy9x8 => intro u hSu; (try dsimp only at hSu); obtain ⟨s1, s2, s3, s4, s5⟩ := hSu; go_simp; try (with_reducible rfl)
      simp only [Act.put, List.setIfInBounds_toArray, List.set_cons_zero, List.set_cons_succ]
      --Q8_10
      refine heldL_take (n := 5) (i := 10) (oi := _) (v := ?v10x8) (dst := some 31) rfl rfl rfl (by kernel_rfl) (by kernel_rfl) (by kernel_rfl) (by kernel_rfl) (by kernel_rfl) (fun _ _ _ h => h) (Or.inl ⟨by rfl, ?hy10x8⟩) (by assumption) ?rest10x8
      case hy10x8 => intro u hSu; (try dsimp only at hSu); obtain ⟨s1, s2, s3, s4, s5⟩ := hSu; go_simp; try (with_reducible rfl)
      simp only [Act.put, List.setIfInBounds_toArray, List.set_cons_zero, List.set_cons_succ]
      --Q8_3
      refine heldL_step (n := 4) (i := 3) (o := _) rfl (by kernel_rfl) rfl (fun K hK => ?_)
      have HK2 := Lib.hid hK
      clear hK
      go_simp
      refine (HU.out _).mono ?_
      rintro e u ⟨rfl, rfl⟩
      go_simp
      refine HK2.out _ _ (HK.out _ (grown_drew _)) (fun hHeld => ?_)
      clear HK2 K
      --Q8_11
      refine heldL_step (n := 3) (i := 11) (o := _) rfl (by kernel_rfl) rfl (fun K hK => ?_)
      have HK2 := Lib.hid hK
      clear hK
      go_simp
      refine (HD.out _ (grown_drew _)).mono ?_
      rintro e u ⟨rfl, hg0⟩; have hgu0 := (grown_drew _).andThen hg0 (by intro k hk; cases hk)
      go_simp
      refine HK2.out _ _ (HK.out _ hgu0) (fun hHeld => ?_)
      clear HK2 K
      --Q8_12
      refine heldL_step (n := 2) (i := 12) (o := _) rfl (by kernel_rfl) rfl (fun K hK => ?_)
      have HK2 := Lib.hid hK
      clear hK
      go_simp
      refine (pmeet_laid (W := wn) _ _ _ _ hgu0).mono ?_
      rintro e u ⟨B8, d8, rfl, hgu, hIu0⟩; have hIu := Lib.hid hIu0; clear hIu0
      go_simp
      refine HK2.out _ _ (HK.out _ hgu) (fun hHeld => ?_)
      clear HK2 K
      --Q8_13
      refine heldL_step (n := 1) (i := 13) (o := _) rfl (by kernel_rfl) rfl (fun K hK => ?_)
      have HK2 := Lib.hid hK
      clear hK
      refine step_append_box2 (m := 8) (news := meetP p (x1 : Int) (x2 : Int) q) HBN.out (by omega) (by rfl) _ _ (by rfl) (by rfl) (by rfl) hgu hIu.out ?_
      intro A1 c1 u1 hN1 hc1 hf1 ht1
      have HN1 := Lib.hid hN1
      have HT1 := Lib.hid ht1
      clear hN1 ht1
      refine HK2.out _ _ ⟨hc1, HK1.out _ _ hgu HT1.out⟩ (fun hHeld => ?_)
      clear HK2 K
      simp only [Act.put, List.setIfInBounds_toArray, List.set_cons_zero, List.set_cons_succ]
      --Q8_L
      refine heldL_last (n := 0) (o := _) rfl (by kernel_rfl) (by kernel_rfl) (by decide) rfl (fun K hK => ?_)
      have HK2 := Lib.hid hK
      clear hK
      go_simp
      refine HK2.out _ _ ?_
      clear HK2
      --END8
      have HS1 := Lib.hid HN1.out.set
      rw [HE.out] at HS1
      clear HN1 HT1 hc1 hf1 hgu hgu0 hg0 hIu hHeld HBo HE HD HK HK1 HL HNA HWN HBN HU eJ1 eJ2 hx1 hx2 hx1b hx2b
      go_wp2
      go_roundw
      case rel => exact ⟨j + 1, A1, m + 8, c1, by omega, by go_num, HS1⟩
      case measure => simp [intOf]; omega
    · have hkn : ¬ (j : Int) < (h : Int) := by omega
      obtain rfl : h = j := by omega
      have HBo := Lib.hid hb.out
      clear hb hkn hlt hj HF HF2 HN HB0
      go_wp2_with fail
      refine (backward_any _ _ _ _).mono ?_
      rintro e w3 ⟨rfl, rfl⟩
      go_wp2
      have hS0 := HBo.out.keep (World.grownBy_alloc wr (.cells #[.slice A h c] 306) none)
      have hbs0 : (wr.alloc (.cells #[.slice A h c] 306)).heap[wr.heap.size]? = some (.cells #[.slice A h c] 306 (0, 0)) := heap_alloc_new wr _
      obtain ⟨b0, rfl, hb0, _, _⟩ := HRow.out 0 (by omega)
      have hBs : w.heap.size + 1 + 1 < wr.heap.size := HBo.out.lt
      have hrw := HRow.out.of (HB2.out.trans (hS0.bel.mono HB2.out.size))
      have hsz0 : (wr.alloc (.cells #[.slice (some ⟨b0, 0, none⟩) h c] 306)).heap.size = wr.heap.size + 1 := World.size_alloc _ _
      obtain ⟨wS, hwS⟩ : ∃ wS, wr.alloc (.cells #[.slice (some ⟨b0, 0, none⟩) h c] 306) = wS := ⟨_, rfl⟩
      rw [hwS] at hS0 hbs0 hrw hsz0 ⊢
      have hstops := back_stops Fence.wide (5 - 1) trivial rfl (by decide) wr.heap.size w.heap.size b0 h c (ndL n id) (by omega) hb0 wS (by omega) hbs0 (fun i hi => by
        obtain ⟨b1, e1, _, y1, y2⟩ := hrw i hi
        cases e1
        rw [pathL_get hi] at y1 y2
        exact ⟨y1, y2⟩)
      refine (wpIn_wide (n := 5)).1 (wpIn_rangeFunc_ownH (F := Fence.wide) rfl (by decide) (gf := 256) (lb := #[.pointer (some ⟨wr.heap.size, 0, none⟩)]) (by rfl) trivial (enters_of Tryz.func256 (by kernel_rfl) rfl)
        hstops (fun h1 h2 => h1.trans h2) (fun W l o o' hl ho hc hk => ⟨belowK_b (w := wS) (by omega) W l o o' hl ho hc hk, World.putObj_heap_other (by omega)⟩) (Below.refl _ _) (fun _ => rfl)
        (fun pre W => (∃ (A3 : Option Addr) (m3 c3 : Nat), BoxB W2 (w.heap.size + 1 + 1) A3 m3 c3 (bodyTo (combineC n id) h ++ downO (ndL n id) pre) W) ∧ W.heap[wr.heap.size]? = some (.cells #[.slice (some ⟨b0, 0, none⟩) h c] 306 (0, 0)))
        (fun _ _ _ => False)
        ?own (fun _ _ _ _ _ hs _ _ => hs) ⟨⟨_, _, _, by show BoxB _ _ _ _ _ (_ ++ []) _; rw [List.append_nil]; exact hS0⟩, hbs0⟩
        (fun x a' W => ∃ Bx, NodeAt W Bx (ndL n id x) ∧ a' = { tmps := #[.slice (some ⟨b0, 0, none⟩) h c, undef, .slice none 0 0, .pointer (some ⟨w.heap.size, 0, none⟩), .pointer (some ⟨w.heap.size + 1, 0, none⟩), .func (.func 242) #[] #[.pointer (some ⟨w.heap.size + 1, 0, none⟩), .pointer (some ⟨w.heap.size, 0, none⟩)], .pointer (some ⟨w.heap.size + 1 + 1, 0, none⟩), u7, u8, undef, .pointer (some ⟨Bx, 0, none⟩), .slice (some ⟨b0, 0, none⟩) h c, .int .i64 (h : Nat), .func (.func 242) #[] #[.pointer (some ⟨w.heap.size + 1, 0, none⟩), .pointer (some ⟨w.heap.size, 0, none⟩)], .slice (some ⟨b0, 0, none⟩) h c, .int .i64 (h : Nat), .int .i64 (h : Nat), .bool false, u18, u19, u20, u21, u22, u23, u24, u25, u26, u27, u28, u29, u30, u31, u32, u33, u34, u35, .slice (some ⟨b0, 0, none⟩) h c, .func (.func 256) #[] #[.pointer (some ⟨wr.heap.size, 0, none⟩)], .int .i64 (x : Nat), .agg #[.int .i64 ((ndL n id x).1 : Nat), .int .i64 ((ndL n id x).2 : Nat)], undef, undef, undef, undef, undef, undef, undef, undef], defers := [] })
        ?ax ?assign ?body ?done ?stop)
      case own =>
        rintro pre W W' row ⟨⟨A3, m3, c3, hbox⟩, hbs⟩ hg hr
        refine ⟨⟨A3, m3, c3, hbox.kept hg (fun r e => ⟨by have := (hr r e).1; have := HZ.out; omega, (hr r e).2⟩)⟩, (hg.block _ (Array.getElem?_eq_some_iff.1 hbs).1 (fun e => ?_)).trans hbs⟩
        have := (hr _ e.symm).1
        omega
      case ax =>
        rintro x a' _ W W' row ⟨Bx, hna, ha⟩ hg hr
        refine ⟨Bx, (hg.block _ (Array.getElem?_eq_some_iff.1 hna).1 (fun e => ?_)).trans hna, ha⟩
        obtain ⟨_, o, ho, hc⟩ := hr _ e.symm
        rw [show W.heap[Bx]? = _ from hna] at ho
        cases ho
        cases hc
      case assign =>
        intro l pre x W K hI hK
        gi_wp2
        obtain ⟨⟨A3, m3, c3, hbox⟩, hbs⟩ := hI
        --MAS
        exact hK _ _ ((KeepsOthers.alloc _ _).from _) ⟨(Below.refl _ _).alloc (Nat.le_trans HB2.out.size hbox.bel.size) _, Below.heap_alloc _ _ _ (Array.getElem?_eq_some_iff.1 hbs).1⟩ ⟨⟨_, _, _, hbox.keep (World.grownBy_alloc _ _ none)⟩, (Below.heap_alloc _ _ _ (Array.getElem?_eq_some_iff.1 hbs).1).trans hbs⟩ ⟨W.heap.size, heap_alloc_new W _, rfl⟩
      case body =>
        rintro l pre x a' W hl _ ⟨⟨A2, m, c2, hbox⟩, hbs⟩ ⟨Bx, hna, rfl⟩ hlen
        gi_wp2
        have hml : m ≤ 100 := by
          rw [← hbox.len, List.length_append, downO_len, bodyTo_len _ _ (by rw [comb_len]; omega), ← hh, comb_offs_up (Nat.le_refl _)]
          omega
        have hsn := downO_snoc (ndL n id) pre x
        obtain ⟨x1, hx1⟩ : ∃ x1, (ndL n id x).1 = x1 := ⟨_, rfl⟩
        obtain ⟨x2, hx2⟩ : ∃ x2, (ndL n id x).2 = x2 := ⟨_, rfl⟩
        have hna2 : NodeAt W Bx (x1, x2) := by rw [← hx1, ← hx2]; exact hna
        rw [hx1, hx2] at hsn
        rw [hx1, hx2]
        have HSN := Lib.hid hsn
        have HBN := Lib.hid hbox
        have HBS := Lib.hid hbs
        have HNA := Lib.hid hna2
        have HIN := Lib.hid (⟨hl, hsz0, hBs⟩ : wS.heap.size ≤ l ∧ wS.heap.size = wr.heap.size + 1 ∧ w.heap.size + 1 + 1 < wr.heap.size)
        have HK := Lib.hid (fun u (hg : W.grownBy u none) => (⟨(HBN.out.keep hg).cell.1, (HNA.out.grown hg).cells.1, (HNA.out.grown hg).cells.2⟩ : u.cell? ⟨w.heap.size + 1 + 1, 0, none⟩ = some (.slice A2 m c2) ∧ u.cell? ⟨Bx, 0, none⟩ = some (.int .i64 (x1 : Nat)) ∧ u.cell? ⟨Bx, 1, none⟩ = some (.int .i64 (x2 : Nat))))
        have HK1 := Lib.hid (fun u u1 (hg : W.grownBy u none) (ht : TurnsIns u u1) => (⟨(ht.cell (HNA.out.grown hg) (by decide)).trans (HK.out u hg).2.1, (ht.cell (HNA.out.grown hg) (by decide)).trans (HK.out u hg).2.2⟩ : u1.cell? ⟨Bx, 0, none⟩ = some (.int .i64 (x1 : Nat)) ∧ u1.cell? ⟨Bx, 1, none⟩ = some (.int .i64 (x2 : Nat))))
        have hout : ¬ LetsOut (Exit.inBlock 3 (ownPostG wS.heap.size (KpB w.heap.size wr.heap.size) (fun pre W => (∃ (A3 : Option Addr) (m3 c3 : Nat), BoxB W2 (w.heap.size + 1 + 1) A3 m3 c3 (bodyTo (combineC n id) h ++ downO (ndL n id) pre) W) ∧ W.heap[wr.heap.size]? = some (.cells #[.slice (some ⟨b0, 0, none⟩) h c] 306 (0, 0))) (fun _ _ _ => False) (pre ++ [x]) W)) := fun ⟨_, _, h⟩ => h
        clear hsn hbox hbs hna hna2 hx1 hx2 hstops hrw hbs0 hS0 hwS hb0
        --MBP
      --REGION12
        refine region_round (L := 7) (S := (fun u => u.cell? ⟨w.heap.size + 1 + 1, 0, none⟩ = some (.slice A2 m c2) ∧ u.cell? ⟨Bx, 0, none⟩ = some (.int .i64 (x1 : Nat)) ∧ u.cell? ⟨Bx, 1, none⟩ = some (.int .i64 (x2 : Nat)))) 8 rfl (by kernel_rfl) (by kernel_rfl) hout (HK.out _ (grown_drew _)) (fun hHeld => ?_)
        --Q12_0
        refine heldL_take (n := 7) (i := 0) (oi := _) (v := ?v0x12) (dst := some 40) rfl rfl rfl (by kernel_rfl) (by kernel_rfl) (by kernel_rfl) (by kernel_rfl) (by kernel_rfl) (fun _ _ _ h => h) (Or.inl ⟨by rfl, ?hy0x12⟩) (by assumption) ?rest0x12
        case hy0x12 => intro u hSu; (try dsimp only at hSu); obtain ⟨s1, s4, s5⟩ := hSu; go_simp; try (with_reducible rfl)
        simp only [Act.put, List.setIfInBounds_toArray, List.set_cons_zero, List.set_cons_succ]
        --Q12_1
        refine heldL_take (n := 6) (i := 1) (oi := _) (v := ?v1x12) (dst := some 41) rfl rfl rfl (by kernel_rfl) (by kernel_rfl) (by kernel_rfl) (by kernel_rfl) (by kernel_rfl) (fun _ _ _ h => h) (Or.inl ⟨by rfl, ?hy1x12⟩) (by assumption) ?rest1x12
        case hy1x12 => intro u hSu; (try dsimp only at hSu); obtain ⟨s1, s4, s5⟩ := hSu; go_simp; try (with_reducible rfl)
        simp only [Act.put, List.setIfInBounds_toArray, List.set_cons_zero, List.set_cons_succ]
        --Q12_2
        refine heldL_take (n := 5) (i := 2) (oi := _) (v := ?v2x12) (dst := some 42) rfl rfl rfl (by kernel_rfl) (by kernel_rfl) (by kernel_rfl) (by kernel_rfl) (by kernel_rfl) (fun _ _ _ h => h) (Or.inl ⟨by rfl, ?hy2x12⟩) (by assumption) ?rest2x12
        case hy2x12 => intro u hSu; (try dsimp only at hSu); obtain ⟨s1, s4, s5⟩ := hSu; go_simp; try (with_reducible rfl)
        simp only [Act.put, List.setIfInBounds_toArray, List.set_cons_zero, List.set_cons_succ]
        --Q12_3
        refine heldL_take (n := 4) (i := 3) (oi := _) (v := ?v3x12) (dst := some 43) rfl rfl rfl (by kernel_rfl) (by kernel_rfl) (by kernel_rfl) (by kernel_rfl) (by kernel_rfl) (fun _ _ _ h => h) (Or.inl ⟨by rfl, ?hy3x12⟩) (by assumption) ?rest3x12
        case hy3x12 => intro u hSu; (try dsimp only at hSu); obtain ⟨s1, s4, s5⟩ := hSu; go_simp; try (with_reducible rfl)
        simp only [Act.put, List.setIfInBounds_toArray, List.set_cons_zero, List.set_cons_succ]
        --Q12_4
        refine heldL_take (n := 3) (i := 4) (oi := _) (v := ?v4x12) (dst := some 44) rfl rfl rfl (by kernel_rfl) (by kernel_rfl) (by kernel_rfl) (by kernel_rfl) (by kernel_rfl) (fun _ _ _ h => h) (Or.inl ⟨by rfl, ?hy4x12⟩) (by assumption) ?rest4x12
        case hy4x12 => intro u hSu; (try dsimp only at hSu); obtain ⟨s1, s4, s5⟩ := hSu; go_simp; try (with_reducible rfl)
        simp only [Act.put, List.setIfInBounds_toArray, List.set_cons_zero, List.set_cons_succ]
        --Q12_5
        refine heldL_step (n := 2) (i := 5) (o := _) rfl (by kernel_rfl) rfl (fun K hK => ?_)
        have HK2 := Lib.hid hK
        clear hK
        go_simp
        refine (popen_laid (W := W) _ _ (grown_drew _)).mono ?_
        rintro e u ⟨B8, d8, rfl, hgu, hIu0⟩; have hIu := Lib.hid hIu0; clear hIu0
        go_simp
        refine HK2.out _ _ (HK.out _ hgu) (fun hHeld => ?_)
        clear HK2 K
        --Q12_6
        refine heldL_step (n := 1) (i := 6) (o := _) rfl (by kernel_rfl) rfl (fun K hK => ?_)
        have HK2 := Lib.hid hK
        clear hK
        refine step_append_box2 (m := 4) (news := openP (x1 : Int) (x2 : Int)) HBN.out (by omega) (by rfl) _ _ (by rfl) (by rfl) (by rfl) hgu hIu.out ?_
        intro A1 c1 u1 hN1 hc1 hf1 ht1
        have HN1 := Lib.hid hN1
        have HT1 := Lib.hid ht1
        clear hN1 ht1
        refine HK2.out _ _ ⟨hc1, HK1.out _ _ hgu HT1.out⟩ (fun hHeld => ?_)
        clear HK2 K
        simp only [Act.put, List.setIfInBounds_toArray, List.set_cons_zero, List.set_cons_succ]
        --Q12_L
        refine heldL_last (n := 0) (o := _) rfl (by kernel_rfl) (by kernel_rfl) (by decide) rfl (fun K hK => ?_)
        have HK2 := Lib.hid hK
        clear hK
        go_simp
        refine HK2.out _ _ ?_
        clear HK2
      --END12
        --MBQ
        refine ⟨⟨by simpa using Nat.le_trans hgu.size HT1.out.size, fun k o hk1 hk ho => round_keeps hgu HT1.out hk (by have := HIN.out; omega) (fun C z e => by rw [e] at ho; cases ho)⟩, ⟨(below_two HBN.out.bel HN1.out.set.bel (by simpa using Nat.le_trans hgu.size HT1.out.size)).mono HB2.out.size, ?_⟩, ⟨_, _, _, by rw [HSN.out, ← List.append_assoc]; exact HN1.out.set⟩, ?_⟩
        · exact (round_keeps hgu HT1.out HBS.out (by have := HIN.out; omega) (fun C z e => by injection e with _ e2; exact absurd e2 (by decide))).trans HBS.out.symm
        · exact round_keeps hgu HT1.out HBS.out (by have := HIN.out; omega) (fun C z e => by injection e with _ e2; exact absurd e2 (by decide))
      case done =>
        rintro D ys W hD rfl ⟨⟨A2, m, c2, hbox⟩, hbs⟩ hK
        have hcl := hbox.cell.1
        --MDO
        go_wp2
        --MDP
        refine ⟨by simp, .inl ⟨_, _, rfl, run_takeDeferred hK, ?_⟩⟩
        refine ⟨_, results_tmp rfl _ _ _, ?_⟩
        have hle := HB2.out.size
        refine Body.of (A := A2) (n := m) (c := c2) (l := bodyTo (combineC n id) h ++ downO (ndL n id) (dnL h h)) ⟨hbox.len, own_low (ownsRow_putObj hbox.own _ hK rfl) (by omega), (HB2.out.trans (hbox.bel.mono hle)).trans (belowK_b (w := w) (Nat.le_refl _) W D _ _ (by omega) hK rfl rfl)⟩ ?_
        rw [← hh, downO_is (fun j hj => (HN2.out j (by omega)).1) _ (Nat.le_refl _)]
        unfold bodyI
        rw [comb_len]
        congr 1
        omega
      case stop =>
        rintro D c pre W _ _ hx _
        exact hx.elim
end Go.Proofs.YtgkfhihnfllmhaaGreatDoor

namespace Go.Proofs.YtgkfhihnfllmhaaGreatDoor
set_option maxRecDepth 100000
open Go.RowKit Go.Shelf Go.Sort
set_option linter.unusedVariables false
set_option linter.unusedSimpArgs false

set_option maxRecDepth 100000 in
theorem node_table : ∀ n, n < 17 → ∀ id, id < n → ∀ j, j < cmH n → (ndL n id j).1 ≤ 1000 ∧ 1 ≤ (ndL n id j).2 ∧ (ndL n id j).2 ≤ 2 := by decide +kernel
theorem Cmbody_any {w : World} {A : Option Addr} {c n id : Nat} (n1 : 1 ≤ n) (n16 : n ≤ 16) (hid : id < n) (hrow : NodeRow w A (cmH n) (pathL n id (cmH n))) :
    Calls Tryz.prog 222 #[.slice A (cmH n) c] w (BodyOf w (bodyI (combineOps n id))) := by
  obtain ⟨h1, h4, _⟩ := (combine_path n (by omega)).resolve_left (by omega)
  rw [combine_is n (by omega) id hid]
  exact callsIn_wide.1 (cmbody_up rfl h1 h4 (fun j hj => ⟨(node_table n (by omega) id hid j hj).1, fun _ => (node_table n (by omega) id hid j hj).2.1, (node_table n (by omega) id hid j hj).2.2⟩) hrow)
theorem Cmlen {n id : Nat} (n1 : 1 ≤ n) (n16 : n ≤ 16) (hid : id < n) : (bodyI (combineOps n id)).length ≤ 1000 := by
  obtain ⟨h1, h4, _⟩ := (combine_path n (by omega)).resolve_left (by omega)
  have h := bodyI_le (combineOps n id)
  rw [combine_is n (by omega) id hid, comb_len] at h
  rw [combine_is n (by omega) id hid]
  omega
theorem body_low {w w1 w2 : World} {A : Option Addr} {n c : Nat} {l : List In5} (h : Body w1 A n c l w2) (hb : Below w.heap.size w w1) : Body w A n c l w2 := h.low hb

theorem Cmcode_any {w : World} {n id rounds : Nat} (d : Dims 2 n rounds) (hid : id < n) : Calls Tryz.prog 188 #[.int .i64 (n : Nat), .int .i64 (id : Nat), .int .i64 (rounds : Nat)] w (CodeOf w rounds (combineOps n id)) := by
  have HC := Lib.hid (fun w => pcheck_ok (n : Nat) (id : Nat) (rounds : Nat) w (party_of d hid))
  have HP := Lib.hid (cmpath_any (w := w) d.n1 d.n16 hid)
  have HB := Lib.hid (fun (u : World) (A : Option Addr) (c : Nat) (hr : NodeRow u A (cmH n) (pathL n id (cmH n))) => Cmbody_any (w := u) (A := A) (c := c) d.n1 d.n16 hid hr)
  have hr := d.r6
  have HLn := Lib.hid (Cmlen d.n1 d.n16 hid)
  clear d
  generalize combineOps n id = ops at *
  go_enter Tryz.func188, Tryz.ntmps188
  go_wp2_with fail
  refine (HC.out _).mono ?_
  rintro e w1 ⟨rfl, hw⟩
  obtain rfl := hw.symm
  clear hw
  go_wp2_with fail
  refine HP.out.mono ?_
  rintro e w1 ⟨A0, c0, rfl, hp⟩
  have HBB := Lib.hid (HB.out w1 A0 c0 hp.row)
  have HBel := Lib.hid hp.bel
  clear HB HP hp
  generalize cmH n = hh at *
  go_wp2_with fail
  refine HBB.out.mono ?_
  rintro e w2 ⟨A, c, rfl, hb⟩
  have HW := Lib.hid (whole_of (body_low hb HBel.out) (by omega : rounds ≤ 20) HLn.out)
  clear hb HBB HC HBel
  generalize (bodyI ops).length = m at *
  go_wp2_with fail
  refine HW.out.mono ?_
  rintro e w3 ⟨A1, c1, rfl, ho, hb⟩
  have HO := Lib.hid ho
  have HB3 := Lib.hid hb
  clear ho hb HW
  go_wp2
  go_ret2
  exact ⟨A1, c1, rfl, HO.out, HB3.out⟩

theorem Cmcells_any {w : World} {n : Nat} (n1 : 1 ≤ n) (n16 : n ≤ 16) : Calls Tryz.prog 187 #[.int .i64 (n : Nat)] w fun e w' => e = .returned (.tuple #[.int .i64 (kCells 2 n : Nat), .nilIface]) ∧ Below w.heap.size w w' := by
  have HC := Lib.hid (fun w => pcheck_ok (n : Nat) 0 0 w (party_0 n1 n16))
  have HP := Lib.hid (cmpath_any (w := w) (id := 0) n1 n16 (by omega))
  obtain ⟨h1, h4, _, _, _, hlast⟩ := (combine_path n (by omega)).resolve_left (by omega)
  have hb := (node_table n (by omega) 0 (by omega) (cmH n - 1) (by omega)).1
  have hg : (pathL n 0 (cmH n)).getD (cmH n - 1) default = ndL n 0 (cmH n - 1) := pathL_get (by omega)
  rw [show kCells 2 n = cmCells n from rfl, hlast]
  have HG := Lib.hid hg
  clear hlast hg
  generalize pathL n 0 (cmH n) = pl at *
  generalize (ndL n 0 (cmH n - 1)) = nd at *
  obtain ⟨x1, x2⟩ := nd
  generalize cmH n = h at *
  obtain ⟨q, rfl⟩ : ∃ q, h = q + 1 := ⟨h - 1, by omega⟩
  have hq : wrap64 (((q + 1 : Nat) : Int) - 1) = (q : Int) := (wrapI (by omega) (by omega)).trans (by omega)
  have hx : wrap64 ((x1 : Int) + 2) = ((x1 + 2 : Nat) : Int) := (wrapI (by dsimp only at hb; omega) (by dsimp only at hb; omega)).trans (by omega)
  have HQ := Lib.hid hq
  have HX := Lib.hid hx
  clear hq hx
  go_enter Tryz.func187, Tryz.ntmps187
  go_wp2_with fail
  refine (HC.out _).mono ?_
  rintro e w1 ⟨rfl, h⟩
  obtain rfl := h.symm
  clear h
  go_wp2_with fail
  refine HP.out.mono ?_
  rintro e w1 ⟨A0, c0, rfl, hp⟩
  obtain ⟨b, rfl, _, y1, y2⟩ := hp.row q (by omega)
  rw [show (pl.getD q default) = (x1, x2) from HG.out] at y1 y2
  have HBel := Lib.hid hp.bel
  have hq := HQ.out
  have hx := HX.out
  obtain ⟨N, hN⟩ : ∃ N : Nat, q + 1 = N := ⟨_, rfl⟩
  obtain ⟨X, hX⟩ : ∃ X : Nat, x1 + 2 = X := ⟨_, rfl⟩
  rw [hN] at hq ⊢
  rw [hX] at hx
  have hqN : (q : Int) < (N : Int) := by omega
  clear HP HC hp h1 h4 hN
  go_wp2
  go_ret2
  refine ⟨?_, HBel.out⟩
  have hz : ((x1 + 2 : Nat) : Int) = (x1 : Int) + 2 := by omega
  show Ending.returned (.tuple #[.int .i64 _, .nilIface]) = Ending.returned (.tuple #[.int .i64 ((x1 + 2 : Nat) : Int), .nilIface])
  first
    | rw [hz]
    | (rw [hz, hx, ← hX, hz])
end Go.Proofs.YtgkfhihnfllmhaaGreatDoor
