/-
  From what a row lists to the world in which package code runs; a slice of instructions that came in.
-/
import Derived.Test.YtkmidefgmefohaaDoorCOps
import Derived.Test.YtkmidefgmefohaaDoorOpenS
import Derived.LaidLaws
import Derived.Lib.LaidTab
import Derived.Lib.LaidIn
import Derived.OpenShut
import Derived.ChangeSame
namespace Go.Proofs.YtkmidefgmefohaaDoor
set_option maxRecDepth 100000
open Go.ChangeShapes Go.WideShapes Go.Deep Go.RowKit

theorem laid_one {P : Program} {w : World} {n : String} {d : DataW Unit} : ∀ {l : List (String × DataW Unit)} {ps : List MemPlace}, DataW.LaidVars P w l ps → (n, d) ∈ l →
    ∃ g t cs fuel p, P.globalNamed n = some g ∧ (P.globals[g]?).map (·.type) = some t ∧ w.var? P n = some cs ∧ DataW.trod (fun _ => ()) P w 0 (fun _ => true) false fuel t cs.toList = some (d, p)
  | [], _, _, h => by cases h
  | (n', d') :: r, ps, hl, h => by
    obtain ⟨g, t, cs, fuel, p, q, h1, h2, h3, h4, h5, _⟩ := hl
    rcases List.mem_cons.1 h with e | h
    · injection e with e1 e2
      subst e1 e2
      exact ⟨g, t, cs, fuel, p, h1, h2, h3, h4⟩
    · exact laid_one h5 h

theorem chunks {α : Type} (f : Nat → List α) : ∀ (n : Nat) (cs : List α), cs.length = n * 5 → (∀ i, i < n → (cs.drop (i * 5)).take 5 = f i) → cs = (List.range n).flatMap f
  | 0, cs, h, _ => by
    have e : cs = [] := List.eq_nil_of_length_eq_zero (by omega)
    rw [e]
    rfl
  | n + 1, cs, h, hf => by
    have h1 : cs = cs.take (n * 5) ++ cs.drop (n * 5) := (List.take_append_drop _ _).symm
    have h2 : cs.drop (n * 5) = f n := by
      rw [← hf n (by omega)]
      exact (List.take_of_length_le (by rw [List.length_drop]; omega)).symm
    have h3 := chunks f n (cs.take (n * 5)) (by rw [List.length_take]; omega) (fun i hi => by
      rw [List.drop_take, List.take_take, Nat.min_eq_left (by omega)]
      exact hf i (by omega))
    rw [List.range_succ, List.flatMap_append, ← h3]
    rw [show [n].flatMap f = f n by simp, ← h2]
    exact h1

section
variable {H : Type} {enc : TypeId × Value → H} {w : World} {base : Nat} {spare : Nat → Bool} {held : Bool}

def kindD (k : Nat) : DataW H := .lit (.int .i64 (k : Int))
def formD (i : Nat) : DataW H := .agg [.lit (.string (nameOf i)), .agg ((kindsOf i).map kindD)]
def formL (i : Nat) : List Value := .string ⟨(nameOf i).toArray⟩ :: (kindsOf i).map fun (k : Nat) => .int .i64 (k : Int)

theorem c69 : Tryd.prog.cellsOf 115 = 5 := by kernel_rfl
theorem c67 : Tryd.prog.cellsOf 113 = 4 := by kernel_rfl
theorem c66 : Tryd.prog.cellsOf 112 = 1 := by kernel_rfl
theorem c9 : Tryd.prog.cellsOf 9 = 1 := by kernel_rfl
theorem c70 : Tryd.prog.cellsOf 116 = 85 := by kernel_rfl

theorem form_of {fuel : Nat} {cs : List Value} {p : List MemPlace} (i : Nat) (hi : i < 17) (h : DataW.trod enc Tryd.prog w base spare held fuel 115 cs = some (formD i, p)) : cs = formL i := by
  obtain ⟨y0, y1, n, hx, hl, h0, h1⟩ := trod_struct2 Tryd.underlying115 h
  rw [c69] at hl
  obtain ⟨q0, q1, q2, q3, q4, rfl⟩ : ∃ q0 q1 q2 q3 q4, cs = [q0, q1, q2, q3, q4] := by
    match cs, hl with
    | [a, b, c, d, e], _ => exact ⟨a, b, c, d, e, rfl⟩
  have h0' : DataW.trod enc Tryd.prog w base spare held n 9 [q0] = some y0 := h0
  have h1' : DataW.trod enc Tryd.prog w base spare held n 113 [q1, q2, q3, q4] = some y1 := h1
  obtain ⟨s, es, ey, _⟩ := DataW.trod_string Tryd.underlying9 h0'
  obtain ⟨xs, m, _, ex, _, hxl, hall⟩ := DataW.trod_array Tryd.underlying113 h1'
  rw [c66] at hall
  have hk := kinds_len i hi
  injection hx with hx _
  unfold formD at hx
  simp only [DataW.agg.injEq, List.cons.injEq, and_true] at hx
  obtain ⟨e0, e1⟩ := hx
  rw [ey] at e0
  simp only [DataW.lit.injEq, Lit.string.injEq] at e0
  injection es with es _
  rw [ex] at e1
  simp only [DataW.agg.injEq] at e1
  have hat : ∀ j c, j < 4 → [q1, q2, q3, q4][j]? = some c → c = .int .i64 ((kindsOf i).getD j 0 : Nat) := by
    intro j c hj hc
    have hj1 := hall j hj
    have hdt : (([q1, q2, q3, q4] : List Value).drop (j * 1)).take 1 = [c] := by
      rw [Nat.mul_one]
      match j, hj with
      | 0, _ => simpa using hc
      | 1, _ => simpa using hc
      | 2, _ => simpa using hc
      | 3, _ => simpa using hc
    rw [hdt] at hj1
    have hlt : j < xs.length := by omega
    rw [List.getElem?_eq_getElem hlt] at hj1
    obtain ⟨z, ec, ez, _⟩ := DataW.trod_int Tryd.underlying112 hj1
    have e2 : ((kindsOf i).map (kindD (H := H)))[j]? = some (.lit (.int .i64 z)) := by
      rw [e1, List.getElem?_map, List.getElem?_eq_getElem hlt, ez]
      rfl
    rw [List.getElem?_map] at e2
    obtain ⟨k, hk2, hkd⟩ := Option.map_eq_some_iff.1 e2
    unfold kindD at hkd
    simp only [DataW.lit.injEq, Lit.int.injEq, true_and] at hkd
    injection ec with ec _
    rw [ec, ← hkd, List.getD_eq_getElem?_getD, hk2]
    rfl
  have a0 := hat 0 q1 (by omega) rfl
  have a1 := hat 1 q2 (by omega) rfl
  have a2 := hat 2 q3 (by omega) rfl
  have a3 := hat 3 q4 (by omega) rfl
  have hks : kindsOf i = [(kindsOf i).getD 0 0, (kindsOf i).getD 1 0, (kindsOf i).getD 2 0, (kindsOf i).getD 3 0] := by
    match kindsOf i, hk with
    | [a, b, c, d], _ => rfl
  unfold formL
  rw [hks, es, a0, a1, a2, a3, e0]
  rfl

theorem forms_of {fuel : Nat} {cs : List Value} {p : List MemPlace} (h : DataW.trod enc Tryd.prog w base spare held fuel 116 cs = some (.agg ((List.range 17).map formD), p)) : cs = (List.range 17).flatMap formL := by
  obtain ⟨xs, m, _, ex, hl, hxl, hall⟩ := DataW.trod_array Tryd.underlying116 h
  rw [c70] at hl
  rw [c69] at hall
  injection ex with ex _
  simp only [DataW.agg.injEq] at ex
  refine chunks formL 17 cs hl fun i hi => ?_
  have hi1 := hall i hi
  have hlt : i < xs.length := by omega
  rw [List.getElem?_eq_getElem hlt] at hi1
  have e2 : ((List.range 17).map (formD (H := H)))[i]? = some xs[i].1 := by rw [ex, List.getElem?_map, List.getElem?_eq_getElem hlt]; rfl
  rw [List.getElem?_map, List.getElem?_range hi] at e2
  simp only [Option.map_some, Option.some.injEq] at e2
  obtain ⟨y, hy⟩ : ∃ y, xs[i] = y := ⟨_, rfl⟩
  rw [hy] at hi1 e2
  obtain ⟨y1, y2⟩ := y
  dsimp only at e2
  subst e2
  exact form_of i hi hi1
end

theorem cw_of_laid {l : List (String × DataW Unit)} {W : World} (h : laidMet Tryd.prog l W) (h1 : ("quadrille/code.forms", .agg ((List.range 17).map formD)) ∈ l) : CW W := by
  obtain ⟨ps, hL, _⟩ := h
  obtain ⟨g1, t1, cs1, f1, p1, hg1, ht1, hv1, hd1⟩ := laid_one hL h1
  obtain rfl := Option.some.inj (g_forms.symm.trans hg1)
  obtain rfl := Option.some.inj ((show (Tryd.prog.globals[0]?).map (·.type) = some 116 by kernel_rfl).symm.trans ht1)
  have e1 := forms_of hd1
  refine ⟨?_, ?_⟩
  · rw [hv1]
    congr 1
    exact Array.toList_inj.1 (by rw [e1]; rfl)
  · have b3 : 0 < W.heap.size := World.block_lt_of_cell? W _ ((World.var?_cell hg1 hv1 0).trans (by rw [← Array.getElem?_toList, e1]; rfl))
    try dsimp only at b3
    omega

theorem isInt_wf {n : Int} (h : (Lit.int .i64 n).wf = true) : isInt n := by
  simp [Lit.wf, IntKind.min, IntKind.max, IntKind.signed, IntKind.bits] at h
  unfold isInt
  omega

def ints5 (x : In5) : Prop := isInt x.1 ∧ isInt x.2.1 ∧ isInt x.2.2.1 ∧ isInt x.2.2.2.1 ∧ isInt x.2.2.2.2

/-- A slice of instructions that came in. -/
theorem inss_of {H : Type} {enc : TypeId × Value → H} {w : World} {base : Nat} {spare : Nat → Bool} {held : Bool} {fuel : Nat} {a : Option Addr} {len cap : Nat} {x : DataW H × List MemPlace}
    (h : DataW.trod enc Tryd.prog w base spare held fuel 35 [.slice a len cap] = some x) : ∃ l, Inss w w.heap.size a len l ∧ ∀ i, i < len → ints5 (l.getD i default) := by
  rcases open_structs Tryd.underlying35 Tryd.underlying48 (by kernel_rfl) (by kernel_rfl) h with h0 | ⟨ad, l, c, hcs, _, _, hi⟩
  · simp only [List.cons.injEq, Value.slice.injEq, and_true] at h0
    obtain ⟨rfl, rfl, _⟩ := h0
    exact ⟨[], ⟨rfl, fun h => absurd h (Nat.lt_irrefl 0)⟩, fun i hi => absurd hi (Nat.not_lt_zero _)⟩
  · simp only [List.cons.injEq, Value.slice.injEq, and_true] at hcs
    obtain ⟨rfl, rfl, _⟩ := hcs
    have hall : ∀ i, i < len → ∃ s : In5, w.cell? ((ad.add (i * 5)).add 0) = some (.int .i64 s.1) ∧ w.cell? ((ad.add (i * 5)).add 1) = some (.int .i64 s.2.1) ∧ w.cell? ((ad.add (i * 5)).add 2) = some (.int .i64 s.2.2.1) ∧ w.cell? ((ad.add (i * 5)).add 3) = some (.int .i64 s.2.2.2.1) ∧ w.cell? ((ad.add (i * 5)).add 4) = some (.int .i64 s.2.2.2.2) ∧ ints5 s := by
      intro i hlt
      obtain ⟨v0, y0, n0, c0, t0⟩ := hi i hlt 0 _ rfl
      obtain ⟨v1, y1, n1, c1, t1⟩ := hi i hlt 1 _ rfl
      obtain ⟨v2, y2, n2, c2, t2⟩ := hi i hlt 2 _ rfl
      obtain ⟨v3, y3, n3, c3, t3⟩ := hi i hlt 3 _ rfl
      obtain ⟨v4, y4, n4, c4, t4⟩ := hi i hlt 4 _ rfl
      obtain ⟨z0, e0, _, w0⟩ := DataW.trod_int Tryd.underlying3 t0
      obtain ⟨z1, e1, _, w1⟩ := DataW.trod_int Tryd.underlying3 t1
      obtain ⟨z2, e2, _, w2⟩ := DataW.trod_int Tryd.underlying3 t2
      obtain ⟨z3, e3, _, w3⟩ := DataW.trod_int Tryd.underlying3 t3
      obtain ⟨z4, e4, _, w4⟩ := DataW.trod_int Tryd.underlying3 t4
      simp only [List.cons.injEq, and_true] at e0 e1 e2 e3 e4
      subst e0 e1 e2 e3 e4
      exact ⟨(z0, z1, z2, z3, z4), c0, c1, c2, c3, c4, isInt_wf w0, isInt_wf w1, isInt_wf w2, isInt_wf w3, isInt_wf w4⟩
    obtain ⟨xs, hl, hx⟩ := choose_list len hall
    refine ⟨xs, ⟨hl, fun h0 => ?_⟩, fun i hi => (hx i hi).2.2.2.2.2⟩
    obtain ⟨b, off, spot⟩ := ad
    have c0 := (hx 0 h0).1
    have hspot : spot = none := by simpa [Addr.add] using World.cell?_spot c0
    subst hspot
    have hlt : b < w.heap.size := by
      have := World.block_lt_of_cell? w _ c0
      simpa [Addr.add] using this
    have ha : ∀ i j, ((⟨b, off, none⟩ : Addr).add i).add j = ⟨b, off + i + j, none⟩ := by
      intro i j
      unfold Addr.add
      by_cases hi0 : i = 0 <;> by_cases hj0 : j = 0 <;> simp [hi0, hj0]
    refine ⟨b, off, rfl, hlt, fun i hi2 => ?_⟩
    obtain ⟨h1, h2, h3, h4, h5, _⟩ := hx i hi2
    rw [ha] at h1 h2 h3 h4 h5
    exact ⟨h1, h2, h3, h4, h5⟩

/-- How many elements the reading of a slice of instructions has. -/
theorem len_of_slice {H : Type} {enc : TypeId × Value → H} {w : World} {base : Nat} {spare : Nat → Bool} {held : Bool} {fuel : Nat} {a : Option Addr} {len cap : Nat} {x : DataW H × List MemPlace}
    (h : DataW.trod enc Tryd.prog w base spare held fuel 35 [.slice a len cap] = some x) : len = 0 ∨ ∃ es sp, x.1 = .slice es sp ∧ es.length = len := by
  rcases open_slice Tryd.underlying35 h with ⟨h0, _⟩ | ⟨a', l, c, m, n, D, Pl, hcs, _, _, _, _, hx, _⟩
  · simp only [List.cons.injEq, Value.slice.injEq, and_true] at h0
    exact .inl h0.2.1
  · simp only [List.cons.injEq, Value.slice.injEq, and_true] at hcs
    obtain ⟨_, rfl, _⟩ := hcs
    exact .inr ⟨_, _, by rw [hx], by simp⟩
end Go.Proofs.YtkmidefgmefohaaDoor
