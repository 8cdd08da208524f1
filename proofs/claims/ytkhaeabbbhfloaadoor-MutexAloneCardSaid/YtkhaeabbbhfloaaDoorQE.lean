/-
  How an argument that is a slice of structs (fields of one cell each) is opened. From what a row lists to the world in which package code runs; a slice of instructions that came in. Programs that came in: a slice of slices of instructions.
-/
import Derived.Test.YtkhaeabbbhfloaaDoorQA
import Derived.Deep.Slices
import Derived.Deep.Fields
import Derived.ChangeSame
import Derived.Test.YtkhaeabbbhfloaaDoorQB
import Derived.LaidLaws
import Derived.Lib.LaidTab
import Derived.Lib.LaidIn
import Derived.OpenShut
namespace Go.Proofs.YtkhaeabbbhfloaaDoor
set_option maxRecDepth 100000
open Go.ChangeShapes Go.WideShapes Go.Deep Go.RowKit

theorem choose_list {α : Type} [Inhabited α] {Q : Nat → α → Prop} (n : Nat) (h : ∀ i, i < n → ∃ x, Q i x) : ∃ xs : List α, xs.length = n ∧ ∀ i, i < n → Q i (xs.getD i default) := by
  induction n with
  | zero => exact ⟨[], rfl, fun i hi => absurd hi (Nat.not_lt_zero _)⟩
  | succ n ih =>
    obtain ⟨xs, hl, hx⟩ := ih fun i hi => h i (by omega)
    obtain ⟨x, hq⟩ := h n (by omega)
    refine ⟨xs ++ [x], by simp [hl], fun i hi => ?_⟩
    by_cases e : i < n
    · have := hx i e
      rw [List.getD_eq_getElem?_getD, List.getElem?_append_left (by omega), ← List.getD_eq_getElem?_getD]
      exact this
    · obtain rfl : i = n := by omega
      rw [List.getD_eq_getElem?_getD, List.getElem?_append_right (by omega), hl, Nat.sub_self]
      exact hq

section
variable {H : Type} {enc : TypeId × Value → H} {P : Program} {w : World} {base : Nat} {spare : Nat → Bool} {held : Bool}

theorem open_structs {t e : TypeId} {fs : Array Field} {fuel : Nat} {cs : List Value} {x : DataW H × List MemPlace} (ht : P.underlying t = some (.slice e)) (he : P.underlying e = some (.struct fs))
    (hone : oneCellFields P fs = true) (hC : P.cellsOf e = fs.size) (h : DataW.trod enc P w base spare held fuel t cs = some x) :
    (cs = [.slice none 0 0]) ∨
    ∃ (a : Addr) (len cap : Nat), cs = [.slice (some a) len cap] ∧ len ≤ cap ∧ cap ≤ maxLen ∧
      ∀ i, i < len → ∀ (j : Nat) (f : Field), fs[j]? = some f → ∃ v y n, w.cell? ((a.add (i * fs.size)).add j) = some v ∧ DataW.trod enc P w base spare held n f.type [v] = some y := by
  rcases open_slice ht h with ⟨h0, _⟩ | ⟨a, len, cap, m, n, D, Pl, rfl, _, hl, hm, hmm, _, hi⟩
  · exact .inl h0
  · refine .inr ⟨a, len, cap, rfl, hl, hm, fun i hlt j f hf => ?_⟩
    have him : i < m := by
      rw [hmm]
      split <;> omega
    obtain ⟨cs', hc, ht'⟩ := hi i him
    rw [hC] at hc
    obtain ⟨ys, n', _, _, hlen, hyl, hfield⟩ := DataW.trod_struct he ht'
    obtain ⟨_, hcl, hat⟩ := World.cells?_some hc
    obtain ⟨hoff, hone1⟩ := hone_of hone j f hf
    have hj : j < fs.size := (Array.getElem?_eq_some_iff.1 hf).1
    have hget : cs'[j]? = some (cs'[j]'(by omega)) := List.getElem?_eq_getElem (by omega)
    have h1 := hfield j f hf
    rw [hoff, hone1] at h1
    have hcut : (cs'.drop j).take 1 = [cs'[j]'(by omega)] := by
      rw [List.drop_eq_getElem_cons (by omega)]
      rfl
    rw [hcut, show ys[j]? = some (ys[j]'(by omega)) from List.getElem?_eq_getElem (by omega)] at h1
    exact ⟨_, _, _, (hat j hj).trans hget, h1⟩
end

end Go.Proofs.YtkhaeabbbhfloaaDoor

namespace Go.Proofs.YtkhaeabbbhfloaaDoor
set_option maxRecDepth 100000
open Go.ChangeShapes Go.WideShapes Go.Deep Go.RowKit

theorem laid_one {P : Program} {w : World} {n : String} {d : DataW Unit} : ∀ {l : List (String × DataW Unit)} {ps : List MemPlace}, DataW.LaidVars P w l ps → (n, d) ∈ l →
    ∃ g t cs fuel p, P.globalNamed n = some g ∧ (P.globals[g]?).map (·.type) = some t ∧ w.var? P n = some cs ∧ DataW.trod (fun _ => ()) P w 0 (fun _ => true) false fuel t cs.toList = some (d, p)
  | [], _, _, h => by cases h
  | (n', d') :: r, ps, hl, h => by
    obtain ⟨g, t, cs, fuel, p, q, h1, h2, h3, h4, h5, _⟩ := hl
    rcases List.mem_cons.1 h with e | h
    · injection e with e1 e2
      subst e1 e2
      exact ⟨g, t, cs, fuel, p, h1, h2, h3, h4⟩
    · exact laid_one h5 h

theorem chunks {α : Type} (f : Nat → List α) : ∀ (n : Nat) (cs : List α), cs.length = n * 5 → (∀ i, i < n → (cs.drop (i * 5)).take 5 = f i) → cs = (List.range n).flatMap f
  | 0, cs, h, _ => by
    have e : cs = [] := List.eq_nil_of_length_eq_zero (by omega)
    rw [e]
    rfl
  | n + 1, cs, h, hf => by
    have h1 : cs = cs.take (n * 5) ++ cs.drop (n * 5) := (List.take_append_drop _ _).symm
    have h2 : cs.drop (n * 5) = f n := by
      rw [← hf n (by omega)]
      exact (List.take_of_length_le (by rw [List.length_drop]; omega)).symm
    have h3 := chunks f n (cs.take (n * 5)) (by rw [List.length_take]; omega) (fun i hi => by
      rw [List.drop_take, List.take_take, Nat.min_eq_left (by omega)]
      exact hf i (by omega))
    rw [List.range_succ, List.flatMap_append, ← h3]
    rw [show [n].flatMap f = f n by simp, ← h2]
    exact h1

section
variable {H : Type} {enc : TypeId × Value → H} {w : World} {base : Nat} {spare : Nat → Bool} {held : Bool}

def kindD (k : Nat) : DataW H := .lit (.int .i64 (k : Int))
def formD (i : Nat) : DataW H := .agg [.lit (.string (nameOf i)), .agg ((kindsOf i).map kindD)]
def formL (i : Nat) : List Value := .string ⟨(nameOf i).toArray⟩ :: (kindsOf i).map fun (k : Nat) => .int .i64 (k : Int)

theorem c69 : Tryd.prog.cellsOf 138 = 5 := by kernel_rfl
theorem c66 : Tryd.prog.cellsOf 135 = 1 := by kernel_rfl
theorem c9 : Tryd.prog.cellsOf 9 = 1 := by kernel_rfl
theorem c70 : Tryd.prog.cellsOf 139 = 85 := by kernel_rfl

theorem form_of {fuel : Nat} {cs : List Value} {p : List MemPlace} (i : Nat) (hi : i < 17) (h : DataW.trod enc Tryd.prog w base spare held fuel 138 cs = some (formD i, p)) : cs = formL i := by
  obtain ⟨y0, y1, n, hx, hl, h0, h1⟩ := trod_struct2 Tryd.underlying138 h
  rw [c69] at hl
  obtain ⟨q0, q1, q2, q3, q4, rfl⟩ : ∃ q0 q1 q2 q3 q4, cs = [q0, q1, q2, q3, q4] := by
    match cs, hl with
    | [a, b, c, d, e], _ => exact ⟨a, b, c, d, e, rfl⟩
  have h0' : DataW.trod enc Tryd.prog w base spare held n 9 [q0] = some y0 := h0
  have h1' : DataW.trod enc Tryd.prog w base spare held n 136 [q1, q2, q3, q4] = some y1 := h1
  obtain ⟨s, es, ey, _⟩ := DataW.trod_string Tryd.underlying9 h0'
  obtain ⟨xs, m, _, ex, _, hxl, hall⟩ := DataW.trod_array Tryd.underlying136 h1'
  rw [c66] at hall
  have hk := kinds_len i hi
  injection hx with hx _
  unfold formD at hx
  simp only [DataW.agg.injEq, List.cons.injEq, and_true] at hx
  obtain ⟨e0, e1⟩ := hx
  rw [ey] at e0
  simp only [DataW.lit.injEq, Lit.string.injEq] at e0
  injection es with es _
  rw [ex] at e1
  simp only [DataW.agg.injEq] at e1
  have hat : ∀ j c, j < 4 → [q1, q2, q3, q4][j]? = some c → c = .int .i64 ((kindsOf i).getD j 0 : Nat) := by
    intro j c hj hc
    have hj1 := hall j hj
    have hdt : (([q1, q2, q3, q4] : List Value).drop (j * 1)).take 1 = [c] := by
      rw [Nat.mul_one]
      match j, hj with
      | 0, _ => simpa using hc
      | 1, _ => simpa using hc
      | 2, _ => simpa using hc
      | 3, _ => simpa using hc
    rw [hdt] at hj1
    have hlt : j < xs.length := by omega
    rw [List.getElem?_eq_getElem hlt] at hj1
    obtain ⟨z, ec, ez, _⟩ := DataW.trod_int Tryd.underlying135 hj1
    have e2 : ((kindsOf i).map (kindD (H := H)))[j]? = some (.lit (.int .i64 z)) := by
      rw [e1, List.getElem?_map, List.getElem?_eq_getElem hlt, ez]
      rfl
    rw [List.getElem?_map] at e2
    obtain ⟨k, hk2, hkd⟩ := Option.map_eq_some_iff.1 e2
    unfold kindD at hkd
    simp only [DataW.lit.injEq, Lit.int.injEq, true_and] at hkd
    injection ec with ec _
    rw [ec, ← hkd, List.getD_eq_getElem?_getD, hk2]
    rfl
  have a0 := hat 0 q1 (by omega) rfl
  have a1 := hat 1 q2 (by omega) rfl
  have a2 := hat 2 q3 (by omega) rfl
  have a3 := hat 3 q4 (by omega) rfl
  have hks : kindsOf i = [(kindsOf i).getD 0 0, (kindsOf i).getD 1 0, (kindsOf i).getD 2 0, (kindsOf i).getD 3 0] := by
    match kindsOf i, hk with
    | [a, b, c, d], _ => rfl
  unfold formL
  rw [hks, es, a0, a1, a2, a3, e0]
  rfl

theorem forms_of {fuel : Nat} {cs : List Value} {p : List MemPlace} (h : DataW.trod enc Tryd.prog w base spare held fuel 139 cs = some (.agg ((List.range 17).map formD), p)) : cs = (List.range 17).flatMap formL := by
  obtain ⟨xs, m, _, ex, hl, hxl, hall⟩ := DataW.trod_array Tryd.underlying139 h
  rw [c70] at hl
  rw [c69] at hall
  injection ex with ex _
  simp only [DataW.agg.injEq] at ex
  refine chunks formL 17 cs hl fun i hi => ?_
  have hi1 := hall i hi
  have hlt : i < xs.length := by omega
  rw [List.getElem?_eq_getElem hlt] at hi1
  have e2 : ((List.range 17).map (formD (H := H)))[i]? = some xs[i].1 := by rw [ex, List.getElem?_map, List.getElem?_eq_getElem hlt]; rfl
  rw [List.getElem?_map, List.getElem?_range hi] at e2
  simp only [Option.map_some, Option.some.injEq] at e2
  obtain ⟨y, hy⟩ : ∃ y, xs[i] = y := ⟨_, rfl⟩
  rw [hy] at hi1 e2
  obtain ⟨y1, y2⟩ := y
  dsimp only at e2
  subst e2
  exact form_of i hi hi1
end

theorem cw_of_laid {l : List (String × DataW Unit)} {W : World} (h : laidMet Tryd.prog l W) (h1 : ("quadrille/code.forms", .agg ((List.range 17).map formD)) ∈ l) : CW W := by
  obtain ⟨ps, hL, _⟩ := h
  obtain ⟨g1, t1, cs1, f1, p1, hg1, ht1, hv1, hd1⟩ := laid_one hL h1
  obtain rfl := Option.some.inj (g_forms.symm.trans hg1)
  obtain rfl := Option.some.inj ((show (Tryd.prog.globals[0]?).map (·.type) = some 139 by kernel_rfl).symm.trans ht1)
  have e1 := forms_of hd1
  refine ⟨?_, ?_⟩
  · rw [hv1]
    congr 1
    exact Array.toList_inj.1 (by rw [e1]; rfl)
  · have b3 : 0 < W.heap.size := World.block_lt_of_cell? W _ ((World.var?_cell hg1 hv1 0).trans (by rw [← Array.getElem?_toList, e1]; rfl))
    try dsimp only at b3
    omega

end Go.Proofs.YtkhaeabbbhfloaaDoor

namespace Go.Proofs.YtkhaeabbbhfloaaDoor
set_option maxRecDepth 100000
open Go.ChangeShapes Go.WideShapes Go.Deep Go.RowKit

/-- A slice of slices of instructions. -/
structure Progs (w : World) (B : Nat) (A : Option Addr) (n : Nat) (ps : List (List In5)) : Prop where
  len : ps.length = n
  row : 0 < n → ∃ b off, A = some ⟨b, off, none⟩ ∧ b < B ∧ ∀ i, i < n → ∃ Ai ci, w.cell? ⟨b, off + i, none⟩ = some (.slice Ai (ps.getD i []).length ci) ∧ Inss w B Ai (ps.getD i []).length (ps.getD i [])

theorem Progs.keep {w w' : World} {B B' : Nat} {A : Option Addr} {n : Nat} {ps : List (List In5)} (h : Progs w B A n ps) (hB : B ≤ B') (hc : ∀ p : Addr, p.block < B → w'.cell? p = w.cell? p) : Progs w' B' A n ps :=
  ⟨h.len, fun h0 => by
    obtain ⟨b, off, e, hb, hx⟩ := h.row h0
    refine ⟨b, off, e, by omega, fun i hi => ?_⟩
    obtain ⟨Ai, ci, h1, h2⟩ := hx i hi
    exact ⟨Ai, ci, (hc _ hb).trans h1, h2.keep hB hc⟩⟩
theorem Progs.below {w w' : World} {B : Nat} {A : Option Addr} {n : Nat} {ps : List (List In5)} (h : Progs w B A n ps) (hb : Below B w w') : Progs w' B A n ps :=
  h.keep (Nat.le_refl _) fun _ hp => hb.cell hp

end Go.Proofs.YtkhaeabbbhfloaaDoor
