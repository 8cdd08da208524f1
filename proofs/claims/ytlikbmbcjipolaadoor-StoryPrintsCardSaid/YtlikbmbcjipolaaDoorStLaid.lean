/-
  From what a row lists to the worlds in which package story runs; events that came in, with their numbers.
-/
import Derived.Test.YtlikbmbcjipolaaDoorStWorld
import Derived.Test.YtlikbmbcjipolaaDoorOpenE
import Derived.LaidLaws
import Derived.Lib.LaidTab
import Derived.Lib.LaidIn
namespace Go.Proofs.YtlikbmbcjipolaaDoor
set_option maxRecDepth 100000
open Go.ChangeShapes Go.WideShapes Go.Deep Go.RowKit
set_option linter.unusedVariables false
set_option linter.unusedSimpArgs false

theorem st_laid_one {P : Program} {w : World} {n : String} {d : DataW Unit} : ∀ {l : List (String × DataW Unit)} {ps : List MemPlace}, DataW.LaidVars P w l ps → (n, d) ∈ l →
    ∃ g t cs fuel p, P.globalNamed n = some g ∧ (P.globals[g]?).map (·.type) = some t ∧ w.var? P n = some cs ∧ DataW.trod (fun _ => ()) P w 0 (fun _ => true) false fuel t cs.toList = some (d, p)
  | [], _, _, h => by cases h
  | (n', d') :: r, ps, hl, h => by
    obtain ⟨g, t, cs, fuel, p, q, h1, h2, h3, h4, h5, _⟩ := hl
    rcases List.mem_cons.1 h with e | h
    · injection e with e1 e2
      subst e1 e2
      exact ⟨g, t, cs, fuel, p, h1, h2, h3, h4⟩
    · exact st_laid_one h5 h

def sayD {H : Type} : DataW H := .agg [.lit (.string [99, 97, 109, 101]), .lit (.string [103, 111, 110, 101]), .lit (.string [116, 111, 108, 100])]
theorem say_of {H : Type} {enc : TypeId × Value → H} {w : World} {base : Nat} {spare : Nat → Bool} {held : Bool} {fuel : Nat} {cs : List Value} {p : List MemPlace} (h : DataW.trod enc Tryd.prog w base spare held fuel 84 cs = some (sayD, p)) : cs = sayCells.toList := by
  obtain ⟨xs, m, _, ex, hl, hxl, hall⟩ := DataW.trod_array Tryd.underlying84 h
  rw [show Tryd.prog.cellsOf 84 = 3 by kernel_rfl] at hl
  rw [show Tryd.prog.cellsOf 9 = 1 by kernel_rfl] at hall
  injection ex with ex _
  unfold sayD at ex
  simp only [DataW.agg.injEq] at ex
  obtain ⟨q0, q1, q2, rfl⟩ : ∃ q0 q1 q2, cs = [q0, q1, q2] := by
    match cs, hl with
    | [a, b, c], _ => exact ⟨a, b, c, rfl⟩
  have hat : ∀ j (c : Value) (s : List UInt8), j < 3 → ((([q0, q1, q2] : List Value).drop (j * 1)).take 1 = [c]) → ([[99, 97, 109, 101], [103, 111, 110, 101], [116, 111, 108, 100]] : List (List UInt8))[j]? = some s → c = .string ⟨s.toArray⟩ := by
    intro j c s hj hdt hs
    have hj1 := hall j hj
    rw [hdt] at hj1
    have hlt : j < xs.length := by omega
    rw [List.getElem?_eq_getElem hlt] at hj1
    obtain ⟨z, ec, ez, _⟩ := DataW.trod_string Tryd.underlying9 hj1
    have e2 : (xs.map (·.1))[j]? = some (.lit (.string z.data.toList)) := by
      rw [List.getElem?_map, List.getElem?_eq_getElem hlt, ez]
      rfl
    rw [← ex] at e2
    have e3 : ([.lit (.string [99, 97, 109, 101]), .lit (.string [103, 111, 110, 101]), .lit (.string [116, 111, 108, 100])] : List (DataW H))[j]? = some (.lit (.string s)) := by
      match j, hj with
      | 0, _ => injection hs with hs; rw [← hs]; rfl
      | 1, _ => injection hs with hs; rw [← hs]; rfl
      | 2, _ => injection hs with hs; rw [← hs]; rfl
    rw [e3] at e2
    injection e2 with e2
    injection e2 with e2
    injection e2 with e2
    injection ec with ec _
    rw [ec, e2]
  rw [hat 0 q0 _ (by decide) rfl rfl, hat 1 q1 _ (by decide) rfl rfl, hat 2 q2 _ (by decide) rfl rfl]
  rfl

theorem sp_of_laid {l : List (String × DataW Unit)} {W : World} (h : laidMet Tryd.prog l W) (h1 : ("quadrille/story.names", sayD) ∈ l) (h2 : ("internal/strconv.uint64pow10", Lib.tabData .u64 Lib.pow10Tab) ∈ l) : SP W := by
  obtain ⟨ps, hL, _⟩ := h
  obtain ⟨g1, t1, cs1, f1, p1, hg1, ht1, hv1, hd1⟩ := st_laid_one hL h1
  obtain rfl := Option.some.inj (g_sayn.symm.trans hg1)
  obtain rfl := Option.some.inj ((show (Tryd.prog.globals[0]?).map (·.type) = some 84 by kernel_rfl).symm.trans ht1)
  obtain ⟨g2, t2, cs2, f2, p2, hg2, ht2, hv2, hd2⟩ := st_laid_one hL h2
  obtain rfl := Option.some.inj (g_spow.symm.trans hg2)
  obtain rfl := Option.some.inj ((show (Tryd.prog.globals[2]?).map (·.type) = some 134 by kernel_rfl).symm.trans ht2)
  have e1 := say_of hd1
  have e2 := Lib.cells_of_tab Tryd.underlying134 Tryd.underlying105 (by kernel_rfl) (by kernel_rfl) hd2
  refine ⟨?_, ?_, ?_⟩
  · rw [hv1]
    congr 1
    exact Array.toList_inj.1 e1
  · unfold Lib.TabIs
    rw [hv2]
    congr 1
    exact Array.toList_inj.1 (by rw [e2])
  · have b3 : 0 < W.heap.size := World.block_lt_of_cell? W _ ((World.var?_cell hg1 hv1 0).trans (by rw [← Array.getElem?_toList, e1]; rfl))
    have b4 : 2 < W.heap.size := World.block_lt_of_cell? W _ ((World.var?_cell hg2 hv2 0).trans (by rw [← Array.getElem?_toList, e2]; rfl))
    try dsimp only at b3 b4
    omega
section
variable {H : Type} {enc : TypeId × Value → H} {w : World} {base : Nat} {spare : Nat → Bool} {held : Bool} {fuel : Nat} {a : Option Addr} {len cap : Nat} {x : DataW H × List MemPlace}
theorem st_isInt {n : Int} (h : (Lit.int .i64 n).wf = true) : isInt n := by
  simp [Lit.wf, IntKind.min, IntKind.max, IntKind.signed, IntKind.bits] at h
  unfold isInt
  omega
def EvI (w : World) (_B : Nat) (A : Option Addr) (n : Nat) (l : List Ev4) : Prop := l.length = n ∧ EvRow w A n l ∧ ∀ e ∈ l, intE e
theorem eventsI_of (h : DataW.trod enc Tryd.prog w base spare held fuel 41 [.slice a len cap] = some x) : ∃ l : List Ev4, EvI w w.heap.size a len l := by
  rcases open_structs Tryd.underlying41 Tryd.underlying62 (by kernel_rfl) (by kernel_rfl) h with h0 | ⟨ad, l, c, hcs, _, _, hi⟩
  · simp only [List.cons.injEq, Value.slice.injEq, and_true] at h0
    obtain ⟨rfl, rfl, _⟩ := h0
    exact ⟨[], rfl, (fun i hi => absurd hi (Nat.not_lt_zero _)), fun e he => by cases he⟩
  · simp only [List.cons.injEq, Value.slice.injEq, and_true] at hcs
    obtain ⟨rfl, rfl, _⟩ := hcs
    have hall : ∀ i, i < len → ∃ s : Ev4, w.cell? ((ad.add (i * 4)).add 0) = some (.int .i64 s.1) ∧ w.cell? ((ad.add (i * 4)).add 1) = some (.int .i64 s.2.1) ∧ w.cell? ((ad.add (i * 4)).add 2) = some (.int .i64 s.2.2.1) ∧ w.cell? ((ad.add (i * 4)).add 3) = some (.int .i64 s.2.2.2) ∧ intE s := by
      intro i hlt
      obtain ⟨v0, y0, n0, c0, t0⟩ := hi i hlt 0 _ rfl
      obtain ⟨v1, y1, n1, c1, t1⟩ := hi i hlt 1 _ rfl
      obtain ⟨v2, y2, n2, c2, t2⟩ := hi i hlt 2 _ rfl
      obtain ⟨v3, y3, n3, c3, t3⟩ := hi i hlt 3 _ rfl
      obtain ⟨z0, e0, _, g0⟩ := DataW.trod_int Tryd.underlying3 t0
      obtain ⟨z1, e1, _, g1⟩ := DataW.trod_int Tryd.underlying3 t1
      obtain ⟨z2, e2, _, g2⟩ := DataW.trod_int Tryd.underlying3 t2
      obtain ⟨z3, e3, _, g3⟩ := DataW.trod_int Tryd.underlying3 t3
      simp only [List.cons.injEq, and_true] at e0 e1 e2 e3
      subst e0 e1 e2 e3
      exact ⟨(z0, z1, z2, z3), c0, c1, c2, c3, st_isInt g0, st_isInt g1, st_isInt g2, st_isInt g3⟩
    obtain ⟨xs, hl, hx⟩ := choose_list len hall
    refine ⟨xs, hl, fun i hi2 => ?_, fun e he => ?_⟩
    · obtain ⟨b, off, spot⟩ := ad
      have c0 := (hx 0 (by omega)).1
      have hspot : spot = none := by simpa [Addr.add] using World.cell?_spot c0
      subst hspot
      have ha : ∀ i j, ((⟨b, off, none⟩ : Addr).add i).add j = ⟨b, off + i + j, none⟩ := by
        intro i j
        unfold Addr.add
        by_cases hi0 : i = 0 <;> by_cases hj0 : j = 0 <;> simp [hi0, hj0]
      obtain ⟨h1, h2, h3, h4, _⟩ := hx i hi2
      rw [ha] at h1 h2 h3 h4
      exact ⟨b, off, rfl, h1, h2, h3, h4⟩
    · obtain ⟨k, hk, rfl⟩ := List.mem_iff_getElem.1 he
      have := (hx k (by omega)).2.2.2.2
      rwa [List.getD_eq_getElem?_getD, List.getElem?_eq_getElem hk] at this
end
end Go.Proofs.YtlikbmbcjipolaaDoor
