/-
  From what a row lists to the worlds in which package story runs; events that came in, with their numbers.
-/
import Derived.Test.YtgkfhihnfllmhaaGreatDoorQXT
import Derived.Test.YtgkfhihnfllmhaaGreatDoorQXE3
import Derived.LaidLaws
import Derived.Lib.LaidTab
import Derived.Lib.LaidIn
namespace Go.Proofs.YtgkfhihnfllmhaaGreatDoor
set_option maxRecDepth 100000
open Go.ChangeShapes Go.WideShapes Go.Deep Go.RowKit
set_option linter.unusedVariables false
set_option linter.unusedSimpArgs false

theorem st_laid_one {P : Program} {w : World} {n : String} {d : DataW Unit} : ∀ {l : List (String × DataW Unit)} {ps : List MemPlace}, DataW.LaidVars P w l ps → (n, d) ∈ l →
    ∃ g t cs fuel p, P.globalNamed n = some g ∧ (P.globals[g]?).map (·.type) = some t ∧ w.var? P n = some cs ∧ DataW.trod (fun _ => ()) P w 0 (fun _ => true) false fuel t cs.toList = some (d, p)
  | [], _, _, h => by cases h
  | (n', d') :: r, ps, hl, h => by
    obtain ⟨g, t, cs, fuel, p, q, h1, h2, h3, h4, h5, _⟩ := hl
    rcases List.mem_cons.1 h with e | h
    · injection e with e1 e2
      subst e1 e2
      exact ⟨g, t, cs, fuel, p, h1, h2, h3, h4⟩
    · exact st_laid_one h5 h

def sayD {H : Type} : DataW H := .agg [.lit (.string [99, 97, 109, 101]), .lit (.string [103, 111, 110, 101]), .lit (.string [116, 111, 108, 100])]
theorem say_of {H : Type} {enc : TypeId × Value → H} {w : World} {base : Nat} {spare : Nat → Bool} {held : Bool} {fuel : Nat} {cs : List Value} {p : List MemPlace} (h : DataW.trod enc Tryz.prog w base spare held fuel 173 cs = some (sayD, p)) : cs = sayCells.toList := by
  obtain ⟨xs, m, _, ex, hl, hxl, hall⟩ := DataW.trod_array Tryz.underlying173 h
  rw [show Tryz.prog.cellsOf 173 = 3 by kernel_rfl] at hl
  rw [show Tryz.prog.cellsOf 9 = 1 by kernel_rfl] at hall
  injection ex with ex _
  unfold sayD at ex
  simp only [DataW.agg.injEq] at ex
  obtain ⟨q0, q1, q2, rfl⟩ : ∃ q0 q1 q2, cs = [q0, q1, q2] := by
    match cs, hl with
    | [a, b, c], _ => exact ⟨a, b, c, rfl⟩
  have hat : ∀ j (c : Value) (s : List UInt8), j < 3 → ((([q0, q1, q2] : List Value).drop (j * 1)).take 1 = [c]) → ([[99, 97, 109, 101], [103, 111, 110, 101], [116, 111, 108, 100]] : List (List UInt8))[j]? = some s → c = .string ⟨s.toArray⟩ := by
    intro j c s hj hdt hs
    have hj1 := hall j hj
    rw [hdt] at hj1
    have hlt : j < xs.length := by omega
    rw [List.getElem?_eq_getElem hlt] at hj1
    obtain ⟨z, ec, ez, _⟩ := DataW.trod_string Tryz.underlying9 hj1
    have e2 : (xs.map (·.1))[j]? = some (.lit (.string z.data.toList)) := by
      rw [List.getElem?_map, List.getElem?_eq_getElem hlt, ez]
      rfl
    rw [← ex] at e2
    have e3 : ([.lit (.string [99, 97, 109, 101]), .lit (.string [103, 111, 110, 101]), .lit (.string [116, 111, 108, 100])] : List (DataW H))[j]? = some (.lit (.string s)) := by
      match j, hj with
      | 0, _ => injection hs with hs; rw [← hs]; rfl
      | 1, _ => injection hs with hs; rw [← hs]; rfl
      | 2, _ => injection hs with hs; rw [← hs]; rfl
    rw [e3] at e2
    injection e2 with e2
    injection e2 with e2
    injection e2 with e2
    injection ec with ec _
    rw [ec, e2]
  rw [hat 0 q0 _ (by decide) rfl rfl, hat 1 q1 _ (by decide) rfl rfl, hat 2 q2 _ (by decide) rfl rfl]
  rfl

theorem sp_of_laid {l : List (String × DataW Unit)} {W : World} (h : laidMet Tryz.prog l W) (h1 : ("quadrille/story.names", sayD) ∈ l) (h2 : ("internal/strconv.uint64pow10", Lib.tabData .u64 Lib.pow10Tab) ∈ l) : SP W := by
  obtain ⟨ps, hL, _⟩ := h
  obtain ⟨g1, t1, cs1, f1, p1, hg1, ht1, hv1, hd1⟩ := st_laid_one hL h1
  obtain rfl := Option.some.inj (g_sayn.symm.trans hg1)
  obtain rfl := Option.some.inj ((show (Tryz.prog.globals[0]?).map (·.type) = some 173 by kernel_rfl).symm.trans ht1)
  obtain ⟨g2, t2, cs2, f2, p2, hg2, ht2, hv2, hd2⟩ := st_laid_one hL h2
  obtain rfl := Option.some.inj (g_spow.symm.trans hg2)
  obtain rfl := Option.some.inj ((show (Tryz.prog.globals[4]?).map (·.type) = some 313 by kernel_rfl).symm.trans ht2)
  have e1 := say_of hd1
  have e2 := Lib.cells_of_tab Tryz.underlying313 Tryz.underlying43 (by kernel_rfl) (by kernel_rfl) hd2
  refine ⟨?_, ?_, ?_⟩
  · rw [hv1]
    congr 1
    exact Array.toList_inj.1 e1
  · unfold Lib.TabIs
    rw [hv2]
    congr 1
    exact Array.toList_inj.1 (by rw [e2])
  · have b3 : 0 < W.heap.size := World.block_lt_of_cell? W _ ((World.var?_cell hg1 hv1 0).trans (by rw [← Array.getElem?_toList, e1]; rfl))
    have b4 : 4 < W.heap.size := World.block_lt_of_cell? W _ ((World.var?_cell hg2 hv2 0).trans (by rw [← Array.getElem?_toList, e2]; rfl))
    try dsimp only at b3 b4
    omega
theorem sr_of_laid {l : List (String × DataW Unit)} {W : World} (h : laidMet Tryz.prog l W) (h1 : ("quadrille/story.names", sayD) ∈ l) (h2 : ("internal/strconv.uint64pow10", Lib.tabData .u64 Lib.pow10Tab) ∈ l)
    {nm1 nm2 : String} {d1 d2 : DataW Unit} (h3 : ("strconv.ErrSyntax", .iface nm1 d1) ∈ l) (h4 : ("strconv.ErrRange", .iface nm2 d2) ∈ l) : SR W := by
  refine ⟨sp_of_laid h h1 h2, ?_, ?_⟩
  · obtain ⟨ps, hL, _⟩ := h
    obtain ⟨g3, t3, cs3, f3, p3, hg3, ht3, hv3, hd3⟩ := st_laid_one hL h3
    obtain rfl := Option.some.inj ((show Tryz.prog.globalNamed "strconv.ErrSyntax" = some 5 by kernel_rfl).symm.trans hg3)
    obtain rfl := Option.some.inj ((show (Tryz.prog.globals[5]?).map (·.type) = some 29 by kernel_rfl).symm.trans ht3)
    obtain ⟨_, u3, v3, e3, _, _⟩ := iface_of_trod Tryz.underlying29 hd3
    exact ⟨u3, v3, by rw [World.var?_cell hg3 hv3 0, ← Array.getElem?_toList, e3]; rfl⟩
  · obtain ⟨ps, hL, _⟩ := h
    obtain ⟨g4, t4, cs4, f4, p4, hg4, ht4, hv4, hd4⟩ := st_laid_one hL h4
    obtain rfl := Option.some.inj ((show Tryz.prog.globalNamed "strconv.ErrRange" = some 6 by kernel_rfl).symm.trans hg4)
    obtain rfl := Option.some.inj ((show (Tryz.prog.globals[6]?).map (·.type) = some 29 by kernel_rfl).symm.trans ht4)
    obtain ⟨_, u4, v4, e4, _, _⟩ := iface_of_trod Tryz.underlying29 hd4
    exact ⟨u4, v4, by rw [World.var?_cell hg4 hv4 0, ← Array.getElem?_toList, e4]; rfl⟩

section
variable {H : Type} {enc : TypeId × Value → H} {w : World} {base : Nat} {spare : Nat → Bool} {held : Bool} {fuel : Nat} {a : Option Addr} {len cap : Nat} {x : DataW H × List MemPlace}
end
end Go.Proofs.YtgkfhihnfllmhaaGreatDoor
