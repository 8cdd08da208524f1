/-
  A slice of uint64 and a slice of touches that came in; the tables that a row lists.
-/
import Derived.Test.YtnooegfhkeddnaaDoorTMap
import Derived.Test.YtnooegfhkeddnaaDoorTTouch
import Derived.Test.YtnooegfhkeddnaaDoorOpenS
import Derived.LaidLaws
import Derived.Lib.LaidTab
import Derived.Lib.LaidIn
import Derived.OpenShut
import Derived.ChangeSame
namespace Go.Proofs.YtnooegfhkeddnaaDoor
set_option maxRecDepth 100000
open Go.ChangeShapes Go.WideShapes Go.Deep Go.RowKit

theorem isU64_of_wf {z : Int} (h : (Lit.int .u64 z).wf = true) : isU64 z := by
  simp [Lit.wf, IntKind.min, IntKind.max, IntKind.signed, IntKind.bits] at h
  unfold isU64
  omega

theorem u64s_of {H : Type} {enc : TypeId × Value → H} {w : World} {base : Nat} {spare : Nat → Bool} {held : Bool} {fuel : Nat} {a : Option Addr} {len cap : Nat} {x : DataW H × List MemPlace}
    (h : DataW.trod enc Tryd.prog w base spare held fuel 22 [.slice a len cap] = some x) : ∃ xs, Ints .u64 w w.heap.size a len xs ∧ ∀ x ∈ xs, isU64 x := by
  rcases open_ints Tryd.underlying22 Tryd.underlying34 (by kernel_rfl) h with ⟨h0, _⟩ | ⟨ad, l, c, zs, hcs, _, hlc, _, hzl, _, hc, hwf⟩
  · simp only [List.cons.injEq, Value.slice.injEq, and_true] at h0
    obtain ⟨rfl, rfl, _⟩ := h0
    exact ⟨[], ⟨rfl, fun h => absurd h (Nat.lt_irrefl 0)⟩, fun x hx => by cases hx⟩
  · simp only [List.cons.injEq, Value.slice.injEq, and_true] at hcs
    obtain ⟨rfl, rfl, _⟩ := hcs
    have hle : len ≤ zs.length := by split at hzl <;> omega
    refine ⟨zs.take len, ⟨by rw [List.length_take]; omega, fun h0 => ?_⟩, fun x hx => isU64_of_wf (hwf x (List.mem_of_mem_take hx))⟩
    obtain ⟨b, off, spot⟩ := ad
    have c0 := hc 0 (by omega)
    have hspot : spot = none := by simpa [Addr.add] using World.cell?_spot c0
    subst hspot
    have hlt : b < w.heap.size := by
      have := World.block_lt_of_cell? w _ c0
      simpa [Addr.add] using this
    refine ⟨b, off, rfl, hlt, fun i hi => ?_⟩
    have h1 := hc i (by omega)
    have ha : (⟨b, off, none⟩ : Addr).add i = ⟨b, off + i, none⟩ := by unfold Addr.add; split <;> simp_all
    rw [ha] at h1
    rw [h1, List.getD_eq_getElem?_getD, List.getD_eq_getElem?_getD, List.getElem?_take, if_pos hi]

theorem tchs_of {H : Type} {enc : TypeId × Value → H} {w : World} {base : Nat} {spare : Nat → Bool} {held : Bool} {fuel : Nat} {a : Option Addr} {len cap : Nat} {x : DataW H × List MemPlace}
    (h : DataW.trod enc Tryd.prog w base spare held fuel 23 [.slice a len cap] = some x) : ∃ l, Tchs w w.heap.size a len l ∧ ∀ t ∈ l, okT t := by
  rcases open_structs Tryd.underlying23 Tryd.underlying36 (by kernel_rfl) (by kernel_rfl) h with h0 | ⟨ad, l, c, hcs, _, _, hi⟩
  · simp only [List.cons.injEq, Value.slice.injEq, and_true] at h0
    obtain ⟨rfl, rfl, _⟩ := h0
    exact ⟨[], ⟨rfl, fun h => absurd h (Nat.lt_irrefl 0)⟩, fun x hx => by cases hx⟩
  · simp only [List.cons.injEq, Value.slice.injEq, and_true] at hcs
    obtain ⟨rfl, rfl, _⟩ := hcs
    have hall : ∀ i, i < len → ∃ s : Tch, w.cell? ((ad.add (i * 4)).add 0) = some (.int .i64 s.1) ∧ w.cell? ((ad.add (i * 4)).add 1) = some (.int .i64 s.2.1) ∧ w.cell? ((ad.add (i * 4)).add 2) = some (.int .u64 s.2.2.1) ∧ w.cell? ((ad.add (i * 4)).add 3) = some (.int .u64 s.2.2.2) ∧ okT s := by
      intro i hlt
      obtain ⟨v0, y0, n0, c0, t0⟩ := hi i hlt 0 _ rfl
      obtain ⟨v1, y1, n1, c1, t1⟩ := hi i hlt 1 _ rfl
      obtain ⟨v2, y2, n2, c2, t2⟩ := hi i hlt 2 _ rfl
      obtain ⟨v3, y3, n3, c3, t3⟩ := hi i hlt 3 _ rfl
      obtain ⟨z0, e0, _, _⟩ := DataW.trod_int Tryd.underlying3 t0
      obtain ⟨z1, e1, _, hwf⟩ := DataW.trod_int Tryd.underlying3 t1
      obtain ⟨z2, e2, _, hwf2⟩ := DataW.trod_int Tryd.underlying34 t2
      obtain ⟨z3, e3, _, hwf3⟩ := DataW.trod_int Tryd.underlying34 t3
      simp only [List.cons.injEq, and_true] at e0 e1 e2 e3
      subst e0 e1 e2 e3
      exact ⟨(z0, z1, z2, z3), c0, c1, c2, c3, isU64_of_wf hwf2, isU64_of_wf hwf3, hwf⟩
    obtain ⟨xs, hl, hx⟩ := choose_list len hall
    refine ⟨xs, ⟨hl, fun h0 => ?_⟩, fun t ht => ?_⟩
    · obtain ⟨b, off, spot⟩ := ad
      have c0 := (hx 0 h0).1
      have hspot : spot = none := by simpa [Addr.add] using World.cell?_spot c0
      subst hspot
      have hlt : b < w.heap.size := by
        have := World.block_lt_of_cell? w _ c0
        simpa [Addr.add] using this
      have ha : ∀ i j, ((⟨b, off, none⟩ : Addr).add i).add j = ⟨b, off + i + j, none⟩ := by
        intro i j
        unfold Addr.add
        by_cases hi0 : i = 0 <;> by_cases hj0 : j = 0 <;> simp [hi0, hj0]
      refine ⟨b, off, rfl, hlt, fun i hi2 => ?_⟩
      obtain ⟨h1, h2, h3, h4, _⟩ := hx i hi2
      rw [ha] at h1 h2 h3 h4
      exact ⟨h1, h2, h3, h4⟩
    · obtain ⟨i, hi2, rfl⟩ := List.mem_iff_getElem.1 ht
      have h := (hx i (by omega)).2.2.2.2
      rw [List.getD_eq_getElem?_getD, List.getElem?_eq_getElem hi2] at h
      exact h

theorem laid_one {P : Program} {w : World} {n : String} {d : DataW Unit} : ∀ {l : List (String × DataW Unit)} {ps : List MemPlace}, DataW.LaidVars P w l ps → (n, d) ∈ l →
    ∃ g t cs fuel p, P.globalNamed n = some g ∧ (P.globals[g]?).map (·.type) = some t ∧ w.var? P n = some cs ∧ DataW.trod (fun _ => ()) P w 0 (fun _ => true) false fuel t cs.toList = some (d, p)
  | [], _, _, h => by cases h
  | (n', d') :: r, ps, hl, h => by
    obtain ⟨g, t, cs, fuel, p, q, h1, h2, h3, h4, h5, _⟩ := hl
    rcases List.mem_cons.1 h with e | h
    · injection e with e1 e2
      subst e1 e2
      exact ⟨g, t, cs, fuel, p, h1, h2, h3, h4⟩
    · exact laid_one h5 h

theorem tab_of_laid {l : List (String × DataW Unit)} {W : World} (h : laidMet Tryd.prog l W) (h2 : ("internal/strconv.uint64pow10", Lib.tabData .u64 Lib.pow10Tab) ∈ l) : Tab W := by
  obtain ⟨ps, hL, _⟩ := h
  obtain ⟨g2, t2, cs2, f2, p2, hg2, ht2, hv2, hd2⟩ := laid_one hL h2
  obtain rfl := Option.some.inj ((show Tryd.prog.globalNamed "internal/strconv.uint64pow10" = some 1 by kernel_rfl).symm.trans hg2)
  obtain rfl := Option.some.inj ((show (Tryd.prog.globals[1]?).map (·.type) = some 123 by kernel_rfl).symm.trans ht2)
  have e2 := Lib.cells_of_tab Tryd.underlying123 Tryd.underlying34 (by kernel_rfl) (by kernel_rfl) hd2
  unfold Tab Lib.TabIs
  rw [hv2]
  congr 1
  exact Array.toList_inj.1 (by rw [e2])
end Go.Proofs.YtnooegfhkeddnaaDoor
