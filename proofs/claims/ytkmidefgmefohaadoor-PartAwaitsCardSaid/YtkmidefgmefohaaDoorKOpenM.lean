/-
  Moves, words and numbers that came in; how long a slice may be.
-/
import Derived.Test.YtkmidefgmefohaaDoorKOpen
import Derived.Test.YtkmidefgmefohaaDoorMBehind
namespace Go.Proofs.YtkmidefgmefohaaDoor
set_option maxRecDepth 100000
open Go.ChangeShapes Go.WideShapes Go.Deep Go.RowKit

section
variable {H : Type} {enc : TypeId × Value → H} {w : World} {base : Nat} {spare : Nat → Bool} {held : Bool} {fuel : Nat} {a : Option Addr} {len cap : Nat} {x : DataW H × List MemPlace}

theorem okU_of_wf {z : Int} (h : (Lit.int .u64 z).wf = true) : okU z := by
  simp [Lit.wf, IntKind.min, IntKind.max, IntKind.signed, IntKind.bits] at h
  unfold okU
  omega

theorem words_of (h : DataW.trod enc Tryd.prog w base spare held fuel 51 [.slice a len cap] = some x) : ∃ xs, Ints .u64 w w.heap.size a len xs ∧ ∀ x ∈ xs, okU x := by
  rcases open_ints Tryd.underlying51 Tryd.underlying50 (by kernel_rfl) h with ⟨h0, _⟩ | ⟨ad, l, c, zs, hcs, _, hlc, _, hzl, _, hc, hwf⟩
  · simp only [List.cons.injEq, Value.slice.injEq, and_true] at h0
    obtain ⟨rfl, rfl, _⟩ := h0
    exact ⟨[], ⟨rfl, fun h => absurd h (Nat.lt_irrefl 0)⟩, fun x hx => by cases hx⟩
  · simp only [List.cons.injEq, Value.slice.injEq, and_true] at hcs
    obtain ⟨rfl, rfl, _⟩ := hcs
    have hle : len ≤ zs.length := by split at hzl <;> omega
    refine ⟨zs.take len, ⟨by rw [List.length_take]; omega, fun h0 => ?_⟩, fun x hx => okU_of_wf (hwf x (List.mem_of_mem_take hx))⟩
    obtain ⟨b, off, spot⟩ := ad
    have c0 := hc 0 (by omega)
    have hspot : spot = none := by simpa [Addr.add] using World.cell?_spot c0
    subst hspot
    have hlt : b < w.heap.size := by
      have := World.block_lt_of_cell? w _ c0
      simpa [Addr.add] using this
    refine ⟨b, off, rfl, hlt, fun i hi => ?_⟩
    have h1 := hc i (by omega)
    have ha : (⟨b, off, none⟩ : Addr).add i = ⟨b, off + i, none⟩ := by unfold Addr.add; split <;> simp_all
    rw [ha] at h1
    rw [h1, List.getD_eq_getElem?_getD, List.getD_eq_getElem?_getD, List.getElem?_take, if_pos hi]

theorem ints_of (h : DataW.trod enc Tryd.prog w base spare held fuel 46 [.slice a len cap] = some x) : ∃ xs, Ints .i64 w w.heap.size a len xs ∧ ∀ x ∈ xs, isInt x := by
  rcases open_ints Tryd.underlying46 Tryd.underlying3 (by kernel_rfl) h with ⟨h0, _⟩ | ⟨ad, l, c, zs, hcs, _, hlc, _, hzl, _, hc, hwf⟩
  · simp only [List.cons.injEq, Value.slice.injEq, and_true] at h0
    obtain ⟨rfl, rfl, _⟩ := h0
    exact ⟨[], ⟨rfl, fun h => absurd h (Nat.lt_irrefl 0)⟩, fun x hx => by cases hx⟩
  · simp only [List.cons.injEq, Value.slice.injEq, and_true] at hcs
    obtain ⟨rfl, rfl, _⟩ := hcs
    have hle : len ≤ zs.length := by split at hzl <;> omega
    refine ⟨zs.take len, ⟨by rw [List.length_take]; omega, fun h0 => ?_⟩, fun x hx => isInt_wf (hwf x (List.mem_of_mem_take hx))⟩
    obtain ⟨b, off, spot⟩ := ad
    have c0 := hc 0 (by omega)
    have hspot : spot = none := by simpa [Addr.add] using World.cell?_spot c0
    subst hspot
    have hlt : b < w.heap.size := by
      have := World.block_lt_of_cell? w _ c0
      simpa [Addr.add] using this
    refine ⟨b, off, rfl, hlt, fun i hi => ?_⟩
    have h1 := hc i (by omega)
    have ha : (⟨b, off, none⟩ : Addr).add i = ⟨b, off + i, none⟩ := by unfold Addr.add; split <;> simp_all
    rw [ha] at h1
    rw [h1, List.getD_eq_getElem?_getD, List.getD_eq_getElem?_getD, List.getElem?_take, if_pos hi]

theorem len_slice {t e : TypeId} (ht : Tryd.prog.underlying t = some (.slice e)) (h : DataW.trod enc Tryd.prog w base spare held fuel t [.slice a len cap] = some x) : len ≤ 9223372036854775807 := by
  rcases open_slice ht h with ⟨h0, _⟩ | ⟨a', l, c, m, n, D, Pl, hcs, _, hl, hm, _⟩
  · simp only [List.cons.injEq, Value.slice.injEq, and_true] at h0
    omega
  · simp only [List.cons.injEq, Value.slice.injEq, and_true] at hcs
    obtain ⟨_, rfl, rfl⟩ := hcs
    unfold maxLen at hm
    omega
end
end Go.Proofs.YtkmidefgmefohaaDoor
