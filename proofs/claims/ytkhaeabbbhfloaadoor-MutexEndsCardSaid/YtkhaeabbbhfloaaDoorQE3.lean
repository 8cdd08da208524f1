/-
  Moves, words and numbers that came in; how long a slice may be.
-/
import Derived.Test.YtkhaeabbbhfloaaDoorQE
import Derived.Test.YtkhaeabbbhfloaaDoorQE2
namespace Go.Proofs.YtkhaeabbbhfloaaDoor
set_option maxRecDepth 100000
open Go.ChangeShapes Go.WideShapes Go.Deep Go.RowKit

section
variable {H : Type} {enc : TypeId × Value → H} {w : World} {base : Nat} {spare : Nat → Bool} {held : Bool} {fuel : Nat} {a : Option Addr} {len cap : Nat} {x : DataW H × List MemPlace}

theorem moves_of (h : DataW.trod enc Tryd.prog w base spare held fuel 22 [.slice a len cap] = some x) : ∃ l, Moves w w.heap.size a len l := by
  rcases open_structs Tryd.underlying22 Tryd.underlying58 (by kernel_rfl) (by kernel_rfl) h with h0 | ⟨ad, l, c, hcs, _, _, hi⟩
  · simp only [List.cons.injEq, Value.slice.injEq, and_true] at h0
    obtain ⟨rfl, rfl, _⟩ := h0
    exact ⟨[], ⟨rfl, fun h => absurd h (Nat.lt_irrefl 0)⟩⟩
  · simp only [List.cons.injEq, Value.slice.injEq, and_true] at hcs
    obtain ⟨rfl, rfl, _⟩ := hcs
    have hall : ∀ i, i < len → ∃ s : Int × Bool, w.cell? ((ad.add (i * 2)).add 0) = some (.int .i64 s.1) ∧ w.cell? ((ad.add (i * 2)).add 1) = some (.bool s.2) := by
      intro i hlt
      obtain ⟨v0, y0, n0, c0, t0⟩ := hi i hlt 0 _ rfl
      obtain ⟨v1, y1, n1, c1, t1⟩ := hi i hlt 1 _ rfl
      obtain ⟨z0, e0, _⟩ := DataW.trod_int Tryd.underlying3 t0
      obtain ⟨z1, e1, _⟩ := DataW.trod_bool Tryd.underlying4 t1
      simp only [List.cons.injEq, and_true] at e0 e1
      subst e0 e1
      exact ⟨(z0, z1), c0, c1⟩
    obtain ⟨xs, hl, hx⟩ := choose_list len hall
    refine ⟨xs, ⟨hl, fun h0 => ?_⟩⟩
    obtain ⟨b, off, spot⟩ := ad
    have c0 := (hx 0 h0).1
    have hspot : spot = none := by simpa [Addr.add] using World.cell?_spot c0
    subst hspot
    have hlt : b < w.heap.size := by
      have := World.block_lt_of_cell? w _ c0
      simpa [Addr.add] using this
    have ha : ∀ i j, ((⟨b, off, none⟩ : Addr).add i).add j = ⟨b, off + i + j, none⟩ := by
      intro i j
      unfold Addr.add
      by_cases hi0 : i = 0 <;> by_cases hj0 : j = 0 <;> simp [hi0, hj0]
    refine ⟨b, off, rfl, hlt, fun i hi2 => ?_⟩
    obtain ⟨h1, h2⟩ := hx i hi2
    rw [ha] at h1 h2
    exact ⟨h1, h2⟩

end
end Go.Proofs.YtkhaeabbbhfloaaDoor
