/-
  Programs that came in: a slice of slices of instructions.
-/
import Derived.Test.YtkmidefgmefohaaDoorCLaid
namespace Go.Proofs.YtkmidefgmefohaaDoor
set_option maxRecDepth 100000
open Go.ChangeShapes Go.WideShapes Go.Deep Go.RowKit

/-- A slice of slices of instructions. -/
structure Progs (w : World) (B : Nat) (A : Option Addr) (n : Nat) (ps : List (List In5)) : Prop where
  len : ps.length = n
  row : 0 < n → ∃ b off, A = some ⟨b, off, none⟩ ∧ b < B ∧ ∀ i, i < n → ∃ Ai ci, w.cell? ⟨b, off + i, none⟩ = some (.slice Ai (ps.getD i []).length ci) ∧ Inss w B Ai (ps.getD i []).length (ps.getD i [])

theorem Progs.keep {w w' : World} {B B' : Nat} {A : Option Addr} {n : Nat} {ps : List (List In5)} (h : Progs w B A n ps) (hB : B ≤ B') (hc : ∀ p : Addr, p.block < B → w'.cell? p = w.cell? p) : Progs w' B' A n ps :=
  ⟨h.len, fun h0 => by
    obtain ⟨b, off, e, hb, hx⟩ := h.row h0
    refine ⟨b, off, e, by omega, fun i hi => ?_⟩
    obtain ⟨Ai, ci, h1, h2⟩ := hx i hi
    exact ⟨Ai, ci, (hc _ hb).trans h1, h2.keep hB hc⟩⟩
theorem Progs.below {w w' : World} {B : Nat} {A : Option Addr} {n : Nat} {ps : List (List In5)} (h : Progs w B A n ps) (hb : Below B w w') : Progs w' B A n ps :=
  h.keep (Nat.le_refl _) fun _ hp => hb.cell hp

theorem progs_of {H : Type} {enc : TypeId × Value → H} {w : World} {base : Nat} {spare : Nat → Bool} {held : Bool} {fuel : Nat} {a : Option Addr} {len cap : Nat} {x : DataW H × List MemPlace}
    (h : DataW.trod enc Tryd.prog w base spare held fuel 37 [.slice a len cap] = some x) : ∃ ps, Progs w w.heap.size a len ps ∧ ∀ p ∈ ps, ∀ i, i < p.length → ints5 (p.getD i default) := by
  rcases open_slice Tryd.underlying37 h with ⟨h0, _⟩ | ⟨ad, l, c, m, n, D, Pl, hcs, _, hl, hm, hmm, _, hi⟩
  · simp only [List.cons.injEq, Value.slice.injEq, and_true] at h0
    obtain ⟨rfl, rfl, _⟩ := h0
    exact ⟨[], ⟨rfl, fun h => absurd h (Nat.lt_irrefl 0)⟩, fun p hp => by cases hp⟩
  · simp only [List.cons.injEq, Value.slice.injEq, and_true] at hcs
    obtain ⟨rfl, rfl, _⟩ := hcs
    have hall : ∀ i, i < len → ∃ p : List In5, (∃ Ai ci, w.cell? (ad.add i) = some (.slice Ai p.length ci) ∧ Inss w w.heap.size Ai p.length p) ∧ ∀ i, i < p.length → ints5 (p.getD i default) := by
      intro i hlt
      have him : i < m := by
        rw [hmm]
        split <;> omega
      obtain ⟨cs', hc, ht'⟩ := hi i him
      rw [show Tryd.prog.cellsOf 35 = 1 by kernel_rfl, Nat.mul_one] at hc
      obtain ⟨_, hcl, hat⟩ := World.cells?_some hc
      have h0 := hat 0 (by decide)
      have ha0 : (ad.add i).add 0 = ad.add i := by simp [Addr.add]
      rw [ha0] at h0
      obtain ⟨Ai, ni, ci, rfl⟩ : ∃ Ai ni ci, cs' = [.slice Ai ni ci] := by
        rcases open_slice Tryd.underlying35 ht' with ⟨e, _⟩ | ⟨ad', l', c', _, _, _, _, e, _⟩
        · exact ⟨none, 0, 0, e⟩
        · exact ⟨some ad', l', c', e⟩
      obtain ⟨p, hp, hints⟩ := inss_of (a := Ai) (len := ni) (cap := ci) ht'
      have hpl := hp.len
      subst hpl
      exact ⟨p, ⟨Ai, ci, h0.trans rfl, hp⟩, hints⟩
    obtain ⟨ps, hl2, hx⟩ := choose_list len hall
    refine ⟨ps, ⟨hl2, fun h0 => ?_⟩, fun p hp => ?_⟩
    · obtain ⟨b, off, spot⟩ := ad
      obtain ⟨⟨A0, c0, hc0, _⟩, _⟩ := hx 0 h0
      have hspot : spot = none := by simpa [Addr.add] using World.cell?_spot hc0
      subst hspot
      have hlt : b < w.heap.size := by
        have := World.block_lt_of_cell? w _ hc0
        simpa [Addr.add] using this
      refine ⟨b, off, rfl, hlt, fun i hi2 => ?_⟩
      obtain ⟨⟨Ai, ci, h1, h2⟩, _⟩ := hx i hi2
      have ha : (⟨b, off, none⟩ : Addr).add i = ⟨b, off + i, none⟩ := by unfold Addr.add; split <;> simp_all
      rw [ha] at h1
      exact ⟨Ai, ci, h1, h2⟩
    · obtain ⟨i, hi2, rfl⟩ := List.mem_iff_getElem.1 hp
      have h := (hx i (by omega)).2
      rw [List.getD_eq_getElem?_getD, List.getElem?_eq_getElem hi2] at h
      exact h
end Go.Proofs.YtkmidefgmefohaaDoor
