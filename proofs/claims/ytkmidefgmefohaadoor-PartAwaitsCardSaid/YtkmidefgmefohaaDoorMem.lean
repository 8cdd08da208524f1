/-
  A memory of package mem: a block with one slice, which owns its cells; Load, Store, Fetch and Swap at a cell that there is, and at one that there isn't.
-/
import Derived.Test.YtkmidefgmefohaaDoorBase
namespace Go.Proofs.YtkmidefgmefohaaDoor
set_option maxRecDepth 100000
open Go.RowKit

/-- Block m is a memory of the cells xs; v is its slice, which owns them; both lie from block B on. -/
structure Mem (w : World) (B m : Nat) (v : Value) (xs : List Int) : Prop where
  at_ : w.heap[m]? = some (.cells #[v] 94 (0, 0))
  own : w.ownsRow B 50 1 v xs.length (xs.map (Value.int .u64))
  lo : B ≤ m

theorem Mem.cell {w : World} {B m : Nat} {v : Value} {xs : List Int} (h : Mem w B m v xs) : w.cell? ⟨m, 0, none⟩ = some v := cell_of_one h.at_

/-- A memory's own row lies in another block than the memory itself. -/
theorem Mem.apart {w : World} {B m : Nat} {v : Value} {xs : List Int} (h : Mem w B m v xs) : v.ownBlock ≠ some m := by
  rcases h.own.2 with ⟨rfl, _⟩ | ⟨g, cap, cur, rfl, _, hh, _⟩
  · simp [Value.ownBlock]
  · intro he
    obtain rfl : g = m := by simpa [Value.ownBlock] using he
    have := h.at_
    rw [hh] at this
    injection this with this
    injection this with _ ht
    exact absurd ht (by decide)

/-- What writes neither to the memory's block nor to its row leaves the memory. -/
theorem Mem.grown {w w' : World} {B m : Nat} {v : Value} {xs : List Int} (h : Mem w B m v xs) {row : Option Nat} (hg : w.grownBy w' row) (h1 : some m ≠ row) (h2 : row = none ∨ v.ownBlock ≠ row) : Mem w' B m v xs :=
  ⟨(hg.block m (lt_of_block h.at_) h1).trans h.at_, h.own.kept hg (by
    rcases h2 with rfl | h2
    · cases v.ownBlock <;> simp
    · exact .inr h2), h.lo⟩

theorem Mem.drewN {w : World} {B m : Nat} {v : Value} {xs : List Int} (h : Mem w B m v xs) (q : Nat) : Mem (w.drewN q) B m v xs := ⟨h.at_, h.own, h.lo⟩

theorem Mem.alloc {w : World} {B m : Nat} {v : Value} {xs : List Int} (h : Mem w B m v xs) (o : Obj) : Mem (w.alloc o) B m v xs :=
  h.grown (World.grownBy_alloc w o none) (by simp) (.inl rfl)

/-- The slice's form where there is a cell; what the cell has; that it may be written. -/
theorem Mem.form {w : World} {B m : Nat} {v : Value} {xs : List Int} (h : Mem w B m v xs) {k : Nat} (hk : k < xs.length) :
    ∃ g cap, v = .slice (some ⟨g, 0, none⟩) xs.length cap ∧ B ≤ g ∧ g < w.heap.size ∧ w.cell? ⟨g, k, none⟩ = some (.int .u64 (xs.getD k 0)) ∧ w.frozen? ⟨g, k, none⟩ = false ∧ g ≠ m ∧ xs.length ≤ 9223372036854775807 := by
  obtain ⟨g, cap, rfl, hb, hlt⟩ := h.own.form (by omega)
  refine ⟨g, cap, rfl, hb, hlt, ?_, h.own.frozenAt k, ?_, ?_⟩
  · rw [h.own.cellAt k (by omega), List.getElem?_map, List.getD_eq_getElem?_getD, List.getElem?_eq_getElem hk]
    rfl
  · intro e
    exact h.apart (by simp [Value.ownBlock, e])
  · rcases h.own.2 with ⟨e, _⟩ | ⟨g', cap', cur, e, _, _, h1, h2, _⟩
    · simp at e
    · unfold maxLen at h2
      omega

/-- A store into the row. -/
theorem Mem.stored {w : World} {B m g cap : Nat} {xs : List Int} (h : Mem w B m (.slice (some ⟨g, 0, none⟩) xs.length cap) xs) (k : Nat) (x : Int) :
    Mem (w.setCell ⟨g, k, none⟩ (.int .u64 x)) B m (.slice (some ⟨g, 0, none⟩) xs.length cap) (xs.set k x) ∧ w.grownBy (w.setCell ⟨g, k, none⟩ (.int .u64 x)) (some g) := by
  obtain ⟨h1, h2⟩ := h.own.stored k (.int .u64 x)
  refine ⟨⟨?_, ?_, h.lo⟩, h2⟩
  · rw [heap_setCell_other w ⟨g, k, none⟩ m _ (fun e => h.apart (by simp only [Value.ownBlock]; rw [e]))]
    exact h.at_
  · rw [List.length_set, List.map_set]
    exact h1

set_option maxHeartbeats 400000 in
theorem load_in {w : World} {B m : Nat} {v : Value} {xs : List Int} (h : Mem w B m v xs) {k : Nat} (hk : k < xs.length) :
    Calls Tryd.prog 62 #[.pointer (some ⟨m, 0, none⟩), .int .i64 k] w fun e w' => e = .returned (.tuple #[.int .u64 (xs.getD k 0), .nilIface]) ∧ w = w' := by
  obtain ⟨g, cap, rfl, _, _, hx, _, _, hn⟩ := h.form hk
  have hm := h.cell
  have hkn : (k : Int) < (xs.length : Int) := by omega
  clear h
  generalize xs.getD k 0 = x at hx
  generalize xs.length = n at *
  go_enter Tryd.func62, Tryd.ntmps62
  go_wp2
  go_ret2
  exact ⟨rfl, rfl⟩

set_option maxHeartbeats 400000 in
theorem store_in {w : World} {B m : Nat} {v : Value} {xs : List Int} (h : Mem w B m v xs) {k : Nat} (hk : k < xs.length) (x : Int) :
    Calls Tryd.prog 63 #[.pointer (some ⟨m, 0, none⟩), .int .i64 k, .int .u64 x] w fun e w' => e = .returned .nilIface ∧ Mem w' B m v (xs.set k x) ∧ w.grownBy w' v.ownBlock := by
  obtain ⟨g, cap, rfl, _, _, hx, hf, _, hn⟩ := h.form hk
  have hs := h.stored k x
  have hm := h.cell
  have hkn : (k : Int) < (xs.length : Int) := by omega
  have H := Lib.hid hs
  clear h hs
  go_enter Tryd.func63, Tryd.ntmps63
  go_wp2
  go_ret
  exact ⟨rfl, H.out.1, H.out.2⟩

set_option maxHeartbeats 400000 in
theorem fetch_in {w : World} {B m : Nat} {v : Value} {xs : List Int} (h : Mem w B m v xs) {k : Nat} (hk : k < xs.length) (x : Int) :
    Calls Tryd.prog 64 #[.pointer (some ⟨m, 0, none⟩), .int .i64 k, .int .u64 x] w fun e w' => e = .returned (.tuple #[.int .u64 (xs.getD k 0), .nilIface]) ∧ Mem w' B m v (xs.set k (IntKind.u64.wrap (xs.getD k 0 + x))) ∧ w.grownBy w' v.ownBlock := by
  obtain ⟨g, cap, rfl, _, _, hx, hf, _, hn⟩ := h.form hk
  have hs := h.stored k (IntKind.u64.wrap (xs.getD k 0 + x))
  have hm := h.cell
  have hkn : (k : Int) < (xs.length : Int) := by omega
  generalize xs.getD k 0 = y at hx hs
  have H := Lib.hid hs
  clear h hs
  go_enter Tryd.func64, Tryd.ntmps64
  go_wp2
  go_ret2
  exact ⟨rfl, H.out.1, H.out.2⟩

set_option maxHeartbeats 400000 in
theorem swap_yes {w : World} {B m : Nat} {v : Value} {xs : List Int} (h : Mem w B m v xs) {k : Nat} (hk : k < xs.length) (x y : Int) (he : xs.getD k 0 = x) :
    Calls Tryd.prog 65 #[.pointer (some ⟨m, 0, none⟩), .int .i64 k, .int .u64 x, .int .u64 y] w fun e w' => e = .returned (.tuple #[.bool true, .nilIface]) ∧ Mem w' B m v (xs.set k y) ∧ w.grownBy w' v.ownBlock := by
  obtain ⟨g, cap, rfl, _, _, hx, hf, _, hn⟩ := h.form hk
  have hs := h.stored k y
  have hm := h.cell
  have hkn : (k : Int) < (xs.length : Int) := by omega
  rw [he] at hx
  have hxx : (x != x) = false := by simp
  have H := Lib.hid hs
  clear h hs he
  go_enter Tryd.func65, Tryd.ntmps65
  go_wp2
  go_ret2
  exact ⟨rfl, H.out.1, H.out.2⟩

set_option maxHeartbeats 400000 in
theorem swap_no {w : World} {B m : Nat} {v : Value} {xs : List Int} (h : Mem w B m v xs) {k : Nat} (hk : k < xs.length) (x y : Int) (he : xs.getD k 0 ≠ x) :
    Calls Tryd.prog 65 #[.pointer (some ⟨m, 0, none⟩), .int .i64 k, .int .u64 x, .int .u64 y] w fun e w' => e = .returned (.tuple #[.bool false, .nilIface]) ∧ w = w' := by
  obtain ⟨g, cap, rfl, _, _, hx, hf, _, hn⟩ := h.form hk
  have hm := h.cell
  have hkn : (k : Int) < (xs.length : Int) := by omega
  have hxx : (xs.getD k 0 != x) = true := by simpa using he
  generalize xs.getD k 0 = z at *
  clear h he
  go_enter Tryd.func65, Tryd.ntmps65
  go_wp2
  go_ret2
  exact ⟨rfl, rfl⟩
end Go.Proofs.YtkmidefgmefohaaDoor
