/-
  A memory that can't be, and cells that there aren't.
-/
import Derived.Test.YtkmidefgmefohaaDoorMakeO
namespace Go.Proofs.YtkmidefgmefohaaDoor
set_option maxRecDepth 100000
open Go.RowKit

theorem of_no {w : World} (A : Option Addr) (n c : Nat) (hn : 300 < n) :
    Calls Tryd.prog 32 #[.slice A n c] w fun e w' => e = .returned (.tuple #[.pointer none, .iface 26 (.int .i64 4)]) ∧ w = w' := by
  have h1 : (300 : Int) < (n : Int) := by omega
  go_enter Tryd.func32, Tryd.ntmps32
  go_wp2
  go_ret2
  exact ⟨rfl, rfl⟩

/-- There is no such cell. -/
theorem mem_has_no {w : World} {B m : Nat} {v : Value} {xs : List Int} (h : Mem w B m v xs) (a : Int) (ha : a < 0 ∨ (xs.length : Int) ≤ a) :
    Calls Tryd.prog 74 #[.pointer (some ⟨m, 0, none⟩), .int .i64 a] w fun e w' => e = .returned (.bool false) ∧ w = w' := by
  obtain ⟨A, c, rfl⟩ := slice_of_own h.own
  have hm := h.cell
  clear h
  generalize xs.length = n at *
  rcases Int.lt_or_le a 0 with h0 | h0
  · have h1 : ¬ 0 ≤ a := by omega
    go_enter Tryd.func74, Tryd.ntmps74
    go_wp2
    go_ret
    exact ⟨rfl, rfl⟩
  · have h2 : ¬ a < (n : Int) := by omega
    clear ha
    go_enter Tryd.func74, Tryd.ntmps74
    go_wp2
    go_ret
    exact ⟨rfl, rfl⟩

theorem load_out {w : World} {B m : Nat} {v : Value} {xs : List Int} (h : Mem w B m v xs) (a : Int) (ha : a < 0 ∨ (xs.length : Int) ≤ a) :
    Calls Tryd.prog 62 #[.pointer (some ⟨m, 0, none⟩), .int .i64 a] w fun e w' => e = .returned (.tuple #[.int .u64 0, .iface 26 (.int .i64 2)]) ∧ w = w' := by
  have HH := Lib.hid (mem_has_no h a ha)
  clear h ha
  go_enter Tryd.func62, Tryd.ntmps62
  go_wp2_with fail
  refine HH.out.mono ?_
  rintro e w' ⟨rfl, rfl⟩
  go_wp2
  go_ret2
  exact ⟨rfl, rfl⟩

theorem store_out {w : World} {B m : Nat} {v : Value} {xs : List Int} (h : Mem w B m v xs) (a : Int) (x : Int) (ha : a < 0 ∨ (xs.length : Int) ≤ a) :
    Calls Tryd.prog 63 #[.pointer (some ⟨m, 0, none⟩), .int .i64 a, .int .u64 x] w fun e w' => e = .returned (.iface 26 (.int .i64 2)) ∧ w = w' := by
  have HH := Lib.hid (mem_has_no h a ha)
  clear h ha
  go_enter Tryd.func63, Tryd.ntmps63
  go_wp2_with fail
  refine HH.out.mono ?_
  rintro e w' ⟨rfl, rfl⟩
  go_wp2
  go_ret
  exact ⟨rfl, rfl⟩

theorem fetch_out {w : World} {B m : Nat} {v : Value} {xs : List Int} (h : Mem w B m v xs) (a : Int) (x : Int) (ha : a < 0 ∨ (xs.length : Int) ≤ a) :
    Calls Tryd.prog 64 #[.pointer (some ⟨m, 0, none⟩), .int .i64 a, .int .u64 x] w fun e w' => e = .returned (.tuple #[.int .u64 0, .iface 26 (.int .i64 2)]) ∧ w = w' := by
  have HH := Lib.hid (mem_has_no h a ha)
  clear h ha
  go_enter Tryd.func64, Tryd.ntmps64
  go_wp2_with fail
  refine HH.out.mono ?_
  rintro e w' ⟨rfl, rfl⟩
  go_wp2
  go_ret2
  exact ⟨rfl, rfl⟩

theorem swap_out {w : World} {B m : Nat} {v : Value} {xs : List Int} (h : Mem w B m v xs) (a : Int) (x y : Int) (ha : a < 0 ∨ (xs.length : Int) ≤ a) :
    Calls Tryd.prog 65 #[.pointer (some ⟨m, 0, none⟩), .int .i64 a, .int .u64 x, .int .u64 y] w fun e w' => e = .returned (.tuple #[.bool false, .iface 26 (.int .i64 2)]) ∧ w = w' := by
  have HH := Lib.hid (mem_has_no h a ha)
  clear h ha
  go_enter Tryd.func65, Tryd.ntmps65
  go_wp2_with fail
  refine HH.out.mono ?_
  rintro e w' ⟨rfl, rfl⟩
  go_wp2
  go_ret2
  exact ⟨rfl, rfl⟩
end Go.Proofs.YtkmidefgmefohaaDoor
