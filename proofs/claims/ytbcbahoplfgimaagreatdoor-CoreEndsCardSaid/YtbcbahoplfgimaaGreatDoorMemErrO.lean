/-
  A memory that can't be, and cells that there aren't.
-/
import Derived.Test.YtbcbahoplfgimaaGreatDoorMakeO
namespace Go.Proofs.YtbcbahoplfgimaaGreatDoor
set_option maxRecDepth 100000
open Go.RowKit

theorem of_no {w : World} (A : Option Addr) (n c : Nat) (hn : 300 < n) :
    Calls Tryz.prog 47 #[.slice A n c] w fun e w' => e = .returned (.tuple #[.pointer none, .iface 37 (.int .i64 4)]) ∧ w = w' := by
  have h1 : (300 : Int) < (n : Int) := by omega
  go_enter Tryz.func47, Tryz.ntmps47
  go_wp2
  go_ret2
  exact ⟨rfl, rfl⟩

/-- There is no such cell. -/
theorem mem_has_no {w : World} {B m : Nat} {v : Value} {xs : List Int} (h : Mem w B m v xs) (a : Int) (ha : a < 0 ∨ (xs.length : Int) ≤ a) :
    Calls Tryz.prog 86 #[.pointer (some ⟨m, 0, none⟩), .int .i64 a] w fun e w' => e = .returned (.bool false) ∧ w = w' := by
  obtain ⟨A, c, rfl⟩ := slice_of_own h.own
  have hm := h.cell
  clear h
  generalize xs.length = n at *
  rcases Int.lt_or_le a 0 with h0 | h0
  · have h1 : ¬ 0 ≤ a := by omega
    go_enter Tryz.func86, Tryz.ntmps86
    go_wp2
    go_ret
    exact ⟨rfl, rfl⟩
  · have h2 : ¬ a < (n : Int) := by omega
    clear ha
    go_enter Tryz.func86, Tryz.ntmps86
    go_wp2
    go_ret
    exact ⟨rfl, rfl⟩

theorem load_out {w : World} {B m : Nat} {v : Value} {xs : List Int} (h : Mem w B m v xs) (a : Int) (ha : a < 0 ∨ (xs.length : Int) ≤ a) :
    Calls Tryz.prog 73 #[.pointer (some ⟨m, 0, none⟩), .int .i64 a] w fun e w' => e = .returned (.tuple #[.int .u64 0, .iface 37 (.int .i64 2)]) ∧ w = w' := by
  have HH := Lib.hid (mem_has_no h a ha)
  clear h ha
  go_enter Tryz.func73, Tryz.ntmps73
  go_wp2_with fail
  refine HH.out.mono ?_
  rintro e w' ⟨rfl, rfl⟩
  go_wp2
  go_ret2
  exact ⟨rfl, rfl⟩

theorem store_out {w : World} {B m : Nat} {v : Value} {xs : List Int} (h : Mem w B m v xs) (a : Int) (x : Int) (ha : a < 0 ∨ (xs.length : Int) ≤ a) :
    Calls Tryz.prog 74 #[.pointer (some ⟨m, 0, none⟩), .int .i64 a, .int .u64 x] w fun e w' => e = .returned (.iface 37 (.int .i64 2)) ∧ w = w' := by
  have HH := Lib.hid (mem_has_no h a ha)
  clear h ha
  go_enter Tryz.func74, Tryz.ntmps74
  go_wp2_with fail
  refine HH.out.mono ?_
  rintro e w' ⟨rfl, rfl⟩
  go_wp2
  go_ret
  exact ⟨rfl, rfl⟩

theorem fetch_out {w : World} {B m : Nat} {v : Value} {xs : List Int} (h : Mem w B m v xs) (a : Int) (x : Int) (ha : a < 0 ∨ (xs.length : Int) ≤ a) :
    Calls Tryz.prog 75 #[.pointer (some ⟨m, 0, none⟩), .int .i64 a, .int .u64 x] w fun e w' => e = .returned (.tuple #[.int .u64 0, .iface 37 (.int .i64 2)]) ∧ w = w' := by
  have HH := Lib.hid (mem_has_no h a ha)
  clear h ha
  go_enter Tryz.func75, Tryz.ntmps75
  go_wp2_with fail
  refine HH.out.mono ?_
  rintro e w' ⟨rfl, rfl⟩
  go_wp2
  go_ret2
  exact ⟨rfl, rfl⟩

theorem swap_out {w : World} {B m : Nat} {v : Value} {xs : List Int} (h : Mem w B m v xs) (a : Int) (x y : Int) (ha : a < 0 ∨ (xs.length : Int) ≤ a) :
    Calls Tryz.prog 76 #[.pointer (some ⟨m, 0, none⟩), .int .i64 a, .int .u64 x, .int .u64 y] w fun e w' => e = .returned (.tuple #[.bool false, .iface 37 (.int .i64 2)]) ∧ w = w' := by
  have HH := Lib.hid (mem_has_no h a ha)
  clear h ha
  go_enter Tryz.func76, Tryz.ntmps76
  go_wp2_with fail
  refine HH.out.mono ?_
  rintro e w' ⟨rfl, rfl⟩
  go_wp2
  go_ret2
  exact ⟨rfl, rfl⟩
end Go.Proofs.YtbcbahoplfgimaaGreatDoor
