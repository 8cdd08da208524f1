/-
  How often 1 is doubled to be no less than a number: part.Levels. Pieces of programs: Await, Tell; the fact that the laws on them ask first. The frame behind a region, written out. What a program of registers says at last. SUMS ARE SUMS; BITS IN TWO PIECES; LESS, OR NOT. Whole: a program that goes through a body. A machine of programs that were laid.
-/
import Derived.RowKitTokens
import Derived.Test.YtkhaeabbbhfloaaDoorShelf
import Derived.Lib.BitFns
import Derived.Test.YtkhaeabbbhfloaaDoorQA
import Derived.Test.YtkhaeabbbhfloaaDoorQB
import Derived.Test.YtkhaeabbbhfloaaDoorQI
import Derived.Test.YtkhaeabbbhfloaaDoorQB2
import Derived.Test.YtkhaeabbbhfloaaDoorQF
import Derived.Lib.AppendZeros
namespace Go.Proofs.YtkhaeabbbhfloaaDoor
set_option maxRecDepth 100000
open Go.RowKit

end Go.Proofs.YtkhaeabbbhfloaaDoor

namespace Go.Proofs.YtkhaeabbbhfloaaDoor
set_option maxRecDepth 100000
open Go.RowKit Go.Sort
set_option linter.unusedVariables false

/-- A row of instructions that is written down is a slice of them. -/
theorem own_lit {w : World} {cs : Array Value} {l : List In5} {n : Nat} (hcs : cs.toList = cells5 l) (hl : l.length = n) (hn : n ≤ 1000) (B : Nat) (hB : B ≤ w.heap.size) : (w.alloc (.cells cs 89)).ownsRow B 89 5 (.slice (some ⟨w.heap.size, 0, none⟩) n n) n (cells5 l) := by
  have hsz : cs.size = n * 5 := by rw [← Array.length_toList, hcs, cells5_len, hl]
  have ho := World.ownsRow_lit (base := B) (e := 89) (size := 5) w cs n hB (by unfold maxLen; omega) hsz
  rw [hcs] at ho
  exact ho
theorem inss_lit {w : World} {cs : Array Value} {l : List In5} {n : Nat} (hcs : cs.toList = cells5 l) (hl : l.length = n) (hn : n ≤ 1000) : Inss (w.alloc (.cells cs 89)) (w.alloc (.cells cs 89)).heap.size (some ⟨w.heap.size, 0, none⟩) n l :=
  Inss.of_own (own_lit hcs hl hn w.heap.size (Nat.le_refl _)) hl

end Go.Proofs.YtkhaeabbbhfloaaDoor

namespace Go.Proofs.YtkhaeabbbhfloaaDoor
set_option maxRecDepth 100000
end Go.Proofs.YtkhaeabbbhfloaaDoor

namespace Go.Proofs.YtkhaeabbbhfloaaDoor
set_option maxRecDepth 100000
open Go.RowKit Go.Shelf Go.Sort
set_option linter.unusedVariables false
set_option linter.unusedSimpArgs false

end Go.Proofs.YtkhaeabbbhfloaaDoor

namespace Go.Proofs.YtkhaeabbbhfloaaDoor
set_option maxRecDepth 100000
open Go.RowKit Go.Shelf Go.Sort
set_option linter.unusedVariables false
set_option linter.unusedSimpArgs false

end Go.Proofs.YtkhaeabbbhfloaaDoor

namespace Go.Proofs.YtkhaeabbbhfloaaDoor
set_option maxRecDepth 100000
open Go.RowKit Go.Shelf Go.Sort
set_option linter.unusedVariables false

/-- append of whatever row of instructions to a row of the call's own. -/
theorem run_appendP {w : World} {base : Nat} {v : Value} {n m c B : Nat} {A : Option Addr} {xs news : List In5} (hown : w.ownsRow base 89 5 v n (cells5 xs)) (h : Inss w B A m news) (hn : n + m ≤ 100000) (hbase : base ≤ w.heap.size) (ty : TypeId) :
    ∃ v' w', (Builtin.append_ #[61, 61] ty #[v, .slice A m c]).run Tryd.prog w = .ok v' w' ∧ w'.ownsRow base 89 5 v' (n + m) (cells5 (xs ++ news)) ∧ w.grownBy w' v.ownBlock := by
  obtain ⟨i0, hi, hz0, hz1, hz2⟩ := info_parts infoIns
  rcases A with _ | ad
  · have h0 : m = 0 := by
      rcases Nat.eq_zero_or_pos m with h0 | h0
      · exact h0
      · obtain ⟨_, _, e, _⟩ := h.row h0
        cases e
    subst h0
    have hx : news = [] := List.eq_nil_of_length_eq_zero h.len
    subst hx
    refine ⟨v, w, ?_, by simpa using hown, World.grownBy.refl _ _⟩
    rcases hown.2 with ⟨rfl, rfl⟩ | ⟨g, cap, cur, rfl, _, _, hnc, _⟩
    · simp [Builtin.append_, run_underlying Tryd.underlying61, sizeOf, typeInfo, hi, Builtin.lenOf, Builtin.firstCells]
    · simp [Builtin.append_, run_underlying Tryd.underlying61, sizeOf, typeInfo, hi, Builtin.lenOf, Builtin.firstCells, hnc, storeCells]
  · obtain ⟨v', w', hr, ho, hg, _⟩ := run_append_own (P := Tryd.prog) w base 61 ty 89 i0 (.agg #[.int .i64 0, .int .i64 0, .int .i64 0, .int .i64 0, .int .i64 0]) 5 40 Tryd.underlying61 hi hz0 hz1 hz2 rfl (by decide) v n _ hown ad m c (cells5 news) (by rw [cells5_len, h.len]) (news_of_inss h) oneCell5 (by unfold maxLen; omega) (by omega) hbase
    exact ⟨v', w', hr, by rw [cells5_append]; exact ho, hg⟩

theorem wrap_place (n : Int) (h : -9223372036854775808 ≤ n ∧ n ≤ 9223372036854775807) : wrap64 n = n := by unfold wrap64; omega

/-- A machine of programs that were laid. -/
theorem new_at {w W : World} (hw : CW w) (hb : Below w.heap.size w W) (A C : Option Addr) (n c nc cc : Nat) (ps : List (List Ins5)) (cells : List Int) (hp : Progs W W.heap.size A n ps) (hc : Ints .u64 W W.heap.size C nc cells) (h16 : n ≤ 16) (hn3 : nc ≤ 300) (hr : ∀ i, i < n → RightL (ps.getD i []) nc) :
    Calls Tryd.prog 24 #[.slice A n c, .slice C nc cc] W fun e w' => ∃ c, e = .returned (.tuple #[.pointer (some ⟨c, 0, none⟩), .nilIface]) ∧ At w c (newM ps cells) w' := by
  refine (knew_ok (hw.old hb) A C n c nc cc ps cells hp hc h16 hn3 hr).mono ?_
  rintro e w' ⟨S, X, he, hC, hB⟩
  exact ⟨X.c, he, S, X, rfl, hC.lower hb.size, hb.trans (hB.mono hb.size)⟩
end Go.Proofs.YtkhaeabbbhfloaaDoor
