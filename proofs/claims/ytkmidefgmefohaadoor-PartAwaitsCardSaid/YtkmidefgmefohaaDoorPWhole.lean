/-
  Whole: a program that goes through a body. A machine of programs that were laid.
-/
import Derived.Test.YtkmidefgmefohaaDoorPPiece
import Derived.Test.YtkmidefgmefohaaDoorLNums
import Derived.Test.YtkmidefgmefohaaDoorKPart
import Derived.Lib.AppendZeros
namespace Go.Proofs.YtkmidefgmefohaaDoor
set_option maxRecDepth 100000
open Go.RowKit Go.Shelf Go.Sort
set_option linter.unusedVariables false

/-- append of whatever row of instructions to a row of the call's own. -/
theorem run_appendP {w : World} {base : Nat} {v : Value} {n m c B : Nat} {A : Option Addr} {xs news : List In5} (hown : w.ownsRow base 48 5 v n (cells5 xs)) (h : Inss w B A m news) (hn : n + m ≤ 100000) (hbase : base ≤ w.heap.size) (ty : TypeId) :
    ∃ v' w', (Builtin.append_ #[35, 35] ty #[v, .slice A m c]).run Tryd.prog w = .ok v' w' ∧ w'.ownsRow base 48 5 v' (n + m) (cells5 (xs ++ news)) ∧ w.grownBy w' v.ownBlock := by
  obtain ⟨i0, hi, hz0, hz1, hz2⟩ := info_parts infoIns
  rcases A with _ | ad
  · have h0 : m = 0 := by
      rcases Nat.eq_zero_or_pos m with h0 | h0
      · exact h0
      · obtain ⟨_, _, e, _⟩ := h.row h0
        cases e
    subst h0
    have hx : news = [] := List.eq_nil_of_length_eq_zero h.len
    subst hx
    refine ⟨v, w, ?_, by simpa using hown, World.grownBy.refl _ _⟩
    rcases hown.2 with ⟨rfl, rfl⟩ | ⟨g, cap, cur, rfl, _, _, hnc, _⟩
    · simp [Builtin.append_, run_underlying Tryd.underlying35, sizeOf, typeInfo, hi, Builtin.lenOf, Builtin.firstCells]
    · simp [Builtin.append_, run_underlying Tryd.underlying35, sizeOf, typeInfo, hi, Builtin.lenOf, Builtin.firstCells, hnc, storeCells]
  · obtain ⟨v', w', hr, ho, hg, _⟩ := run_append_own (P := Tryd.prog) w base 35 ty 48 i0 (.agg #[.int .i64 0, .int .i64 0, .int .i64 0, .int .i64 0, .int .i64 0]) 5 40 Tryd.underlying35 hi hz0 hz1 hz2 rfl (by decide) v n _ hown ad m c (cells5 news) (by rw [cells5_len, h.len]) (news_of_inss h) oneCell5 (by unfold maxLen; omega) (by omega) hbase
    exact ⟨v', w', hr, by rw [cells5_append]; exact ho, hg⟩

/-- What stands joined behind i of the two. -/
def joinedN (xs ys : List In5) : Nat → List In5
  | 0 => []
  | 1 => xs
  | _ => xs ++ ys

def JoinedN (w wr : World) (xs ys : List In5) (v : Value) (i : Nat) : Prop :=
  wr.ownsRow w.heap.size 48 5 v (joinedN xs ys i).length (cells5 (joinedN xs ys i)) ∧ w.grownBy wr none

def ToldInss (xs : List In5) (w : World) (e : Ending) (w' : World) : Prop :=
  ∃ A c, e = .returned (.slice A xs.length c) ∧ w'.ownsRow w.heap.size 48 5 (.slice A xs.length c) xs.length (cells5 xs) ∧ w.grownBy w' none

theorem wrap_place (n : Int) (h : -9223372036854775808 ≤ n ∧ n ≤ 9223372036854775807) : wrap64 n = n := by unfold wrap64; omega

/-- A whole. -/
def wholeL (r : Int) (body : List In5) : List In5 := [(1, 0, 1, 0, 0), (1, 7, wrap64 (r + 1), 0, 0), (12, 0, 7, 4, 0), (0, 0, 0, 0, 0), (16, 1, 0, 0, 0)] ++ body ++ [(16, 2, 0, 0, 0), (3, 0, 0, 1, 0), (10, 2, 0, 0, 0)]

def wheadL (r : Int) : List In5 := [(1, 0, 1, 0, 0), (1, 7, wrap64 (r + 1), 0, 0), (12, 0, 7, 4, 0), (0, 0, 0, 0, 0), (16, 1, 0, 0, 0)]
def wheadC (r : Int) : Array Value := #[.int .i64 1, .int .i64 0, .int .i64 1, .int .i64 0, .int .i64 0, .int .i64 1, .int .i64 7, .int .i64 (wrap64 (r + 1)), .int .i64 0, .int .i64 0, .int .i64 12, .int .i64 0, .int .i64 7, .int .i64 4, .int .i64 0, .int .i64 0, .int .i64 0, .int .i64 0, .int .i64 0, .int .i64 0, .int .i64 16, .int .i64 1, .int .i64 0, .int .i64 0, .int .i64 0]
def footL : List In5 := [(16, 2, 0, 0, 0), (3, 0, 0, 1, 0), (10, 2, 0, 0, 0)]
def footC : Array Value := #[.int .i64 16, .int .i64 2, .int .i64 0, .int .i64 0, .int .i64 0, .int .i64 3, .int .i64 0, .int .i64 0, .int .i64 1, .int .i64 0, .int .i64 10, .int .i64 2, .int .i64 0, .int .i64 0, .int .i64 0]

set_option maxHeartbeats 1000000 in
theorem pwhole_any {w : World} (r : Int) (A : Option Addr) (m c : Nat) (body : List In5) (h : Inss w w.heap.size A m body) (hm : m ≤ 1000) :
    Calls Tryd.prog 15 #[.int .i64 r, .slice A m c] w fun e w' => ∃ v, e = .returned v ∧ w'.ownsRow w.heap.size 48 5 v (5 + m + 3) (cells5 (wholeL r body)) ∧ w.grownBy w' none := by
  have ho := own_lit (w := w) (cs := wheadC r) (l := wheadL r) (n := 5) rfl rfl (by decide) w.heap.size (Nat.le_refl _)
  have hg0 := World.grownBy_alloc w (.cells (wheadC r) 48) none
  have hI := h.old ((Below.refl _ _).alloc (Nat.le_refl _) (.cells (wheadC r) 48))
  obtain ⟨v1, w1, hr1, ho1, hg1⟩ := run_appendP (c := c) ho hI (by omega) (by simp) 35
  have hg1 := hg0.andThen hg1 (fun k hk => .inl (ho.lt k hk).1)
  obtain ⟨A1, c1, rfl⟩ := slice_of_own ho1
  have hI2 := inss_lit (w := w1) (cs := footC) (l := footL) (n := 3) rfl rfl (by decide)
  obtain ⟨v2, w2, hr2, ho2, hg2⟩ := run_appendP (c := 3) (ho1.alloc (.cells footC 48)) hI2 (by omega) (by have := hg1.size; simp; omega) 35
  have hg2 := (hg1.andThen (World.grownBy_alloc w1 (.cells footC 48) none) (fun k hk => by cases hk)).andThen hg2 (fun k hk => .inl (ho1.lt k hk).1)
  unfold wheadC at hr1
  unfold footC at hr2
  have HR1 := Lib.hid hr1
  have HR2 := Lib.hid hr2
  have HO := Lib.hid ho2
  have HG := Lib.hid hg2
  clear h ho hg0 hI hr1 ho1 hg1 hI2 hr2 ho2 hg2
  go_enter Tryd.func15, Tryd.ntmps15
  go_wp2_with (at_builtin; first | refine Lib.wpList_append_run _ rfl _ _ _ _ rfl _ _ rfl rfl _ _ HR1.out ?_ | refine Lib.wpList_append_run _ rfl _ _ _ _ rfl _ _ rfl rfl _ _ HR2.out ?_)
  go_ret
  exact ⟨_, rfl, HO.out, HG.out⟩

/-- A machine of programs that were laid. -/
theorem new_at {w W : World} (hw : CW w) (hb : Below w.heap.size w W) (A C : Option Addr) (n c nc cc : Nat) (ps : List (List Ins5)) (cells : List Int) (hp : Progs W W.heap.size A n ps) (hc : Ints .u64 W W.heap.size C nc cells) (h16 : n ≤ 16) (hn3 : nc ≤ 300) (hr : ∀ i, i < n → RightL (ps.getD i []) nc) :
    Calls Tryd.prog 14 #[.slice A n c, .slice C nc cc] W fun e w' => ∃ c, e = .returned (.tuple #[.pointer (some ⟨c, 0, none⟩), .nilIface]) ∧ At w c (newM ps cells) w' := by
  refine (knew_ok (hw.old hb) A C n c nc cc ps cells hp hc h16 hn3 hr).mono ?_
  rintro e w' ⟨S, X, he, hC, hB⟩
  exact ⟨X.c, he, S, X, rfl, hC.lower hb.size, hb.trans (hB.mono hb.size)⟩
end Go.Proofs.YtkmidefgmefohaaDoor
