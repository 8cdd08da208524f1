/-
  How often 1 is doubled to be no less than a number: part.Levels. Pieces of programs: Await, Tell; the fact that the laws on them ask first. The frame behind a region, written out. What a program of registers says at last. SUMS ARE SUMS; BITS IN TWO PIECES; LESS, OR NOT. Whole: a program that goes through a body. A machine of programs that were laid. What is wrong with a party.
-/
import Derived.RowKitTokens
import Derived.Test.YtgkfhihnfllmhaaGreatDoorShelf
import Derived.Lib.BitFns
import Derived.Test.YtgkfhihnfllmhaaGreatDoorQXA
import Derived.Test.YtgkfhihnfllmhaaGreatDoorQXB
import Derived.Test.YtgkfhihnfllmhaaGreatDoorQXI
import Derived.Test.YtgkfhihnfllmhaaGreatDoorQXB2
import Derived.Test.YtgkfhihnfllmhaaGreatDoorQXF
import Derived.Lib.AppendZeros
namespace Go.Proofs.YtgkfhihnfllmhaaGreatDoor
set_option maxRecDepth 100000
open Go.RowKit

/-- l doublings are enough for n, and no fewer. -/
def LvIs (n : Int) (l : Nat) : Prop := n ≤ 2 ^ l ∧ (l = 0 ∨ (2 : Int) ^ (l - 1) < n)

theorem bitAux_spec : ∀ (f x : Nat), x < 2 ^ f → x < 2 ^ Lib.bitLenAux f x ∧ (x ≠ 0 → 2 ^ Lib.bitLenAux f x ≤ 2 * x) ∧ Lib.bitLenAux f x ≤ f
  | 0, x, h => by
    have : x = 0 := by simpa using h
    subst this
    exact ⟨by decide, fun h => absurd rfl h, Nat.le_refl _⟩
  | f + 1, x, h => by
    unfold Lib.bitLenAux
    by_cases h0 : x = 0
    · subst h0
      simp
    · rw [if_neg h0]
      obtain ⟨h1, h2, h3⟩ := bitAux_spec f (x / 2) (by rw [Nat.pow_succ] at h; omega)
      rw [Nat.add_comm 1, Nat.pow_succ]
      refine ⟨by omega, fun _ => ?_, by omega⟩
      by_cases h4 : x / 2 = 0
      · have hx : x = 1 := by omega
        subst hx
        have e0 : Lib.bitLenAux f 0 = 0 := by cases f <;> simp [Lib.bitLenAux]
        simp [e0]
      · have := h2 h4
        omega

theorem lv_one {n : Int} (h : n ≤ 1) : LvIs n 0 := ⟨by simpa using h, .inl rfl⟩
theorem lv_bits {n : Int} (h : 1 < n) (hn : n ≤ 9223372036854775807) : LvIs n (Lib.bitLen (n - 1).toNat) ∧ 0 < Lib.bitLen (n - 1).toNat ∧ Lib.bitLen (n - 1).toNat ≤ 64 := by
  obtain ⟨x, hx⟩ : ∃ x : Nat, n - 1 = x := ⟨(n - 1).toNat, by omega⟩
  rw [hx, Int.toNat_natCast]
  obtain ⟨h1, h2, h3⟩ := bitAux_spec 64 x (by omega)
  have e : Lib.bitLen x = Lib.bitLenAux 64 x := rfl
  rw [e]
  generalize Lib.bitLenAux 64 x = l at *
  have h2 := h2 (by omega)
  have hl : 0 < l := by
    rcases Nat.eq_zero_or_pos l with h0 | h0
    · subst h0
      simp at h1
      omega
    · exact h0
  refine ⟨⟨?_, .inr ?_⟩, hl, h3⟩
  · have : ((x : Nat) : Int) < ((2 ^ l : Nat) : Int) := by exact_mod_cast h1
    push_cast at this
    omega
  · obtain ⟨k, rfl⟩ : ∃ k, l = k + 1 := ⟨l - 1, by omega⟩
    rw [Nat.pow_succ] at h2
    have : ((2 ^ k : Nat) : Int) ≤ (x : Int) := by exact_mod_cast (show 2 ^ k ≤ x by omega)
    push_cast at this
    rw [show k + 1 - 1 = k by omega]
    omega

theorem pow_le_pow2 {a b : Nat} (h : a ≤ b) : (2 : Int) ^ a ≤ 2 ^ b := by
  have := Nat.pow_le_pow_right (n := 2) (by decide) h
  exact_mod_cast this
theorem lv_le {n : Int} {l k : Nat} (h : LvIs n l) (hk : n ≤ 2 ^ k) : l ≤ k := by
  rcases h.2 with h0 | h0
  · omega
  · rcases Nat.lt_or_ge k l with hlt | hge
    · have := pow_le_pow2 (show k ≤ l - 1 by omega)
      omega
    · exact hge
theorem lv_only {n : Int} {l k : Nat} (h : LvIs n l) (h' : LvIs n k) : l = k := Nat.le_antisymm (lv_le h h'.1) (lv_le h' h.1)
theorem bits_len (x : Int) (w : World) (h0 : 0 ≤ x) (h1 : x ≤ 18446744073709551615) : Calls Tryz.prog 245 #[.int .u64 x] w fun e w' => e = .returned (.int .i64 (Lib.bitLen x.toNat)) ∧ w' = w := by
  have H := Lib.hid (Tryz.bits_Len64 x w h0 h1)
  generalize Lib.bitLen x.toNat = z at *
  go_enter Tryz.func245, Tryz.ntmps245
  go_wp2_with fail
  refine H.out.mono ?_
  rintro e w' ⟨rfl, rfl⟩
  go_wp2
  go_ret
  exact ⟨rfl, rfl⟩
set_option maxHeartbeats 400000 in
theorem plevels_any (n : Int) (l : Nat) (w : World) (hl : LvIs n l) (hn : n ≤ 9223372036854775807) :
    Calls Tryz.prog 224 #[.int .i64 n] w fun e w' => e = .returned (.int .i64 (l : Int)) ∧ w' = w := by
  by_cases h : n ≤ 1
  · have e : l = 0 := lv_only hl (lv_one h)
    subst e
    go_enter Tryz.func224, Tryz.ntmps224
    go_wp2
    go_ret
    exact ⟨rfl, rfl⟩
  · obtain ⟨h1, h2, h3⟩ := lv_bits (show 1 < n by omega) hn
    have e : l = Lib.bitLen (n - 1).toNat := lv_only hl h1
    have e1 : wrap64 (n - 1) = n - 1 := by unfold wrap64; omega
    have e2 : IntKind.u64.wrap (n - 1) = n - 1 := by
      unfold IntKind.wrap
      simp [IntKind.signed, IntKind.bits]
      omega
    have HL := Lib.hid (bits_len (n - 1) w (by omega) (by omega))
    rw [← e] at HL
    clear h1 h2 h3 e hl
    go_enter Tryz.func224, Tryz.ntmps224
    go_wp2_with fail
    refine HL.out.mono ?_
    rintro e w' ⟨rfl, rfl⟩
    go_wp2
    go_ret
    exact ⟨rfl, rfl⟩
end Go.Proofs.YtgkfhihnfllmhaaGreatDoor

namespace Go.Proofs.YtgkfhihnfllmhaaGreatDoor
set_option maxRecDepth 100000
open Go.RowKit Go.Sort
set_option linter.unusedVariables false

def tellP (cell n : Int) : List In5 := [(7, cell, 0, -1, 0), (15, cell, n, -1, 0)]
def tellC (cell n : Int) : Array Value := #[.int .i64 7, .int .i64 cell, .int .i64 0, .int .i64 (-1), .int .i64 0, .int .i64 15, .int .i64 cell, .int .i64 n, .int .i64 (-1), .int .i64 0]
def awaitP (place cell : Int) : List In5 := [(6, 1, cell, 0, 0), (12, 1, 0, wrap64 (place + 3), 0), (10, wrap64 (place + 5), 0, 0, 0), (14, cell, 1, 0, 0), (10, place, 0, 0, 0)]
def awaitC (place cell : Int) : Array Value := #[.int .i64 6, .int .i64 1, .int .i64 cell, .int .i64 0, .int .i64 0, .int .i64 12, .int .i64 1, .int .i64 0, .int .i64 (wrap64 (place + 3)), .int .i64 0, .int .i64 10, .int .i64 (wrap64 (place + 5)), .int .i64 0, .int .i64 0, .int .i64 0, .int .i64 14, .int .i64 cell, .int .i64 1, .int .i64 0, .int .i64 0, .int .i64 10, .int .i64 place, .int .i64 0, .int .i64 0, .int .i64 0]

/-- A row of instructions that is written down is a slice of them. -/
theorem own_lit {w : World} {cs : Array Value} {l : List In5} {n : Nat} (hcs : cs.toList = cells5 l) (hl : l.length = n) (hn : n ≤ 1000) (B : Nat) (hB : B ≤ w.heap.size) : (w.alloc (.cells cs 95)).ownsRow B 95 5 (.slice (some ⟨w.heap.size, 0, none⟩) n n) n (cells5 l) := by
  have hsz : cs.size = n * 5 := by rw [← Array.length_toList, hcs, cells5_len, hl]
  have ho := World.ownsRow_lit (base := B) (e := 95) (size := 5) w cs n hB (by unfold maxLen; omega) hsz
  rw [hcs] at ho
  exact ho
theorem inss_lit {w : World} {cs : Array Value} {l : List In5} {n : Nat} (hcs : cs.toList = cells5 l) (hl : l.length = n) (hn : n ≤ 1000) : Inss (w.alloc (.cells cs 95)) (w.alloc (.cells cs 95)).heap.size (some ⟨w.heap.size, 0, none⟩) n l :=
  Inss.of_own (own_lit hcs hl hn w.heap.size (Nat.le_refl _)) hl

set_option maxHeartbeats 400000 in
theorem ptell_any (cell n : Int) (w : World) : Calls Tryz.prog 240 #[.int .i64 cell, .int .i64 n] w fun e w' => e = .returned (.slice (some ⟨w.heap.size, 0, none⟩) 2 2) ∧ w' = w.alloc (.cells (tellC cell n) 95) := by
  go_enter Tryz.func240, Tryz.ntmps240
  go_wp2
  go_ret
  exact ⟨rfl, rfl⟩
set_option maxHeartbeats 400000 in
theorem pawait_any (place cell : Int) (w : World) : Calls Tryz.prog 239 #[.int .i64 place, .int .i64 cell] w fun e w' => e = .returned (.slice (some ⟨w.heap.size, 0, none⟩) 5 5) ∧ w' = w.alloc (.cells (awaitC place cell) 95) := by
  go_enter Tryz.func239, Tryz.ntmps239
  go_wp2
  go_ret
  exact ⟨rfl, rfl⟩

end Go.Proofs.YtgkfhihnfllmhaaGreatDoor

namespace Go.Proofs.YtgkfhihnfllmhaaGreatDoor
set_option maxRecDepth 100000
end Go.Proofs.YtgkfhihnfllmhaaGreatDoor

namespace Go.Proofs.YtgkfhihnfllmhaaGreatDoor
set_option maxRecDepth 100000
open Go.RowKit Go.Shelf Go.Sort
set_option linter.unusedVariables false
set_option linter.unusedSimpArgs false

end Go.Proofs.YtgkfhihnfllmhaaGreatDoor

namespace Go.Proofs.YtgkfhihnfllmhaaGreatDoor
set_option maxRecDepth 100000
open Go.RowKit Go.Shelf Go.Sort
set_option linter.unusedVariables false
set_option linter.unusedSimpArgs false

end Go.Proofs.YtgkfhihnfllmhaaGreatDoor

namespace Go.Proofs.YtgkfhihnfllmhaaGreatDoor
set_option maxRecDepth 100000
open Go.RowKit Go.Shelf Go.Sort
set_option linter.unusedVariables false

/-- append of whatever row of instructions to a row of the call's own. -/
theorem run_appendP {w : World} {base : Nat} {v : Value} {n m c B : Nat} {A : Option Addr} {xs news : List In5} (hown : w.ownsRow base 95 5 v n (cells5 xs)) (h : Inss w B A m news) (hn : n + m ≤ 100000) (hbase : base ≤ w.heap.size) (ty : TypeId) :
    ∃ v' w', (Builtin.append_ #[89, 89] ty #[v, .slice A m c]).run Tryz.prog w = .ok v' w' ∧ w'.ownsRow base 95 5 v' (n + m) (cells5 (xs ++ news)) ∧ w.grownBy w' v.ownBlock := by
  obtain ⟨i0, hi, hz0, hz1, hz2⟩ := info_parts infoIns
  rcases A with _ | ad
  · have h0 : m = 0 := by
      rcases Nat.eq_zero_or_pos m with h0 | h0
      · exact h0
      · obtain ⟨_, _, e, _⟩ := h.row h0
        cases e
    subst h0
    have hx : news = [] := List.eq_nil_of_length_eq_zero h.len
    subst hx
    refine ⟨v, w, ?_, by simpa using hown, World.grownBy.refl _ _⟩
    rcases hown.2 with ⟨rfl, rfl⟩ | ⟨g, cap, cur, rfl, _, _, hnc, _⟩
    · simp [Builtin.append_, run_underlying Tryz.underlying89, sizeOf, typeInfo, hi, Builtin.lenOf, Builtin.firstCells]
    · simp [Builtin.append_, run_underlying Tryz.underlying89, sizeOf, typeInfo, hi, Builtin.lenOf, Builtin.firstCells, hnc, storeCells]
  · obtain ⟨v', w', hr, ho, hg, _⟩ := run_append_own (P := Tryz.prog) w base 89 ty 95 i0 (.agg #[.int .i64 0, .int .i64 0, .int .i64 0, .int .i64 0, .int .i64 0]) 5 40 Tryz.underlying89 hi hz0 hz1 hz2 rfl (by decide) v n _ hown ad m c (cells5 news) (by rw [cells5_len, h.len]) (news_of_inss h) oneCell5 (by unfold maxLen; omega) (by omega) hbase
    exact ⟨v', w', hr, by rw [cells5_append]; exact ho, hg⟩

theorem wrap_place (n : Int) (h : -9223372036854775808 ≤ n ∧ n ≤ 9223372036854775807) : wrap64 n = n := by unfold wrap64; omega

/-- A whole. -/
def wholeL (r : Int) (body : List In5) : List In5 := [(1, 0, 1, 0, 0), (1, 7, wrap64 (r + 1), 0, 0), (12, 0, 7, 4, 0), (0, 0, 0, 0, 0), (16, 1, 0, 0, 0)] ++ body ++ [(16, 2, 0, 0, 0), (3, 0, 0, 1, 0), (10, 2, 0, 0, 0)]

def wheadL (r : Int) : List In5 := [(1, 0, 1, 0, 0), (1, 7, wrap64 (r + 1), 0, 0), (12, 0, 7, 4, 0), (0, 0, 0, 0, 0), (16, 1, 0, 0, 0)]
def wheadC (r : Int) : Array Value := #[.int .i64 1, .int .i64 0, .int .i64 1, .int .i64 0, .int .i64 0, .int .i64 1, .int .i64 7, .int .i64 (wrap64 (r + 1)), .int .i64 0, .int .i64 0, .int .i64 12, .int .i64 0, .int .i64 7, .int .i64 4, .int .i64 0, .int .i64 0, .int .i64 0, .int .i64 0, .int .i64 0, .int .i64 0, .int .i64 16, .int .i64 1, .int .i64 0, .int .i64 0, .int .i64 0]
def footL : List In5 := [(16, 2, 0, 0, 0), (3, 0, 0, 1, 0), (10, 2, 0, 0, 0)]
def footC : Array Value := #[.int .i64 16, .int .i64 2, .int .i64 0, .int .i64 0, .int .i64 0, .int .i64 3, .int .i64 0, .int .i64 0, .int .i64 1, .int .i64 0, .int .i64 10, .int .i64 2, .int .i64 0, .int .i64 0, .int .i64 0]

set_option maxHeartbeats 1000000 in
theorem pwhole_any {w : World} (r : Int) (A : Option Addr) (m c : Nat) (body : List In5) (h : Inss w w.heap.size A m body) (hm : m ≤ 1000) :
    Calls Tryz.prog 219 #[.int .i64 r, .slice A m c] w fun e w' => ∃ v, e = .returned v ∧ w'.ownsRow w.heap.size 95 5 v (5 + m + 3) (cells5 (wholeL r body)) ∧ w.grownBy w' none := by
  have ho := own_lit (w := w) (cs := wheadC r) (l := wheadL r) (n := 5) rfl rfl (by decide) w.heap.size (Nat.le_refl _)
  have hg0 := World.grownBy_alloc w (.cells (wheadC r) 95) none
  have hI := h.old ((Below.refl _ _).alloc (Nat.le_refl _) (.cells (wheadC r) 95))
  obtain ⟨v1, w1, hr1, ho1, hg1⟩ := run_appendP (c := c) ho hI (by omega) (by simp) 89
  have hg1 := hg0.andThen hg1 (fun k hk => .inl (ho.lt k hk).1)
  obtain ⟨A1, c1, rfl⟩ := slice_of_own ho1
  have hI2 := inss_lit (w := w1) (cs := footC) (l := footL) (n := 3) rfl rfl (by decide)
  obtain ⟨v2, w2, hr2, ho2, hg2⟩ := run_appendP (c := 3) (ho1.alloc (.cells footC 95)) hI2 (by omega) (by have := hg1.size; simp; omega) 89
  have hg2 := (hg1.andThen (World.grownBy_alloc w1 (.cells footC 95) none) (fun k hk => by cases hk)).andThen hg2 (fun k hk => .inl (ho1.lt k hk).1)
  unfold wheadC at hr1
  unfold footC at hr2
  have HR1 := Lib.hid hr1
  have HR2 := Lib.hid hr2
  have HO := Lib.hid ho2
  have HG := Lib.hid hg2
  clear h ho hg0 hI hr1 ho1 hg1 hI2 hr2 ho2 hg2
  go_enter Tryz.func219, Tryz.ntmps219
  go_wp2_with (at_builtin; first | refine Lib.wpList_append_run _ rfl _ _ _ _ rfl _ _ rfl rfl _ _ HR1.out ?_ | refine Lib.wpList_append_run _ rfl _ _ _ _ rfl _ _ rfl rfl _ _ HR2.out ?_)
  go_ret
  exact ⟨_, rfl, HO.out, HG.out⟩

/-- A machine of programs that were laid. -/
theorem new_at {w W : World} (hw : CW w) (hb : Below w.heap.size w W) (A C : Option Addr) (n c nc cc : Nat) (ps : List (List Ins5)) (cells : List Int) (hp : Progs W W.heap.size A n ps) (hc : Ints .u64 W W.heap.size C nc cells) (h16 : n ≤ 16) (hn3 : nc ≤ 300) (hr : ∀ i, i < n → RightL (ps.getD i []) nc) :
    Calls Tryz.prog 70 #[.slice A n c, .slice C nc cc] W fun e w' => ∃ c, e = .returned (.tuple #[.pointer (some ⟨c, 0, none⟩), .nilIface]) ∧ At w c (newM ps cells) w' := by
  refine (knew_ok (hw.old hb) A C n c nc cc ps cells hp hc h16 hn3 hr).mono ?_
  rintro e w' ⟨S, X, he, hC, hB⟩
  exact ⟨X.c, he, S, X, rfl, hC.lower hb.size, hb.trans (hB.mono hb.size)⟩
end Go.Proofs.YtgkfhihnfllmhaaGreatDoor

namespace Go.Proofs.YtgkfhihnfllmhaaGreatDoor
set_option maxRecDepth 100000
open Go.RowKit

/-- A party that may be. -/
def Party (n id r : Int) : Prop := (1 ≤ n ∧ n ≤ 16) ∧ (0 ≤ id ∧ id ≤ n - 1) ∧ 0 ≤ r ∧ r ≤ 20
instance (n id r : Int) : Decidable (Party n id r) := inferInstanceAs (Decidable (_ ∧ _))

theorem pwithin_any (x a b : Int) (w : World) : Calls Tryz.prog 238 #[.int .i64 x, .int .i64 a, .int .i64 b] w fun e w' => e = .returned (.bool (decide (a ≤ x ∧ x ≤ b))) ∧ w' = w := by
  by_cases h : a ≤ x
  · by_cases h2 : x ≤ b
    · have e : decide (a ≤ x ∧ x ≤ b) = true := decide_eq_true ⟨h, h2⟩
      rw [e]
      go_enter Tryz.func238, Tryz.ntmps238
      go_wp2
      go_ret
      exact ⟨rfl, rfl⟩
    · have e : decide (a ≤ x ∧ x ≤ b) = false := decide_eq_false fun h => h2 h.2
      rw [e]
      go_enter Tryz.func238, Tryz.ntmps238
      go_wp2
      go_ret
      exact ⟨rfl, rfl⟩
  · have e : decide (a ≤ x ∧ x ≤ b) = false := decide_eq_false fun h' => h h'.1
    rw [e]
    go_enter Tryz.func238, Tryz.ntmps238
    go_wp2
    go_ret
    exact ⟨rfl, rfl⟩

theorem pcheck_ok (n id r : Int) (w : World) (h : Party n id r) : Calls Tryz.prog 217 #[.int .i64 n, .int .i64 id, .int .i64 r] w fun e w' => e = .returned .nilIface ∧ w' = w := by
  obtain ⟨h1, h2, h3⟩ := h
  have e1 : wrap64 (n - 1) = n - 1 := by unfold wrap64; omega
  have H1 := pwithin_any n 1 16 w
  have H2 := pwithin_any id 0 (n - 1) w
  have H3 := pwithin_any r 0 20 w
  rw [decide_eq_true h1] at H1
  rw [decide_eq_true h2] at H2
  rw [decide_eq_true h3] at H3
  have H1 := Lib.hid H1
  have H2 := Lib.hid H2
  have H3 := Lib.hid H3
  clear h1 h2 h3
  go_enter Tryz.func217, Tryz.ntmps217
  go_wp2_with fail
  refine H1.out.mono ?_
  rintro e w' ⟨rfl, rfl⟩
  go_wp2_with fail
  refine H2.out.mono ?_
  rintro e w' ⟨rfl, rfl⟩
  go_wp2_with fail
  refine H3.out.mono ?_
  rintro e w' ⟨rfl, rfl⟩
  go_wp2
  go_ret
  exact ⟨rfl, rfl⟩

end Go.Proofs.YtgkfhihnfllmhaaGreatDoor
