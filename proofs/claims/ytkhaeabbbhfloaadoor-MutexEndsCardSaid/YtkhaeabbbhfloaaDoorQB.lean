/-
  Instructions as text, as plain functions on lists of bytes: how one is printed, and what text it is that is one. Of no program. The world in which package code runs: its table of forms, and the library's variables that Itoa and Atoi read; what is carried on. Small functions of package code: known, bounds, numbers. fits and Right: whether a program may be. Programs in memory: what a row of them reads as; slices.Equal, slices.Clone; one more behind a program. slices.Clone at programs; the fact that the laws ask first: a program that is written.
-/
import Derived.Lib.ItoaNum
import Derived.Lib.AtoiAll
import Derived.Lib.Bytealg
import Derived.Test.YtkhaeabbbhfloaaDoorQA
import Derived.WalkSmall
import Derived.Sort.Defs
import Derived.LaidEql
namespace Go.Proofs.YtkhaeabbbhfloaaDoor
set_option maxRecDepth 100000

/-- An instruction: its Op, A, B, C, D. -/
abbrev In5 := Int × Int × Int × Int × Int

def nums (x : In5) : List Int := [x.2.1, x.2.2.1, x.2.2.2.1, x.2.2.2.2]

def names : List (List UInt8) := [[104, 97, 108, 116], [108, 101, 116], [99, 111, 112, 121], [112, 108, 117, 115], [115, 117, 109], [102, 105, 101, 108, 100], [108, 111, 97, 100], [115, 116, 111, 114, 101], [102, 101, 116, 99, 104], [115, 119, 97, 112], [106, 117, 109, 112], [115, 97, 109, 101], [108, 101, 115, 115], [101, 113, 117, 97, 108], [119, 97, 105, 116], [119, 97, 107, 101], [115, 97, 121]]
def kinds : List (List Nat) := [[0, 0, 0, 0], [1, 3, 0, 0], [1, 1, 0, 0], [1, 1, 3, 0], [1, 1, 1, 0], [1, 1, 6, 7], [1, 2, 0, 0], [2, 1, 5, 0], [1, 2, 3, 0], [1, 2, 1, 1], [4, 0, 0, 0], [1, 3, 4, 0], [1, 1, 4, 0], [1, 1, 4, 0], [2, 1, 0, 0], [2, 3, 5, 0], [3, 1, 0, 0]]

def nameOf (op : Nat) : List UInt8 := names.getD op []
def kindsOf (op : Nat) : List Nat := kinds.getD op []

/-- A number that an instruction has is printed behind a blank. -/
def piece (k : Nat) (n : Int) : List UInt8 := if k = 0 then [] else 32 :: Lib.itoa n

def pieces : List Nat → List Int → List UInt8
  | k :: ks, n :: ns => piece k n ++ pieces ks ns
  | _, _ => []

theorem kinds_len (op : Nat) (h : op < 17) : (kindsOf op).length = 4 := (by decide : ∀ op, op < 17 → (kindsOf op).length = 4) op h

end Go.Proofs.YtkhaeabbbhfloaaDoor

namespace Go.Proofs.YtkhaeabbbhfloaaDoor
set_option maxRecDepth 100000
open Go.RowKit

/-- The table of forms, cell for cell. -/
def formCells : Array Value := ((List.range 17).flatMap fun op => Value.string ⟨(nameOf op).toArray⟩ :: (kindsOf op).map fun (k : Nat) => Value.int .i64 (k : Int)).toArray

structure CW (w : World) : Prop where
  forms : w.var? Tryd.prog "quadrille/code.forms" = some formCells
  big : 1 ≤ w.heap.size

theorem g_forms : Tryd.prog.globalNamed "quadrille/code.forms" = some 0 := by kernel_rfl
theorem CW.below {w w' : World} {B : Nat} (h : CW w) (hb : Below B w w') (hB : 1 ≤ B) : CW w' :=
  ⟨var?_below hb g_forms (by omega) h.forms, Nat.le_trans h.big hb.size⟩

theorem CW.old {w w' : World} (h : CW w) (hb : Below w.heap.size w w') : CW w' := h.below hb h.big

theorem formCells_name : ∀ op, op < 17 → formCells[op * 5]? = some (.string ⟨(nameOf op).toArray⟩)
  | 0, _ => rfl
  | 1, _ => rfl
  | 2, _ => rfl
  | 3, _ => rfl
  | 4, _ => rfl
  | 5, _ => rfl
  | 6, _ => rfl
  | 7, _ => rfl
  | 8, _ => rfl
  | 9, _ => rfl
  | 10, _ => rfl
  | 11, _ => rfl
  | 12, _ => rfl
  | 13, _ => rfl
  | 14, _ => rfl
  | 15, _ => rfl
  | 16, _ => rfl
  | n + 17, h => absurd h (by omega)
theorem formCells_kind : ∀ op i, op < 17 → i < 4 → formCells[op * 5 + 1 + i]? = some (.int .i64 ((kindsOf op).getD i 0 : Nat))
  | 0, 0, _, _ => rfl
  | 0, 1, _, _ => rfl
  | 0, 2, _, _ => rfl
  | 0, 3, _, _ => rfl
  | 1, 0, _, _ => rfl
  | 1, 1, _, _ => rfl
  | 1, 2, _, _ => rfl
  | 1, 3, _, _ => rfl
  | 2, 0, _, _ => rfl
  | 2, 1, _, _ => rfl
  | 2, 2, _, _ => rfl
  | 2, 3, _, _ => rfl
  | 3, 0, _, _ => rfl
  | 3, 1, _, _ => rfl
  | 3, 2, _, _ => rfl
  | 3, 3, _, _ => rfl
  | 4, 0, _, _ => rfl
  | 4, 1, _, _ => rfl
  | 4, 2, _, _ => rfl
  | 4, 3, _, _ => rfl
  | 5, 0, _, _ => rfl
  | 5, 1, _, _ => rfl
  | 5, 2, _, _ => rfl
  | 5, 3, _, _ => rfl
  | 6, 0, _, _ => rfl
  | 6, 1, _, _ => rfl
  | 6, 2, _, _ => rfl
  | 6, 3, _, _ => rfl
  | 7, 0, _, _ => rfl
  | 7, 1, _, _ => rfl
  | 7, 2, _, _ => rfl
  | 7, 3, _, _ => rfl
  | 8, 0, _, _ => rfl
  | 8, 1, _, _ => rfl
  | 8, 2, _, _ => rfl
  | 8, 3, _, _ => rfl
  | 9, 0, _, _ => rfl
  | 9, 1, _, _ => rfl
  | 9, 2, _, _ => rfl
  | 9, 3, _, _ => rfl
  | 10, 0, _, _ => rfl
  | 10, 1, _, _ => rfl
  | 10, 2, _, _ => rfl
  | 10, 3, _, _ => rfl
  | 11, 0, _, _ => rfl
  | 11, 1, _, _ => rfl
  | 11, 2, _, _ => rfl
  | 11, 3, _, _ => rfl
  | 12, 0, _, _ => rfl
  | 12, 1, _, _ => rfl
  | 12, 2, _, _ => rfl
  | 12, 3, _, _ => rfl
  | 13, 0, _, _ => rfl
  | 13, 1, _, _ => rfl
  | 13, 2, _, _ => rfl
  | 13, 3, _, _ => rfl
  | 14, 0, _, _ => rfl
  | 14, 1, _, _ => rfl
  | 14, 2, _, _ => rfl
  | 14, 3, _, _ => rfl
  | 15, 0, _, _ => rfl
  | 15, 1, _, _ => rfl
  | 15, 2, _, _ => rfl
  | 15, 3, _, _ => rfl
  | 16, 0, _, _ => rfl
  | 16, 1, _, _ => rfl
  | 16, 2, _, _ => rfl
  | 16, 3, _, _ => rfl
  | n + 17, _, h, _ => absurd h (by omega)
  | _, n + 4, _, h => absurd h (by omega)

theorem CW.name {w : World} (h : CW w) (op : Nat) (ho : op < 17) : w.cell? ⟨0, op * 5, none⟩ = some (.string ⟨(nameOf op).toArray⟩) := by
  rw [World.var?_cell g_forms h.forms, formCells_name op ho]
theorem CW.kind {w : World} (h : CW w) (op i : Nat) (ho : op < 17) (hi : i < 4) : w.cell? ⟨0, op * 5 + 1 + i, none⟩ = some (.int .i64 ((kindsOf op).getD i 0 : Nat)) := by
  rw [World.var?_cell g_forms h.forms, formCells_kind op i ho hi]
end Go.Proofs.YtkhaeabbbhfloaaDoor

namespace Go.Proofs.YtkhaeabbbhfloaaDoor
set_option maxRecDepth 100000
open Go.RowKit Go.Sort

/-- An instruction as a value. -/
def insV (x : In5) : Value := .agg #[.int .i64 x.1, .int .i64 x.2.1, .int .i64 x.2.2.1, .int .i64 x.2.2.2.1, .int .i64 x.2.2.2.2]

theorem known_yes (op : Nat) (h : op < 17) (w : World) : Calls Tryd.prog 56 #[.int .i64 op] w fun e w' => e = .returned (.bool true) ∧ w = w' := by
  have h0 : (0 : Int) ≤ (op : Int) := by omega
  have h1 : (op : Int) < 17 := by omega
  go_enter Tryd.func56, Tryd.ntmps56
  go_wp2
  go_ret
  exact ⟨rfl, rfl⟩

theorem known_no (op : Int) (h : op < 0 ∨ 17 ≤ op) (w : World) : Calls Tryd.prog 56 #[.int .i64 op] w fun e w' => e = .returned (.bool false) ∧ w = w' := by
  by_cases h0 : 0 ≤ op
  · have h1 : ¬ op < 17 := by omega
    clear h
    go_enter Tryd.func56, Tryd.ntmps56
    go_wp2
    go_ret
    exact ⟨rfl, rfl⟩
  · clear h
    go_enter Tryd.func56, Tryd.ntmps56
    go_wp2
    go_ret
    exact ⟨rfl, rfl⟩

/-- The least and the most that a number of a kind may be. -/
def boundsL (k : Nat) (n cells : Int) : Int × Int :=
  match k with
  | 1 => (0, 7)
  | 2 => (0, cells - 1)
  | 3 => (-9223372036854775808, 9223372036854775807)
  | 4 => (0, n - 1)
  | 5 => (-1, 7)
  | 6 => (0, 63)
  | 7 => (1, 63)
  | _ => (0, 0)

set_option maxHeartbeats 1000000 in
theorem bounds_any (k : Nat) (hk : k < 8) (n cells : Int) (hn0 : 0 ≤ n) (hn1 : n ≤ 600) (hc0 : 0 ≤ cells) (hc1 : cells ≤ 300) (w : World) :
    Calls Tryd.prog 77 #[.int .i64 k, .int .i64 n, .int .i64 cells] w fun e w' => e = .returned (.tuple #[.int .i64 (boundsL k n cells).1, .int .i64 (boundsL k n cells).2]) ∧ w = w' := by
  have wc : wrap64 (cells - 1) = cells - 1 := by unfold wrap64; omega
  have wn : wrap64 (n - 1) = n - 1 := by unfold wrap64; omega
  match k, hk with
  | 0, _ =>
    go_enter Tryd.func77, Tryd.ntmps77
    go_wp2
    go_ret2
    exact ⟨rfl, rfl⟩
  | 1, _ =>
    go_enter Tryd.func77, Tryd.ntmps77
    go_wp2
    go_ret2
    exact ⟨rfl, rfl⟩
  | 2, _ =>
    go_enter Tryd.func77, Tryd.ntmps77
    go_wp2
    go_ret2
    exact ⟨rfl, rfl⟩
  | 3, _ =>
    go_enter Tryd.func77, Tryd.ntmps77
    go_wp2
    go_ret2
    exact ⟨rfl, rfl⟩
  | 4, _ =>
    go_enter Tryd.func77, Tryd.ntmps77
    go_wp2
    go_ret2
    exact ⟨rfl, rfl⟩
  | 5, _ =>
    go_enter Tryd.func77, Tryd.ntmps77
    go_wp2
    go_ret2
    exact ⟨rfl, rfl⟩
  | 6, _ =>
    go_enter Tryd.func77, Tryd.ntmps77
    go_wp2
    go_ret2
    exact ⟨rfl, rfl⟩
  | 7, _ =>
    go_enter Tryd.func77, Tryd.ntmps77
    go_wp2
    go_ret2
    exact ⟨rfl, rfl⟩

theorem numbers_any (x : In5) (w : World) : Calls Tryd.prog 76 #[insV x] w fun e w' => e = .returned (.agg #[.int .i64 x.2.1, .int .i64 x.2.2.1, .int .i64 x.2.2.2.1, .int .i64 x.2.2.2.2]) ∧ w.grownBy w' none := by
  obtain ⟨o, a, b, c, d⟩ := x
  unfold insV
  go_enter Tryd.func76, Tryd.ntmps76
  go_wp2
  refine bodyPost_ret (v := .agg #[.int .i64 a, .int .i64 b, .int .i64 c, .int .i64 d]) (by simp [results, Tryd.results76, go_sem]) rfl ⟨rfl, ?_⟩
  exact (World.grownBy_alloc w _ none).andThen (World.grownBy_alloc _ _ none) (by intro j hj; cases hj)
/-- A program, cell for cell. -/
def cells5 (l : List In5) : List Value := l.flatMap fun x => [.int .i64 x.1, .int .i64 x.2.1, .int .i64 x.2.2.1, .int .i64 x.2.2.2.1, .int .i64 x.2.2.2.2]

theorem cells5_append (l r : List In5) : cells5 (l ++ r) = cells5 l ++ cells5 r := by simp [cells5]
theorem cells5_one (x : In5) : cells5 [x] = [.int .i64 x.1, .int .i64 x.2.1, .int .i64 x.2.2.1, .int .i64 x.2.2.2.1, .int .i64 x.2.2.2.2] := by simp [cells5]

theorem infoIns : (Tryd.prog.info? 89).map (fun i => (i.zero, i.size, i.bytes)) = some (some (.agg #[.int .i64 0, .int .i64 0, .int .i64 0, .int .i64 0, .int .i64 0]), 5, 40) := by kernel_rfl

theorem own_form {w : World} {B e sz : Nat} {v : Value} {n : Nat} {xs : List Value} (h : w.ownsRow B e sz v n xs) : ∃ A c, v = .slice A n c := by
  rcases h.2 with ⟨rfl, rfl⟩ | ⟨g, cap, _, rfl, _⟩
  · exact ⟨none, 0, rfl⟩
  · exact ⟨_, _, rfl⟩
end Go.Proofs.YtkhaeabbbhfloaaDoor

namespace Go.Proofs.YtkhaeabbbhfloaaDoor
set_option maxRecDepth 100000
open Go.RowKit Go.Sort

/-- Each number is one that may stand there. -/
def fitsL (n cells : Int) : List Nat → List Int → Bool
  | k :: ks, v :: vs => !(decide (v < (boundsL k n cells).1)) && !(decide ((boundsL k n cells).2 < v)) && fitsL n cells ks vs
  | _, _ => true

theorem fitsL_step (n cells : Int) (ks : List Nat) (vs : List Int) (i : Nat) (h1 : i < ks.length) (h2 : i < vs.length) :
    fitsL n cells (ks.drop i) (vs.drop i) = (!(decide (vs.getD i 0 < (boundsL (ks.getD i 0) n cells).1)) && !(decide ((boundsL (ks.getD i 0) n cells).2 < vs.getD i 0)) && fitsL n cells (ks.drop (i + 1)) (vs.drop (i + 1))) := by
  rw [List.drop_eq_getElem_cons h1, List.drop_eq_getElem_cons h2, fitsL]
  have e1 : ks.getD i 0 = ks[i] := by rw [List.getD_eq_getElem?_getD, List.getElem?_eq_getElem h1]; rfl
  have e2 : vs.getD i 0 = vs[i] := by rw [List.getD_eq_getElem?_getD, List.getElem?_eq_getElem h2]; rfl
  rw [e1, e2]

theorem kinds_lt : ∀ op, op < 17 → ∀ i, i < 4 → (kindsOf op).getD i 0 < 8 := by decide

theorem index_int4 (a b c d : Int) : ∀ (i : Nat), i < 4 → ∀ w : World, (Instr.index 131 (.agg #[.int .i64 a, .int .i64 b, .int .i64 c, .int .i64 d]) (.int .i64 (i : Int))).run Tryd.prog w = .ok (.int .i64 ([a, b, c, d].getD i 0)) w
  | 0, _ => fun _ => by kernel_rfl
  | 1, _ => fun _ => by kernel_rfl
  | 2, _ => fun _ => by kernel_rfl
  | 3, _ => fun _ => by kernel_rfl
  | n + 4, h => absurd h (by omega)

set_option maxHeartbeats 2000000 in
theorem fits_any (op : Nat) (hop : op < 17) (a b c d n cells : Int) (hn0 : 0 ≤ n) (hn1 : n ≤ 600) (hc0 : 0 ≤ cells) (hc1 : cells ≤ 300) (w : World) (h : CW w) :
    Calls Tryd.prog 57 #[insV (op, a, b, c, d), .int .i64 n, .int .i64 cells] w fun e w' => e = .returned (.bool (fitsL n cells (kindsOf op) [a, b, c, d])) ∧ Below w.heap.size w w' := by
  have HN := Lib.hid (fun w => numbers_any (op, a, b, c, d) w)
  have HC := Lib.hid h
  have hbig := h.big
  have hop17 : (op : Int) < 17 := by omega
  have hop0 : (0 : Int) ≤ (op : Int) := by omega
  clear h
  obtain ⟨r, hr⟩ : ∃ r, fitsL n cells (kindsOf op) [a, b, c, d] = r := ⟨_, rfl⟩
  rw [hr]
  unfold insV at HN ⊢
  go_enter Tryd.func57, Tryd.ntmps57
  go_wp2_with fail
  refine (HN.out _).mono ?_
  rintro e w2 ⟨rfl, hg⟩
  obtain ⟨xb, hxb⟩ : ∃ xb, w.heap.size = xb := ⟨_, rfl⟩
  have hx2 : w2.heap[xb]? = some (.cells #[.int .i64 op, .int .i64 a, .int .i64 b, .int .i64 c, .int .i64 d] 89 (0, 0)) := by
    rw [← hxb]
    exact (hg.block w.heap.size (by simp) (by simp)).trans (heap_alloc_new w _)
  have hb2 : Below w.heap.size w w2 := ((Below.refl w.heap.size w).alloc (Nat.le_refl _) _).grown hg (by simp) (by intro k hk; cases hk)
  have hC2 := HC.out.old hb2
  rw [hxb]
  clear hg hxb HN
  have c0 : w2.cell? ⟨xb, 0, none⟩ = some (.int .i64 op) := by rw [cell_of_row w2 xb 0 _ _ _ hx2]; rfl
  have hks := kinds_len op hop
  have hkl := kinds_lt op hop
  have hk : ∀ i, i < 4 → w2.cell? ⟨0, op * 5 + 1 + i, none⟩ = some (.int .i64 ((kindsOf op).getD i 0 : Nat)) := fun i hi => hC2.kind op i hop hi
  have HK := Lib.hid hk
  have HKL := Lib.hid hkl
  have HIX := Lib.hid (index_int4 a b c d)
  have HB := Lib.hid hb2
  clear hk hkl hb2 hC2 hx2
  generalize kindsOf op = ks at *
  go_wp2
  go_loopw [13] (fun j wr => ∃ i : Nat, i ≤ 4 ∧ j = .int .i64 i ∧ wr = w2 ∧ r = fitsL n cells (ks.drop i) ([a, b, c, d].drop i)) (fun j _ => 4 - (intOf j).toNat)
  case atStart => exact ⟨0, by omega, rfl, rfl, hr.symm⟩
  case round =>
    obtain ⟨i, hi, rfl, rfl, hF⟩ := hrel
    by_cases hlt : i < 4
    · have hii : (i : Int) < 4 := by omega
      have hix := HIX.out i hlt
      have hki := HK.out i hlt
      have hst := fitsL_step n cells ks [a, b, c, d] i (by omega) (by simpa using hlt)
      have hlk := HKL.out i hlt
      rw [hst] at hF
      generalize ks.getD i 0 = k at *
      generalize [a, b, c, d].getD i 0 = v at *
      have HBD := Lib.hid (fun w => bounds_any k hlk n cells hn0 hn1 hc0 hc1 w)
      generalize (boundsL k n cells).1 = lo at *
      generalize (boundsL k n cells).2 = hh at *
      clear hst
      go_wp2_with fail
      refine (HBD.out _).mono ?_
      rintro e w3 ⟨rfl, rfl⟩
      by_cases h1 : v < lo
      · have hT : r = false := by
          rw [hF, decide_eq_true h1]
          rfl
        clear hF
        subst hT
        go_wp2
        go_ret
        exact ⟨rfl, HB.out⟩
      · by_cases h2 : hh < v
        · have hT : r = false := by
            rw [hF, decide_eq_false h1, decide_eq_true h2]
            rfl
          clear hF
          subst hT
          go_wp2
          go_ret
          exact ⟨rfl, HB.out⟩
        · have hF2 : r = fitsL n cells (ks.drop (i + 1)) ([a, b, c, d].drop (i + 1)) := by
            rw [hF, decide_eq_false h1, decide_eq_false h2]
            rfl
          clear hF
          go_wp2
          go_roundw
          case rel => exact ⟨i + 1, by omega, by go_num, by first | trivial | rfl, hF2⟩
          case measure => simp [intOf]; omega
    · obtain rfl : i = 4 := by omega
      have hT : r = true := by
        rw [hF]
        have : ks.drop 4 = [] := List.drop_eq_nil_of_le (by omega)
        rw [this]
        rfl
      subst hT
      go_wp2
      go_ret
      first
        | exact ⟨rfl, HB.out⟩
        | exact ⟨trivial, HB.out⟩

/-- A slice of instructions. -/
structure Inss (w : World) (B : Nat) (A : Option Addr) (n : Nat) (xs : List In5) : Prop where
  len : xs.length = n
  row : 0 < n → ∃ b off, A = some ⟨b, off, none⟩ ∧ b < B ∧ ∀ i, i < n → w.cell? ⟨b, off + i * 5, none⟩ = some (.int .i64 (xs.getD i default).1) ∧ w.cell? ⟨b, off + i * 5 + 1, none⟩ = some (.int .i64 (xs.getD i default).2.1) ∧ w.cell? ⟨b, off + i * 5 + 2, none⟩ = some (.int .i64 (xs.getD i default).2.2.1) ∧ w.cell? ⟨b, off + i * 5 + 3, none⟩ = some (.int .i64 (xs.getD i default).2.2.2.1) ∧ w.cell? ⟨b, off + i * 5 + 4, none⟩ = some (.int .i64 (xs.getD i default).2.2.2.2)

theorem Inss.keep {w w' : World} {B B' : Nat} {A : Option Addr} {n : Nat} {xs : List In5} (h : Inss w B A n xs) (hB : B ≤ B') (hc : ∀ p : Addr, p.block < B → w'.cell? p = w.cell? p) : Inss w' B' A n xs :=
  ⟨h.len, fun h0 => by
    obtain ⟨b, off, e, hb, hx⟩ := h.row h0
    refine ⟨b, off, e, by omega, fun i hi => ?_⟩
    obtain ⟨h1, h2, h3, h4, h5⟩ := hx i hi
    exact ⟨(hc _ hb).trans h1, (hc _ hb).trans h2, (hc _ hb).trans h3, (hc _ hb).trans h4, (hc _ hb).trans h5⟩⟩

theorem Inss.below {w w' : World} {B : Nat} {A : Option Addr} {n : Nat} {xs : List In5} (h : Inss w B A n xs) (hb : Below B w w') : Inss w' B A n xs :=
  h.keep (Nat.le_refl _) fun _ hp => hb.cell hp

theorem Inss.old {w w' : World} {A : Option Addr} {n : Nat} {xs : List In5} (h : Inss w w.heap.size A n xs) (hb : Below w.heap.size w w') : Inss w' w'.heap.size A n xs :=
  h.keep hb.size fun _ hp => hb.cell hp

/-- A program that may be. -/
def goodX (n cells : Int) (x : In5) : Prop := 0 ≤ x.1 ∧ x.1 < 17 ∧ fitsL n cells (kindsOf x.1.toNat) (nums x) = true
def RightL (l : List In5) (cells : Int) : Prop := 0 ≤ cells ∧ cells ≤ 300 ∧ 0 < l.length ∧ l.length ≤ 600 ∧ (∀ i, i < l.length → goodX l.length cells (l.getD i default)) ∧ ((l.getD (l.length - 1) default).1 = 0 ∨ (l.getD (l.length - 1) default).1 = 10)

def ToldRight (l : List In5) (cells : Int) (w : World) (e : Ending) (w' : World) : Prop := Below w.heap.size w w' ∧
  ((e = .returned .nilIface ∧ RightL l cells) ∨ (∃ t p, e = .returned (.iface t p) ∧ ¬ RightL l cells))

set_option maxHeartbeats 4000000 in
theorem right_any (l : List In5) (A : Option Addr) (n c : Nat) (cells : Int) (w : World) (h : CW w) (hl : Inss w w.heap.size A n l) :
    Calls Tryd.prog 39 #[.slice A n c, .int .i64 cells] w (ToldRight l cells w) := by
  have hlen := hl.len
  have hb0 := Below.refl w.heap.size w
  by_cases hc0 : cells < 0
  · have hR : ¬ RightL l cells := fun h => by have := h.1; omega
    go_enter Tryd.func39, Tryd.ntmps39
    go_wp2
    go_ret
    exact ⟨hb0, .inr ⟨_, _, rfl, hR⟩⟩
  by_cases hc1 : 300 < cells
  · have hR : ¬ RightL l cells := fun h => by have := h.2.1; omega
    go_enter Tryd.func39, Tryd.ntmps39
    go_wp2
    go_ret
    exact ⟨hb0, .inr ⟨_, _, rfl, hR⟩⟩
  by_cases hn0 : n = 0
  · have hR : ¬ RightL l cells := fun h => by have := h.2.2.1; omega
    subst hn0
    go_enter Tryd.func39, Tryd.ntmps39
    go_wp2
    go_ret
    exact ⟨hb0, .inr ⟨_, _, rfl, hR⟩⟩
  have hnb : ((n : Int) == 0) = false := by simpa using hn0
  by_cases hn1 : 600 < n
  · have hR : ¬ RightL l cells := fun h => by have := h.2.2.2.1; omega
    have hni : (600 : Int) < (n : Int) := by omega
    go_enter Tryd.func39, Tryd.ntmps39
    go_wp2
    go_ret
    exact ⟨hb0, .inr ⟨_, _, rfl, hR⟩⟩
  have hni : ¬ (600 : Int) < (n : Int) := by omega
  have HL := Lib.hid hl
  have HC := Lib.hid h
  have HB0 := Lib.hid hb0
  clear h hl hb0
  go_enter Tryd.func39, Tryd.ntmps39
  go_wp2
  go_loopw [25] (fun j wr => ∃ i : Nat, i ≤ n ∧ j = .int .i64 i ∧ (∀ k, k < i → goodX l.length cells (l.getD k default)) ∧ Below w.heap.size w wr) (fun j _ => n - (intOf j).toNat)
  case atStart => exact ⟨0, Nat.zero_le _, rfl, (fun k hk => absurd hk (Nat.not_lt_zero _)), HB0.out⟩
  case round =>
    obtain ⟨i, hi, rfl, hgood, hb⟩ := hrel
    clear HB0
    by_cases hlt : i < n
    · have hii : (i : Int) < (n : Int) := by omega
      obtain ⟨b, off, rfl, hbl, hc⟩ := (HL.out.below hb).row (by omega)
      obtain ⟨c1, c2, c3, c4, c5⟩ := hc i hlt
      have hbw : b < wr.heap.size := Nat.lt_of_lt_of_le hbl hb.size
      have hbne : b ≠ wr.heap.size := by omega
      obtain ⟨x, hx⟩ : ∃ x, l.getD i default = x := ⟨_, rfl⟩
      rw [hx] at c1 c2 c3 c4 c5
      obtain ⟨x1, x2, x3, x4, x5⟩ := x
      dsimp only at c1 c2 c3 c4 c5
      have hbx := fun o => hb.alloc hb.size o
      have HX := Lib.hid hx
      have HG := Lib.hid hgood
      clear hc hx hgood
      by_cases hk : x1 < 0 ∨ 17 ≤ x1
      · have hR : ¬ RightL l cells := fun h => by
          have := h.2.2.2.2.1 i (by omega)
          rw [HX.out] at this
          have h1 := this.1
          have h2 := this.2.1
          dsimp only at h1 h2
          omega
        have HKN := Lib.hid (fun w => known_no x1 hk w)
        have HBX := Lib.hid (fun o1 o2 => (hbx o1).alloc (o := o2) (hbx o1).size)
        clear hb hbx HG hk
        go_wp2_with fail
        refine (HKN.out _).mono ?_
        rintro e w3 ⟨rfl, rfl⟩
        go_wp2
        go_ret
        exact ⟨HBX.out _ _, .inr ⟨_, _, rfl, hR⟩⟩
      · obtain ⟨op, rfl⟩ : ∃ op : Nat, x1 = (op : Int) := ⟨x1.toNat, by omega⟩
        have hop : op < 17 := by omega
        have HKN := Lib.hid (fun w => known_yes op hop w)
        have hCx := HC.out.old (hbx (.cells #[.int .i64 op, .int .i64 x2, .int .i64 x3, .int .i64 x4, .int .i64 x5] 89))
        have HFT := Lib.hid (fits_any op hop x2 x3 x4 x5 (n : Int) cells (by omega) (by omega) (by omega) (by omega) _ hCx)
        have HBX := Lib.hid (hbx (.cells #[.int .i64 op, .int .i64 x2, .int .i64 x3, .int .i64 x4, .int .i64 x5] 89))
        clear hb hbx hk hCx
        unfold insV at HFT
        go_wp2_with fail
        refine (HKN.out _).mono ?_
        rintro e w3 ⟨rfl, rfl⟩
        go_wp2_with fail
        refine HFT.out.mono ?_
        rintro e w4 ⟨rfl, hb4⟩
        have hb04 := HBX.out.trans (hb4.mono HBX.out.size)
        obtain ⟨r, hr⟩ : ∃ r, fitsL (n : Int) cells (kindsOf op) [x2, x3, x4, x5] = r := ⟨_, rfl⟩
        rw [hr]
        cases r with
        | false =>
          have hR : ¬ RightL l cells := fun h => by
            have := h.2.2.2.2.1 i (by omega)
            rw [HX.out] at this
            have h2 := this.2.2
            rw [hlen] at h2
            have h3 : fitsL (n : Int) cells (kindsOf op) [x2, x3, x4, x5] = true := h2
            rw [hr] at h3
            cases h3
          have HBX := Lib.hid (fun o1 => hb04.alloc hb04.size o1)
          clear hb4 hb04 HFT HG
          go_wp2
          go_ret
          exact ⟨HBX.out _, .inr ⟨_, _, rfl, hR⟩⟩
        | true =>
          have HG2 := Lib.hid (show ∀ k, k < i + 1 → goodX l.length cells (l.getD k default) from fun k hk => by
            rcases Nat.lt_or_ge k i with h | h
            · exact HG.out k h
            · obtain rfl : k = i := by omega
              rw [HX.out, hlen]
              exact ⟨by dsimp only; omega, by dsimp only; omega, hr⟩)
          have HB4 := Lib.hid hb04
          clear hb4 hb04 HFT HG
          go_wp2
          go_roundw
          case rel => exact ⟨i + 1, by omega, by go_num, HG2.out, HB4.out⟩
          case measure => simp [intOf]; omega
    · obtain rfl : i = n := by omega
      obtain ⟨b, off, rfl, hbl, hc⟩ := (HL.out.below hb).row (by omega)
      obtain ⟨m, rfl⟩ : ∃ m, i = m + 1 := ⟨i - 1, by omega⟩
      obtain ⟨c1, _⟩ := hc m (by omega)
      obtain ⟨z, hz⟩ : ∃ z, (l.getD m default).1 = z := ⟨_, rfl⟩
      rw [hz] at c1
      have hii : ¬ ((m + 1 : Nat) : Int) < ((m + 1 : Nat) : Int) := by omega
      have hw1 : wrap64 (((m + 1 : Nat) : Int) - 1) = (m : Int) := by unfold wrap64; omega
      have hw2 : wrap64 (m : Int) = (m : Int) := by unfold wrap64; omega
      have hm0 : (0 : Int) ≤ (m : Int) := by omega
      have hm1 : (m : Int) < ((m + 1 : Nat) : Int) := by omega
      have hm2 : (m : Int) < (m : Int) + 1 := by omega
      have HBX := Lib.hid (fun o1 => hb.alloc hb.size o1)
      have HB := Lib.hid hb
      have hR1 : (z = 0 ∨ z = 10) → RightL l cells := fun hz2 => ⟨by omega, by omega, by omega, by omega, fun k hk => hgood k (by omega), by rw [hlen, Nat.add_sub_cancel, hz]; exact hz2⟩
      have hR2 : ¬ (z = 0 ∨ z = 10) → ¬ RightL l cells := fun hz2 h => hz2 (by have := h.2.2.2.2.2; rw [hlen, Nat.add_sub_cancel, hz] at this; exact this)
      have HR1 := Lib.hid hR1
      have HR2 := Lib.hid hR2
      clear hc hgood hb hR1 hR2
      by_cases z0 : z = 0
      · subst z0
        go_wp2
        go_ret
        exact ⟨HB.out, .inl ⟨rfl, HR1.out (by simp)⟩⟩
      · have zb0 : (z != 0) = true := by simpa using z0
        by_cases z1 : z = 10
        · subst z1
          go_wp2
          go_ret
          exact ⟨HB.out, .inl ⟨rfl, HR1.out (by simp)⟩⟩
        · have zb1 : (z != 10) = true := by simpa using z1
          go_wp2
          go_ret
          exact ⟨HBX.out _, .inr ⟨_, _, rfl, HR2.out (by rintro (h | h); exact z0 h; exact z1 h)⟩⟩
end Go.Proofs.YtkhaeabbbhfloaaDoor

namespace Go.Proofs.YtkhaeabbbhfloaaDoor
set_option maxRecDepth 100000
open Go.RowKit Go.Sort

theorem cells5_len (l : List In5) : (cells5 l).length = l.length * 5 := by
  induction l with
  | nil => rfl
  | cons x l ih => rw [show x :: l = [x] ++ l from rfl, cells5_append, cells5_one, List.length_append, ih]; simp; omega

theorem cells5_at : ∀ (l : List In5) (i : Nat), i < l.length → (cells5 l)[i * 5]? = some (.int .i64 (l.getD i default).1) ∧ (cells5 l)[i * 5 + 1]? = some (.int .i64 (l.getD i default).2.1) ∧ (cells5 l)[i * 5 + 2]? = some (.int .i64 (l.getD i default).2.2.1) ∧ (cells5 l)[i * 5 + 3]? = some (.int .i64 (l.getD i default).2.2.2.1) ∧ (cells5 l)[i * 5 + 4]? = some (.int .i64 (l.getD i default).2.2.2.2)
  | [], i, h => absurd h (Nat.not_lt_zero _)
  | x :: l, 0, _ => ⟨rfl, rfl, rfl, rfl, rfl⟩
  | x :: l, i + 1, h => by
    have := cells5_at l i (by simpa using h)
    have e : ∀ j, (cells5 (x :: l))[(i + 1) * 5 + j]? = (cells5 l)[i * 5 + j]? := fun j => by
      rw [show x :: l = [x] ++ l from rfl, cells5_append, cells5_one, List.getElem?_append_right (by simp; omega)]
      congr 1
      simp
      omega
    have e0 := e 0
    simp only [Nat.add_zero] at e0
    rw [e0, e 1, e 2, e 3, e 4]
    exact this

theorem Inss.of_own {w : World} {B n : Nat} {A : Option Addr} {c : Nat} {l : List In5} (h : w.ownsRow B 89 5 (.slice A n c) n (cells5 l)) (hl : l.length = n) : Inss w w.heap.size A n l := by
  refine ⟨hl, fun hn => ?_⟩
  obtain ⟨g, cap, hv, hb, hlt⟩ := h.form hn
  obtain ⟨rfl, rfl⟩ : A = some ⟨g, 0, none⟩ ∧ c = cap := by injection hv with h1 _ h3; exact ⟨h1, h3⟩
  refine ⟨g, 0, rfl, hlt, fun i hi => ?_⟩
  obtain ⟨h1, h2, h3, h4, h5⟩ := cells5_at l i (by omega)
  have hl5 := cells5_len l
  simp only [Nat.zero_add]
  exact ⟨(h.cellAt _ (by omega)).trans h1, (h.cellAt _ (by omega)).trans h2, (h.cellAt _ (by omega)).trans h3, (h.cellAt _ (by omega)).trans h4, (h.cellAt _ (by omega)).trans h5⟩

theorem news_of_inss {w : World} {B : Nat} {ad : Addr} {n : Nat} {l : List In5} (h : Inss w B (some ad) n l) : ∀ j u, (cells5 l)[j]? = some u → w.cell? (ad.add j) = some u := by
  intro j u hu
  have hl := h.len
  have hj : j < (cells5 l).length := (List.getElem?_eq_some_iff.1 hu).1
  rw [cells5_len] at hj
  obtain ⟨b, off, e, _, hc⟩ := h.row (by omega)
  obtain rfl : ad = ⟨b, off, none⟩ := by injection e
  obtain ⟨c1, c2, c3, c4, c5⟩ := hc (j / 5) (by omega)
  obtain ⟨h1, h2, h3, h4, h5⟩ := cells5_at l (j / 5) (by omega)
  have ha : (⟨b, off, none⟩ : Addr).add j = ⟨b, off + j, none⟩ := by unfold Addr.add; split <;> simp_all
  rw [ha]
  have hr : j % 5 = 0 ∨ j % 5 = 1 ∨ j % 5 = 2 ∨ j % 5 = 3 ∨ j % 5 = 4 := by omega
  rcases hr with hr | hr | hr | hr | hr
  · rw [show off + j = off + j / 5 * 5 by omega, c1, ← h1, show j / 5 * 5 = j by omega, hu]
  · rw [show off + j = off + j / 5 * 5 + 1 by omega, c2, ← h2, show j / 5 * 5 + 1 = j by omega, hu]
  · rw [show off + j = off + j / 5 * 5 + 2 by omega, c3, ← h3, show j / 5 * 5 + 2 = j by omega, hu]
  · rw [show off + j = off + j / 5 * 5 + 3 by omega, c4, ← h4, show j / 5 * 5 + 3 = j by omega, hu]
  · rw [show off + j = off + j / 5 * 5 + 4 by omega, c5, ← h5, show j / 5 * 5 + 4 = j by omega, hu]

theorem oneCell5 {l : List In5} : ∀ u ∈ cells5 l, u.oneCell' = true := by
  intro u hu
  unfold cells5 at hu
  obtain ⟨x, _, hx⟩ := List.mem_flatMap.1 hu
  simp at hx
  rcases hx with rfl | rfl | rfl | rfl | rfl <;> rfl

end Go.Proofs.YtkhaeabbbhfloaaDoor

namespace Go.Proofs.YtkhaeabbbhfloaaDoor
set_option maxRecDepth 100000
open Go.RowKit Go.Sort

set_option maxHeartbeats 1000000 in
theorem cloneN_any {w : World} {B : Nat} (A : Option Addr) (n c : Nat) (xs : List In5) (h : Inss w B A n xs) (hn : n ≤ 1000000) :
    Calls Tryd.prog 41 #[.slice A n c] w fun e w' => ∃ v, e = .returned v ∧ w'.ownsRow w.heap.size 89 5 v n (cells5 xs) ∧ w.grownBy w' none := by
  rcases A with _ | ad
  · have h0 : n = 0 := by
      rcases Nat.eq_zero_or_pos n with h0 | h0
      · exact h0
      · obtain ⟨_, _, e, _⟩ := h.row h0
        cases e
    subst h0
    have hx : xs = [] := List.eq_nil_of_length_eq_zero h.len
    subst hx
    have hq := fun (w : World) => Lib.run_eql_slice_nil (P := Tryd.prog) w 61 89 none 0 c 0 0 Tryd.underlying61
    clear h
    go_enter Tryd.func41, Tryd.ntmps41
    go_wp2
    go_ret
    exact ⟨_, rfl, World.ownsRow_nil _ _ _ _, World.grownBy.refl w _⟩
  · have hq := fun (w : World) => Lib.run_eql_slice_nil (P := Tryd.prog) w 61 89 (some ad) n c 0 0 Tryd.underlying61
    have hnews := news_of_inss h
    have hl := h.len
    obtain ⟨i0, hi, hz0, hz1, hz2⟩ := info_parts infoIns
    clear h
    go_enter Tryd.func41, Tryd.ntmps41
    have hown0 := World.ownsRow_made (base := w.heap.size) (e := 89) (size := 5) w #[] 0 (Nat.le_refl _) (by decide) rfl
    have hnews' : ∀ j u, (cells5 xs)[j]? = some u → (w.alloc (.cells #[] 89)).cell? (ad.add j) = some u := fun j u hu => Lib.cell?_alloc_some _ (hnews j u hu)
    have H0 := Lib.hid hown0
    have H1 := Lib.hid hnews'
    have H2 := Lib.hid hl
    clear hown0 hnews' hl hnews
    go_wp2_with (at_builtin; refine wpList_append_own _ rfl (.tmp 5) (.tmp 6) 61 rfl w.heap.size 89 i0 (.agg #[.int .i64 0, .int .i64 0, .int .i64 0, .int .i64 0, .int .i64 0]) 5 40 Tryd.underlying61 hi hz0 hz1 hz2 rfl (by decide) _ 0 [] rfl H0.out ad n c (cells5 xs) rfl ?c1 H1.out ?c2 ?c3 ?c4 ?c5 ?_)
    case c1 => rw [cells5_len, H2.out]
    case c2 => exact oneCell5
    case c3 => unfold maxLen; omega
    case c4 => omega
    case c5 => simp
    intro v' w1 hown1 hg1 _
    have hg := (World.grownBy_alloc w (.cells #[] 89) none).andThen hg1 (by intro j hj; simp only [Value.ownBlock, Option.some.injEq] at hj; omega)
    have H3 := Lib.hid hown1
    have H4 := Lib.hid hg1
    clear hown1 hg1 H0 H1
    go_wp2
    go_ret
    exact ⟨v', rfl, by simpa using H3.out, hg⟩

end Go.Proofs.YtkhaeabbbhfloaaDoor
