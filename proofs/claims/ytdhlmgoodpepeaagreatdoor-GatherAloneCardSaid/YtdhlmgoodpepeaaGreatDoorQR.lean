/-
  A family of calls out of listings: each call's instructions as they are where it begins at 0 A phaser's calls as pieces of programs: gather's instructions, where each call begins at 0; words by parts What is so of a thread in the midst of a phaser's call: what it has seen, what it has done, what it is to answer The await of a phaser's call, instruction by instruction; what is said Arrive and Leave, instruction by instruction Register and Close, instruction by instruction; any call of a phaser Any call of a phaser, instruction by instruction
-/
import Derived.Test.YtdhlmgoodpepeaaGreatDoorQK
import Derived.Test.YtdhlmgoodpepeaaGreatDoorQP
namespace Go.Proofs.YtdhlmgoodpepeaaGreatDoor
set_option maxRecDepth 100000
set_option linter.unusedVariables false
set_option linter.unusedSimpArgs false

/-- An instruction of a call that begins at p, out of that of one that begins at 0. -/
def shiftI (p : Nat) (x : Ins5) : Ins5 :=
  if x.1 = 10 then (10, (p : Int) + x.2.1, x.2.2)
  else if x.1 = 11 ∨ x.1 = 12 ∨ x.1 = 13 then (x.1, x.2.1, x.2.2.1, (p : Int) + x.2.2.2.1, x.2.2.2.2)
  else x
/-- What an instruction of a call comes to. -/
def relD (x : Ins5) (cell r : Nat → Int) : DoK :=
  let a := x.2.1; let b := x.2.2.1; let c := x.2.2.2.1; let d := x.2.2.2.2
  if x.1 = 1 then .set a.toNat (b % m64)
  else if x.1 = 2 then .set a.toNat (r b.toNat)
  else if x.1 = 3 then .set a.toNat ((r b.toNat + c) % m64)
  else if x.1 = 4 then .set a.toNat ((r b.toNat + r c.toNat) % m64)
  else if x.1 = 5 then .set a.toNat (r b.toNat / 2 ^ c.toNat % 2 ^ d.toNat)
  else if x.1 = 6 then .mem b.toNat (cell b.toNat) (some (a.toNat, cell b.toNat))
  else if x.1 = 7 then .mem a.toNat (r b.toNat) none
  else if x.1 = 8 then .mem b.toNat ((cell b.toNat + c) % m64) (some (a.toNat, cell b.toNat))
  else if x.1 = 9 then (if cell b.toNat = r c.toNat then .mem b.toNat (r d.toNat) (some (a.toNat, 1)) else .mem b.toNat (cell b.toNat) (some (a.toNat, 0)))
  else if x.1 = 10 then .goto a.toNat
  else if x.1 = 11 then (if r a.toNat = b % m64 then .goto c.toNat else .next)
  else if x.1 = 12 then (if r a.toNat < r b.toNat then .goto c.toNat else .next)
  else if x.1 = 13 then (if r a.toNat = r b.toNat then .goto c.toNat else .next)
  else if x.1 = 14 then (if cell a.toNat = r b.toNat then .sleep a.toNat else .next)
  else if x.1 = 15 then .wake a.toNat b.toNat
  else .say a (signed (r b.toNat))
def regB (a : Int) : Bool := decide (0 ≤ a ∧ a < 8)
def cellB (nc : Nat) (a : Int) : Bool := decide (0 ≤ a ∧ a < (nc : Int))
def placeB (len : Nat) (a : Int) : Bool := decide (0 ≤ a ∧ a ≤ (len : Int))
/-- It may stand in a call of so many instructions, over so many cells. -/
def goodIn (nc len : Nat) (x : Ins5) : Bool :=
  let a := x.2.1; let b := x.2.2.1; let c := x.2.2.2.1; let d := x.2.2.2.2
  if x.1 = 1 then regB a
  else if x.1 = 2 then regB a && regB b
  else if x.1 = 3 then regB a && regB b
  else if x.1 = 4 then regB a && (regB b && regB c)
  else if x.1 = 5 then regB a && (regB b && decide (0 ≤ c ∧ 0 ≤ d))
  else if x.1 = 6 then regB a && cellB nc b
  else if x.1 = 7 then cellB nc a && (regB b && decide (c = -1))
  else if x.1 = 8 then regB a && cellB nc b
  else if x.1 = 9 then regB a && (cellB nc b && (regB c && regB d))
  else if x.1 = 10 then placeB len a
  else if x.1 = 11 then regB a && placeB len c
  else if x.1 = 12 then regB a && (regB b && placeB len c)
  else if x.1 = 13 then regB a && (regB b && placeB len c)
  else if x.1 = 14 then cellB nc a && regB b
  else if x.1 = 15 then cellB nc a && (decide (c = -1) && decide (0 ≤ b))
  else decide (x.1 = 16) && regB b

theorem regB_iff {a : Int} : regB a = true ↔ 0 ≤ a ∧ a < 8 := by unfold regB; exact decide_eq_true_iff
theorem cellB_iff {nc : Nat} {a : Int} : cellB nc a = true ↔ 0 ≤ a ∧ a < (nc : Int) := by unfold cellB; exact decide_eq_true_iff
theorem placeB_iff {len : Nat} {a : Int} : placeB len a = true ↔ 0 ≤ a ∧ a ≤ (len : Int) := by unfold placeB; exact decide_eq_true_iff
theorem shift_op (p : Nat) (x : Ins5) : (shiftI p x).1 = x.1 := by
  unfold shiftI
  split
  · next h => exact h.symm
  · split <;> rfl
theorem goto_real (p : Nat) {a : Int} (h : 0 ≤ a) : Eff.goto ((p : Int) + a) = (DoK.goto a.toNat).real p := by
  show Eff.goto _ = Eff.goto ((p + a.toNat : Nat) : Int)
  congr 1
  omega
theorem emod_le_nn {a b : Int} (h : 0 ≤ a) (hb : 0 < b) : a % b ≤ a := by
  have h2 := Int.mul_ediv_add_emod a b
  have h3 : 0 ≤ a / b := Int.ediv_nonneg h (by omega)
  have h4 : 0 ≤ b * (a / b) := Int.mul_nonneg (by omega) h3
  omega
theorem mod_two (v : Int) {w d : Nat} (hv : u64 v) : u64 (v / 2 ^ w % 2 ^ d) := by
  obtain ⟨v0, v1⟩ := hv
  have hp : (0 : Int) < 2 ^ w := Int.pow_pos (by decide)
  have hq : (0 : Int) < 2 ^ d := Int.pow_pos (by decide)
  have h1 : 0 ≤ v / 2 ^ w := Int.ediv_nonneg v0 (Int.le_of_lt hp)
  have h2 : v / 2 ^ w ≤ v := Int.ediv_le_self _ v0
  have h3 := emod_le_nn h1 hq
  exact ⟨Int.emod_nonneg _ (Int.ne_of_gt hq), Int.lt_of_le_of_lt (Int.le_trans h3 h2) v1⟩
theorem u64_modF (v : Int) : u64 (v % m64) := ⟨Int.emod_nonneg _ (by decide), Int.emod_lt_of_pos _ (by decide)⟩
theorem u64_0F : u64 0 := ⟨by decide, by decide⟩
theorem u64_1F : u64 1 := ⟨by decide, by decide⟩
theorem real_ifF (q : Prop) [Decidable q] (a b : DoK) (p : Nat) : (if q then a else b).real p = if q then a.real p else b.real p := by split <;> rfl
theorem relD_real (p : Nat) {nc len : Nat} (x : Ins5) {regs cells : List Int} (hg : goodIn nc len x = true) (hc : cells.length = nc) :
    eff (shiftI p x) regs cells = (relD x (fun i => cells.getD i 0) (fun i => regs.getD i 0)).real p := by
  obtain ⟨op, a, b, c, d⟩ := x
  have hn : (cells.length : Int) = (nc : Int) := by omega
  by_cases h1 : op = 1
  · subst h1; rfl
  by_cases h2 : op = 2
  · subst h2; rfl
  by_cases h3 : op = 3
  · subst h3; rfl
  by_cases h4 : op = 4
  · subst h4; rfl
  by_cases h5 : op = 5
  · subst h5; rfl
  by_cases h6 : op = 6
  · subst h6; rfl
  by_cases h7 : op = 7
  · subst h7
    have hg : (cellB nc a && (regB b && decide (c = -1))) = true := hg
    simp only [Bool.and_eq_true, decide_eq_true_eq, cellB_iff, regB_iff] at hg
    obtain ⟨g1, g2, g3⟩ := hg
    subst g3
    show (if a < (cells.length : Int) then Eff.mem a.toNat (regs.getD b.toNat 0) none else Eff.lost) = _
    rw [if_pos (by omega)]
    rfl
  by_cases h8 : op = 8
  · subst h8; rfl
  by_cases h9 : op = 9
  · subst h9
    show _ = (if cells.getD b.toNat 0 = regs.getD c.toNat 0 then DoK.mem b.toNat (regs.getD d.toNat 0) (some (a.toNat, 1)) else DoK.mem b.toNat (cells.getD b.toNat 0) (some (a.toNat, 0))).real p
    rw [real_ifF]
    rfl
  by_cases h10 : op = 10
  · subst h10
    have hg : placeB len a = true := hg
    exact goto_real p (placeB_iff.1 hg).1
  by_cases h11 : op = 11
  · subst h11
    have hg : (regB a && placeB len c) = true := hg
    simp only [Bool.and_eq_true, placeB_iff] at hg
    show (if regs.getD a.toNat 0 = b % m64 then Eff.goto ((p : Int) + c) else Eff.next) = (if regs.getD a.toNat 0 = b % m64 then DoK.goto c.toNat else .next).real p
    rw [real_ifF, goto_real p hg.2.1]
    rfl
  by_cases h12 : op = 12
  · subst h12
    have hg : (regB a && (regB b && placeB len c)) = true := hg
    simp only [Bool.and_eq_true, placeB_iff] at hg
    show (if regs.getD a.toNat 0 < regs.getD b.toNat 0 then Eff.goto ((p : Int) + c) else Eff.next) = (if regs.getD a.toNat 0 < regs.getD b.toNat 0 then DoK.goto c.toNat else .next).real p
    rw [real_ifF, goto_real p hg.2.2.1]
    rfl
  by_cases h13 : op = 13
  · subst h13
    have hg : (regB a && (regB b && placeB len c)) = true := hg
    simp only [Bool.and_eq_true, placeB_iff] at hg
    show (if regs.getD a.toNat 0 = regs.getD b.toNat 0 then Eff.goto ((p : Int) + c) else Eff.next) = (if regs.getD a.toNat 0 = regs.getD b.toNat 0 then DoK.goto c.toNat else .next).real p
    rw [real_ifF, goto_real p hg.2.2.1]
    rfl
  by_cases h14 : op = 14
  · subst h14
    have hg : (cellB nc a && regB b) = true := hg
    simp only [Bool.and_eq_true, cellB_iff] at hg
    show (if cells.getD a.toNat 0 = regs.getD b.toNat 0 then Eff.sleep a else Eff.next) = (if cells.getD a.toNat 0 = regs.getD b.toNat 0 then DoK.sleep a.toNat else .next).real p
    rw [real_ifF]
    show _ = if _ then Eff.sleep (a.toNat : Int) else Eff.next
    rw [show (a.toNat : Int) = a by omega]
  by_cases h15 : op = 15
  · subst h15
    have hg : (cellB nc a && (decide (c = -1) && decide (0 ≤ b))) = true := hg
    simp only [Bool.and_eq_true, decide_eq_true_eq, cellB_iff] at hg
    obtain ⟨g1, g2, g3⟩ := hg
    subst g2
    show (if a < (cells.length : Int) then Eff.wake a b else Eff.lost) = Eff.wake (a.toNat : Int) (b.toNat : Int)
    rw [if_pos (by omega), show (a.toNat : Int) = a by omega, show (b.toNat : Int) = b by omega]
  have h16 : op = 16 := by
    unfold goodIn at hg
    simp only [h1, h2, h3, h4, h5, h6, h7, h8, h9, h10, h11, h12, h13, h14, h15, if_false, Bool.and_eq_true, decide_eq_true_eq] at hg
    exact hg.1
  subst h16
  rfl
theorem okD_ifF (q : Prop) [Decidable q] {a b : DoK} {l c : Nat} (h1 : okD l c a) (h2 : okD l c b) : okD l c (if q then a else b) := by split <;> assumption
theorem relD_ok {nc len : Nat} (x : Ins5) {cell r : Nat → Int} (hg : goodIn nc len x = true) (hc : ∀ i, u64 (cell i)) (hr : ∀ i, u64 (r i)) : okD len nc (relD x cell r) := by
  obtain ⟨op, a, b, c, d⟩ := x
  have reg : ∀ {a : Int}, regB a = true → a.toNat < 8 := fun h => by have := regB_iff.1 h; omega
  have cel : ∀ {a : Int}, cellB nc a = true → a.toNat < nc := fun h => by have := cellB_iff.1 h; omega
  have pla : ∀ {a : Int}, placeB len a = true → a.toNat ≤ len := fun h => by have := placeB_iff.1 h; omega
  by_cases h1 : op = 1
  · subst h1
    have hg : regB a = true := hg
    exact ⟨reg hg, u64_modF _⟩
  by_cases h2 : op = 2
  · subst h2
    have hg : (regB a && regB b) = true := hg
    simp only [Bool.and_eq_true] at hg
    exact ⟨reg hg.1, hr _⟩
  by_cases h3 : op = 3
  · subst h3
    have hg : (regB a && regB b) = true := hg
    simp only [Bool.and_eq_true] at hg
    exact ⟨reg hg.1, u64_modF _⟩
  by_cases h4 : op = 4
  · subst h4
    have hg : (regB a && (regB b && regB c)) = true := hg
    simp only [Bool.and_eq_true] at hg
    exact ⟨reg hg.1, u64_modF _⟩
  by_cases h5 : op = 5
  · subst h5
    have hg : (regB a && (regB b && decide (0 ≤ c ∧ 0 ≤ d))) = true := hg
    simp only [Bool.and_eq_true] at hg
    exact ⟨reg hg.1, mod_two _ (hr _)⟩
  by_cases h6 : op = 6
  · subst h6
    have hg : (regB a && cellB nc b) = true := hg
    simp only [Bool.and_eq_true] at hg
    exact ⟨cel hg.2, hc _, fun x e => by injection e with e; subst e; exact ⟨reg hg.1, hc _⟩⟩
  by_cases h7 : op = 7
  · subst h7
    have hg : (cellB nc a && (regB b && decide (c = -1))) = true := hg
    simp only [Bool.and_eq_true] at hg
    exact ⟨cel hg.1, hr _, fun x e => by cases e⟩
  by_cases h8 : op = 8
  · subst h8
    have hg : (regB a && cellB nc b) = true := hg
    simp only [Bool.and_eq_true] at hg
    exact ⟨cel hg.2, u64_modF _, fun x e => by injection e with e; subst e; exact ⟨reg hg.1, hc _⟩⟩
  by_cases h9 : op = 9
  · subst h9
    have hg : (regB a && (cellB nc b && (regB c && regB d))) = true := hg
    simp only [Bool.and_eq_true] at hg
    show okD len nc (if cell b.toNat = r c.toNat then .mem b.toNat (r d.toNat) (some (a.toNat, 1)) else .mem b.toNat (cell b.toNat) (some (a.toNat, 0)))
    exact okD_ifF _ ⟨cel hg.2.1, hr _, fun x e => by injection e with e; subst e; exact ⟨reg hg.1, u64_1F⟩⟩ ⟨cel hg.2.1, hc _, fun x e => by injection e with e; subst e; exact ⟨reg hg.1, u64_0F⟩⟩
  by_cases h10 : op = 10
  · subst h10
    have hg : placeB len a = true := hg
    exact pla hg
  by_cases h11 : op = 11
  · subst h11
    have hg : (regB a && placeB len c) = true := hg
    simp only [Bool.and_eq_true] at hg
    show okD len nc (if r a.toNat = b % m64 then DoK.goto c.toNat else .next)
    exact okD_ifF _ (pla hg.2) trivial
  by_cases h12 : op = 12
  · subst h12
    have hg : (regB a && (regB b && placeB len c)) = true := hg
    simp only [Bool.and_eq_true] at hg
    show okD len nc (if r a.toNat < r b.toNat then DoK.goto c.toNat else .next)
    exact okD_ifF _ (pla hg.2.2) trivial
  by_cases h13 : op = 13
  · subst h13
    have hg : (regB a && (regB b && placeB len c)) = true := hg
    simp only [Bool.and_eq_true] at hg
    show okD len nc (if r a.toNat = r b.toNat then DoK.goto c.toNat else .next)
    exact okD_ifF _ (pla hg.2.2) trivial
  by_cases h14 : op = 14
  · subst h14
    show okD len nc (if cell a.toNat = r b.toNat then DoK.sleep a.toNat else .next)
    exact okD_ifF _ trivial trivial
  by_cases h15 : op = 15
  · subst h15
    exact trivial
  unfold relD
  simp only [h1, h2, h3, h4, h5, h6, h7, h8, h9, h10, h11, h12, h13, h14, h15, if_false]
  trivial
/-- A family of calls, out of each call's listing at 0. -/
def famOf {κ : Type} (base : κ → List Ins5) (nc : Nat) (hpos : ∀ c, 0 < (base c).length) (hgood : ∀ c, (base c).all (goodIn nc (base c).length) = true) : Fam κ where
  code c p := (base c).map (shiftI p)
  len c := (base c).length
  op c j := ((base c).getD j default).1
  dos c j cell r := relD ((base c).getD j default) cell r
  nc := nc
  hlen c p := List.length_map _
  hpos := hpos
  hop c p j hj := by
    rw [List.getD_eq_getElem?_getD, List.getElem?_map, List.getElem?_eq_getElem hj, List.getD_eq_getElem?_getD, List.getElem?_eq_getElem hj]
    exact shift_op p _
  hdo c p j regs cells hj hc _ := by
    have hg := List.all_eq_true.1 (hgood c) _ (List.getElem_mem hj)
    have e : ((base c).map (shiftI p)).getD j default = shiftI p ((base c).getD j default) := by
      rw [List.getD_eq_getElem?_getD, List.getElem?_map, List.getElem?_eq_getElem hj, List.getD_eq_getElem?_getD, List.getElem?_eq_getElem hj]
      rfl
    rw [e]
    refine relD_real p _ ?_ hc (len := (base c).length)
    rw [List.getD_eq_getElem?_getD, List.getElem?_eq_getElem hj]
    exact hg
  hok c j cell r hj hc hr := by
    have hg := List.all_eq_true.1 (hgood c) _ (List.getElem_mem hj)
    refine relD_ok _ ?_ hc hr
    rw [List.getD_eq_getElem?_getD, List.getElem?_eq_getElem hj]
    exact hg
end Go.Proofs.YtdhlmgoodpepeaaGreatDoor

namespace Go.Proofs.YtdhlmgoodpepeaaGreatDoor
set_option maxRecDepth 100000
set_option linter.unusedVariables false
set_option linter.unusedSimpArgs false

/-- A phaser's call: what, and of which number. -/
structure GC where
  w : Nat
  n : Int
def over0 (q : Int) : List Ins5 := [(6, 1, 0, 0, 0), (5, 2, 1, 63, 1), (11, 2, 1, q, 0)]
def until0 (u : Int) : List Ins5 := over0 (u + 8) ++ [(5, 2, 1, 32, 31), (13, 2, 5, u + 6, 0), (10, u + 9, 0, 0, 0), (14, 0, 1, 0, 0), (10, u, 0, 0, 0), (1, 2, -1, 0, 0), (16, 3, 2, 0, 0)]
def come0 (m q : Int) : List Ins5 := over0 25 ++ [(5, 2, 1, 0, 16), (11, 2, 0, 27, 0), (3, 4, 1, m, 0), (11, 2, 1, 8, 0), (10, 18, 0, 0, 0), (5, 3, 4, 16, 16), (11, 3, 0, 17, 0), (4, 4, 4, 3, 0), (5, 3, 1, 32, 31),
  (11, 3, 2147483647, 15, 0), (3, 4, 4, 4294967296, 0), (10, 18, 0, 0, 0), (3, 4, 4, -9223372032559808512, 0), (10, 18, 0, 0, 0), (3, 4, 4, -9223372036854775808, 0), (9, 3, 0, 1, 4), (11, 3, 0, 0, 0), (5, 5, 1, 32, 31), (11, 2, 1, 23, 0),
  (10, 29, 0, 0, 0), (15, 0, 16, -1, 0), (10, 29, 0, 0, 0), (1, 2, -1, 0, 0), (10, q, 0, 0, 0), (1, 2, -2, 0, 0), (10, q, 0, 0, 0)]
def reg0 (n : Int) : List Ins5 := over0 11 ++ [(5, 2, 1, 16, 16), (1, 3, 65535 - n, 0, 0), (12, 3, 2, 13, 0), (3, 4, 1, 65537 * n, 0), (9, 3, 0, 1, 4), (11, 3, 0, 0, 0), (5, 2, 1, 32, 31), (10, 14, 0, 0, 0), (1, 2, -1, 0, 0), (10, 14, 0, 0, 0), (1, 2, -3, 0, 0), (16, 3, 2, 0, 0)]
def close0 : List Ins5 := over0 9 ++ [(3, 4, 1, -9223372036854775808, 0), (9, 3, 0, 1, 4), (11, 3, 0, 0, 0), (15, 0, 16, -1, 0), (1, 2, 0, 0, 0), (10, 10, 0, 0, 0), (1, 2, -1, 0, 0), (16, 3, 2, 0, 0)]
def gather0 (c : GC) : List Ins5 := match c.w with
  | 6 => reg0 c.n
  | 7 => come0 (-1) 30 ++ [(2, 2, 5, 0, 0), (16, 3, 2, 0, 0)]
  | 8 => come0 (-65537) 30 ++ [(2, 2, 5, 0, 0), (16, 3, 2, 0, 0)]
  | 9 => come0 (-1) 38 ++ until0 29
  | 10 => (1, 5, c.n, 0, 0) :: until0 1
  | _ => close0
def gatherF : Fam GC := famOf gather0 1 (fun c => by
  unfold gather0
  split <;> simp [reg0, come0, until0, close0, over0]) (fun c => by
  unfold gather0
  split <;> rfl)

/-! A word's parts. -/
section
variable {x : PhS} (h : x.ok)
include h
theorem word_bounds : 0 ≤ x.f ∧ x.f ≤ 2147483647 ∧ 0 ≤ x.p ∧ x.p ≤ 65535 ∧ 0 ≤ x.q ∧ x.q ≤ x.p := ⟨h.1.1, h.1.2, h.2.1.1, h.2.1.2, h.2.2.1, h.2.2.2⟩
theorem word_over : x.word / 2 ^ 63 % 2 ^ 1 = if x.o then 1 else 0 := by
  obtain ⟨a, b, c, d, e, g⟩ := word_bounds h
  unfold PhS.word
  rcases overW_cases x.o with ⟨h1, h2⟩ | ⟨h1, h2⟩ <;> rw [h2, h1]
  · show (x.q + 65536 * x.p + 4294967296 * x.f + 9223372036854775808) / 9223372036854775808 % 2 = 1
    omega
  · show (x.q + 65536 * x.p + 4294967296 * x.f + 0) / 9223372036854775808 % 2 = 0
    omega
theorem word_par : x.word / 2 ^ 16 % 2 ^ 16 = x.p := by
  obtain ⟨a, b, c, d, e, g⟩ := word_bounds h
  unfold PhS.word
  rcases overW_cases x.o with ⟨h1, h2⟩ | ⟨h1, h2⟩ <;> rw [h2]
  · show (x.q + 65536 * x.p + 4294967296 * x.f + 9223372036854775808) / 65536 % 65536 = x.p
    omega
  · show (x.q + 65536 * x.p + 4294967296 * x.f + 0) / 65536 % 65536 = x.p
    omega
theorem word_wait : x.word / 2 ^ 0 % 2 ^ 16 = x.q := by
  obtain ⟨a, b, c, d, e, g⟩ := word_bounds h
  unfold PhS.word
  rcases overW_cases x.o with ⟨h1, h2⟩ | ⟨h1, h2⟩ <;> rw [h2]
  · show (x.q + 65536 * x.p + 4294967296 * x.f + 9223372036854775808) / 1 % 65536 = x.q
    omega
  · show (x.q + 65536 * x.p + 4294967296 * x.f + 0) / 1 % 65536 = x.q
    omega
theorem word_phase : x.word / 2 ^ 32 % 2 ^ 31 = x.f := by
  obtain ⟨a, b, c, d, e, g⟩ := word_bounds h
  unfold PhS.word
  rcases overW_cases x.o with ⟨h1, h2⟩ | ⟨h1, h2⟩ <;> rw [h2]
  · show (x.q + 65536 * x.p + 4294967296 * x.f + 9223372036854775808) / 4294967296 % 2147483648 = x.f
    omega
  · show (x.q + 65536 * x.p + 4294967296 * x.f + 0) / 4294967296 % 2147483648 = x.f
    omega
theorem word_u64 : u64 x.word := PhS.word_lt h
end
/-- A word that is another one and so much more. -/
theorem word_add {x y : PhS} {d : Int} (hy : y.ok) (e : y.word = x.word + d) : (x.word + d) % m64 = y.word := by
  rw [← e]
  obtain ⟨a, b⟩ := PhS.word_lt hy
  exact Int.emod_eq_of_lt a b
theorem word_over_add {f p q : Int} (h : PhS.ok ⟨false, f, p, q⟩) : ((PhS.mk false f p q).word + -9223372036854775808) % m64 = (PhS.mk true f p q).word := by
  obtain ⟨a, b, c, d, e, g⟩ := word_bounds h
  have a : 0 ≤ f := a
  have b : f ≤ 2147483647 := b
  have c : 0 ≤ p := c
  have d : p ≤ 65535 := d
  have e : 0 ≤ q := e
  have g : q ≤ p := g
  show (q + 65536 * p + 4294967296 * f + 0 + -9223372036854775808) % 18446744073709551616 = q + 65536 * p + 4294967296 * f + 9223372036854775808
  omega
theorem signed_mod {v : Int} (h0 : -4 ≤ v) (h1 : v ≤ 2147483647) : signed (v % m64) = v := by
  unfold signed m64
  split <;> omega
end Go.Proofs.YtdhlmgoodpepeaaGreatDoor

namespace Go.Proofs.YtdhlmgoodpepeaaGreatDoor
set_option maxRecDepth 100000
set_option linter.unusedVariables false
set_option linter.unusedSimpArgs false

/-- What changed, of what a thread did to the cell: what was there, what is. -/
def chgs (cur : List (Int × Int)) : List (Int × Int) := cur.filter fun a => decide (a.1 ≠ a.2)
theorem chgs_same (cur : List (Int × Int)) (v : Int) : chgs (cur ++ [(v, v)]) = chgs cur := by
  unfold chgs
  rw [List.filter_append]
  simp
theorem chgs_new (cur : List (Int × Int)) {u v : Int} (h : u ≠ v) : chgs (cur ++ [(u, v)]) = chgs cur ++ [(u, v)] := by
  unfold chgs
  rw [List.filter_append]
  simp [h]
theorem last_snoc (cur : List (Int × Int)) (a : Int × Int) : (cur ++ [a]).getLast? = some a := by simp
/-- What a call asks the state at its change. -/
def askW (c : GC) : Int := if c.w = 9 then 7 else c.w
/-- An answer that is right, by what was done since the answer ahead. -/
def AnsOK (c : GC) (cur : List (Int × Int)) (v : Int) : Prop :=
  (chgs cur = [] ∧ ∃ z : PhS, z.ok ∧ cur.getLast? = some (z.word, z.word) ∧ phNext z (askW c) c.n = (z, v) ∧ (c.w = 9 → v < 0) ∧ v ≠ -4) ∨
  (∃ (x y : PhS) (n : Int), x.ok ∧ chgs cur = [(x.word, y.word)] ∧ phNext x (askW c) c.n = (y, n) ∧ (c.w ≠ 9 → v = n) ∧
    (c.w = 9 → 0 ≤ n ∧ ∃ z : PhS, z.ok ∧ cur.getLast? = some (z.word, z.word) ∧ phNext z 10 n = (z, v) ∧ v ≠ -4))
def SayAt (c : GC) (r : Nat → Int) (cur : List (Int × Int)) : Prop := ∃ v, AnsOK c cur v ∧ r 2 = v % m64 ∧ -4 ≤ v ∧ v ≤ 2147483647
/-- What was seen last, at which nothing was changed. -/
structure SeenU (cur : List (Int × Int)) (r : Nat → Int) (x : PhS) : Prop where
  ok : x.ok
  last : cur.getLast? = some (x.word, x.word)
  r1 : r 1 = x.word
structure SeenG (cur : List (Int × Int)) (r : Nat → Int) (x : PhS) : Prop where
  u : SeenU cur r x
  chg : chgs cur = []
/-- What was done. -/
structure DidG (c : GC) (cur : List (Int × Int)) (r : Nat → Int) (x y : PhS) (n : Int) : Prop where
  ok : x.ok
  chg : chgs cur = [(x.word, y.word)]
  nx : phNext x (askW c) c.n = (y, n)
  r1 : r 1 = x.word
def bitO (b : Bool) : Int := if b then 1 else 0
/-- What the await is about. -/
def CtxG (c : GC) (cur : List (Int × Int)) (n : Int) : Prop :=
  0 ≤ n ∧ n ≤ 2147483647 ∧ ((c.w = 10 ∧ chgs cur = [] ∧ n = c.n) ∨ (c.w = 9 ∧ ∃ x y : PhS, x.ok ∧ chgs cur = [(x.word, y.word)] ∧ phNext x 7 c.n = (y, n)))
def UAt (c : GC) (i : Nat) (r : Nat → Int) (cur : List (Int × Int)) : Prop := ∃ n, CtxG c cur n ∧ r 5 = n ∧
  match i with
  | 0 => True
  | 1 => ∃ z, SeenU cur r z
  | 2 => ∃ z, SeenU cur r z ∧ r 2 = bitO z.o
  | 3 => ∃ z, SeenU cur r z ∧ z.o = false
  | 4 => ∃ z, SeenU cur r z ∧ z.o = false ∧ r 2 = z.f
  | 5 => ∃ z, SeenU cur r z ∧ z.o = false ∧ r 2 = z.f ∧ z.f ≠ n
  | 6 => ∃ z, SeenU cur r z ∧ z.o = false ∧ z.f = n
  | 7 => True
  | 8 => ∃ z, SeenU cur r z ∧ z.o = true
  | _ => False
/-- Arrive, Leave, the first part of Pass: l leave. -/
def CAt (c : GC) (l : Int) (i : Nat) (r : Nat → Int) (cur : List (Int × Int)) : Prop :=
  match i with
  | 0 => chgs cur = []
  | 1 => ∃ x, SeenG cur r x
  | 2 => ∃ x, SeenG cur r x ∧ r 2 = bitO x.o
  | 3 => ∃ x, SeenG cur r x ∧ x.o = false
  | 4 => ∃ x, SeenG cur r x ∧ x.o = false ∧ r 2 = x.q
  | 5 => ∃ x, SeenG cur r x ∧ x.o = false ∧ r 2 = x.q ∧ x.q ≠ 0
  | 6 => ∃ x, SeenG cur r x ∧ x.o = false ∧ r 2 = x.q ∧ x.q ≠ 0 ∧ r 4 = (PhS.mk false x.f (x.p - l) (x.q - 1)).word
  | 7 => ∃ x, SeenG cur r x ∧ x.o = false ∧ r 2 = x.q ∧ x.q ≠ 0 ∧ x.q ≠ 1 ∧ r 4 = (PhS.mk false x.f (x.p - l) (x.q - 1)).word
  | 8 => ∃ x, SeenG cur r x ∧ x.o = false ∧ r 2 = x.q ∧ x.q = 1 ∧ r 4 = (PhS.mk false x.f (x.p - l) 0).word
  | 9 => ∃ x, SeenG cur r x ∧ x.o = false ∧ r 2 = x.q ∧ x.q = 1 ∧ r 4 = (PhS.mk false x.f (x.p - l) 0).word ∧ r 3 = x.p - l
  | 10 => ∃ x, SeenG cur r x ∧ x.o = false ∧ r 2 = x.q ∧ x.q = 1 ∧ r 4 = (PhS.mk false x.f (x.p - l) 0).word ∧ r 3 = x.p - l ∧ x.p - l ≠ 0
  | 11 => ∃ x, SeenG cur r x ∧ x.o = false ∧ r 2 = x.q ∧ x.q = 1 ∧ r 4 = (PhS.mk false x.f (x.p - l) (x.p - l)).word ∧ x.p - l ≠ 0
  | 12 => ∃ x, SeenG cur r x ∧ x.o = false ∧ r 2 = x.q ∧ x.q = 1 ∧ r 4 = (PhS.mk false x.f (x.p - l) (x.p - l)).word ∧ x.p - l ≠ 0 ∧ r 3 = x.f
  | 13 => ∃ x, SeenG cur r x ∧ x.o = false ∧ r 2 = x.q ∧ x.q = 1 ∧ r 4 = (PhS.mk false x.f (x.p - l) (x.p - l)).word ∧ x.p - l ≠ 0 ∧ x.f ≠ 2147483647
  | 15 => ∃ x, SeenG cur r x ∧ x.o = false ∧ r 2 = x.q ∧ x.q = 1 ∧ r 4 = (PhS.mk false x.f (x.p - l) (x.p - l)).word ∧ x.p - l ≠ 0 ∧ x.f = 2147483647
  | 17 => ∃ x, SeenG cur r x ∧ x.o = false ∧ r 2 = x.q ∧ x.q = 1 ∧ r 4 = (PhS.mk false x.f (x.p - l) 0).word ∧ x.p - l = 0
  | 14 | 16 | 18 => ∃ x, SeenG cur r x ∧ x.o = false ∧ r 2 = x.q ∧ x.q ≠ 0 ∧ r 4 = (phArrive x l).1.word ∧ (phArrive x l).2 = x.f
  | 19 => (r 3 = 1 ∧ ∃ x y n, DidG c cur r x y n ∧ r 2 = x.q ∧ n = x.f) ∨ (r 3 = 0 ∧ chgs cur = [])
  | 20 => ∃ x y n, DidG c cur r x y n ∧ r 2 = x.q ∧ n = x.f
  | 21 | 22 | 23 | 24 => ∃ x y n, DidG c cur r x y n ∧ n = x.f ∧ r 5 = n
  | 25 => ∃ x, SeenG cur r x ∧ x.o = true
  | 26 => ∃ x, SeenG cur r x ∧ x.o = true ∧ r 2 = -1 % m64
  | 27 => ∃ x, SeenG cur r x ∧ x.o = false ∧ x.q = 0
  | 28 => ∃ x, SeenG cur r x ∧ x.o = false ∧ x.q = 0 ∧ r 2 = -2 % m64
  | _ => False
def RAt (c : GC) (i : Nat) (r : Nat → Int) (cur : List (Int × Int)) : Prop :=
  match i with
  | 0 => chgs cur = []
  | 1 => ∃ x, SeenG cur r x
  | 2 => ∃ x, SeenG cur r x ∧ r 2 = bitO x.o
  | 3 => ∃ x, SeenG cur r x ∧ x.o = false
  | 4 => ∃ x, SeenG cur r x ∧ x.o = false ∧ r 2 = x.p
  | 5 => ∃ x, SeenG cur r x ∧ x.o = false ∧ r 2 = x.p ∧ r 3 = 65535 - c.n
  | 6 => ∃ x, SeenG cur r x ∧ x.o = false ∧ ¬ 65535 < x.p + c.n
  | 7 => ∃ x, SeenG cur r x ∧ x.o = false ∧ ¬ 65535 < x.p + c.n ∧ r 4 = (PhS.mk x.o x.f (x.p + c.n) (x.q + c.n)).word
  | 8 => (r 3 = 1 ∧ ∃ x y n, DidG c cur r x y n ∧ n = x.f) ∨ (r 3 = 0 ∧ chgs cur = [])
  | 9 => ∃ x y n, DidG c cur r x y n ∧ n = x.f
  | 11 => ∃ x, SeenG cur r x ∧ x.o = true
  | 13 => ∃ x, SeenG cur r x ∧ x.o = false ∧ 65535 < x.p + c.n
  | 10 | 12 | 14 => SayAt c r cur
  | _ => False
def KAt (c : GC) (i : Nat) (r : Nat → Int) (cur : List (Int × Int)) : Prop :=
  match i with
  | 0 => chgs cur = []
  | 1 => ∃ x, SeenG cur r x
  | 2 => ∃ x, SeenG cur r x ∧ r 2 = bitO x.o
  | 3 => ∃ x, SeenG cur r x ∧ x.o = false
  | 4 => ∃ x, SeenG cur r x ∧ x.o = false ∧ r 4 = (PhS.mk true x.f x.p x.q).word
  | 5 => (r 3 = 1 ∧ ∃ x y, DidG c cur r x y 0) ∨ (r 3 = 0 ∧ chgs cur = [])
  | 6 | 7 => ∃ x y, DidG c cur r x y 0
  | 9 => ∃ x, SeenG cur r x ∧ x.o = true
  | 8 | 10 => SayAt c r cur
  | _ => False
/-- What is so of a call at its jth instruction. -/
def AtG (c : GC) (j : Nat) (r : Nat → Int) (cur : List (Int × Int)) : Prop :=
  match c.w with
  | 6 => RAt c j r cur
  | 7 => if j < 29 then CAt c 0 j r cur else if j = 29 then (∃ x y n, DidG c cur r x y n ∧ n = x.f ∧ r 5 = n) else SayAt c r cur
  | 8 => if j < 29 then CAt c 1 j r cur else if j = 29 then (∃ x y n, DidG c cur r x y n ∧ n = x.f ∧ r 5 = n) else SayAt c r cur
  | 9 => if j < 29 then CAt c 0 j r cur else if j < 38 then UAt c (j - 29) r cur else SayAt c r cur
  | 10 => if j = 0 then chgs cur = [] else if j < 10 then UAt c (j - 1) r cur else SayAt c r cur
  | _ => KAt c j r cur
/-- What an instruction does is right. -/
def SteppedG (c : GC) (A : Nat → (Nat → Int) → List (Int × Int) → Prop) (j : Nat) (r : Nat → Int) (cur : List (Int × Int)) (cell : Int) : DoK → Prop
  | .set i v => A (j + 1) (upd r i v) cur
  | .mem a now (some q) => a = 0 ∧ (∃ z : PhS, z.ok ∧ now = z.word) ∧ (now = cell ∨ chgs cur = [] ∧ ∃ (x y : PhS) (n : Int), x.ok ∧ y.ok ∧ cell = x.word ∧ now = y.word ∧ phNext x (askW c) c.n = (y, n)) ∧ A (j + 1) (upd r q.1 q.2) (cur ++ [(cell, now)])
  | .mem _ _ none => False
  | .goto k => A k r cur
  | .next => A (j + 1) r cur
  | .sleep a => a = 0 ∧ A (j + 1) r cur
  | .wake a _ => a = 0 ∧ A (j + 1) r cur
  | .say w v => w = 3 ∧ AnsOK c cur v

section
variable {c : GC} {r : Nat → Int} {cur : List (Int × Int)} {x : PhS}
theorem SeenU.set (h : SeenU cur r x) {i : Nat} (hi : i ≠ 1) (v : Int) : SeenU cur (upd r i v) x := ⟨h.ok, h.last, by rw [upd_ne _ _ (Ne.symm hi)]; exact h.r1⟩
theorem SeenG.set (h : SeenG cur r x) {i : Nat} (hi : i ≠ 1) (v : Int) : SeenG cur (upd r i v) x := ⟨h.u.set hi v, h.chg⟩
theorem DidG.set {y : PhS} {n : Int} (h : DidG c cur r x y n) {i : Nat} (hi : i ≠ 1) (v : Int) : DidG c cur (upd r i v) x y n := ⟨h.ok, h.chg, h.nx, by rw [upd_ne _ _ (Ne.symm hi)]; exact h.r1⟩
theorem SeenU.new {cell : Int} (hx : x.ok) (hc : cell = x.word) : SeenU (cur ++ [(cell, cell)]) (upd r 1 cell) x := ⟨hx, by rw [last_snoc, hc], by rw [upd_same, hc]⟩
theorem SeenG.new {cell : Int} (hx : x.ok) (hc : cell = x.word) (h : chgs cur = []) : SeenG (cur ++ [(cell, cell)]) (upd r 1 cell) x := ⟨SeenU.new hx hc, by rw [chgs_same]; exact h⟩
theorem CtxG.same {n v : Int} (h : CtxG c cur n) : CtxG c (cur ++ [(v, v)]) n := by
  obtain ⟨h0, h1, h2⟩ := h
  refine ⟨h0, h1, ?_⟩
  rcases h2 with ⟨a, b, d⟩ | ⟨a, x, y, b, d, e⟩
  · exact .inl ⟨a, by rw [chgs_same]; exact b, d⟩
  · exact .inr ⟨a, x, y, b, by rw [chgs_same]; exact d, e⟩
end
end Go.Proofs.YtdhlmgoodpepeaaGreatDoor

namespace Go.Proofs.YtdhlmgoodpepeaaGreatDoor
set_option maxRecDepth 100000
set_option linter.unusedVariables false
set_option linter.unusedSimpArgs false

section
variable {c : GC} {r : Nat → Int} {cur : List (Int × Int)} {x z z0 : PhS} {A : Nat → (Nat → Int) → List (Int × Int) → Prop} {cell : Nat → Int}

theorem bit_one {z : PhS} (h : z.ok) (h1 : r 1 = z.word) : r 1 / 2 ^ 63 % 2 ^ 1 = bitO z.o := by rw [h1]; exact word_over h
theorem one_mod : (1 : Int) % m64 = 1 := by decide
theorem bit_is {z : PhS} (h : r 2 = bitO z.o) : (r 2 = 1 % m64) ↔ z.o = true := by
  rw [h, one_mod]
  unfold bitO
  cases z.o
  · exact ⟨fun e => by simp at e, fun e => by cases e⟩
  · exact ⟨fun _ => rfl, fun _ => rfl⟩
theorem ans_until {n v : Int} (hc : CtxG c cur n) (hz : z.ok) (hl : cur.getLast? = some (z.word, z.word)) (h : phNext z 10 n = (z, v)) (hv : v ≠ -4) : AnsOK c cur v := by
  obtain ⟨h0, h1, h2⟩ := hc
  rcases h2 with ⟨a, b, d⟩ | ⟨a, x, y, b, d, e⟩
  · refine .inl ⟨b, z, hz, hl, ?_, (fun q => by rw [a] at q; cases q), hv⟩
    unfold askW
    rw [if_neg (by rw [a]; decide), a, ← d]
    exact h
  · refine .inr ⟨x, y, n, b, d, ?_, fun q => absurd a q, fun _ => ⟨h0, z, hz, hl, h, hv⟩⟩
    unfold askW
    rw [if_pos a]
    exact e
theorem say_at (h : SayAt c r cur) (j : Nat) : SteppedG c A j r cur (cell 0) (.say 3 (signed (r 2))) := by
  obtain ⟨v, h1, h2, h3, h4⟩ := h
  refine ⟨rfl, ?_⟩
  rw [h2, signed_mod h3 h4]
  exact h1
theorem nat_add (u k : Nat) : ((u : Int) + (k : Int)).toNat = u + k := by omega
theorem until_step (u : Nat) (hA : ∀ i r cur, i < 9 → UAt c i r cur → A (u + i) r cur) (hS : ∀ r cur, SayAt c r cur → A (u + 9) r cur) {i : Nat} (hi : i < 9) (h : UAt c i r cur) (hz : z0.ok) (hcell : cell 0 = z0.word) :
    SteppedG c A (u + i) r cur (cell 0) (relD ((until0 (u : Int)).getD i default) cell r) := by
  obtain ⟨n, hc, h5, h⟩ := h
  match i, hi, h with
  | 0, _, h =>
    show SteppedG c A (u + 0) r cur (cell 0) (.mem 0 (cell 0) (some (1, cell 0)))
    exact ⟨rfl, ⟨z0, hz, hcell⟩, .inl rfl, hA 1 _ _ (by decide) ⟨n, hc.same, by rw [upd_ne _ _ (show (5 : Nat) ≠ 1 by decide)]; exact h5, z0, SeenU.new hz hcell⟩⟩
  | 1, _, ⟨z, h⟩ =>
    show SteppedG c A (u + 1) r cur (cell 0) (.set 2 (r 1 / 2 ^ 63 % 2 ^ 1))
    exact hA 2 _ _ (by decide) ⟨n, hc, by rw [upd_ne _ _ (by decide)]; exact h5, z, h.set (by decide) _, by rw [upd_same]; exact bit_one h.ok h.r1⟩
  | 2, _, ⟨z, h, h2⟩ =>
    show SteppedG c A (u + 2) r cur (cell 0) (if r 2 = 1 % m64 then .goto ((u : Int) + 8).toNat else .next)
    split
    · next e =>
      rw [show ((u : Int) + 8).toNat = u + 8 from nat_add u 8]
      exact hA 8 _ _ (by decide) ⟨n, hc, h5, z, h, (bit_is h2).1 e⟩
    · next e =>
      refine hA 3 _ _ (by decide) ⟨n, hc, h5, z, h, ?_⟩
      cases ho : z.o
      · rfl
      · exact absurd ((bit_is h2).2 ho) e
  | 3, _, ⟨z, h, h2⟩ =>
    show SteppedG c A (u + 3) r cur (cell 0) (.set 2 (r 1 / 2 ^ 32 % 2 ^ 31))
    exact hA 4 _ _ (by decide) ⟨n, hc, by rw [upd_ne _ _ (by decide)]; exact h5, z, h.set (by decide) _, h2, by rw [upd_same, h.r1]; exact word_phase h.ok⟩
  | 4, _, ⟨z, h, h2, h3⟩ =>
    show SteppedG c A (u + 4) r cur (cell 0) (if r 2 = r 5 then .goto ((u : Int) + 6).toNat else .next)
    split
    · next e =>
      rw [show ((u : Int) + 6).toNat = u + 6 from nat_add u 6]
      exact hA 6 _ _ (by decide) ⟨n, hc, h5, z, h, h2, by rw [← h3, e, h5]⟩
    · next e =>
      exact hA 5 _ _ (by decide) ⟨n, hc, h5, z, h, h2, h3, by rw [← h3, ← h5]; exact e⟩
  | 5, _, ⟨z, h, h2, h3, h4⟩ =>
    show SteppedG c A (u + 5) r cur (cell 0) (.goto ((u : Int) + 9).toNat)
    rw [show ((u : Int) + 9).toNat = u + 9 from nat_add u 9]
    have hf := h.ok.1
    refine hS _ _ ⟨z.f, ans_until hc h.ok h.last ?_ (by omega), ?_, by omega, by omega⟩
    · rw [phNext_watch h2, if_neg h4]
    · rw [h3]
      exact (Int.emod_eq_of_lt (by omega) (by unfold m64; omega)).symm
  | 6, _, ⟨z, h, h2, h3⟩ =>
    show SteppedG c A (u + 6) r cur (cell 0) (if cell 0 = r 1 then .sleep 0 else .next)
    split
    · exact ⟨rfl, hA 7 _ _ (by decide) ⟨n, hc, h5, trivial⟩⟩
    · exact hA 7 _ _ (by decide) ⟨n, hc, h5, trivial⟩
  | 7, _, _ =>
    show SteppedG c A (u + 7) r cur (cell 0) (.goto (u : Int).toNat)
    rw [Int.toNat_natCast]
    exact hA 0 _ _ (by decide) ⟨n, hc, h5, trivial⟩
  | 8, _, ⟨z, h, h2⟩ =>
    show SteppedG c A (u + 8) r cur (cell 0) (.set 2 (-1 % m64))
    exact hS _ _ ⟨-1, ans_until hc h.ok h.last (phNext_over h2 _ _) (by decide), by rw [upd_same], by decide, by decide⟩
  | i + 9, hi, _ => exact absurd hi (by omega)
end
end Go.Proofs.YtdhlmgoodpepeaaGreatDoor

namespace Go.Proofs.YtdhlmgoodpepeaaGreatDoor
set_option maxRecDepth 100000
set_option linter.unusedVariables false
set_option linter.unusedSimpArgs false

/-- Who arrives, of a state that may be: another state, that may be. -/
theorem arrive_new {x : PhS} {l : Int} (h : x.ok) (ho : x.o = false) (hq : x.q ≠ 0) (hl : l = 0 ∨ l = 1) : (phArrive x l).1.ok ∧ (phArrive x l).1.word ≠ x.word ∧ (phArrive x l).2 = x.f := by
  have h1 := phArrive_ok h hl
  obtain ⟨a, b, c, d, e, g⟩ := word_bounds h
  refine ⟨h1, fun he => ?_, ?_⟩
  · have := (word_inj h1 h).1 he
    by_cases q1 : x.q = 1
    · rw [phArrive_last q1] at this
      have this : (if x.p - l = 0 then (PhS.mk true x.f (x.p - l) (x.q - 1)) else ⟨x.o, phUp x.f, x.p - l, x.p - l⟩) = x := this
      split at this
      · have := congrArg PhS.o this
        rw [ho] at this
        cases this
      · have := congrArg PhS.f this
        have this : phUp x.f = x.f := this
        unfold phUp at this
        split at this <;> omega
    · rw [phArrive_more (by omega)] at this
      have := congrArg PhS.q this
      have this : x.q - 1 = x.q := this
      omega
  · by_cases q1 : x.q = 1
    · rw [phArrive_last q1]
    · rw [phArrive_more (by omega)]
section
variable {c : GC} {r : Nat → Int} {cur : List (Int × Int)} {x z z0 : PhS} {A : Nat → (Nat → Int) → List (Int × Int) → Prop} {cell : Nat → Int} {m l : Int} {q : Nat}

theorem ok_mk {o : Bool} {f p q : Int} (a : 0 ≤ f) (b : f ≤ 2147483647) (c : 0 ≤ p) (d : p ≤ 65535) (e : 0 ≤ q) (g : q ≤ p) : PhS.ok ⟨o, f, p, q⟩ := ⟨⟨a, b⟩, ⟨c, d⟩, e, g⟩
theorem word_mk (o : Bool) (f p q : Int) : (PhS.mk o f p q).word = q + 65536 * p + 4294967296 * f + overW o := rfl
theorem word_of_false (h : x.o = false) : x.word = x.q + 65536 * x.p + 4294967296 * x.f + 0 := by
  unfold PhS.word
  rw [h]
  rfl
theorem zero_mod : (0 : Int) % m64 = 0 := by decide
theorem come_step (hm : m = -1 ∧ l = 0 ∨ m = -65537 ∧ l = 1) (hnx : ∀ x : PhS, x.o = false → phNext x (askW c) c.n = phArrive x l) (hA : ∀ i r cur, i < 29 → CAt c l i r cur → A i r cur)
    (h29 : ∀ r cur, (∃ x y n, DidG c cur r x y n ∧ n = x.f ∧ r 5 = n) → A 29 r cur) (hS : ∀ r cur, SayAt c r cur → A q r cur) {i : Nat} (hi : i < 29) (h : CAt c l i r cur) (hz : z0.ok) (hcell : cell 0 = z0.word) :
    SteppedG c A i r cur (cell 0) (relD ((come0 m (q : Int)).getD i default) cell r) := by
  have hl : l = 0 ∨ l = 1 := by omega
  have n21 : (2 : Nat) ≠ 1 := by decide
  have n31 : (3 : Nat) ≠ 1 := by decide
  have n41 : (4 : Nat) ≠ 1 := by decide
  have n51 : (5 : Nat) ≠ 1 := by decide
  match i, hi, h with
  | 0, _, h =>
    show SteppedG c A 0 r cur (cell 0) (.mem 0 (cell 0) (some (1, cell 0)))
    exact ⟨rfl, ⟨z0, hz, hcell⟩, .inl rfl, hA 1 _ _ (by decide) ⟨z0, SeenG.new hz hcell h⟩⟩
  | 1, _, ⟨x, h⟩ =>
    show SteppedG c A 1 r cur (cell 0) (.set 2 (r 1 / 2 ^ 63 % 2 ^ 1))
    exact hA 2 _ _ (by decide) ⟨x, h.set n21 _, by rw [upd_same]; exact bit_one h.u.ok h.u.r1⟩
  | 2, _, ⟨x, h, h2⟩ =>
    show SteppedG c A 2 r cur (cell 0) (if r 2 = 1 % m64 then .goto 25 else .next)
    split
    · next e => exact hA 25 _ _ (by decide) ⟨x, h, (bit_is h2).1 e⟩
    · next e =>
      refine hA 3 _ _ (by decide) ⟨x, h, ?_⟩
      cases ho : x.o
      · rfl
      · exact absurd ((bit_is h2).2 ho) e
  | 3, _, ⟨x, h, h2⟩ =>
    show SteppedG c A 3 r cur (cell 0) (.set 2 (r 1 / 2 ^ 0 % 2 ^ 16))
    exact hA 4 _ _ (by decide) ⟨x, h.set n21 _, h2, by rw [upd_same, h.u.r1]; exact word_wait h.u.ok⟩
  | 4, _, ⟨x, h, h2, h3⟩ =>
    show SteppedG c A 4 r cur (cell 0) (if r 2 = 0 % m64 then .goto 27 else .next)
    rw [zero_mod]
    split
    · next e => exact hA 27 _ _ (by decide) ⟨x, h, h2, by rw [← h3]; exact e⟩
    · next e => exact hA 5 _ _ (by decide) ⟨x, h, h2, h3, by rw [← h3]; exact e⟩
  | 5, _, ⟨x, h, h2, h3, h4⟩ =>
    show SteppedG c A 5 r cur (cell 0) (.set 4 ((r 1 + m) % m64))
    obtain ⟨a, b, c1, d, e, g⟩ := word_bounds h.u.ok
    refine hA 6 _ _ (by decide) ⟨x, h.set n41 _, h2, by rw [upd_ne _ _ (show (2 : Nat) ≠ 4 by decide)]; exact h3, h4, ?_⟩
    rw [upd_same, h.u.r1]
    refine word_add (ok_mk a b (by omega) (by omega) (by omega) (by omega)) ?_
    rw [word_mk, word_of_false h2]
    show _ + (0 : Int) = _
    omega
  | 6, _, ⟨x, h, h2, h3, h4, h5⟩ =>
    show SteppedG c A 6 r cur (cell 0) (if r 2 = 1 % m64 then .goto 8 else .next)
    rw [one_mod]
    split
    · next e =>
      have e1 : x.q = 1 := by rw [← h3]; exact e
      refine hA 8 _ _ (by decide) ⟨x, h, h2, h3, e1, ?_⟩
      rw [h5, e1]
      rfl
    · next e => exact hA 7 _ _ (by decide) ⟨x, h, h2, h3, h4, by rw [← h3]; exact e, h5⟩
  | 7, _, ⟨x, h, h2, h3, h4, h5, h6⟩ =>
    show SteppedG c A 7 r cur (cell 0) (.goto 18)
    obtain ⟨a, b, c1, d, e, g⟩ := word_bounds h.u.ok
    refine hA 18 _ _ (by decide) ⟨x, h, h2, h3, h4, ?_, ?_⟩
    · rw [phArrive_more (by omega), h6, h2]
    · rw [phArrive_more (by omega)]
  | 8, _, ⟨x, h, h2, h3, h4, h5⟩ =>
    show SteppedG c A 8 r cur (cell 0) (.set 3 (r 4 / 2 ^ 16 % 2 ^ 16))
    obtain ⟨a, b, c1, d, e, g⟩ := word_bounds h.u.ok
    refine hA 9 _ _ (by decide) ⟨x, h.set n31 _, h2, by rw [upd_ne _ _ (show (2 : Nat) ≠ 3 by decide)]; exact h3, h4, by rw [upd_ne _ _ (show (4 : Nat) ≠ 3 by decide)]; exact h5, ?_⟩
    rw [upd_same, h5]
    exact word_par (x := ⟨false, x.f, x.p - l, 0⟩) (ok_mk a b (by omega) (by omega) (by omega) (by omega))
  | 9, _, ⟨x, h, h2, h3, h4, h5, h6⟩ =>
    show SteppedG c A 9 r cur (cell 0) (if r 3 = 0 % m64 then .goto 17 else .next)
    rw [zero_mod]
    split
    · next e => exact hA 17 _ _ (by decide) ⟨x, h, h2, h3, h4, h5, by rw [← h6]; exact e⟩
    · next e => exact hA 10 _ _ (by decide) ⟨x, h, h2, h3, h4, h5, h6, by rw [← h6]; exact e⟩
  | 10, _, ⟨x, h, h2, h3, h4, h5, h6, h7⟩ =>
    show SteppedG c A 10 r cur (cell 0) (.set 4 ((r 4 + r 3) % m64))
    obtain ⟨a, b, c1, d, e, g⟩ := word_bounds h.u.ok
    refine hA 11 _ _ (by decide) ⟨x, h.set n41 _, h2, by rw [upd_ne _ _ (show (2 : Nat) ≠ 4 by decide)]; exact h3, h4, ?_, h7⟩
    rw [upd_same, h5, h6]
    refine word_add (ok_mk a b (by omega) (by omega) (by omega) (by omega)) ?_
    rw [word_mk, word_mk]
    omega
  | 11, _, ⟨x, h, h2, h3, h4, h5, h6⟩ =>
    show SteppedG c A 11 r cur (cell 0) (.set 3 (r 1 / 2 ^ 32 % 2 ^ 31))
    exact hA 12 _ _ (by decide) ⟨x, h.set n31 _, h2, by rw [upd_ne _ _ (show (2 : Nat) ≠ 3 by decide)]; exact h3, h4, by rw [upd_ne _ _ (show (4 : Nat) ≠ 3 by decide)]; exact h5, h6, by rw [upd_same, h.u.r1]; exact word_phase h.u.ok⟩
  | 12, _, ⟨x, h, h2, h3, h4, h5, h6, h7⟩ =>
    show SteppedG c A 12 r cur (cell 0) (if r 3 = 2147483647 % m64 then .goto 15 else .next)
    rw [show (2147483647 : Int) % m64 = 2147483647 by decide]
    split
    · next e => exact hA 15 _ _ (by decide) ⟨x, h, h2, h3, h4, h5, h6, by rw [← h7]; exact e⟩
    · next e => exact hA 13 _ _ (by decide) ⟨x, h, h2, h3, h4, h5, h6, by rw [← h7]; exact e⟩
  | 13, _, ⟨x, h, h2, h3, h4, h5, h6, h7⟩ =>
    show SteppedG c A 13 r cur (cell 0) (.set 4 ((r 4 + 4294967296) % m64))
    obtain ⟨a, b, c1, d, e, g⟩ := word_bounds h.u.ok
    have e1 : phArrive x l = (⟨x.o, phUp x.f, x.p - l, x.p - l⟩, x.f) := by rw [phArrive_last h4, if_neg h6]
    have e2 : phUp x.f = x.f + 1 := by unfold phUp; rw [if_neg h7]
    refine hA 14 _ _ (by decide) ⟨x, h.set n41 _, h2, by rw [upd_ne _ _ (show (2 : Nat) ≠ 4 by decide)]; exact h3, by omega, ?_, by rw [e1]⟩
    rw [upd_same, h5, e1, h2, e2]
    refine word_add (ok_mk (by omega) (by omega) (by omega) (by omega) (by omega) (by omega)) ?_
    rw [word_mk, word_mk]
    omega
  | 14, _, ⟨x, h⟩ =>
    show SteppedG c A 14 r cur (cell 0) (.goto 18)
    exact hA 18 _ _ (by decide) ⟨x, h⟩
  | 15, _, ⟨x, h, h2, h3, h4, h5, h6, h7⟩ =>
    show SteppedG c A 15 r cur (cell 0) (.set 4 ((r 4 + -9223372032559808512) % m64))
    obtain ⟨a, b, c1, d, e, g⟩ := word_bounds h.u.ok
    have e1 : phArrive x l = (⟨x.o, phUp x.f, x.p - l, x.p - l⟩, x.f) := by rw [phArrive_last h4, if_neg h6]
    have e2 : phUp x.f = 0 := by unfold phUp; rw [if_pos h7]
    refine hA 16 _ _ (by decide) ⟨x, h.set n41 _, h2, by rw [upd_ne _ _ (show (2 : Nat) ≠ 4 by decide)]; exact h3, by omega, ?_, by rw [e1]⟩
    rw [upd_same, h5, e1, h2, e2]
    refine word_add (ok_mk (by omega) (by omega) (by omega) (by omega) (by omega) (by omega)) ?_
    rw [word_mk, word_mk]
    omega
  | 16, _, ⟨x, h⟩ =>
    show SteppedG c A 16 r cur (cell 0) (.goto 18)
    exact hA 18 _ _ (by decide) ⟨x, h⟩
  | 17, _, ⟨x, h, h2, h3, h4, h5, h6⟩ =>
    show SteppedG c A 17 r cur (cell 0) (.set 4 ((r 4 + -9223372036854775808) % m64))
    obtain ⟨a, b, c1, d, e, g⟩ := word_bounds h.u.ok
    have e1 : phArrive x l = (⟨true, x.f, x.p - l, x.q - 1⟩, x.f) := by rw [phArrive_last h4, if_pos h6]
    refine hA 18 _ _ (by decide) ⟨x, h.set n41 _, h2, by rw [upd_ne _ _ (show (2 : Nat) ≠ 4 by decide)]; exact h3, by omega, ?_, by rw [e1]⟩
    rw [upd_same, h5, e1, word_over_add (ok_mk a b (by omega) (by omega) (by omega) (by omega)), h4]
    rfl
  | 18, _, ⟨x, h, h2, h3, h4, h5, h6⟩ =>
    show SteppedG c A 18 r cur (cell 0) (if cell 0 = r 1 then .mem 0 (r 4) (some (3, 1)) else .mem 0 (cell 0) (some (3, 0)))
    obtain ⟨k1, k2, k3⟩ := arrive_new h.u.ok h2 h4 hl
    have enx : phNext x (askW c) c.n = ((phArrive x l).1, x.f) := by rw [hnx x h2, ← k3]
    split
    · next e =>
      have ec : cell 0 = x.word := by rw [e, h.u.r1]
      refine ⟨rfl, ⟨_, k1, h5⟩, .inr ⟨h.chg, x, _, x.f, h.u.ok, k1, ec, h5, enx⟩, hA 19 _ _ (by decide) (.inl ⟨by rw [upd_same], x, _, x.f, ⟨h.u.ok, ?_, enx, by rw [upd_ne _ _ (show (1 : Nat) ≠ 3 by decide)]; exact h.u.r1⟩, by rw [upd_ne _ _ (show (2 : Nat) ≠ 3 by decide)]; exact h3, rfl⟩)⟩
      rw [ec, h5, chgs_new _ (Ne.symm k2), h.chg]
      rfl
    · exact ⟨rfl, ⟨z0, hz, hcell⟩, .inl rfl, hA 19 _ _ (by decide) (.inr ⟨by rw [upd_same], by rw [chgs_same]; exact h.chg⟩)⟩
  | 19, _, h =>
    show SteppedG c A 19 r cur (cell 0) (if r 3 = 0 % m64 then .goto 0 else .next)
    rw [zero_mod]
    rcases h with ⟨e, h⟩ | ⟨e, h⟩
    · rw [if_neg (by rw [e]; decide)]
      exact hA 20 _ _ (by decide) h
    · rw [if_pos e]
      exact hA 0 _ _ (by decide) h
  | 20, _, ⟨x, y, n, h, h2, h3⟩ =>
    show SteppedG c A 20 r cur (cell 0) (.set 5 (r 1 / 2 ^ 32 % 2 ^ 31))
    exact hA 21 _ _ (by decide) ⟨x, y, n, h.set n51 _, h3, by rw [upd_same, h.r1, h3]; exact word_phase h.ok⟩
  | 21, _, h =>
    show SteppedG c A 21 r cur (cell 0) (if r 2 = 1 % m64 then .goto 23 else .next)
    split
    · exact hA 23 _ _ (by decide) h
    · exact hA 22 _ _ (by decide) h
  | 22, _, h => exact h29 _ _ h
  | 23, _, h => exact ⟨rfl, hA 24 _ _ (by decide) h⟩
  | 24, _, h => exact h29 _ _ h
  | 25, _, ⟨x, h, h2⟩ =>
    show SteppedG c A 25 r cur (cell 0) (.set 2 (-1 % m64))
    exact hA 26 _ _ (by decide) ⟨x, h.set n21 _, h2, by rw [upd_same]⟩
  | 26, _, ⟨x, h, h2, h3⟩ =>
    show SteppedG c A 26 r cur (cell 0) (.goto (q : Int).toNat)
    rw [Int.toNat_natCast]
    exact hS _ _ ⟨-1, .inl ⟨h.chg, x, h.u.ok, h.u.last, phNext_over h2 _ _, fun _ => by decide, by decide⟩, h3, by decide, by decide⟩
  | 27, _, ⟨x, h, h2, h3⟩ =>
    show SteppedG c A 27 r cur (cell 0) (.set 2 (-2 % m64))
    exact hA 28 _ _ (by decide) ⟨x, h.set n21 _, h2, h3, by rw [upd_same]⟩
  | 28, _, ⟨x, h, h2, h3, h4⟩ =>
    show SteppedG c A 28 r cur (cell 0) (.goto (q : Int).toNat)
    rw [Int.toNat_natCast]
    exact hS _ _ ⟨-2, .inl ⟨h.chg, x, h.u.ok, h.u.last, by rw [hnx x h2]; exact phArrive_none h3, fun _ => by decide, by decide⟩, h4, by decide, by decide⟩
  | i + 29, hi, _ => exact absurd hi (by omega)
end
end Go.Proofs.YtdhlmgoodpepeaaGreatDoor

namespace Go.Proofs.YtdhlmgoodpepeaaGreatDoor
set_option maxRecDepth 100000
set_option linter.unusedVariables false
set_option linter.unusedSimpArgs false

section
variable {c : GC} {r : Nat → Int} {cur : List (Int × Int)} {x z z0 : PhS} {cell : Nat → Int}

theorem mod_is {v : Int} (h0 : 0 ≤ v) (h1 : v ≤ 2147483647) : v = v % m64 := (Int.emod_eq_of_lt h0 (by unfold m64; omega)).symm
theorem reg_step (hw : c.w = 6) (hn : 1 ≤ c.n ∧ c.n ≤ 65535) {i : Nat} (hi : i < 15) (h : RAt c i r cur) (hz : z0.ok) (hcell : cell 0 = z0.word) :
    SteppedG c (RAt c) i r cur (cell 0) (relD ((reg0 c.n).getD i default) cell r) := by
  have n21 : (2 : Nat) ≠ 1 := by decide
  have n31 : (3 : Nat) ≠ 1 := by decide
  have n41 : (4 : Nat) ≠ 1 := by decide
  have hask : askW c = 6 := by unfold askW; rw [if_neg (by rw [hw]; decide), hw]; rfl
  have h9 : c.w ≠ 9 := by rw [hw]; decide
  match i, hi, h with
  | 0, _, h =>
    show SteppedG c (RAt c) 0 r cur (cell 0) (.mem 0 (cell 0) (some (1, cell 0)))
    exact ⟨rfl, ⟨z0, hz, hcell⟩, .inl rfl, ⟨z0, SeenG.new hz hcell h⟩⟩
  | 1, _, ⟨x, h⟩ =>
    show SteppedG c (RAt c) 1 r cur (cell 0) (.set 2 (r 1 / 2 ^ 63 % 2 ^ 1))
    exact ⟨x, h.set n21 _, by rw [upd_same]; exact bit_one h.u.ok h.u.r1⟩
  | 2, _, ⟨x, h, h2⟩ =>
    show SteppedG c (RAt c) 2 r cur (cell 0) (if r 2 = 1 % m64 then .goto 11 else .next)
    split
    · next e => exact ⟨x, h, (bit_is h2).1 e⟩
    · next e =>
      refine ⟨x, h, ?_⟩
      cases ho : x.o
      · rfl
      · exact absurd ((bit_is h2).2 ho) e
  | 3, _, ⟨x, h, h2⟩ =>
    show SteppedG c (RAt c) 3 r cur (cell 0) (.set 2 (r 1 / 2 ^ 16 % 2 ^ 16))
    exact ⟨x, h.set n21 _, h2, by rw [upd_same, h.u.r1]; exact word_par h.u.ok⟩
  | 4, _, ⟨x, h, h2, h3⟩ =>
    show SteppedG c (RAt c) 4 r cur (cell 0) (.set 3 ((65535 - c.n) % m64))
    exact ⟨x, h.set n31 _, h2, by rw [upd_ne _ _ (show (2 : Nat) ≠ 3 by decide)]; exact h3, by rw [upd_same]; exact (mod_is (by omega) (by omega)).symm⟩
  | 5, _, ⟨x, h, h2, h3, h4⟩ =>
    show SteppedG c (RAt c) 5 r cur (cell 0) (if r 3 < r 2 then .goto 13 else .next)
    rw [h3, h4]
    split
    · exact ⟨x, h, h2, by omega⟩
    · exact ⟨x, h, h2, by omega⟩
  | 6, _, ⟨x, h, h2, h3⟩ =>
    show SteppedG c (RAt c) 6 r cur (cell 0) (.set 4 ((r 1 + 65537 * c.n) % m64))
    obtain ⟨a, b, c1, d, e, g⟩ := word_bounds h.u.ok
    refine ⟨x, h.set n41 _, h2, h3, ?_⟩
    rw [upd_same, h.u.r1]
    refine word_add (ok_mk a b (by omega) (by omega) (by omega) (by omega)) ?_
    rw [word_mk, word_of_false h2, h2]
    show _ + (0 : Int) = _
    omega
  | 7, _, ⟨x, h, h2, h3, h4⟩ =>
    show SteppedG c (RAt c) 7 r cur (cell 0) (if cell 0 = r 1 then .mem 0 (r 4) (some (3, 1)) else .mem 0 (cell 0) (some (3, 0)))
    obtain ⟨a, b, c1, d, e, g⟩ := word_bounds h.u.ok
    have k1 : PhS.ok ⟨x.o, x.f, x.p + c.n, x.q + c.n⟩ := ok_mk a b (by omega) (by omega) (by omega) (by omega)
    have enx : phNext x (askW c) c.n = (⟨x.o, x.f, x.p + c.n, x.q + c.n⟩, x.f) := by rw [hask]; exact phNext_reg h2 h3
    split
    · next e =>
      have ec : cell 0 = x.word := by rw [e, h.u.r1]
      have k2 : x.word ≠ (PhS.mk x.o x.f (x.p + c.n) (x.q + c.n)).word := fun he => by
        have := congrArg PhS.p ((word_inj h.u.ok k1).1 he)
        have this : x.p = x.p + c.n := this
        omega
      refine ⟨rfl, ⟨_, k1, h4⟩, .inr ⟨h.chg, x, _, x.f, h.u.ok, k1, ec, h4, enx⟩, .inl ⟨by rw [upd_same], x, _, x.f, ⟨h.u.ok, ?_, enx, by rw [upd_ne _ _ (show (1 : Nat) ≠ 3 by decide)]; exact h.u.r1⟩, rfl⟩⟩
      rw [ec, h4, chgs_new _ k2, h.chg]
      rfl
    · exact ⟨rfl, ⟨z0, hz, hcell⟩, .inl rfl, .inr ⟨by rw [upd_same], by rw [chgs_same]; exact h.chg⟩⟩
  | 8, _, h =>
    show SteppedG c (RAt c) 8 r cur (cell 0) (if r 3 = 0 % m64 then .goto 0 else .next)
    rw [zero_mod]
    rcases h with ⟨e, h⟩ | ⟨e, h⟩
    · rw [if_neg (by rw [e]; decide)]
      exact h
    · rw [if_pos e]
      exact h
  | 9, _, ⟨x, y, n, h, h2⟩ =>
    show SteppedG c (RAt c) 9 r cur (cell 0) (.set 2 (r 1 / 2 ^ 32 % 2 ^ 31))
    have hf := h.ok.1
    refine ⟨n, .inr ⟨x, y, n, h.ok, h.chg, h.nx, fun _ => rfl, fun q => absurd q h9⟩, ?_, by omega, by omega⟩
    rw [upd_same, h.r1, h2, word_phase h.ok]
    exact mod_is hf.1 hf.2
  | 10, _, h => exact h
  | 11, _, ⟨x, h, h2⟩ =>
    show SteppedG c (RAt c) 11 r cur (cell 0) (.set 2 (-1 % m64))
    exact ⟨-1, .inl ⟨h.chg, x, h.u.ok, h.u.last, phNext_over h2 _ _, fun _ => by decide, by decide⟩, by rw [upd_same], by decide, by decide⟩
  | 12, _, h => exact h
  | 13, _, ⟨x, h, h2, h3⟩ =>
    show SteppedG c (RAt c) 13 r cur (cell 0) (.set 2 (-3 % m64))
    exact ⟨-3, .inl ⟨h.chg, x, h.u.ok, h.u.last, by rw [hask]; exact phNext_full h2 h3, fun _ => by decide, by decide⟩, by rw [upd_same], by decide, by decide⟩
  | 14, _, h => exact say_at h 14
  | i + 15, hi, _ => exact absurd hi (by omega)
theorem close_step (hw : c.w = 11) (hn : c.n = 0) {i : Nat} (hi : i < 11) (h : KAt c i r cur) (hz : z0.ok) (hcell : cell 0 = z0.word) :
    SteppedG c (KAt c) i r cur (cell 0) (relD (close0.getD i default) cell r) := by
  have n21 : (2 : Nat) ≠ 1 := by decide
  have n41 : (4 : Nat) ≠ 1 := by decide
  have hask : askW c = 11 := by unfold askW; rw [if_neg (by rw [hw]; decide), hw]; rfl
  have h9 : c.w ≠ 9 := by rw [hw]; decide
  match i, hi, h with
  | 0, _, h =>
    show SteppedG c (KAt c) 0 r cur (cell 0) (.mem 0 (cell 0) (some (1, cell 0)))
    exact ⟨rfl, ⟨z0, hz, hcell⟩, .inl rfl, ⟨z0, SeenG.new hz hcell h⟩⟩
  | 1, _, ⟨x, h⟩ =>
    show SteppedG c (KAt c) 1 r cur (cell 0) (.set 2 (r 1 / 2 ^ 63 % 2 ^ 1))
    exact ⟨x, h.set n21 _, by rw [upd_same]; exact bit_one h.u.ok h.u.r1⟩
  | 2, _, ⟨x, h, h2⟩ =>
    show SteppedG c (KAt c) 2 r cur (cell 0) (if r 2 = 1 % m64 then .goto 9 else .next)
    split
    · next e => exact ⟨x, h, (bit_is h2).1 e⟩
    · next e =>
      refine ⟨x, h, ?_⟩
      cases ho : x.o
      · rfl
      · exact absurd ((bit_is h2).2 ho) e
  | 3, _, ⟨x, h, h2⟩ =>
    show SteppedG c (KAt c) 3 r cur (cell 0) (.set 4 ((r 1 + -9223372036854775808) % m64))
    obtain ⟨a, b, c1, d, e, g⟩ := word_bounds h.u.ok
    refine ⟨x, h.set n41 _, h2, ?_⟩
    rw [upd_same, h.u.r1]
    have := word_over_add (f := x.f) (p := x.p) (q := x.q) (ok_mk a b c1 d e g)
    have ex : (PhS.mk false x.f x.p x.q) = x := by rw [← h2]
    rw [ex] at this
    exact this
  | 4, _, ⟨x, h, h2, h4⟩ =>
    show SteppedG c (KAt c) 4 r cur (cell 0) (if cell 0 = r 1 then .mem 0 (r 4) (some (3, 1)) else .mem 0 (cell 0) (some (3, 0)))
    obtain ⟨a, b, c1, d, e, g⟩ := word_bounds h.u.ok
    have k1 : PhS.ok ⟨true, x.f, x.p, x.q⟩ := ok_mk a b c1 d e g
    have enx : phNext x (askW c) c.n = (⟨true, x.f, x.p, x.q⟩, 0) := by rw [hask, hn]; exact phNext_close h2
    split
    · next e =>
      have ec : cell 0 = x.word := by rw [e, h.u.r1]
      have k2 : x.word ≠ (PhS.mk true x.f x.p x.q).word := fun he => by
        have := congrArg PhS.o ((word_inj h.u.ok k1).1 he)
        rw [h2] at this
        cases this
      refine ⟨rfl, ⟨_, k1, h4⟩, .inr ⟨h.chg, x, _, 0, h.u.ok, k1, ec, h4, enx⟩, .inl ⟨by rw [upd_same], x, _, ⟨h.u.ok, ?_, enx, by rw [upd_ne _ _ (show (1 : Nat) ≠ 3 by decide)]; exact h.u.r1⟩⟩⟩
      rw [ec, h4, chgs_new _ k2, h.chg]
      rfl
    · exact ⟨rfl, ⟨z0, hz, hcell⟩, .inl rfl, .inr ⟨by rw [upd_same], by rw [chgs_same]; exact h.chg⟩⟩
  | 5, _, h =>
    show SteppedG c (KAt c) 5 r cur (cell 0) (if r 3 = 0 % m64 then .goto 0 else .next)
    rw [zero_mod]
    rcases h with ⟨e, h⟩ | ⟨e, h⟩
    · rw [if_neg (by rw [e]; decide)]
      exact h
    · rw [if_pos e]
      exact h
  | 6, _, h => exact ⟨rfl, h⟩
  | 7, _, ⟨x, y, h⟩ =>
    show SteppedG c (KAt c) 7 r cur (cell 0) (.set 2 (0 % m64))
    exact ⟨0, .inr ⟨x, y, 0, h.ok, h.chg, h.nx, fun _ => rfl, fun q => absurd q h9⟩, by rw [upd_same], by decide, by decide⟩
  | 8, _, h => exact h
  | 9, _, ⟨x, h, h2⟩ =>
    show SteppedG c (KAt c) 9 r cur (cell 0) (.set 2 (-1 % m64))
    exact ⟨-1, .inl ⟨h.chg, x, h.u.ok, h.u.last, phNext_over h2 _ _, fun _ => by decide, by decide⟩, by rw [upd_same], by decide, by decide⟩
  | 10, _, h => exact say_at h 10
  | i + 11, hi, _ => exact absurd hi (by omega)
end
end Go.Proofs.YtdhlmgoodpepeaaGreatDoor

namespace Go.Proofs.YtdhlmgoodpepeaaGreatDoor
set_option maxRecDepth 100000
set_option linter.unusedVariables false
set_option linter.unusedSimpArgs false

section
variable {r : Nat → Int} {cur : List (Int × Int)} {z0 : PhS} {cell : Nat → Int} {j : Nat}

theorem gd_left {l l' : List Ins5} {j : Nat} (h : j < l.length) : (l ++ l').getD j default = l.getD j default := by
  rw [List.getD_eq_getElem?_getD, List.getD_eq_getElem?_getD, List.getElem?_append_left h]
theorem gd_right {l l' : List Ins5} {j k : Nat} (h : l.length = k) (hj : k ≤ j) : (l ++ l').getD j default = l'.getD (j - k) default := by
  rw [List.getD_eq_getElem?_getD, List.getD_eq_getElem?_getD, List.getElem?_append_right (by omega), h]
theorem come_len (m q : Int) : (come0 m q).length = 29 := rfl
/-- Arrive or Leave. -/
theorem arr_step {w : Nat} {m l : Int} (hw : w = 7 ∧ m = -1 ∧ l = 0 ∨ w = 8 ∧ m = -65537 ∧ l = 1) (hj : j < 31) (h : AtG ⟨w, 0⟩ j r cur) (hz : z0.ok) (hcell : cell 0 = z0.word) :
    SteppedG ⟨w, 0⟩ (AtG ⟨w, 0⟩) j r cur (cell 0) (relD ((come0 m 30 ++ [(2, 2, 5, 0, 0), (16, 3, 2, 0, 0)]).getD j default) cell r) := by
  have hat : ∀ (j : Nat) r cur, AtG ⟨w, 0⟩ j r cur = if j < 29 then CAt ⟨w, 0⟩ l j r cur else if j = 29 then (∃ x y n, DidG ⟨w, 0⟩ cur r x y n ∧ n = x.f ∧ r 5 = n) else SayAt ⟨w, 0⟩ r cur := by
    intro j r cur
    rcases hw with ⟨rfl, _, rfl⟩ | ⟨rfl, _, rfl⟩ <;> rfl
  have h9 : w ≠ 9 := by omega
  have hnx : ∀ x : PhS, x.o = false → phNext x (askW ⟨w, 0⟩) 0 = phArrive x l := by
    intro x hx
    unfold askW
    rw [if_neg h9]
    rcases hw with ⟨rfl, _, rfl⟩ | ⟨rfl, _, rfl⟩
    · exact phNext_arrive hx
    · exact phNext_leave hx
  have hm : m = -1 ∧ l = 0 ∨ m = -65537 ∧ l = 1 := by omega
  rw [hat] at h
  by_cases h1 : j < 29
  · rw [if_pos h1] at h
    rw [gd_left (by rw [come_len]; exact h1)]
    refine come_step (q := 30) hm hnx (fun i r cur hi hc => ?_) (fun r cur hc => ?_) (fun r cur hc => ?_) h1 h hz hcell
    · rw [hat, if_pos hi]; exact hc
    · rw [hat, if_neg (by decide), if_pos rfl]; exact hc
    · rw [hat, if_neg (by decide), if_neg (by decide)]; exact hc
  · rw [if_neg h1] at h
    rw [gd_right (come_len _ _) (by omega)]
    by_cases h2 : j = 29
    · subst h2
      rw [if_pos rfl] at h
      obtain ⟨x, y, n, h, hn, h5⟩ := h
      show SteppedG ⟨w, 0⟩ (AtG ⟨w, 0⟩) 29 r cur (cell 0) (.set 2 (r 5))
      show AtG ⟨w, 0⟩ 30 (upd r 2 (r 5)) cur
      rw [hat, if_neg (by decide), if_neg (by decide)]
      have hf := h.ok.1
      exact ⟨n, .inr ⟨x, y, n, h.ok, h.chg, h.nx, fun _ => rfl, fun q => absurd q h9⟩, by rw [upd_same, h5]; exact mod_is (by omega) (by omega), by omega, by omega⟩
    · obtain rfl : j = 30 := by omega
      rw [if_neg h2] at h
      exact say_at h 30
theorem pass_step (hj : j < 39) (h : AtG ⟨9, 0⟩ j r cur) (hz : z0.ok) (hcell : cell 0 = z0.word) :
    SteppedG ⟨9, 0⟩ (AtG ⟨9, 0⟩) j r cur (cell 0) (relD ((come0 (-1) 38 ++ until0 29).getD j default) cell r) := by
  have hat : ∀ (j : Nat) r cur, AtG ⟨9, 0⟩ j r cur = if j < 29 then CAt ⟨9, 0⟩ 0 j r cur else if j < 38 then UAt ⟨9, 0⟩ (j - 29) r cur else SayAt ⟨9, 0⟩ r cur := fun j r cur => rfl
  have hask : askW ⟨9, 0⟩ = 7 := rfl
  rw [hat] at h
  by_cases h1 : j < 29
  · rw [if_pos h1] at h
    rw [gd_left (by rw [come_len]; exact h1)]
    refine come_step (q := 38) (.inl ⟨rfl, rfl⟩) (fun x hx => by rw [hask]; exact phNext_arrive hx) (fun i r cur hi hc => ?_) (fun r cur hc => ?_) (fun r cur hc => ?_) h1 h hz hcell
    · rw [hat, if_pos hi]; exact hc
    · rw [hat, if_neg (by decide), if_pos (by decide)]
      obtain ⟨x, y, n, h, hn, h5⟩ := hc
      have hf := h.ok.1
      have hx := h.nx
      rw [hask] at hx
      exact ⟨n, ⟨by omega, by omega, .inr ⟨rfl, x, y, h.ok, h.chg, hx⟩⟩, h5, trivial⟩
    · rw [hat, if_neg (by decide), if_neg (by decide)]; exact hc
  · rw [if_neg h1] at h
    rw [gd_right (come_len _ _) (by omega)]
    by_cases h2 : j < 38
    · rw [if_pos h2] at h
      obtain ⟨i, rfl⟩ : ∃ i, j = 29 + i := ⟨j - 29, by omega⟩
      have hi : i < 9 := by omega
      rw [Nat.add_sub_cancel_left] at h ⊢
      refine until_step 29 (fun i r cur hi hc => ?_) (fun r cur hc => ?_) hi h hz hcell
      · rw [hat, if_neg (by omega), if_pos (by omega), Nat.add_sub_cancel_left]; exact hc
      · rw [hat, if_neg (by decide), if_neg (by decide)]; exact hc
    · obtain rfl : j = 38 := by omega
      rw [if_neg h2] at h
      exact say_at h 38
theorem watch_step {n : Int} (hn : 0 ≤ n ∧ n ≤ 2147483647) (hj : j < 11) (h : AtG ⟨10, n⟩ j r cur) (hz : z0.ok) (hcell : cell 0 = z0.word) :
    SteppedG ⟨10, n⟩ (AtG ⟨10, n⟩) j r cur (cell 0) (relD (((1, 5, n, 0, 0) :: until0 1).getD j default) cell r) := by
  have hat : ∀ (j : Nat) r cur, AtG ⟨10, n⟩ j r cur = if j = 0 then chgs cur = [] else if j < 10 then UAt ⟨10, n⟩ (j - 1) r cur else SayAt ⟨10, n⟩ r cur := fun j r cur => rfl
  rw [hat] at h
  by_cases h0 : j = 0
  · subst h0
    rw [if_pos rfl] at h
    show AtG ⟨10, n⟩ 1 (upd r 5 (n % m64)) cur
    rw [hat, if_neg (by decide), if_pos (by decide)]
    exact ⟨n, ⟨hn.1, hn.2, .inl ⟨rfl, h, rfl⟩⟩, by rw [upd_same]; exact (mod_is hn.1 hn.2).symm, trivial⟩
  · rw [if_neg h0] at h
    obtain ⟨i, rfl⟩ : ∃ i, j = 1 + i := ⟨j - 1, by omega⟩
    rw [show ((1, 5, n, 0, 0) :: until0 1 : List Ins5).getD (1 + i) default = (until0 1).getD i default by rw [Nat.add_comm]; rfl]
    by_cases h2 : 1 + i < 10
    · rw [if_pos h2, Nat.add_sub_cancel_left] at h
      refine until_step 1 (fun i r cur hi hc => ?_) (fun r cur hc => ?_) (by omega) h hz hcell
      · rw [hat, if_neg (by omega), if_pos (by omega), Nat.add_sub_cancel_left]; exact hc
      · rw [hat, if_neg (by decide), if_neg (by decide)]; exact hc
    · obtain rfl : i = 9 := by omega
      rw [if_neg h2] at h
      exact say_at h 10
/-- Whatever the call is: what its instruction does is right. -/
theorem gather_step {c : GC} (hf : fitsC (c.w : Int) c.n) (hj : j < (gather0 c).length) (h : AtG c j r cur) (hz : z0.ok) (hcell : cell 0 = z0.word) :
    SteppedG c (AtG c) j r cur (cell 0) (relD ((gather0 c).getD j default) cell r) := by
  obtain ⟨w, n⟩ := c
  have hf : fitsC (w : Int) n := hf
  have hw : w = 6 ∧ (1 ≤ n ∧ n ≤ 65535) ∨ w = 10 ∧ (0 ≤ n ∧ n ≤ 2147483647) ∨ w = 7 ∧ n = 0 ∨ w = 8 ∧ n = 0 ∨ w = 9 ∧ n = 0 ∨ w = 11 ∧ n = 0 := by
    unfold fitsC at hf
    omega
  rcases hw with ⟨rfl, hn⟩ | ⟨rfl, hn⟩ | ⟨rfl, rfl⟩ | ⟨rfl, rfl⟩ | ⟨rfl, rfl⟩ | ⟨rfl, rfl⟩
  · exact reg_step (c := ⟨6, n⟩) rfl hn hj h hz hcell
  · exact watch_step hn hj h hz hcell
  · exact arr_step (.inl ⟨rfl, rfl, rfl⟩) hj h hz hcell
  · exact arr_step (.inr ⟨rfl, rfl, rfl⟩) hj h hz hcell
  · exact pass_step hj h hz hcell
  · exact close_step (c := ⟨11, 0⟩) rfl rfl hj h hz hcell
/-- A call at its begin. -/
theorem atG_zero (c : GC) {r : Nat → Int} {cur : List (Int × Int)} (h : chgs cur = []) : AtG c 0 r cur := by
  obtain ⟨w, n⟩ := c
  unfold AtG
  split <;> first | exact h | (rw [if_pos (by decide)]; exact h)
end
end Go.Proofs.YtdhlmgoodpepeaaGreatDoor
