/-
  A family of calls out of listings: each call's instructions as they are where it begins at 0 One at a time: a mutex's calls, instruction by instruction (false: Lock, true: Unlock) Threads that ask for calls: what is kept by steps that are later than all that was done and said What a listing's instruction comes to, by its number One at a time: what is kept by all steps of threads that lock and unlock Who sleeps on a mutex: it is locked so, or somebody is about to wake one, or to try
-/
import Derived.Test.YtkhaeabbbhfloaaDoorQK
namespace Go.Proofs.YtkhaeabbbhfloaaDoor
set_option maxRecDepth 100000
set_option linter.unusedVariables false
set_option linter.unusedSimpArgs false

/-- An instruction of a call that begins at p, out of that of one that begins at 0. -/
def shiftI (p : Nat) (x : Ins5) : Ins5 :=
  if x.1 = 10 then (10, (p : Int) + x.2.1, x.2.2)
  else if x.1 = 11 ∨ x.1 = 12 ∨ x.1 = 13 then (x.1, x.2.1, x.2.2.1, (p : Int) + x.2.2.2.1, x.2.2.2.2)
  else x
/-- What an instruction of a call comes to. -/
def relD (x : Ins5) (cell r : Nat → Int) : DoK :=
  let a := x.2.1; let b := x.2.2.1; let c := x.2.2.2.1; let d := x.2.2.2.2
  if x.1 = 1 then .set a.toNat (b % m64)
  else if x.1 = 2 then .set a.toNat (r b.toNat)
  else if x.1 = 3 then .set a.toNat ((r b.toNat + c) % m64)
  else if x.1 = 4 then .set a.toNat ((r b.toNat + r c.toNat) % m64)
  else if x.1 = 5 then .set a.toNat (r b.toNat / 2 ^ c.toNat % 2 ^ d.toNat)
  else if x.1 = 6 then .mem b.toNat (cell b.toNat) (some (a.toNat, cell b.toNat))
  else if x.1 = 7 then .mem a.toNat (r b.toNat) none
  else if x.1 = 8 then .mem b.toNat ((cell b.toNat + c) % m64) (some (a.toNat, cell b.toNat))
  else if x.1 = 9 then (if cell b.toNat = r c.toNat then .mem b.toNat (r d.toNat) (some (a.toNat, 1)) else .mem b.toNat (cell b.toNat) (some (a.toNat, 0)))
  else if x.1 = 10 then .goto a.toNat
  else if x.1 = 11 then (if r a.toNat = b % m64 then .goto c.toNat else .next)
  else if x.1 = 12 then (if r a.toNat < r b.toNat then .goto c.toNat else .next)
  else if x.1 = 13 then (if r a.toNat = r b.toNat then .goto c.toNat else .next)
  else if x.1 = 14 then (if cell a.toNat = r b.toNat then .sleep a.toNat else .next)
  else if x.1 = 15 then .wake a.toNat b.toNat
  else .say a (signed (r b.toNat))
def regB (a : Int) : Bool := decide (0 ≤ a ∧ a < 8)
def cellB (nc : Nat) (a : Int) : Bool := decide (0 ≤ a ∧ a < (nc : Int))
def placeB (len : Nat) (a : Int) : Bool := decide (0 ≤ a ∧ a ≤ (len : Int))
/-- It may stand in a call of so many instructions, over so many cells. -/
def goodIn (nc len : Nat) (x : Ins5) : Bool :=
  let a := x.2.1; let b := x.2.2.1; let c := x.2.2.2.1; let d := x.2.2.2.2
  if x.1 = 1 then regB a
  else if x.1 = 2 then regB a && regB b
  else if x.1 = 3 then regB a && regB b
  else if x.1 = 4 then regB a && (regB b && regB c)
  else if x.1 = 5 then regB a && (regB b && decide (0 ≤ c ∧ 0 ≤ d))
  else if x.1 = 6 then regB a && cellB nc b
  else if x.1 = 7 then cellB nc a && (regB b && decide (c = -1))
  else if x.1 = 8 then regB a && cellB nc b
  else if x.1 = 9 then regB a && (cellB nc b && (regB c && regB d))
  else if x.1 = 10 then placeB len a
  else if x.1 = 11 then regB a && placeB len c
  else if x.1 = 12 then regB a && (regB b && placeB len c)
  else if x.1 = 13 then regB a && (regB b && placeB len c)
  else if x.1 = 14 then cellB nc a && regB b
  else if x.1 = 15 then cellB nc a && (decide (c = -1) && decide (0 ≤ b))
  else decide (x.1 = 16) && regB b

theorem regB_iff {a : Int} : regB a = true ↔ 0 ≤ a ∧ a < 8 := by unfold regB; exact decide_eq_true_iff
theorem cellB_iff {nc : Nat} {a : Int} : cellB nc a = true ↔ 0 ≤ a ∧ a < (nc : Int) := by unfold cellB; exact decide_eq_true_iff
theorem placeB_iff {len : Nat} {a : Int} : placeB len a = true ↔ 0 ≤ a ∧ a ≤ (len : Int) := by unfold placeB; exact decide_eq_true_iff
theorem shift_op (p : Nat) (x : Ins5) : (shiftI p x).1 = x.1 := by
  unfold shiftI
  split
  · next h => exact h.symm
  · split <;> rfl
theorem goto_real (p : Nat) {a : Int} (h : 0 ≤ a) : Eff.goto ((p : Int) + a) = (DoK.goto a.toNat).real p := by
  show Eff.goto _ = Eff.goto ((p + a.toNat : Nat) : Int)
  congr 1
  omega
theorem emod_le_nn {a b : Int} (h : 0 ≤ a) (hb : 0 < b) : a % b ≤ a := by
  have h2 := Int.mul_ediv_add_emod a b
  have h3 : 0 ≤ a / b := Int.ediv_nonneg h (by omega)
  have h4 : 0 ≤ b * (a / b) := Int.mul_nonneg (by omega) h3
  omega
theorem mod_two (v : Int) {w d : Nat} (hv : u64 v) : u64 (v / 2 ^ w % 2 ^ d) := by
  obtain ⟨v0, v1⟩ := hv
  have hp : (0 : Int) < 2 ^ w := Int.pow_pos (by decide)
  have hq : (0 : Int) < 2 ^ d := Int.pow_pos (by decide)
  have h1 : 0 ≤ v / 2 ^ w := Int.ediv_nonneg v0 (Int.le_of_lt hp)
  have h2 : v / 2 ^ w ≤ v := Int.ediv_le_self _ v0
  have h3 := emod_le_nn h1 hq
  exact ⟨Int.emod_nonneg _ (Int.ne_of_gt hq), Int.lt_of_le_of_lt (Int.le_trans h3 h2) v1⟩
theorem u64_modF (v : Int) : u64 (v % m64) := ⟨Int.emod_nonneg _ (by decide), Int.emod_lt_of_pos _ (by decide)⟩
theorem u64_0F : u64 0 := ⟨by decide, by decide⟩
theorem u64_1F : u64 1 := ⟨by decide, by decide⟩
theorem real_ifF (q : Prop) [Decidable q] (a b : DoK) (p : Nat) : (if q then a else b).real p = if q then a.real p else b.real p := by split <;> rfl
theorem relD_real (p : Nat) {nc len : Nat} (x : Ins5) {regs cells : List Int} (hg : goodIn nc len x = true) (hc : cells.length = nc) :
    eff (shiftI p x) regs cells = (relD x (fun i => cells.getD i 0) (fun i => regs.getD i 0)).real p := by
  obtain ⟨op, a, b, c, d⟩ := x
  have hn : (cells.length : Int) = (nc : Int) := by omega
  by_cases h1 : op = 1
  · subst h1; rfl
  by_cases h2 : op = 2
  · subst h2; rfl
  by_cases h3 : op = 3
  · subst h3; rfl
  by_cases h4 : op = 4
  · subst h4; rfl
  by_cases h5 : op = 5
  · subst h5; rfl
  by_cases h6 : op = 6
  · subst h6; rfl
  by_cases h7 : op = 7
  · subst h7
    have hg : (cellB nc a && (regB b && decide (c = -1))) = true := hg
    simp only [Bool.and_eq_true, decide_eq_true_eq, cellB_iff, regB_iff] at hg
    obtain ⟨g1, g2, g3⟩ := hg
    subst g3
    show (if a < (cells.length : Int) then Eff.mem a.toNat (regs.getD b.toNat 0) none else Eff.lost) = _
    rw [if_pos (by omega)]
    rfl
  by_cases h8 : op = 8
  · subst h8; rfl
  by_cases h9 : op = 9
  · subst h9
    show _ = (if cells.getD b.toNat 0 = regs.getD c.toNat 0 then DoK.mem b.toNat (regs.getD d.toNat 0) (some (a.toNat, 1)) else DoK.mem b.toNat (cells.getD b.toNat 0) (some (a.toNat, 0))).real p
    rw [real_ifF]
    rfl
  by_cases h10 : op = 10
  · subst h10
    have hg : placeB len a = true := hg
    exact goto_real p (placeB_iff.1 hg).1
  by_cases h11 : op = 11
  · subst h11
    have hg : (regB a && placeB len c) = true := hg
    simp only [Bool.and_eq_true, placeB_iff] at hg
    show (if regs.getD a.toNat 0 = b % m64 then Eff.goto ((p : Int) + c) else Eff.next) = (if regs.getD a.toNat 0 = b % m64 then DoK.goto c.toNat else .next).real p
    rw [real_ifF, goto_real p hg.2.1]
    rfl
  by_cases h12 : op = 12
  · subst h12
    have hg : (regB a && (regB b && placeB len c)) = true := hg
    simp only [Bool.and_eq_true, placeB_iff] at hg
    show (if regs.getD a.toNat 0 < regs.getD b.toNat 0 then Eff.goto ((p : Int) + c) else Eff.next) = (if regs.getD a.toNat 0 < regs.getD b.toNat 0 then DoK.goto c.toNat else .next).real p
    rw [real_ifF, goto_real p hg.2.2.1]
    rfl
  by_cases h13 : op = 13
  · subst h13
    have hg : (regB a && (regB b && placeB len c)) = true := hg
    simp only [Bool.and_eq_true, placeB_iff] at hg
    show (if regs.getD a.toNat 0 = regs.getD b.toNat 0 then Eff.goto ((p : Int) + c) else Eff.next) = (if regs.getD a.toNat 0 = regs.getD b.toNat 0 then DoK.goto c.toNat else .next).real p
    rw [real_ifF, goto_real p hg.2.2.1]
    rfl
  by_cases h14 : op = 14
  · subst h14
    have hg : (cellB nc a && regB b) = true := hg
    simp only [Bool.and_eq_true, cellB_iff] at hg
    show (if cells.getD a.toNat 0 = regs.getD b.toNat 0 then Eff.sleep a else Eff.next) = (if cells.getD a.toNat 0 = regs.getD b.toNat 0 then DoK.sleep a.toNat else .next).real p
    rw [real_ifF]
    show _ = if _ then Eff.sleep (a.toNat : Int) else Eff.next
    rw [show (a.toNat : Int) = a by omega]
  by_cases h15 : op = 15
  · subst h15
    have hg : (cellB nc a && (decide (c = -1) && decide (0 ≤ b))) = true := hg
    simp only [Bool.and_eq_true, decide_eq_true_eq, cellB_iff] at hg
    obtain ⟨g1, g2, g3⟩ := hg
    subst g2
    show (if a < (cells.length : Int) then Eff.wake a b else Eff.lost) = Eff.wake (a.toNat : Int) (b.toNat : Int)
    rw [if_pos (by omega), show (a.toNat : Int) = a by omega, show (b.toNat : Int) = b by omega]
  have h16 : op = 16 := by
    unfold goodIn at hg
    simp only [h1, h2, h3, h4, h5, h6, h7, h8, h9, h10, h11, h12, h13, h14, h15, if_false, Bool.and_eq_true, decide_eq_true_eq] at hg
    exact hg.1
  subst h16
  rfl
theorem okD_ifF (q : Prop) [Decidable q] {a b : DoK} {l c : Nat} (h1 : okD l c a) (h2 : okD l c b) : okD l c (if q then a else b) := by split <;> assumption
theorem relD_ok {nc len : Nat} (x : Ins5) {cell r : Nat → Int} (hg : goodIn nc len x = true) (hc : ∀ i, u64 (cell i)) (hr : ∀ i, u64 (r i)) : okD len nc (relD x cell r) := by
  obtain ⟨op, a, b, c, d⟩ := x
  have reg : ∀ {a : Int}, regB a = true → a.toNat < 8 := fun h => by have := regB_iff.1 h; omega
  have cel : ∀ {a : Int}, cellB nc a = true → a.toNat < nc := fun h => by have := cellB_iff.1 h; omega
  have pla : ∀ {a : Int}, placeB len a = true → a.toNat ≤ len := fun h => by have := placeB_iff.1 h; omega
  by_cases h1 : op = 1
  · subst h1
    have hg : regB a = true := hg
    exact ⟨reg hg, u64_modF _⟩
  by_cases h2 : op = 2
  · subst h2
    have hg : (regB a && regB b) = true := hg
    simp only [Bool.and_eq_true] at hg
    exact ⟨reg hg.1, hr _⟩
  by_cases h3 : op = 3
  · subst h3
    have hg : (regB a && regB b) = true := hg
    simp only [Bool.and_eq_true] at hg
    exact ⟨reg hg.1, u64_modF _⟩
  by_cases h4 : op = 4
  · subst h4
    have hg : (regB a && (regB b && regB c)) = true := hg
    simp only [Bool.and_eq_true] at hg
    exact ⟨reg hg.1, u64_modF _⟩
  by_cases h5 : op = 5
  · subst h5
    have hg : (regB a && (regB b && decide (0 ≤ c ∧ 0 ≤ d))) = true := hg
    simp only [Bool.and_eq_true] at hg
    exact ⟨reg hg.1, mod_two _ (hr _)⟩
  by_cases h6 : op = 6
  · subst h6
    have hg : (regB a && cellB nc b) = true := hg
    simp only [Bool.and_eq_true] at hg
    exact ⟨cel hg.2, hc _, fun x e => by injection e with e; subst e; exact ⟨reg hg.1, hc _⟩⟩
  by_cases h7 : op = 7
  · subst h7
    have hg : (cellB nc a && (regB b && decide (c = -1))) = true := hg
    simp only [Bool.and_eq_true] at hg
    exact ⟨cel hg.1, hr _, fun x e => by cases e⟩
  by_cases h8 : op = 8
  · subst h8
    have hg : (regB a && cellB nc b) = true := hg
    simp only [Bool.and_eq_true] at hg
    exact ⟨cel hg.2, u64_modF _, fun x e => by injection e with e; subst e; exact ⟨reg hg.1, hc _⟩⟩
  by_cases h9 : op = 9
  · subst h9
    have hg : (regB a && (cellB nc b && (regB c && regB d))) = true := hg
    simp only [Bool.and_eq_true] at hg
    show okD len nc (if cell b.toNat = r c.toNat then .mem b.toNat (r d.toNat) (some (a.toNat, 1)) else .mem b.toNat (cell b.toNat) (some (a.toNat, 0)))
    exact okD_ifF _ ⟨cel hg.2.1, hr _, fun x e => by injection e with e; subst e; exact ⟨reg hg.1, u64_1F⟩⟩ ⟨cel hg.2.1, hc _, fun x e => by injection e with e; subst e; exact ⟨reg hg.1, u64_0F⟩⟩
  by_cases h10 : op = 10
  · subst h10
    have hg : placeB len a = true := hg
    exact pla hg
  by_cases h11 : op = 11
  · subst h11
    have hg : (regB a && placeB len c) = true := hg
    simp only [Bool.and_eq_true] at hg
    show okD len nc (if r a.toNat = b % m64 then DoK.goto c.toNat else .next)
    exact okD_ifF _ (pla hg.2) trivial
  by_cases h12 : op = 12
  · subst h12
    have hg : (regB a && (regB b && placeB len c)) = true := hg
    simp only [Bool.and_eq_true] at hg
    show okD len nc (if r a.toNat < r b.toNat then DoK.goto c.toNat else .next)
    exact okD_ifF _ (pla hg.2.2) trivial
  by_cases h13 : op = 13
  · subst h13
    have hg : (regB a && (regB b && placeB len c)) = true := hg
    simp only [Bool.and_eq_true] at hg
    show okD len nc (if r a.toNat = r b.toNat then DoK.goto c.toNat else .next)
    exact okD_ifF _ (pla hg.2.2) trivial
  by_cases h14 : op = 14
  · subst h14
    show okD len nc (if cell a.toNat = r b.toNat then DoK.sleep a.toNat else .next)
    exact okD_ifF _ trivial trivial
  by_cases h15 : op = 15
  · subst h15
    exact trivial
  unfold relD
  simp only [h1, h2, h3, h4, h5, h6, h7, h8, h9, h10, h11, h12, h13, h14, h15, if_false]
  trivial
/-- A family of calls, out of each call's listing at 0. -/
def famOf {κ : Type} (base : κ → List Ins5) (nc : Nat) (hpos : ∀ c, 0 < (base c).length) (hgood : ∀ c, (base c).all (goodIn nc (base c).length) = true) : Fam κ where
  code c p := (base c).map (shiftI p)
  len c := (base c).length
  op c j := ((base c).getD j default).1
  dos c j cell r := relD ((base c).getD j default) cell r
  nc := nc
  hlen c p := List.length_map _
  hpos := hpos
  hop c p j hj := by
    rw [List.getD_eq_getElem?_getD, List.getElem?_map, List.getElem?_eq_getElem hj, List.getD_eq_getElem?_getD, List.getElem?_eq_getElem hj]
    exact shift_op p _
  hdo c p j regs cells hj hc _ := by
    have hg := List.all_eq_true.1 (hgood c) _ (List.getElem_mem hj)
    have e : ((base c).map (shiftI p)).getD j default = shiftI p ((base c).getD j default) := by
      rw [List.getD_eq_getElem?_getD, List.getElem?_map, List.getElem?_eq_getElem hj, List.getD_eq_getElem?_getD, List.getElem?_eq_getElem hj]
      rfl
    rw [e]
    refine relD_real p _ ?_ hc (len := (base c).length)
    rw [List.getD_eq_getElem?_getD, List.getElem?_eq_getElem hj]
    exact hg
  hok c j cell r hj hc hr := by
    have hg := List.all_eq_true.1 (hgood c) _ (List.getElem_mem hj)
    refine relD_ok _ ?_ hc hr
    rw [List.getD_eq_getElem?_getD, List.getElem?_eq_getElem hj]
    exact hg
end Go.Proofs.YtkhaeabbbhfloaaDoor

namespace Go.Proofs.YtkhaeabbbhfloaaDoor
set_option maxRecDepth 100000
set_option linter.unusedVariables false
set_option linter.unusedSimpArgs false

def mutex0 : Bool → List Ins5
  | false => [(1, 5, 0, 0, 0), (1, 6, 1, 0, 0), (1, 4, 2, 0, 0), (9, 3, 0, 5, 6), (11, 3, 1, 14, 0), (6, 1, 0, 0, 0), (11, 1, 0, 12, 0), (11, 1, 2, 10, 0), (9, 3, 0, 6, 4), (11, 3, 0, 5, 0), (14, 0, 4, 0, 0), (10, 5, 0, 0, 0), (9, 3, 0, 5, 4), (11, 3, 0, 5, 0), (16, 3, 5, 0, 0)]
  | true => [(1, 5, 0, 0, 0), (6, 1, 0, 0, 0), (9, 3, 0, 1, 5), (11, 3, 0, 1, 0), (11, 1, 2, 6, 0), (10, 7, 0, 0, 0), (15, 0, 1, -1, 0), (16, 3, 1, 0, 0)]
def mutexF : Fam Bool := famOf mutex0 1 (fun c => by cases c <;> decide) (fun c => by cases c <;> rfl)
/-- Who has it. -/
def ownM : Bool → Nat → (Nat → Int) → Prop
  | false, j, r => (j = 4 ∧ r 3 = 1) ∨ (j = 13 ∧ r 3 = 1) ∨ j = 14
  | true, j, r => j ≤ 2 ∨ (j = 3 ∧ r 3 = 0)
/-- What is so at an instruction. -/
def AtM : Bool → Nat → (Nat → Int) → Prop
  | false, j, r => (1 ≤ j → r 5 = 0) ∧ (2 ≤ j → r 6 = 1) ∧ (3 ≤ j → r 4 = 2) ∧ (j = 4 ∨ j = 9 ∨ j = 13 → r 3 = 0 ∨ r 3 = 1)
  | true, j, r => (1 ≤ j → r 5 = 0) ∧ (2 ≤ j → r 1 = 1 ∨ r 1 = 2) ∧ (j = 3 → r 3 = 0 ∨ r 3 = 1)
/-- What a step comes to: nothing to the others; it takes it; it frees it; it says that somebody may wait. -/
def DoneM (c : Bool) (j : Nat) (r : Nat → Int) (cell : Int) : DoK → Prop
  | .set i v => AtM c (j + 1) (upd r i v) ∧ (ownM c (j + 1) (upd r i v) ↔ ownM c j r)
  | .mem a now (some q) => a = 0 ∧ AtM c (j + 1) (upd r q.1 q.2) ∧
      ((now = cell ∧ (ownM c (j + 1) (upd r q.1 q.2) ↔ ownM c j r)) ∨
       (cell = 0 ∧ (now = 1 ∨ now = 2) ∧ ¬ ownM c j r ∧ ownM c (j + 1) (upd r q.1 q.2)) ∨
       (cell ≠ 0 ∧ now = 0 ∧ ownM c j r ∧ ¬ ownM c (j + 1) (upd r q.1 q.2)) ∨
       (cell = 1 ∧ now = 2 ∧ ¬ ownM c j r ∧ ¬ ownM c (j + 1) (upd r q.1 q.2)))
  | .mem _ _ none => False
  | .goto k => AtM c k r ∧ (ownM c k r ↔ ownM c j r)
  | .next => AtM c (j + 1) r ∧ (ownM c (j + 1) r ↔ ownM c j r)
  | .sleep a => a = 0 ∧ AtM c (j + 1) r ∧ ¬ ownM c j r ∧ ¬ ownM c (j + 1) r ∧ cell = 2
  | .wake a k => a = 0 ∧ k = 1 ∧ AtM c (j + 1) r ∧ ¬ ownM c j r ∧ ¬ ownM c (j + 1) r
  | .say w v => w = 3 ∧ (ownM c j r ↔ c = false) ∧ (c = false → v = 0)
section
variable {j : Nat} {r : Nat → Int} {cell : Nat → Int} {c : Bool}
theorem lock_done (hj : j < 15) (h : AtM false j r) (hc : cell 0 = 0 ∨ cell 0 = 1 ∨ cell 0 = 2) : DoneM false j r (cell 0) (relD ((mutex0 false).getD j default) cell r) := by
  obtain ⟨h5, h6, h4, h3⟩ := h
  match j, hj with
  | 0, _ =>
    show AtM false 1 (upd r 5 0) ∧ (ownM false 1 (upd r 5 0) ↔ ownM false 0 r)
    simp [AtM, ownM, upd] <;> omega
  | 1, _ =>
    show AtM false 2 (upd r 6 1) ∧ (ownM false 2 (upd r 6 1) ↔ ownM false 1 r)
    simp [AtM, ownM, upd] <;> omega
  | 2, _ =>
    show AtM false 3 (upd r 4 2) ∧ (ownM false 3 (upd r 4 2) ↔ ownM false 2 r)
    simp [AtM, ownM, upd] <;> omega
  | 3, _ =>
    show DoneM false 3 r (cell 0) (if cell 0 = r 5 then .mem 0 (r 6) (some (3, 1)) else .mem 0 (cell 0) (some (3, 0)))
    have h5 := h5 (by decide)
    have h6 := h6 (by decide)
    have h4 := h4 (by decide)
    split
    · next e =>
      refine ⟨rfl, ?_, .inr (.inl ⟨by omega, by omega, ?_, ?_⟩)⟩
      · show AtM false 4 (upd r 3 1)
        simp [AtM, ownM, upd] <;> omega
      · simp [ownM]
      · exact .inl ⟨rfl, upd_same _ _ _⟩
    · next e =>
      refine ⟨rfl, ?_, .inl ⟨rfl, ?_⟩⟩
      · show AtM false 4 (upd r 3 0)
        simp [AtM, ownM, upd] <;> omega
      · show ownM false 4 (upd r 3 0) ↔ ownM false 3 r
        simp [AtM, ownM, upd] <;> omega
  | 4, _ =>
    show DoneM false 4 r (cell 0) (if r 3 = 1 then .goto 14 else .next)
    split
    · show AtM false 14 r ∧ (ownM false 14 r ↔ ownM false 4 r)
      simp [AtM, ownM, upd] <;> omega
    · show AtM false 5 r ∧ (ownM false 5 r ↔ ownM false 4 r)
      simp [AtM, ownM, upd] <;> omega
  | 5, _ =>
    refine ⟨rfl, ?_, .inl ⟨rfl, ?_⟩⟩
    · show AtM false 6 (upd r 1 (cell 0))
      simp [AtM, ownM, upd] <;> omega
    · show ownM false 6 (upd r 1 (cell 0)) ↔ ownM false 5 r
      simp [AtM, ownM, upd] <;> omega
  | 6, _ =>
    show DoneM false 6 r (cell 0) (if r 1 = 0 then .goto 12 else .next)
    split
    · show AtM false 12 r ∧ (ownM false 12 r ↔ ownM false 6 r)
      simp [AtM, ownM, upd] <;> omega
    · show AtM false 7 r ∧ (ownM false 7 r ↔ ownM false 6 r)
      simp [AtM, ownM, upd] <;> omega
  | 7, _ =>
    show DoneM false 7 r (cell 0) (if r 1 = 2 then .goto 10 else .next)
    split
    · show AtM false 10 r ∧ (ownM false 10 r ↔ ownM false 7 r)
      simp [AtM, ownM, upd] <;> omega
    · show AtM false 8 r ∧ (ownM false 8 r ↔ ownM false 7 r)
      simp [AtM, ownM, upd] <;> omega
  | 8, _ =>
    show DoneM false 8 r (cell 0) (if cell 0 = r 6 then .mem 0 (r 4) (some (3, 1)) else .mem 0 (cell 0) (some (3, 0)))
    have h5 := h5 (by decide)
    have h6 := h6 (by decide)
    have h4 := h4 (by decide)
    have hat : ∀ b : Int, b = 0 ∨ b = 1 → AtM false 9 (upd r 3 b) ∧ ¬ ownM false 9 (upd r 3 b) := fun b hb => by
      simp [AtM, ownM, upd] <;> omega
    have hno : ¬ ownM false 8 r := by simp [ownM]
    split
    · exact ⟨rfl, (hat 1 (.inr rfl)).1, .inr (.inr (.inr ⟨by omega, by omega, hno, (hat 1 (.inr rfl)).2⟩))⟩
    · exact ⟨rfl, (hat 0 (.inl rfl)).1, .inl ⟨rfl, iff_of_false (hat 0 (.inl rfl)).2 hno⟩⟩
  | 9, _ =>
    show DoneM false 9 r (cell 0) (if r 3 = 0 then .goto 5 else .next)
    split
    · show AtM false 5 r ∧ (ownM false 5 r ↔ ownM false 9 r)
      simp [AtM, ownM, upd] <;> omega
    · show AtM false 10 r ∧ (ownM false 10 r ↔ ownM false 9 r)
      simp [AtM, ownM, upd] <;> omega
  | 10, _ =>
    show DoneM false 10 r (cell 0) (if cell 0 = r 4 then .sleep 0 else .next)
    split
    · show 0 = 0 ∧ AtM false 11 r ∧ ¬ ownM false 10 r ∧ ¬ ownM false 11 r ∧ cell 0 = 2
      simp [AtM, ownM, upd] <;> omega
    · show AtM false 11 r ∧ (ownM false 11 r ↔ ownM false 10 r)
      simp [AtM, ownM, upd] <;> omega
  | 11, _ =>
    show AtM false 5 r ∧ (ownM false 5 r ↔ ownM false 11 r)
    simp [AtM, ownM, upd] <;> omega
  | 12, _ =>
    show DoneM false 12 r (cell 0) (if cell 0 = r 5 then .mem 0 (r 4) (some (3, 1)) else .mem 0 (cell 0) (some (3, 0)))
    have h5 := h5 (by decide)
    have h6 := h6 (by decide)
    have h4 := h4 (by decide)
    have hat : ∀ b : Int, b = 0 ∨ b = 1 → AtM false 13 (upd r 3 b) ∧ (ownM false 13 (upd r 3 b) ↔ b = 1) := fun b hb => by
      simp [AtM, ownM, upd] <;> omega
    have hno : ¬ ownM false 12 r := by simp [ownM]
    split
    · exact ⟨rfl, (hat 1 (.inr rfl)).1, .inr (.inl ⟨by omega, by omega, hno, (hat 1 (.inr rfl)).2.2 rfl⟩)⟩
    · exact ⟨rfl, (hat 0 (.inl rfl)).1, .inl ⟨rfl, iff_of_false (fun q => by have := (hat 0 (.inl rfl)).2.1 q; omega) hno⟩⟩
  | 13, _ =>
    show DoneM false 13 r (cell 0) (if r 3 = 0 then .goto 5 else .next)
    split
    · show AtM false 5 r ∧ (ownM false 5 r ↔ ownM false 13 r)
      simp [AtM, ownM, upd] <;> omega
    · show AtM false 14 r ∧ (ownM false 14 r ↔ ownM false 13 r)
      simp [AtM, ownM, upd] <;> omega
  | 14, _ =>
    have h5 := h5 (by decide)
    refine ⟨rfl, iff_of_true (.inr (.inr rfl)) rfl, fun _ => ?_⟩
    show signed (r 5) = 0
    rw [h5]
    rfl
theorem unlock_done (hj : j < 8) (h : AtM true j r) (hc : cell 0 = 0 ∨ cell 0 = 1 ∨ cell 0 = 2) (ho : ownM true j r → cell 0 ≠ 0) : DoneM true j r (cell 0) (relD ((mutex0 true).getD j default) cell r) := by
  obtain ⟨h5, h1, h3⟩ := h
  match j, hj with
  | 0, _ =>
    show AtM true 1 (upd r 5 0) ∧ (ownM true 1 (upd r 5 0) ↔ ownM true 0 r)
    simp [AtM, ownM, upd] <;> omega
  | 1, _ =>
    have ho := ho (.inl (by decide))
    refine ⟨rfl, ?_, .inl ⟨rfl, ?_⟩⟩
    · show AtM true 2 (upd r 1 (cell 0))
      simp [AtM, ownM, upd] <;> omega
    · show ownM true 2 (upd r 1 (cell 0)) ↔ ownM true 1 r
      simp [AtM, ownM, upd] <;> omega
  | 2, _ =>
    show DoneM true 2 r (cell 0) (if cell 0 = r 1 then .mem 0 (r 5) (some (3, 1)) else .mem 0 (cell 0) (some (3, 0)))
    have h5 := h5 (by decide)
    have h1 := h1 (by decide)
    have hat : ∀ b : Int, b = 0 ∨ b = 1 → AtM true 3 (upd r 3 b) ∧ (ownM true 3 (upd r 3 b) ↔ b = 0) := fun b hb => by
      simp [AtM, ownM, upd] <;> omega
    have hown : ownM true 2 r := .inl (by decide)
    split
    · exact ⟨rfl, (hat 1 (.inr rfl)).1, .inr (.inr (.inl ⟨by omega, h5, hown, fun q => by have := (hat 1 (.inr rfl)).2.1 q; omega⟩))⟩
    · exact ⟨rfl, (hat 0 (.inl rfl)).1, .inl ⟨rfl, iff_of_true ((hat 0 (.inl rfl)).2.2 rfl) hown⟩⟩
  | 3, _ =>
    show DoneM true 3 r (cell 0) (if r 3 = 0 then .goto 1 else .next)
    split
    · show AtM true 1 r ∧ (ownM true 1 r ↔ ownM true 3 r)
      simp [AtM, ownM, upd] <;> omega
    · show AtM true 4 r ∧ (ownM true 4 r ↔ ownM true 3 r)
      simp [AtM, ownM, upd] <;> omega
  | 4, _ =>
    show DoneM true 4 r (cell 0) (if r 1 = 2 then .goto 6 else .next)
    split
    · show AtM true 6 r ∧ (ownM true 6 r ↔ ownM true 4 r)
      simp [AtM, ownM, upd] <;> omega
    · show AtM true 5 r ∧ (ownM true 5 r ↔ ownM true 4 r)
      simp [AtM, ownM, upd] <;> omega
  | 5, _ =>
    show AtM true 7 r ∧ (ownM true 7 r ↔ ownM true 5 r)
    simp [AtM, ownM, upd] <;> omega
  | 6, _ =>
    show 0 = 0 ∧ 1 = 1 ∧ AtM true 7 r ∧ ¬ ownM true 6 r ∧ ¬ ownM true 7 r
    simp [AtM, ownM, upd] <;> omega
  | 7, _ =>
    refine ⟨rfl, iff_of_false ?_ (by decide), fun q => by cases q⟩
    show ¬ ownM true 7 r
    simp [AtM, ownM, upd] <;> omega
end
end Go.Proofs.YtkhaeabbbhfloaaDoor

namespace Go.Proofs.YtkhaeabbbhfloaaDoor
set_option maxRecDepth 100000
set_option linter.unusedVariables false
set_option linter.unusedSimpArgs false

/-- What is kept by all steps, and how many more there can be. -/
structure KindW {κ : Type} (F : Fam κ) (n : Nat) (calls : Nat → List κ) (c0 : Nat → Int) where
  I : CS → List Act6 → List Ev4 → Prop
  pot : CS → Nat
  pk : Nat
  init : I (newK c0) [] []
  can : ∀ S a e t c, I S a e → t < n → (calls t)[(S.th t).k]? = some c → F.can c (S.th t).j (S.th t).r := by intros; exact trivial
  step : ∀ S a e s t, WfK F n calls S → WfK F n calls (stepK F calls t S) → I S a e → (∀ x ∈ a, x.1 < s) → (∀ x ∈ e, x.1 < s) → 0 < s → t < n → (S.th t).en = false → slK S t = false → I (stepK F calls t S) (a ++ actsK F calls t S s) (e ++ evsK F calls t S s) ∧ pot (stepK F calls t S) + 1 ≤ pot S
  poke : ∀ S a e t, WfK F n calls S → I S a e → t < n → slK S t = true → I (pokeK t S) a e ∧ pot (pokeK t S) ≤ pot S + pk

section
variable {κ : Type} {F : Fam κ} {n : Nat} {calls : Nat → List κ} {c0 : Nat → Int}

structure RanW (K : KindW F n calls c0) (p : Nat) (S : CS) (m : Mach) : Prop where
  sim : SimK F n calls S m
  inv : K.I S m.acts m.events
  few : m.steps + K.pot S ≤ K.pot (newK c0) + K.pk * p
  wa : ∀ x ∈ m.acts, x.1 ≤ (m.steps : Int)
  we : ∀ x ∈ m.events, x.1 ≤ (m.steps : Int)

variable {K : KindW F n calls c0} {p : Nat} {S : CS} {m : Mach} {t : Nat}

theorem RanW.steps_lt (h : RanW K p S m) (hp : K.pot (newK c0) + K.pk * p < 20000) : m.steps < 20000 := by have := h.few; omega
theorem RanW.ended (h : RanW K p S m) (ht : t < n) : m.ended.getD t false = (S.th t).en := (h.sim.th t ht).en
end
end Go.Proofs.YtkhaeabbbhfloaaDoor

namespace Go.Proofs.YtkhaeabbbhfloaaDoor
set_option maxRecDepth 100000
set_option linter.unusedVariables false
set_option linter.unusedSimpArgs false

def lowTarget (len : Nat) (x : Ins5) : Bool :=
  if x.1 = 10 then decide (x.2.1 < (len : Int)) else if x.1 = 11 ∨ x.1 = 12 ∨ x.1 = 13 then decide (x.2.2.2.1 < (len : Int)) else true
theorem all_getD {l : List Ins5} {p : Ins5 → Bool} (h : l.all p = true) {j : Nat} (hj : j < l.length) : p (l.getD j default) = true := by
  rw [List.getD_eq_getElem?_getD, List.getElem?_eq_getElem hj]
  exact List.all_eq_true.1 h _ (List.getElem_mem hj)
theorem relD_say {len : Nat} {x : Ins5} {cell r : Nat → Int} {w v : Int} (h : relD x cell r = .say w v) (hg : goodIn 1 len x = true) : x.1 = 16 := by
  obtain ⟨op, a, b, c, d⟩ := x
  by_cases h1 : op = 1
  · subst h1
    exfalso
    cases h
  by_cases h2 : op = 2
  · subst h2
    exfalso
    cases h
  by_cases h3 : op = 3
  · subst h3
    exfalso
    cases h
  by_cases h4 : op = 4
  · subst h4
    exfalso
    cases h
  by_cases h5 : op = 5
  · subst h5
    exfalso
    cases h
  by_cases h6 : op = 6
  · subst h6
    exfalso
    cases h
  by_cases h7 : op = 7
  · subst h7
    exfalso
    cases h
  by_cases h8 : op = 8
  · subst h8
    exfalso
    cases h
  by_cases h9 : op = 9
  · subst h9
    exfalso
    have h : (if _ then DoK.mem _ _ _ else DoK.mem _ _ _) = _ := h
    split at h <;> cases h
  by_cases h10 : op = 10
  · subst h10
    exfalso
    cases h
  by_cases h11 : op = 11
  · subst h11
    exfalso
    have h : (if _ then DoK.goto _ else DoK.next) = _ := h
    split at h <;> cases h
  by_cases h12 : op = 12
  · subst h12
    exfalso
    have h : (if _ then DoK.goto _ else DoK.next) = _ := h
    split at h <;> cases h
  by_cases h13 : op = 13
  · subst h13
    exfalso
    have h : (if _ then DoK.goto _ else DoK.next) = _ := h
    split at h <;> cases h
  by_cases h14 : op = 14
  · subst h14
    exfalso
    have h : (if _ then DoK.sleep _ else DoK.next) = _ := h
    split at h <;> cases h
  by_cases h15 : op = 15
  · subst h15
    exfalso
    cases h
  unfold goodIn at hg
  simp only [h1, h2, h3, h4, h5, h6, h7, h8, h9, h10, h11, h12, h13, h14, h15, if_false, Bool.and_eq_true, decide_eq_true_eq] at hg
  exact hg.1
theorem relD_mem {len : Nat} {x : Ins5} {cell r : Nat → Int} {a : Nat} {now : Int} {q : Option (Nat × Int)} (h : relD x cell r = .mem a now q) (ho : x.1 ≠ 7 ∧ x.1 ≠ 8) (hn : now ≠ cell a) (hg : goodIn 1 len x = true) : x.1 = 9 := by
  obtain ⟨op, a', b, c, d⟩ := x
  have h7 : ¬ op = 7 := ho.1
  have h8 : ¬ op = 8 := ho.2
  by_cases h1 : op = 1
  · subst h1
    exfalso
    cases h
  by_cases h2 : op = 2
  · subst h2
    exfalso
    cases h
  by_cases h3 : op = 3
  · subst h3
    exfalso
    cases h
  by_cases h4 : op = 4
  · subst h4
    exfalso
    cases h
  by_cases h5 : op = 5
  · subst h5
    exfalso
    cases h
  by_cases h6 : op = 6
  · subst h6
    exfalso
    have h : DoK.mem _ _ _ = _ := h
    injection h with h1 h2 h3
    subst h1
    exact hn h2.symm
  by_cases h9 : op = 9
  · exact h9
  by_cases h10 : op = 10
  · subst h10
    exfalso
    cases h
  by_cases h11 : op = 11
  · subst h11
    exfalso
    have h : (if _ then DoK.goto _ else DoK.next) = _ := h
    split at h <;> cases h
  by_cases h12 : op = 12
  · subst h12
    exfalso
    have h : (if _ then DoK.goto _ else DoK.next) = _ := h
    split at h <;> cases h
  by_cases h13 : op = 13
  · subst h13
    exfalso
    have h : (if _ then DoK.goto _ else DoK.next) = _ := h
    split at h <;> cases h
  by_cases h14 : op = 14
  · subst h14
    exfalso
    have h : (if _ then DoK.sleep _ else DoK.next) = _ := h
    split at h <;> cases h
  by_cases h15 : op = 15
  · subst h15
    exfalso
    cases h
  unfold relD at h
  simp only [h1, h2, h3, h4, h5, h6, h7, h8, h9, h10, h11, h12, h13, h14, h15, if_false] at h
  cases h
theorem relD_goto {len : Nat} {x : Ins5} {cell r : Nat → Int} {k : Nat} (h : relD x cell r = .goto k) (hl : lowTarget len x = true) (hg : goodIn 1 len x = true) : k < len := by
  obtain ⟨op, a, b, c, d⟩ := x
  by_cases h1 : op = 1
  · subst h1
    exfalso
    cases h
  by_cases h2 : op = 2
  · subst h2
    exfalso
    cases h
  by_cases h3 : op = 3
  · subst h3
    exfalso
    cases h
  by_cases h4 : op = 4
  · subst h4
    exfalso
    cases h
  by_cases h5 : op = 5
  · subst h5
    exfalso
    cases h
  by_cases h6 : op = 6
  · subst h6
    exfalso
    cases h
  by_cases h7 : op = 7
  · subst h7
    exfalso
    cases h
  by_cases h8 : op = 8
  · subst h8
    exfalso
    cases h
  by_cases h9 : op = 9
  · subst h9
    exfalso
    have h : (if _ then DoK.mem _ _ _ else DoK.mem _ _ _) = _ := h
    split at h <;> cases h
  by_cases h10 : op = 10
  · subst h10
    have h : DoK.goto a.toNat = .goto k := h
    injection h with h
    have hl : decide (a < (len : Int)) = true := hl
    have hg : placeB len a = true := hg
    have := placeB_iff.1 hg
    have := of_decide_eq_true hl
    omega
  by_cases h11 : op = 11
  · subst h11
    have h : (if _ then DoK.goto c.toNat else DoK.next) = _ := h
    have hl : decide (c < (len : Int)) = true := hl
    have hg : (regB a && placeB len c) = true := hg
    simp only [Bool.and_eq_true] at hg
    have := placeB_iff.1 hg.2
    have := of_decide_eq_true hl
    split at h
    · injection h with h
      omega
    · cases h
  by_cases h12 : op = 12
  · subst h12
    have h : (if _ then DoK.goto c.toNat else DoK.next) = _ := h
    have hl : decide (c < (len : Int)) = true := hl
    have hg : (regB a && (regB b && placeB len c)) = true := hg
    simp only [Bool.and_eq_true] at hg
    have := placeB_iff.1 hg.2.2
    have := of_decide_eq_true hl
    split at h
    · injection h with h
      omega
    · cases h
  by_cases h13 : op = 13
  · subst h13
    have h : (if _ then DoK.goto c.toNat else DoK.next) = _ := h
    have hl : decide (c < (len : Int)) = true := hl
    have hg : (regB a && (regB b && placeB len c)) = true := hg
    simp only [Bool.and_eq_true] at hg
    have := placeB_iff.1 hg.2.2
    have := of_decide_eq_true hl
    split at h
    · injection h with h
      omega
    · cases h
  by_cases h14 : op = 14
  · subst h14
    exfalso
    have h : (if _ then DoK.sleep _ else DoK.next) = _ := h
    split at h <;> cases h
  by_cases h15 : op = 15
  · subst h15
    exfalso
    cases h
  unfold relD at h
  simp only [h1, h2, h3, h4, h5, h6, h7, h8, h9, h10, h11, h12, h13, h14, h15, if_false] at h
  cases h
end Go.Proofs.YtkhaeabbbhfloaaDoor

namespace Go.Proofs.YtkhaeabbbhfloaaDoor
set_option maxRecDepth 100000
set_option linter.unusedVariables false
set_option linter.unusedSimpArgs false

/-- Lock, Unlock, Lock, Unlock. -/
def lockL (times : Nat) : List Bool := (List.range (2 * times)).map fun k => k % 2 == 1
theorem lockL_at {times k : Nat} {c : Bool} (h : (lockL times)[k]? = some c) : k < 2 * times ∧ c = (k % 2 == 1) := by
  unfold lockL at h
  rw [List.getElem?_map] at h
  by_cases hk : k < 2 * times
  · rw [List.getElem?_range hk] at h
    injection h with h
    exact ⟨hk, h.symm⟩
  · rw [List.getElem?_eq_none (by rw [List.length_range]; omega)] at h
    cases h
theorem lockL_is {times k : Nat} (h : k < 2 * times) : (lockL times)[k]? = some (k % 2 == 1) := by
  unfold lockL
  rw [List.getElem?_map, List.getElem?_range h]
  rfl
/-- Who has it, by what was done: -1, nobody. -/
inductive HoldA : List Act6 → Int → Prop where
  | nil : HoldA [] (-1)
  | same {l : List Act6} {h s t op c o w : Int} (H : HoldA l h) (e : o = w) : HoldA (l ++ [(s, t, op, c, o, w)]) h
  | take {l : List Act6} {s t c w : Int} (H : HoldA l (-1)) (e : w ≠ 0) : HoldA (l ++ [(s, t, 9, c, 0, w)]) t
  | free {l : List Act6} {s t c o : Int} (H : HoldA l t) (e : o ≠ 0) : HoldA (l ++ [(s, t, 9, c, o, 0)]) (-1)
  | wait {l : List Act6} {h s t c : Int} (H : HoldA l h) (e : h ≠ t) : HoldA (l ++ [(s, t, 9, c, 1, 2)]) h
def ownT (calls : Nat → List Bool) (S : CS) (t : Nat) : Prop := ∃ c, (calls t)[(S.th t).k]? = some c ∧ ownM c (S.th t).j (S.th t).r
structure MutI (n : Nat) (calls : Nat → List Bool) (S : CS) (a : List Act6) : Prop where
  at_ : ∀ t, t < n → ∀ c, (calls t)[(S.th t).k]? = some c → AtM c (S.th t).j (S.th t).r
  cell : S.cell 0 = 0 ∨ S.cell 0 = 1 ∨ S.cell 0 = 2
  one : (S.cell 0 = 0 ∧ HoldA a (-1) ∧ ∀ t, t < n → ¬ ownT calls S t) ∨ (S.cell 0 ≠ 0 ∧ ∃ u, u < n ∧ HoldA a (u : Int) ∧ ownT calls S u ∧ ∀ t, t < n → ownT calls S t → t = u)
section
variable {n times : Nat} {calls : Nat → List Bool} {S S' : CS} {t : Nat} {a : List Act6}
theorem atM_zero (c : Bool) (r : Nat → Int) : AtM c 0 r := by
  cases c <;> simp [AtM]
/-- Only one moved, and neither took it nor freed it. -/
theorem mut_keep (h : MutI n calls S a) (hth : ∀ u, u ≠ t → S'.th u = S.th u) (hc : S'.cell 0 = S.cell 0) (hown : ownT calls S' t ↔ ownT calls S t) (hat : ∀ c, (calls t)[(S'.th t).k]? = some c → AtM c (S'.th t).j (S'.th t).r) {a' : List Act6} (ha : ∀ z, HoldA a z → HoldA a' z) : MutI n calls S' a' := by
  have own : ∀ u, ownT calls S' u ↔ ownT calls S u := fun u => by
    by_cases e : u = t
    · subst e; exact hown
    · unfold ownT; rw [hth u e]
  refine ⟨fun u hu c hcu => ?_, by rw [hc]; exact h.cell, ?_⟩
  · by_cases e : u = t
    · subst e; exact hat c hcu
    · rw [hth u e] at hcu ⊢; exact h.at_ u hu c hcu
  · rw [hc]
    rcases h.one with ⟨h1, h2, h3⟩ | ⟨h1, u, hu, h2, h3, h4⟩
    · exact .inl ⟨h1, ha _ h2, fun u hu q => h3 u hu ((own u).1 q)⟩
    · exact .inr ⟨h1, u, hu, ha _ h2, (own u).2 h3, fun w hw q => h4 w hw ((own w).1 q)⟩
theorem mut_step (hcalls : ∀ t, t < n → calls t = lockL times) (hW : WfK mutexF n calls S) (h : MutI n calls S a) (ht : t < n) (s : Int) : MutI n calls (stepK mutexF calls t S) (a ++ actsK mutexF calls t S s) := by
  have other : ∀ (x' : TK) u, u ≠ t → upd S.th t x' u = S.th u := fun x' u hu => upd_ne _ _ hu
  cases hc : (calls t)[(S.th t).k]? with
  | none =>
    rw [stepK_end hc, actsK_end hc, List.append_nil]
    have hk : ({ S with th := upd S.th t { S.th t with en := true } } : CS).th t = { S.th t with en := true } := upd_same _ _ _
    refine mut_keep (S' := { S with th := upd S.th t { S.th t with en := true } }) (t := t) h (fun u hu => other _ u hu) rfl ?_ (fun c q => ?_) (fun z q => q)
    · unfold ownT
      rw [hk]
    · rw [hk] at q
      have q : (calls t)[(S.th t).k]? = some c := q
      rw [hc] at q
      cases q
  | some c =>
    have hj : (S.th t).j < (mutex0 c).length := (hW.th t ht).j c hc
    have hA := h.at_ t ht c hc
    obtain ⟨hk, hpar⟩ := lockL_at (by rw [← hcalls t ht]; exact hc)
    have hownT : ownT calls S t ↔ ownM c (S.th t).j (S.th t).r := ⟨fun ⟨d, q1, q2⟩ => (by rw [hc] at q1; injection q1 with q1; rw [q1]; exact q2), fun q => ⟨c, hc, q⟩⟩
    have hne : ownM c (S.th t).j (S.th t).r → S.cell 0 ≠ 0 := fun q => by
      rcases h.one with ⟨_, _, h3⟩ | ⟨h1, _⟩
      · exact absurd (hownT.2 q) (h3 t ht)
      · exact h1
    have hd : DoneM c (S.th t).j (S.th t).r (S.cell 0) (relD ((mutex0 c).getD (S.th t).j default) S.cell (S.th t).r) ∧
        ((∀ w v, relD ((mutex0 c).getD (S.th t).j default) S.cell (S.th t).r ≠ .say w v) → (S.th t).j + 1 < (mutex0 c).length) ∧ (∀ k, relD ((mutex0 c).getD (S.th t).j default) S.cell (S.th t).r = .goto k → k < (mutex0 c).length) ∧
        (∀ w v, relD ((mutex0 c).getD (S.th t).j default) S.cell (S.th t).r = .say w v → (S.th t).j + 1 = (mutex0 c).length) ∧
        (∀ a' now q, relD ((mutex0 c).getD (S.th t).j default) S.cell (S.th t).r = .mem a' now q → now ≠ S.cell a' → ((mutex0 c).getD (S.th t).j default).1 = 9) := by
      have hgood : (mutex0 c).all (goodIn 1 (mutex0 c).length) = true := by cases c <;> rfl
      have hlow : (mutex0 c).all (lowTarget (mutex0 c).length) = true := by cases c <;> rfl
      have hops : (mutex0 c).all (fun x => decide (x.1 ≠ 7 ∧ x.1 ≠ 8)) = true := by cases c <;> rfl
      have hsays : (mutex0 c).dropLast.all (fun x => decide (x.1 ≠ 16)) = true := by cases c <;> rfl
      have hlast : ((mutex0 c).getD ((mutex0 c).length - 1) default).1 = 16 := by cases c <;> rfl
      have hg := all_getD hgood hj
      have hsay : ∀ w v, relD ((mutex0 c).getD (S.th t).j default) S.cell (S.th t).r = .say w v → (S.th t).j + 1 = (mutex0 c).length := fun w v q => by
        have h16 := relD_say q hg
        by_cases e1 : (S.th t).j + 1 = (mutex0 c).length
        · exact e1
        · exfalso
          have hd : (S.th t).j < (mutex0 c).dropLast.length := by rw [List.length_dropLast]; omega
          have := of_decide_eq_true (all_getD hsays hd)
          rw [List.getD_eq_getElem?_getD, List.getElem?_dropLast, if_pos (by omega), ← List.getD_eq_getElem?_getD] at this
          exact this h16
      refine ⟨?_, fun q => ?_, fun k q => relD_goto q (all_getD hlow hj) hg, hsay, fun a' now q e1 e2 => relD_mem e1 (of_decide_eq_true (all_getD hops hj)) e2 hg⟩
      · cases c with
        | false => exact lock_done hj hA h.cell
        | true => exact unlock_done hj hA h.cell hne
      · by_cases e1 : (S.th t).j + 1 = (mutex0 c).length
        · exfalso
          have hx : ((mutex0 c).getD (S.th t).j default).1 = 16 := by
            rw [show (S.th t).j = (mutex0 c).length - 1 by omega]
            exact hlast
          cases c with
          | false =>
            have hj2 : (S.th t).j = 14 := by have : (S.th t).j + 1 = 15 := e1; omega
            rw [hj2] at q
            exact q 3 _ rfl
          | true =>
            have hj2 : (S.th t).j = 7 := by have : (S.th t).j + 1 = 8 := e1; omega
            rw [hj2] at q
            exact q 3 _ rfl
        · omega
    obtain ⟨hd, hnext, hgoto, hsay, hop9⟩ := hd
    rw [stepK_eq hc, actsK_eq hc]
    show MutI n calls (doneK (mutex0 c).length t S (S.th t) (relD ((mutex0 c).getD (S.th t).j default) S.cell (S.th t).r)) (a ++ actD t ((mutex0 c).getD (S.th t).j default).1 s S.cell (relD ((mutex0 c).getD (S.th t).j default) S.cell (S.th t).r))
    generalize ((mutex0 c).getD (S.th t).j default).1 = op at hop9
    generalize relD ((mutex0 c).getD (S.th t).j default) S.cell (S.th t).r = D at hd hnext hgoto hsay hop9
    -- it stays in its call
    have stay : ∀ {S' : CS} {x' : TK}, S'.th = upd S.th t x' → x'.k = (S.th t).k → AtM c x'.j x'.r → (ownT calls S' t ↔ ownM c x'.j x'.r) ∧ ∀ d, (calls t)[(S'.th t).k]? = some d → AtM d (S'.th t).j (S'.th t).r := fun {S' x'} e1 e2 e3 => by
      have e4 : S'.th t = x' := by rw [e1, upd_same]
      refine ⟨⟨fun ⟨d, q1, q2⟩ => ?_, fun q => ⟨c, by rw [e4, e2]; exact hc, by rw [e4]; exact q⟩⟩, fun d q => ?_⟩
      · rw [e4, e2, hc] at q1
        injection q1 with q1
        rw [e4, ← q1] at q2
        exact q2
      · rw [e4, e2, hc] at q
        injection q with q
        rw [e4, ← q]
        exact e3
    cases D with
    | set i v =>
      have hn := hnext (fun w v q => by cases q)
      obtain ⟨d1, d2⟩ := hd
      obtain ⟨s1, s2⟩ := stay (S' := doneK (mutex0 c).length t S (S.th t) (.set i v)) (x' := { S.th t with j := (S.th t).j + 1, r := upd (S.th t).r i v }) (by show upd S.th t _ = _; rw [goK_in hn]) rfl d1
      exact mut_keep (S' := doneK (mutex0 c).length t S (S.th t) (.set i v)) (t := t) h (fun u hu => other _ u hu) rfl (s1.trans (d2.trans hownT.symm)) s2 (fun z q => by rw [show actD t op s S.cell (.set i v) = [] from rfl, List.append_nil]; exact q)
    | mem a' now q =>
      have hn := hnext (fun w v q => by cases q)
      cases q with
      | none => exact absurd hd id
      | some q =>
        obtain ⟨rfl, d1, d2⟩ := hd
        have hcell : (doneK (mutex0 c).length t S (S.th t) (.mem 0 now (some q))).cell 0 = now := by
          show upd S.cell 0 now 0 = now
          exact upd_same _ _ _
        have hoth : ∀ u, u ≠ t → (doneK (mutex0 c).length t S (S.th t) (.mem 0 now (some q))).th u = S.th u := fun u hu => other _ u hu
        have hothT : ∀ u, u ≠ t → (ownT calls (doneK (mutex0 c).length t S (S.th t) (.mem 0 now (some q))) u ↔ ownT calls S u) := fun u hu => by unfold ownT; rw [hoth u hu]
        obtain ⟨s1, s2⟩ := stay (S' := doneK (mutex0 c).length t S (S.th t) (.mem 0 now (some q))) (x' := { S.th t with j := (S.th t).j + 1, r := upd (S.th t).r q.1 q.2 }) (by show upd S.th t _ = _; rw [goK_in hn]) rfl d1
        have hact : actD t op s S.cell (.mem 0 now (some q)) = [(s, (t : Int), op, 0, S.cell 0, now)] := rfl
        have hat : ∀ u, u < n → ∀ d, (calls u)[((doneK (mutex0 c).length t S (S.th t) (.mem 0 now (some q))).th u).k]? = some d → AtM d ((doneK (mutex0 c).length t S (S.th t) (.mem 0 now (some q))).th u).j ((doneK (mutex0 c).length t S (S.th t) (.mem 0 now (some q))).th u).r := fun u hu d hd => by
          by_cases e : u = t
          · subst e; exact s2 d hd
          · rw [hoth u e] at hd ⊢; exact h.at_ u hu d hd
        rw [hact]
        rcases d2 with ⟨d2, d3⟩ | ⟨d2, d3, d4, d5⟩ | ⟨d2, d3, d4, d5⟩ | ⟨d2, d3, d4, d5⟩
        · exact mut_keep (S' := doneK (mutex0 c).length t S (S.th t) (.mem 0 now (some q))) (t := t) h hoth (by rw [hcell, d2]) (s1.trans (d3.trans hownT.symm)) s2 (fun z q => HoldA.same q d2.symm)
        · -- takes it
          have h9 := hop9 _ _ _ rfl (by omega)
          subst h9
          refine ⟨hat, by rw [hcell]; omega, .inr ⟨by rw [hcell]; omega, t, ht, ?_, s1.2 d5, fun u hu q => Classical.byContradiction fun e => ?_⟩⟩
          · rcases h.one with ⟨_, h2, _⟩ | ⟨h1, _⟩
            · rw [d2]; exact HoldA.take h2 (by omega)
            · exact absurd d2 h1
          · rcases h.one with ⟨_, _, h3⟩ | ⟨h1, _⟩
            · exact h3 u hu ((hothT u e).1 q)
            · exact absurd d2 h1
        · -- frees it
          have h9 := hop9 _ _ _ rfl (by omega)
          subst h9
          rcases h.one with ⟨h1, _⟩ | ⟨_, u, hu, h2, h3, h4⟩
          · exact absurd h1 d2
          · obtain rfl := h4 t ht (hownT.2 d4)
            refine ⟨hat, by rw [hcell]; omega, .inl ⟨by rw [hcell, d3], by rw [d3]; exact HoldA.free h2 d2, fun w hw q => ?_⟩⟩
            by_cases e : w = t
            · subst e; exact d5 (s1.1 q)
            · exact e (h4 w hw ((hothT w e).1 q))
        · -- says that somebody may wait
          have h9 := hop9 _ _ _ rfl (by omega)
          subst h9
          rcases h.one with ⟨h1, _⟩ | ⟨_, u, hu, h2, h3, h4⟩
          · omega
          · have hut : u ≠ t := fun e => by subst e; exact d4 (hownT.1 h3)
            refine ⟨hat, by rw [hcell]; omega, .inr ⟨by rw [hcell]; omega, u, hu, by rw [d2, d3]; exact HoldA.wait h2 (by omega), (hothT u hut).2 h3, fun w hw q => ?_⟩⟩
            by_cases e : w = t
            · subst e; exact absurd (s1.1 q) d5
            · exact h4 w hw ((hothT w e).1 q)
    | goto k =>
      have hn := hgoto k rfl
      obtain ⟨d1, d2⟩ := hd
      obtain ⟨s1, s2⟩ := stay (S' := doneK (mutex0 c).length t S (S.th t) (.goto k)) (x' := { S.th t with j := k }) (by show upd S.th t _ = _; rw [goK_in hn]) rfl d1
      exact mut_keep (S' := doneK (mutex0 c).length t S (S.th t) (.goto k)) (t := t) h (fun u hu => other _ u hu) rfl (s1.trans (d2.trans hownT.symm)) s2 (fun z q => by rw [show actD t op s S.cell (.goto k) = [] from rfl, List.append_nil]; exact q)
    | next =>
      have hn := hnext (fun w v q => by cases q)
      obtain ⟨d1, d2⟩ := hd
      obtain ⟨s1, s2⟩ := stay (S' := doneK (mutex0 c).length t S (S.th t) .next) (x' := { S.th t with j := (S.th t).j + 1 }) (by show upd S.th t _ = _; rw [goK_in hn]) rfl d1
      exact mut_keep (S' := doneK (mutex0 c).length t S (S.th t) .next) (t := t) h (fun u hu => other _ u hu) rfl (s1.trans (d2.trans hownT.symm)) s2 (fun z q => by rw [show actD t op s S.cell .next = [] from rfl, List.append_nil]; exact q)
    | sleep a' =>
      have hn := hnext (fun w v q => by cases q)
      obtain ⟨_, d1, d2, d3, _⟩ := hd
      obtain ⟨s1, s2⟩ := stay (S' := doneK (mutex0 c).length t S (S.th t) (.sleep a')) (x' := { S.th t with j := (S.th t).j + 1 }) (by show upd S.th t _ = _; rw [goK_in hn]) rfl d1
      exact mut_keep (S' := doneK (mutex0 c).length t S (S.th t) (.sleep a')) (t := t) h (fun u hu => other _ u hu) rfl (s1.trans ((iff_of_false d3 d2).trans hownT.symm)) s2 (fun z q => by rw [show actD t op s S.cell (.sleep a') = [] from rfl, List.append_nil]; exact q)
    | wake a' k =>
      have hn := hnext (fun w v q => by cases q)
      obtain ⟨_, _, d1, d2, d3⟩ := hd
      obtain ⟨s1, s2⟩ := stay (S' := doneK (mutex0 c).length t S (S.th t) (.wake a' k)) (x' := { S.th t with j := (S.th t).j + 1 }) (by show upd S.th t _ = _; rw [goK_in hn]) rfl d1
      exact mut_keep (S' := doneK (mutex0 c).length t S (S.th t) (.wake a' k)) (t := t) h (fun u hu => other _ u hu) rfl (s1.trans ((iff_of_false d3 d2).trans hownT.symm)) s2 (fun z q => by rw [show actD t op s S.cell (.wake a' k) = [] from rfl, List.append_nil]; exact q)
    | say w v =>
      obtain ⟨_, d1, _⟩ := hd
      have e1 := hsay w v rfl
      have hno : ¬ (S.th t).j + 1 < (mutex0 c).length := by omega
      have hx : (doneK (mutex0 c).length t S (S.th t) (.say w v)).th t = { S.th t with k := (S.th t).k + 1, j := 0 } := by
        show upd S.th t _ t = _
        rw [upd_same, goK_out hno]
      refine mut_keep (S' := doneK (mutex0 c).length t S (S.th t) (.say w v)) (t := t) h (fun u hu => other _ u hu) rfl ?_ (fun d q => ?_) (fun z q => by rw [show actD t op s S.cell (.say w v) = [] from rfl, List.append_nil]; exact q)
      · rw [hownT, d1]
        constructor
        · rintro ⟨d, q1, q2⟩
          rw [hx] at q1 q2
          have q1 : (calls t)[(S.th t).k + 1]? = some d := q1
          have q2 : ownM d 0 (S.th t).r := q2
          obtain ⟨_, q3⟩ := lockL_at (by rw [← hcalls t ht]; exact q1)
          cases d with
          | false => simp [ownM] at q2
          | true =>
            have : ((S.th t).k + 1) % 2 = 1 := by simpa using q3.symm
            rw [hpar]
            simp
            omega
        · intro q
          have q2 : (S.th t).k % 2 = 0 := by
            rw [hpar] at q
            have : ¬ (S.th t).k % 2 = 1 := by simpa using q
            omega
          refine ⟨true, ?_, by rw [hx]; simp [ownM]⟩
          rw [hx]
          show (calls t)[(S.th t).k + 1]? = some true
          rw [hcalls t ht, lockL_is (by omega)]
          have : ((S.th t).k + 1) % 2 = 1 := by omega
          simp [this]
      · rw [hx]
        exact atM_zero d _
end
end Go.Proofs.YtkhaeabbbhfloaaDoor

namespace Go.Proofs.YtkhaeabbbhfloaaDoor
set_option maxRecDepth 100000
set_option linter.unusedVariables false
set_option linter.unusedSimpArgs false

/-- Who will see to those who sleep. -/
def bzM : Bool → Nat → (Nat → Int) → Prop
  | false, j, r => (5 ≤ j ∧ j ≤ 12) ∨ (j = 13 ∧ r 3 = 0)
  | true, j, r => (j = 3 ∧ r 3 = 1 ∧ r 1 = 2) ∨ (j = 4 ∧ r 1 = 2) ∨ j = 6
def BusyD (c : Bool) (j : Nat) (r : Nat → Int) (cell : Int) : DoK → Prop
  | .set i v => bzM c j r → bzM c (j + 1) (upd r i v)
  | .mem _ now (some q) => (bzM c j r → bzM c (j + 1) (upd r q.1 q.2) ∨ now = 2) ∧ (cell = 2 → now = 2 ∨ bzM c (j + 1) (upd r q.1 q.2))
  | .mem _ _ none => True
  | .goto k => bzM c j r → bzM c k r
  | .next => bzM c j r → bzM c (j + 1) r
  | .sleep _ => c = false ∧ j = 10 ∧ cell = 2
  | .wake _ _ => True
  | .say _ _ => ¬ bzM c j r
section
variable {j : Nat} {r : Nat → Int} {cell : Nat → Int} {c : Bool}
theorem lock_busy (hj : j < 15) (h : AtM false j r) : BusyD false j r (cell 0) (relD ((mutex0 false).getD j default) cell r) := by
  obtain ⟨h5, h6, h4, h3⟩ := h
  match j, hj with
  | 0, _ => exact fun q => by simp [bzM] at q
  | 1, _ => exact fun q => by simp [bzM] at q
  | 2, _ => exact fun q => by simp [bzM] at q
  | 3, _ =>
    have h5 := h5 (by decide)
    show BusyD false 3 r (cell 0) (if cell 0 = r 5 then .mem 0 (r 6) (some (3, 1)) else .mem 0 (cell 0) (some (3, 0)))
    split
    · exact ⟨fun q => by simp [bzM] at q, fun q => by omega⟩
    · exact ⟨fun q => by simp [bzM] at q, fun q => .inl q⟩
  | 4, _ =>
    show BusyD false 4 r (cell 0) (if r 3 = 1 then .goto 14 else .next)
    split
    · exact fun q => by simp [bzM] at q
    · exact fun q => by simp [bzM] at q
  | 5, _ => exact ⟨fun q => .inl (by simp [bzM]), fun q => .inl q⟩
  | 6, _ =>
    show BusyD false 6 r (cell 0) (if r 1 = 0 then .goto 12 else .next)
    split
    · exact fun q => by simp [bzM]
    · exact fun q => by simp [bzM]
  | 7, _ =>
    show BusyD false 7 r (cell 0) (if r 1 = 2 then .goto 10 else .next)
    split
    · exact fun q => by simp [bzM]
    · exact fun q => by simp [bzM]
  | 8, _ =>
    show BusyD false 8 r (cell 0) (if cell 0 = r 6 then .mem 0 (r 4) (some (3, 1)) else .mem 0 (cell 0) (some (3, 0)))
    split
    · exact ⟨fun q => .inl (by simp [bzM]), fun q => .inr (by simp [bzM])⟩
    · exact ⟨fun q => .inl (by simp [bzM]), fun q => .inl q⟩
  | 9, _ =>
    show BusyD false 9 r (cell 0) (if r 3 = 0 then .goto 5 else .next)
    split
    · exact fun q => by simp [bzM]
    · exact fun q => by simp [bzM]
  | 10, _ =>
    have h4 := h4 (by decide)
    show BusyD false 10 r (cell 0) (if cell 0 = r 4 then .sleep 0 else .next)
    split
    · exact ⟨rfl, rfl, by omega⟩
    · exact fun q => by simp [bzM]
  | 11, _ =>
    show bzM false 11 r → bzM false 5 r
    exact fun q => by simp [bzM]
  | 12, _ =>
    have h4 := h4 (by decide)
    show BusyD false 12 r (cell 0) (if cell 0 = r 5 then .mem 0 (r 4) (some (3, 1)) else .mem 0 (cell 0) (some (3, 0)))
    split
    · exact ⟨fun q => .inr h4, fun q => .inl h4⟩
    · exact ⟨fun q => .inl (.inr ⟨rfl, upd_same _ _ _⟩), fun q => .inl q⟩
  | 13, _ =>
    show BusyD false 13 r (cell 0) (if r 3 = 0 then .goto 5 else .next)
    split
    · exact fun q => by simp [bzM]
    · next e =>
      intro q
      simp [bzM] at q
      exact absurd q e
  | 14, _ => exact fun q => by simp [bzM] at q
theorem unlock_busy (hj : j < 8) (h : AtM true j r) : BusyD true j r (cell 0) (relD ((mutex0 true).getD j default) cell r) := by
  obtain ⟨h5, h1, h3⟩ := h
  match j, hj with
  | 0, _ => exact fun q => by simp [bzM] at q
  | 1, _ => exact ⟨fun q => by simp [bzM] at q, fun q => .inl q⟩
  | 2, _ =>
    show BusyD true 2 r (cell 0) (if cell 0 = r 1 then .mem 0 (r 5) (some (3, 1)) else .mem 0 (cell 0) (some (3, 0)))
    split
    · next e => exact ⟨fun q => by simp [bzM] at q, fun q => .inr (.inl ⟨rfl, upd_same _ _ _, by show upd r 3 1 1 = 2; rw [upd_ne r 1 (show (1 : Nat) ≠ 3 by decide)]; omega⟩)⟩
    · exact ⟨fun q => by simp [bzM] at q, fun q => .inl q⟩
  | 3, _ =>
    show BusyD true 3 r (cell 0) (if r 3 = 0 then .goto 1 else .next)
    split
    · next e =>
      intro q
      simp [bzM] at q
      omega
    · intro q
      simp [bzM] at q
      simp [bzM]
      omega
  | 4, _ =>
    show BusyD true 4 r (cell 0) (if r 1 = 2 then .goto 6 else .next)
    split
    · exact fun q => by simp [bzM]
    · next e =>
      intro q
      simp [bzM] at q
      exact absurd q e
  | 5, _ => exact fun q => by simp [bzM] at q
  | 6, _ => exact trivial
  | 7, _ => exact fun q => by simp [bzM] at q
end

def BusyT (calls : Nat → List Bool) (S : CS) (u : Nat) : Prop := slK S u = false ∧ ∃ d, (calls u)[(S.th u).k]? = some d ∧ bzM d (S.th u).j (S.th u).r
theorem mutex_in {c : Bool} {j : Nat} {cell r : Nat → Int} (hj : j < (mutex0 c).length) : ((∀ w v, relD ((mutex0 c).getD j default) cell r ≠ .say w v) → j + 1 < (mutex0 c).length) ∧ (∀ k, relD ((mutex0 c).getD j default) cell r = .goto k → k < (mutex0 c).length) := by
  have hgood : (mutex0 c).all (goodIn 1 (mutex0 c).length) = true := by cases c <;> rfl
  have hlow : (mutex0 c).all (lowTarget (mutex0 c).length) = true := by cases c <;> rfl
  refine ⟨fun q => ?_, fun k q => relD_goto q (all_getD hlow hj) (all_getD hgood hj)⟩
  by_cases e1 : j + 1 = (mutex0 c).length
  · exfalso
    cases c with
    | false =>
      have hj2 : j = 14 := by have : j + 1 = 15 := e1; omega
      rw [hj2] at q
      exact q 3 _ rfl
    | true =>
      have hj2 : j = 7 := by have : j + 1 = 8 := e1; omega
      rw [hj2] at q
      exact q 3 _ rfl
  · omega
structure NapM (n : Nat) (calls : Nat → List Bool) (S : CS) : Prop where
  lot : ∀ s ∈ S.lot, s.2 = 0
  nap : ∀ t, t < n → slK S t = true → (calls t)[(S.th t).k]? = some false ∧ (S.th t).j = 11
  see : (∃ t, t < n ∧ slK S t = true) → S.cell 0 = 2 ∨ ∃ u, u < n ∧ BusyT calls S u
section
variable {n times : Nat} {calls : Nat → List Bool} {S S' : CS} {t : Nat} {a : List Act6}
theorem napM_keep (h : NapM n calls S) (hs : slK S t = false) (ht : t < n) (hlot : S'.lot = S.lot) (hth : ∀ u, u ≠ t → S'.th u = S.th u) (hB : BusyT calls S t → BusyT calls S' t ∨ S'.cell 0 = 2) (hc : S.cell 0 = 2 → S'.cell 0 = 2 ∨ BusyT calls S' t) : NapM n calls S' := by
  have ne : ∀ u, slK S u = true → u ≠ t := fun u hu q => by rw [q, hs] at hu; cases hu
  refine ⟨by rw [hlot]; exact h.lot, fun u hu hsu => ?_, fun ⟨u, hu, hsu⟩ => ?_⟩
  · rw [slK_same hlot] at hsu
    rw [hth u (ne u hsu)]
    exact h.nap u hu hsu
  · rw [slK_same hlot] at hsu
    rcases h.see ⟨u, hu, hsu⟩ with q | ⟨v, hv, q⟩
    · rcases hc q with q | q
      · exact .inl q
      · exact .inr ⟨t, ht, q⟩
    · by_cases e : v = t
      · subst e
        rcases hB q with q | q
        · exact .inr ⟨v, hv, q⟩
        · exact .inl q
      · refine .inr ⟨v, hv, ?_⟩
        unfold BusyT at q ⊢
        rw [slK_same hlot, hth v e]
        exact q
/-- One is woken. -/
theorem wakeK_first : ∀ (l : List (Nat × Nat)), (∀ s ∈ l, s.2 = 0) → wakeK l 0 1 = l.tail
  | [], _ => by simp [wakeK]
  | s :: l, h => by
    unfold wakeK
    rw [if_pos (h s (.head _))]
    cases l <;> simp [wakeK]
theorem napM_step (hcalls : ∀ t, t < n → calls t = lockL times) (hW : WfK mutexF n calls S) (hI : MutI n calls S a) (h : NapM n calls S) (ht : t < n) (hs : slK S t = false) : NapM n calls (stepK mutexF calls t S) := by
  have other : ∀ (x' : TK) u, u ≠ t → upd S.th t x' u = S.th u := fun x' u hu => upd_ne _ _ hu
  cases hc : (calls t)[(S.th t).k]? with
  | none =>
    rw [stepK_end hc]
    exact napM_keep (S' := { S with th := upd S.th t { S.th t with en := true } }) h hs ht rfl (fun u hu => other _ u hu) (fun ⟨_, d, q, _⟩ => by rw [hc] at q; cases q) (fun q => .inl q)
  | some c =>
    have hj : (S.th t).j < (mutex0 c).length := (hW.th t ht).j c hc
    have hA := hI.at_ t ht c hc
    have hne : ownM c (S.th t).j (S.th t).r → S.cell 0 ≠ 0 := fun q => by
      rcases hI.one with ⟨_, _, h3⟩ | ⟨h1, _⟩
      · exact absurd ⟨c, hc, q⟩ (h3 t ht)
      · exact h1
    obtain ⟨hd, hb⟩ : DoneM c (S.th t).j (S.th t).r (S.cell 0) (relD ((mutex0 c).getD (S.th t).j default) S.cell (S.th t).r) ∧ BusyD c (S.th t).j (S.th t).r (S.cell 0) (relD ((mutex0 c).getD (S.th t).j default) S.cell (S.th t).r) := by
      cases c with
      | false => exact ⟨lock_done hj hA hI.cell, lock_busy hj hA⟩
      | true => exact ⟨unlock_done hj hA hI.cell hne, unlock_busy hj hA⟩
    obtain ⟨hnext, hgoto⟩ : ((∀ w v, relD ((mutex0 c).getD (S.th t).j default) S.cell (S.th t).r ≠ .say w v) → (S.th t).j + 1 < (mutex0 c).length) ∧ (∀ k, relD ((mutex0 c).getD (S.th t).j default) S.cell (S.th t).r = .goto k → k < (mutex0 c).length) := mutex_in hj
    have hBusy : BusyT calls S t → bzM c (S.th t).j (S.th t).r := fun ⟨_, d, q1, q2⟩ => by
      rw [hc] at q1
      injection q1 with q1
      rw [q1]
      exact q2
    rw [stepK_eq hc]
    show NapM n calls (doneK (mutex0 c).length t S (S.th t) (relD ((mutex0 c).getD (S.th t).j default) S.cell (S.th t).r))
    generalize relD ((mutex0 c).getD (S.th t).j default) S.cell (S.th t).r = D at hd hb hnext hgoto
    have bz : ∀ {S' : CS} {x' : TK}, S'.lot = S.lot → S'.th = upd S.th t x' → x'.k = (S.th t).k → bzM c x'.j x'.r → BusyT calls S' t := fun {S' x'} e0 e1 e2 e3 => by
      have e4 : S'.th t = x' := by rw [e1, upd_same]
      exact ⟨by rw [slK_same e0]; exact hs, c, by rw [e4, e2]; exact hc, by rw [e4]; exact e3⟩
    cases D with
    | set i v =>
      have hn := hnext (fun w v q => by cases q)
      exact napM_keep (S' := doneK (mutex0 c).length t S (S.th t) (.set i v)) h hs ht rfl (fun u hu => other _ u hu) (fun q => .inl (bz (x' := { S.th t with j := (S.th t).j + 1, r := upd (S.th t).r i v }) rfl (by show upd S.th t _ = _; rw [goK_in hn]) rfl (hb (hBusy q)))) (fun q => .inl q)
    | mem a' now q =>
      have hn := hnext (fun w v q => by cases q)
      cases q with
      | none => exact absurd hd id
      | some q =>
        obtain ⟨rfl, _, _⟩ := hd
        obtain ⟨b1, b2⟩ := hb
        have hcell : (doneK (mutex0 c).length t S (S.th t) (.mem 0 now (some q))).cell 0 = now := by
          show upd S.cell 0 now 0 = now
          exact upd_same _ _ _
        have mine : bzM c ((S.th t).j + 1) (upd (S.th t).r q.1 q.2) → BusyT calls (doneK (mutex0 c).length t S (S.th t) (.mem 0 now (some q))) t := fun e => bz (x' := { S.th t with j := (S.th t).j + 1, r := upd (S.th t).r q.1 q.2 }) rfl (by show upd S.th t _ = _; rw [goK_in hn]) rfl e
        refine napM_keep (S' := doneK (mutex0 c).length t S (S.th t) (.mem 0 now (some q))) h hs ht rfl (fun u hu => other _ u hu) (fun e => ?_) (fun e => ?_)
        · rw [hcell]
          rcases b1 (hBusy e) with e | e
          · exact .inl (mine e)
          · exact .inr e
        · rw [hcell]
          rcases b2 e with e | e
          · exact .inl e
          · exact .inr (mine e)
    | goto k =>
      have hn := hgoto k rfl
      exact napM_keep (S' := doneK (mutex0 c).length t S (S.th t) (.goto k)) h hs ht rfl (fun u hu => other _ u hu) (fun q => .inl (bz (x' := { S.th t with j := k }) rfl (by show upd S.th t _ = _; rw [goK_in hn]) rfl (hb (hBusy q)))) (fun q => .inl q)
    | next =>
      have hn := hnext (fun w v q => by cases q)
      exact napM_keep (S' := doneK (mutex0 c).length t S (S.th t) .next) h hs ht rfl (fun u hu => other _ u hu) (fun q => .inl (bz (x' := { S.th t with j := (S.th t).j + 1 }) rfl (by show upd S.th t _ = _; rw [goK_in hn]) rfl (hb (hBusy q)))) (fun q => .inl q)
    | sleep a' =>
      have hn := hnext (fun w v q => by cases q)
      obtain ⟨rfl, _⟩ := hd
      obtain ⟨b1, b2, b3⟩ := hb
      have hme : (doneK (mutex0 c).length t S (S.th t) (.sleep 0)).th t = { S.th t with j := (S.th t).j + 1 } := by
        show upd S.th t _ t = _
        rw [upd_same, goK_in hn]
      refine ⟨fun s hs' => ?_, fun u hu hsu => ?_, fun _ => .inl b3⟩
      · have hs' : s ∈ S.lot ++ [(t, 0)] := hs'
        rcases List.mem_append.1 hs' with q | q
        · exact h.lot s q
        · rw [List.mem_singleton.1 q]
      · by_cases q : u = t
        · subst q
          rw [hme]
          exact ⟨by rw [← b1]; exact hc, by show (S.th u).j + 1 = 11; omega⟩
        · rw [slK_app (t := t) (a := 0) (S := S) rfl q] at hsu
          rw [show (doneK (mutex0 c).length t S (S.th t) (.sleep 0)).th u = S.th u from other _ u q]
          exact h.nap u hu hsu
    | wake a' k =>
      obtain ⟨rfl, rfl, _⟩ := hd
      have hlot : (doneK (mutex0 c).length t S (S.th t) (.wake 0 1)).lot = S.lot.tail := wakeK_first S.lot h.lot
      have hsub : ∀ s ∈ S.lot.tail, s ∈ S.lot := fun s q => List.mem_of_mem_tail q
      have ne : ∀ u, slK (doneK (mutex0 c).length t S (S.th t) (.wake 0 1)) u = true → slK S u = true ∧ u ≠ t := fun u hu => by
        obtain ⟨b, hb⟩ := slK_mem hu
        rw [hlot] at hb
        have := slK_of (hsub _ hb)
        exact ⟨this, fun q => by rw [q, hs] at this; cases this⟩
      refine ⟨fun s q => h.lot s (hsub s (by rw [← hlot]; exact q)), fun u hu hsu => ?_, fun ⟨u, hu, hsu⟩ => ?_⟩
      · obtain ⟨q1, q2⟩ := ne u hsu
        rw [show (doneK (mutex0 c).length t S (S.th t) (.wake 0 1)).th u = S.th u from other _ u q2]
        exact h.nap u hu q1
      · -- the first one was woken: it will see to the others
        obtain ⟨b, hb⟩ := slK_mem hsu
        rw [hlot] at hb
        cases hl : S.lot with
        | nil => rw [hl] at hb; cases hb
        | cons s l =>
          have hs1 : slK S s.1 = true := slK_of (a := s.2) (by rw [hl]; exact .head _)
          have hsn : s.1 < n := hW.low s (by rw [hl]; exact .head _)
          have hst : s.1 ≠ t := fun q => by rw [q, hs] at hs1; cases hs1
          obtain ⟨q1, q2⟩ := h.nap s.1 hsn hs1
          refine .inr ⟨s.1, hsn, ?_, false, ?_, ?_⟩
          · cases e : slK (doneK (mutex0 c).length t S (S.th t) (.wake 0 1)) s.1 with
            | false => rfl
            | true =>
              obtain ⟨b, hb2⟩ := slK_mem e
              rw [hlot, hl] at hb2
              have hb2 : (s.1, b) ∈ l := hb2
              have hon := hW.once
              rw [hl, List.map_cons, List.nodup_cons] at hon
              exact absurd (List.mem_map.2 ⟨_, hb2, rfl⟩) hon.1
          · rw [show (doneK (mutex0 c).length t S (S.th t) (.wake 0 1)).th s.1 = S.th s.1 from other _ _ hst]
            exact q1
          · rw [show (doneK (mutex0 c).length t S (S.th t) (.wake 0 1)).th s.1 = S.th s.1 from other _ _ hst, q2]
            exact .inl (by omega)
    | say w v =>
      exact napM_keep (S' := doneK (mutex0 c).length t S (S.th t) (.say w v)) h hs ht rfl (fun u hu => other _ u hu) (fun q => absurd (hBusy q) hb) (fun q => .inl q)
theorem napM_poke (h : NapM n calls S) (hW : WfK mutexF n calls S) (ht : t < n) (hs : slK S t = true) : NapM n calls (pokeK t S) := by
  have hsub : ∀ s ∈ (pokeK t S).lot, s ∈ S.lot := fun s hs => List.mem_of_mem_eraseP hs
  have sub : ∀ u, slK (pokeK t S) u = true → slK S u = true := fun u hu => by
    obtain ⟨b, hb⟩ := slK_mem hu
    exact slK_of (hsub _ hb)
  refine ⟨fun s hs => h.lot s (hsub s hs), fun u hu hsu => h.nap u hu (sub u hsu), fun _ => .inr ⟨t, ht, ?_, false, (h.nap t ht hs).1, ?_⟩⟩
  · cases e : slK (pokeK t S) t with
    | false => rfl
    | true =>
      exfalso
      obtain ⟨b, hb⟩ := slK_mem e
      have hb : (t, b) ∈ S.lot.eraseP fun s => s.1 == t := hb
      have : ∀ (l : List (Nat × Nat)), (l.map (·.1)).Nodup → (t, b) ∉ l.eraseP fun s => s.1 == t := fun l => by
        induction l with
        | nil => intro _ q; cases q
        | cons s l ih =>
          intro hn q
          rw [List.map_cons, List.nodup_cons] at hn
          by_cases e1 : s.1 = t
          · rw [List.eraseP_cons_of_pos (by simp [e1])] at q
            exact hn.1 (List.mem_map.2 ⟨_, q, e1.symm⟩)
          · rw [List.eraseP_cons_of_neg (by simp [e1])] at q
            rcases List.mem_cons.1 q with q | q
            · exact e1 (by rw [← q])
            · exact ih hn.2 q
      exact this S.lot hW.once hb
  · show bzM false (S.th t).j (S.th t).r
    rw [(h.nap t ht hs).2]
    exact .inl (by omega)
end
end Go.Proofs.YtkhaeabbbhfloaaDoor
