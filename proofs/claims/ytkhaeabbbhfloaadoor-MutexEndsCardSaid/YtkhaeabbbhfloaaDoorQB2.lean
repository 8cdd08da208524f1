/-
  The machine of chapter 4 as a plain function: what a step does, and what is kept by all of them. (No program is named here.). The machine of chapter 4: what its instructions are, where each may be; what is kept by all steps. The laws of chapter 4 of the machine as a plain function. Small programs of chapter 4, told through: sums, fields, orders.
-/
import Derived.RowKitTokens
import Derived.Test.YtkhaeabbbhfloaaDoorQB
namespace Go.Proofs.YtkhaeabbbhfloaaDoor
set_option maxRecDepth 100000

/-- An instruction: Op, A, B, C, D. -/
abbrev Ins5 := Int × Int × Int × Int × Int
/-- An act: When, Thread, Op, Cell, Old, Now. -/
abbrev Act6 := Int × Int × Int × Int × Int × Int
/-- An event: When, What, Thread, Value. -/
abbrev Ev4 := Int × Int × Int × Int

/-- What an instruction comes to. -/
inductive Eff where
  | halt
  | set (r : Nat) (v : Int)
  | mem (c : Nat) (now : Int) (r : Option (Nat × Int))
  | goto (p : Int)
  | next
  | sleep (c : Int)
  | wake (c n : Int)
  | say (what v : Int)
  | lost

structure Mach where
  progs : List (List Ins5)
  at_ : List Int
  ended : List Bool
  regs : List (List Int)
  cells : List Int
  lot : List (Int × Int)
  acts : List Act6
  events : List Ev4
  steps : Nat

def m64 : Int := 18446744073709551616
def regOf (regs : List Int) (i : Int) : Int := regs.getD i.toNat 0
def placeOf (a c : Int) (regs : List Int) : Int := if c = -1 then a else a + regOf regs c
def signed (v : Int) : Int := if v < 9223372036854775808 then v else v - m64

def eff (x : Ins5) (regs cells : List Int) : Eff :=
  let a := x.2.1; let b := x.2.2.1; let c := x.2.2.2.1; let d := x.2.2.2.2
  if x.1 = 0 then .halt
  else if x.1 = 1 then .set a.toNat (b % m64)
  else if x.1 = 2 then .set a.toNat (regOf regs b)
  else if x.1 = 3 then .set a.toNat ((regOf regs b + c) % m64)
  else if x.1 = 4 then .set a.toNat ((regOf regs b + regOf regs c) % m64)
  else if x.1 = 5 then .set a.toNat (regOf regs b / 2 ^ c.toNat % 2 ^ d.toNat)
  else if x.1 = 6 then .mem b.toNat (cells.getD b.toNat 0) (some (a.toNat, cells.getD b.toNat 0))
  else if x.1 = 7 then
    if placeOf a c regs < cells.length then .mem (placeOf a c regs).toNat (regOf regs b) none else .lost
  else if x.1 = 8 then .mem b.toNat ((cells.getD b.toNat 0 + c) % m64) (some (a.toNat, cells.getD b.toNat 0))
  else if x.1 = 9 then
    if cells.getD b.toNat 0 = regOf regs c then .mem b.toNat (regOf regs d) (some (a.toNat, 1)) else .mem b.toNat (cells.getD b.toNat 0) (some (a.toNat, 0))
  else if x.1 = 10 then .goto a
  else if x.1 = 11 then if regOf regs a = b % m64 then .goto c else .next
  else if x.1 = 12 then if regOf regs a < regOf regs b then .goto c else .next
  else if x.1 = 13 then if regOf regs a = regOf regs b then .goto c else .next
  else if x.1 = 14 then if cells.getD a.toNat 0 = regOf regs b then .sleep a else .next
  else if x.1 = 15 then
    if placeOf a c regs < cells.length then .wake (placeOf a c regs) b else .lost
  else .say a (signed (regOf regs b))

/-- The first n of those that sleep at c are gone. -/
def wakeL : List (Int × Int) → Int → Nat → List (Int × Int)
  | [], _, _ => []
  | s :: l, _, 0 => s :: l
  | s :: l, c, n + 1 => if s.2 = c then wakeL l c n else s :: wakeL l c (n + 1)

def insOf (m : Mach) (k : Nat) : Ins5 := (m.progs.getD k []).getD (m.at_.getD k 0).toNat default
def asleepM (m : Mach) (t : Int) : Bool := m.lot.any fun s => s.1 == t

def doEff (m : Mach) (k : Nat) (op : Int) : Eff → Mach
  | .halt => { m with steps := m.steps + 1, ended := m.ended.set k true }
  | .set r v => { m with steps := m.steps + 1, at_ := m.at_.set k (m.at_.getD k 0 + 1), regs := m.regs.set k ((m.regs.getD k []).set r v) }
  | .mem c now none => { m with steps := m.steps + 1, at_ := m.at_.set k (m.at_.getD k 0 + 1), cells := m.cells.set c now, acts := m.acts ++ [((m.steps : Int) + 1, (k : Int), op, (c : Int), m.cells.getD c 0, now)] }
  | .mem c now (some rv) => { m with steps := m.steps + 1, at_ := m.at_.set k (m.at_.getD k 0 + 1), cells := m.cells.set c now, regs := m.regs.set k ((m.regs.getD k []).set rv.1 rv.2), acts := m.acts ++ [((m.steps : Int) + 1, (k : Int), op, (c : Int), m.cells.getD c 0, now)] }
  | .goto p => { m with steps := m.steps + 1, at_ := m.at_.set k p }
  | .next => { m with steps := m.steps + 1, at_ := m.at_.set k (m.at_.getD k 0 + 1) }
  | .sleep c => { m with steps := m.steps + 1, at_ := m.at_.set k (m.at_.getD k 0 + 1), lot := m.lot ++ [((k : Int), c)] }
  | .wake c n => { m with steps := m.steps + 1, at_ := m.at_.set k (m.at_.getD k 0 + 1), lot := wakeL m.lot c n.toNat }
  | .say what v => { m with steps := m.steps + 1, at_ := m.at_.set k (m.at_.getD k 0 + 1), events := m.events ++ [((m.steps : Int) + 1, what, (k : Int), v)] }
  | .lost => { m with steps := m.steps + 1, ended := m.ended.set k true }

def errEff : Eff → Nat
  | .lost => 13
  | _ => 0

def effAt (m : Mach) (k : Nat) : Eff := eff (insOf m k) (m.regs.getD k []) m.cells

/-- 4.2: what Step says (0: nothing is wrong), and the machine behind it. 'most': MaxSteps. -/
def stepM (most : Nat) (m : Mach) (t : Int) : Nat × Mach :=
  if t < 0 ∨ (m.progs.length : Int) ≤ t then (2, m)
  else if m.ended.getD t.toNat false = true then (6, m)
  else if asleepM m t = true then (8, m)
  else if most ≤ m.steps then (4, m)
  else (errEff (effAt m t.toNat), doEff m t.toNat (insOf m t.toNat).1 (effAt m t.toNat))

/-- Poke (2.1). -/
def pokeM (m : Mach) (t : Int) : Nat × Mach :=
  if t < 0 ∨ (m.progs.length : Int) ≤ t then (2, m)
  else if asleepM m t = true then (0, { m with lot := m.lot.eraseP fun s => s.1 == t })
  else (6, m)

def moveM (most : Nat) (m : Mach) (v : Int × Bool) : Mach := if v.2 then (pokeM m v.1).2 else (stepM most m v.1).2
def behindM (most : Nat) (m : Mach) (moves : List (Int × Bool)) : Mach := moves.foldl (moveM most) m

def newM (p : List (List Ins5)) (cells : List Int) : Mach :=
  { progs := p, at_ := p.map fun _ => 0, ended := p.map fun _ => false, regs := p.map fun _ => List.replicate 8 0, cells := cells, lot := [], acts := [], events := [], steps := 0 }

/-- Run: how many did a step, and the machine. -/
def runM (most : Nat) : List Int → Mach → Nat × Mach
  | [], m => (0, m)
  | t :: l, m =>
    let r := stepM most m t
    let q := runM most l r.2
    ((if r.1 = 0 ∨ r.1 = 13 then 1 else 0) + q.1, q.2)

theorem doEff_steps (m : Mach) (k : Nat) (op : Int) (e : Eff) : (doEff m k op e).steps = m.steps + 1 := by
  cases e with
  | mem c now r => cases r <;> rfl
  | _ => rfl
theorem doEff_progs (m : Mach) (k : Nat) (op : Int) (e : Eff) : (doEff m k op e).progs = m.progs := by
  cases e with
  | mem c now r => cases r <;> rfl
  | _ => rfl
theorem stepM_progs (most : Nat) (m : Mach) (t : Int) : (stepM most m t).2.progs = m.progs := by
  unfold stepM
  repeat' split
  all_goals first | rfl | exact doEff_progs _ _ _ _
/-- A step is told why not, and nothing is done; or it is done. -/
theorem stepM_cases (most : Nat) (m : Mach) (t : Int) : (∃ c, stepM most m t = (c, m) ∧ c ≠ 0 ∧ c ≠ 13) ∨
    (0 ≤ t ∧ t < m.progs.length ∧ m.ended.getD t.toNat false = false ∧ asleepM m t = false ∧ m.steps < most ∧ stepM most m t = (errEff (effAt m t.toNat), doEff m t.toNat (insOf m t.toNat).1 (effAt m t.toNat))) := by
  unfold stepM
  by_cases h1 : t < 0 ∨ (m.progs.length : Int) ≤ t
  · rw [if_pos h1]; exact .inl ⟨2, rfl, by decide, by decide⟩
  rw [if_neg h1]
  by_cases h2 : m.ended.getD t.toNat false = true
  · rw [if_pos h2]; exact .inl ⟨6, rfl, by decide, by decide⟩
  rw [if_neg h2]
  by_cases h3 : asleepM m t = true
  · rw [if_pos h3]; exact .inl ⟨8, rfl, by decide, by decide⟩
  rw [if_neg h3]
  by_cases h4 : most ≤ m.steps
  · rw [if_pos h4]; exact .inl ⟨4, rfl, by decide, by decide⟩
  rw [if_neg h4]
  exact .inr ⟨by omega, by omega, by simpa using h2, by simpa using h3, by omega, rfl⟩

theorem errEff_done (e : Eff) : errEff e = 0 ∨ errEff e = 13 := by cases e <;> simp [errEff]

/-- How many did a step is how many steps more there are. -/
theorem stepM_steps (most : Nat) (m : Mach) (t : Int) : (stepM most m t).2.steps = m.steps + (if (stepM most m t).1 = 0 ∨ (stepM most m t).1 = 13 then 1 else 0) := by
  rcases stepM_cases most m t with ⟨c, h, h0, h13⟩ | ⟨_, _, _, _, _, h⟩
  · rw [h, if_neg (by simp only; omega)]
    rfl
  · rw [h, if_pos (errEff_done _)]
    exact doEff_steps _ _ _ _
/-- Acts, one behind the other, over cells: what they make of them, and when the last one was; none where one doesn't fit. -/
def replay (n : Nat) (b : Int) : List Act6 → List Int → Int → Option (List Int × Int)
  | [], w, last => some (w, last)
  | a :: l, w, last =>
    if a.2.2.2.1 < 0 ∨ (w.length : Int) ≤ a.2.2.2.1 ∨ a.2.2.2.2.1 ≠ w.getD a.2.2.2.1.toNat 0 ∨ a.1 ≤ last ∨ b < a.1 ∨ a.2.1 < 0 ∨ (n : Int) ≤ a.2.1 then none
    else if a.2.2.1 = 6 ∧ a.2.2.2.2.2 ≠ a.2.2.2.2.1 then none
    else replay n b l (w.set a.2.2.2.1.toNat a.2.2.2.2.2) a.1

theorem replay_append (n : Nat) (b : Int) (r : List Act6) : ∀ (l : List Act6) (w : List Int) (last : Int), replay n b (l ++ r) w last = (replay n b l w last).bind fun q => replay n b r q.1 q.2
  | [], w, last => rfl
  | a :: l, w, last => by
    simp only [List.cons_append, replay]
    split
    · rfl
    · split
      · rfl
      · exact replay_append n b r l _ _
theorem replay_mono (n : Nat) {b b' : Int} (hb : b ≤ b') {q : List Int × Int} : ∀ (l : List Act6) (w : List Int) (last : Int), replay n b l w last = some q → replay n b' l w last = some q
  | [], w, last, h => h
  | a :: l, w, last, h => by
    simp only [replay] at h ⊢
    split at h
    · cases h
    · split at h
      · cases h
      · rename_i h1 h2
        rw [if_neg (by omega), if_neg h2]
        exact replay_mono n hb l _ _ h

/-- WHAT WAS DONE TELLS ALL. -/
def ActsOk (cells0 : List Int) (m : Mach) : Prop := ∃ last, replay m.progs.length m.steps m.acts cells0 0 = some (m.cells, last) ∧ last ≤ m.steps

/-- A cell that is named is one that there is. -/
def EffOk (cells : List Int) (op : Int) : Eff → Prop
  | .mem c now _ => c < cells.length ∧ (op = 6 → now = cells.getD c 0)
  | _ => True

theorem actsOk_doEff {cells0 : List Int} {m : Mach} (h : ActsOk cells0 m) (k : Nat) (hk : k < m.progs.length) (op : Int) (e : Eff) (he : EffOk m.cells op e) : ActsOk cells0 (doEff m k op e) := by
  obtain ⟨last, h1, h2⟩ := h
  have hm := replay_mono m.progs.length (show (m.steps : Int) ≤ (m.steps : Int) + 1 by omega) _ _ _ h1
  have hact : ∀ c now, c < m.cells.length → (op = 6 → now = m.cells.getD c 0) → replay m.progs.length ((m.steps : Int) + 1) (m.acts ++ [((m.steps : Int) + 1, (k : Int), op, (c : Int), m.cells.getD c 0, now)]) cells0 0 = some (m.cells.set c now, (m.steps : Int) + 1) := by
    intro c now hc ho
    rw [replay_append, hm]
    simp only [Option.bind_some, replay]
    rw [if_neg (by simp only [Int.toNat_natCast]; omega), if_neg (by rintro ⟨h3, h4⟩; exact h4 (ho h3))]
    simp
  cases e with
  | mem c now r =>
    cases r with
    | none => exact ⟨(m.steps : Int) + 1, hact c now he.1 he.2, by show (m.steps : Int) + 1 ≤ ((m.steps + 1 : Nat) : Int); omega⟩
    | some rv => exact ⟨(m.steps : Int) + 1, hact c now he.1 he.2, by show (m.steps : Int) + 1 ≤ ((m.steps + 1 : Nat) : Int); omega⟩
  | _ => exact ⟨last, hm, by show last ≤ ((m.steps + 1 : Nat) : Int); omega⟩
end Go.Proofs.YtkhaeabbbhfloaaDoor

namespace Go.Proofs.YtkhaeabbbhfloaaDoor
set_option maxRecDepth 100000

def okU (v : Int) : Prop := 0 ≤ v ∧ v < 18446744073709551616
def reg8 (v : Int) : Prop := 0 ≤ v ∧ v ≤ 7

/-- 3.1, Op by Op. -/
structure FitX (n cells : Int) (x : Ins5) : Prop where
  lo : 0 ≤ x.1
  hi : x.1 < 17
  ra : x.1 = 1 ∨ x.1 = 2 ∨ x.1 = 3 ∨ x.1 = 4 ∨ x.1 = 5 ∨ x.1 = 6 ∨ x.1 = 8 ∨ x.1 = 9 ∨ x.1 = 11 ∨ x.1 = 12 ∨ x.1 = 13 → reg8 x.2.1
  rb : x.1 = 2 ∨ x.1 = 3 ∨ x.1 = 4 ∨ x.1 = 5 ∨ x.1 = 7 ∨ x.1 = 12 ∨ x.1 = 13 ∨ x.1 = 14 ∨ x.1 = 16 → reg8 x.2.2.1
  rc : x.1 = 4 ∨ x.1 = 9 → reg8 x.2.2.2.1
  rd : x.1 = 9 → reg8 x.2.2.2.2
  ca : x.1 = 7 ∨ x.1 = 14 ∨ x.1 = 15 → 0 ≤ x.2.1 ∧ x.2.1 < cells
  cb : x.1 = 6 ∨ x.1 = 8 ∨ x.1 = 9 → 0 ≤ x.2.2.1 ∧ x.2.2.1 < cells
  pa : x.1 = 10 → 0 ≤ x.2.1 ∧ x.2.1 < n
  pc : x.1 = 11 ∨ x.1 = 12 ∨ x.1 = 13 → 0 ≤ x.2.2.2.1 ∧ x.2.2.2.1 < n
  oc : x.1 = 7 ∨ x.1 = 15 → -1 ≤ x.2.2.2.1 ∧ x.2.2.2.1 ≤ 7
  bw : x.1 = 5 → 0 ≤ x.2.2.2.1 ∧ x.2.2.2.1 ≤ 63 ∧ 1 ≤ x.2.2.2.2 ∧ x.2.2.2.2 ≤ 63

theorem fitX_of (n cells : Int) (x : Ins5) (h : goodX n cells x) : FitX n cells x := by
  obtain ⟨h0, h1, h2⟩ := h
  obtain ⟨op, a, b, c, d⟩ := x
  dsimp only at h0 h1
  obtain ⟨k, rfl⟩ : ∃ k : Nat, op = k := ⟨op.toNat, by omega⟩
  have hk : k < 17 := by omega
  dsimp only [Int.toNat_natCast] at h2
  match k, hk with
  | 0, _ | 1, _ | 2, _ | 3, _ | 4, _ | 5, _ | 6, _ | 7, _ | 8, _ | 9, _ | 10, _ | 11, _ | 12, _ | 13, _ | 14, _ | 15, _ | 16, _ =>
    simp [kindsOf, kinds, nums, fitsL, boundsL] at h2
    constructor <;> simp [reg8] <;> omega

def EffGood (n : Int) (cells : List Int) (x : Ins5) : Eff → Prop
  | .halt => True
  | .set r v => r < 8 ∧ okU v ∧ x.1 ≠ 10 ∧ x.1 ≠ 0
  | .mem c now r => c < cells.length ∧ okU now ∧ (∀ q, r = some q → q.1 < 8 ∧ okU q.2) ∧ (x.1 = 6 → now = cells.getD c 0) ∧ x.1 ≠ 10 ∧ x.1 ≠ 0
  | .goto p => 0 ≤ p ∧ p < n
  | .next => x.1 ≠ 10 ∧ x.1 ≠ 0
  | .sleep c => x.1 = 14 ∧ x.2.1 = c ∧ 0 ≤ c ∧ c < cells.length
  | .wake c _ => 0 ≤ c ∧ c < cells.length ∧ x.1 ≠ 10 ∧ x.1 ≠ 0
  | .say _ v => -9223372036854775808 ≤ v ∧ v ≤ 9223372036854775807 ∧ x.1 ≠ 10 ∧ x.1 ≠ 0
  | .lost => True

theorem getD_okU {l : List Int} (h : ∀ v ∈ l, okU v) (k : Nat) : okU (l.getD k 0) := by
  rw [List.getD_eq_getElem?_getD]
  cases e : l[k]? with
  | none => exact ⟨by decide, by decide⟩
  | some v => exact h v (List.mem_of_getElem? e)
theorem mod_okU (v : Int) : okU (v % m64) := by
  unfold okU m64
  omega
theorem field_okU (v : Int) (h : okU v) (c d : Nat) : okU (v / 2 ^ c % 2 ^ d) := by
  obtain ⟨h0, h1⟩ := h
  have hc : (0 : Int) < 2 ^ c := Int.pow_pos (by decide)
  have hd : (0 : Int) < 2 ^ d := Int.pow_pos (by decide)
  have q0 : 0 ≤ v / 2 ^ c := Int.ediv_nonneg h0 (Int.le_of_lt hc)
  have q1 : v / 2 ^ c ≤ v := Int.ediv_le_self _ h0
  refine ⟨Int.emod_nonneg _ (Int.ne_of_gt hd), ?_⟩
  have e := Int.emod_def (v / 2 ^ c) (2 ^ d)
  have hq : 0 ≤ (2 : Int) ^ d * (v / 2 ^ c / 2 ^ d) := Int.mul_nonneg (Int.le_of_lt hd) (Int.ediv_nonneg q0 (Int.le_of_lt hd))
  omega

theorem eff_good {n : Int} {x : Ins5} {regs cells : List Int} (hx : FitX n cells.length x) (hr : ∀ v ∈ regs, okU v) (hc : ∀ v ∈ cells, okU v) : EffGood n cells x (eff x regs cells) := by
  obtain ⟨op, a, b, c, d⟩ := x
  have R : ∀ i, okU (regOf regs i) := fun i => getD_okU hr _
  have C : ∀ k, okU (cells.getD k 0) := getD_okU hc
  unfold eff
  dsimp only
  by_cases h0 : op = 0
  · rw [if_pos h0]; trivial
  rw [if_neg h0]
  by_cases h1 : op = 1
  · rw [if_pos h1]; have := hx.ra (by simp [h1]); exact ⟨by simp only [reg8] at this; omega, mod_okU _, by simp only; omega, h0⟩
  rw [if_neg h1]
  by_cases h2 : op = 2
  · rw [if_pos h2]; have := hx.ra (by simp [h2]); exact ⟨by simp only [reg8] at this; omega, R _, by simp only; omega, h0⟩
  rw [if_neg h2]
  by_cases h3 : op = 3
  · rw [if_pos h3]; have := hx.ra (by simp [h3]); exact ⟨by simp only [reg8] at this; omega, mod_okU _, by simp only; omega, h0⟩
  rw [if_neg h3]
  by_cases h4 : op = 4
  · rw [if_pos h4]; have := hx.ra (by simp [h4]); exact ⟨by simp only [reg8] at this; omega, mod_okU _, by simp only; omega, h0⟩
  rw [if_neg h4]
  by_cases h5 : op = 5
  · rw [if_pos h5]; have := hx.ra (by simp [h5]); exact ⟨by simp only [reg8] at this; omega, field_okU _ (R _) _ _, by simp only; omega, h0⟩
  rw [if_neg h5]
  by_cases h6 : op = 6
  · rw [if_pos h6]
    have ha := hx.ra (by simp [h6])
    have hb := hx.cb (by simp [h6])
    simp only [reg8] at ha hb
    exact ⟨by omega, C _, fun q hq => by injection hq with hq; subst hq; exact ⟨by simp only; omega, C _⟩, fun _ => rfl, by simp only; omega, h0⟩
  rw [if_neg h6]
  by_cases h7 : op = 7
  · rw [if_pos h7]
    have ha := hx.ca (by simp [h7])
    simp only at ha
    split
    · rename_i hp
      have hnn : 0 ≤ placeOf a c regs := by
        unfold placeOf
        have := (R c).1
        split <;> omega
      exact ⟨by omega, R _, (fun q hq => by cases hq), fun e => absurd (show op = 6 from e) h6, by simp only; omega, h0⟩
    · trivial
  rw [if_neg h7]
  by_cases h8 : op = 8
  · rw [if_pos h8]
    have ha := hx.ra (by simp [h8])
    have hb := hx.cb (by simp [h8])
    simp only [reg8] at ha hb
    exact ⟨by omega, mod_okU _, fun q hq => by injection hq with hq; subst hq; exact ⟨by simp only; omega, C _⟩, fun e => absurd (show op = 6 from e) h6, by simp only; omega, h0⟩
  rw [if_neg h8]
  by_cases h9 : op = 9
  · rw [if_pos h9]
    have ha := hx.ra (by simp [h9])
    have hb := hx.cb (by simp [h9])
    simp only [reg8] at ha hb
    split
    · exact ⟨by omega, R _, fun q hq => by injection hq with hq; subst hq; exact ⟨by simp only; omega, by simp [okU]⟩, fun e => absurd (show op = 6 from e) h6, by simp only; omega, h0⟩
    · exact ⟨by omega, C _, fun q hq => by injection hq with hq; subst hq; exact ⟨by simp only; omega, by simp [okU]⟩, fun e => absurd (show op = 6 from e) h6, by simp only; omega, h0⟩
  rw [if_neg h9]
  by_cases h10 : op = 10
  · rw [if_pos h10]; exact hx.pa h10
  rw [if_neg h10]
  by_cases h11 : op = 11
  · rw [if_pos h11]; split
    · exact hx.pc (.inl h11)
    · exact ⟨h10, h0⟩
  rw [if_neg h11]
  by_cases h12 : op = 12
  · rw [if_pos h12]; split
    · exact hx.pc (.inr (.inl h12))
    · exact ⟨h10, h0⟩
  rw [if_neg h12]
  by_cases h13 : op = 13
  · rw [if_pos h13]; split
    · exact hx.pc (.inr (.inr h13))
    · exact ⟨h10, h0⟩
  rw [if_neg h13]
  by_cases h14 : op = 14
  · rw [if_pos h14]; split
    · have := hx.ca (by simp [h14]); exact ⟨h14, rfl, this.1, this.2⟩
    · exact ⟨h10, h0⟩
  rw [if_neg h14]
  by_cases h15 : op = 15
  · rw [if_pos h15]
    have ha := hx.ca (by simp [h15])
    simp only at ha
    split
    · have hnn : 0 ≤ placeOf a c regs := by
        unfold placeOf
        have := (R c).1
        split <;> omega
      exact ⟨hnn, by assumption, h10, h0⟩
    · trivial
  rw [if_neg h15]
  have hs := R b
  unfold okU at hs
  refine ⟨?_, ?_, h10, h0⟩ <;> (unfold signed m64; split <;> omega)

theorem getD_set_eq {α : Type} (l : List α) (k : Nat) (v d : α) (h : k < l.length) : (l.set k v).getD k d = v := by
  rw [List.getD_eq_getElem?_getD, List.getElem?_set_self h]
  rfl
theorem getD_set_ne {α : Type} (l : List α) (k j : Nat) (v d : α) (h : k ≠ j) : (l.set k v).getD j d = l.getD j d := by
  rw [List.getD_eq_getElem?_getD, List.getElem?_set_ne h, ← List.getD_eq_getElem?_getD]

theorem wakeL_sub (c : Int) : ∀ (l : List (Int × Int)) (n : Nat), (wakeL l c n).Sublist l
  | [], _ => by simp [wakeL]
  | x :: l, 0 => by simp [wakeL]
  | x :: l, n + 1 => by
    unfold wakeL
    split
    · exact (wakeL_sub c l n).cons _
    · exact (wakeL_sub c l (n + 1)).cons_cons _

structure MOk (cells0 : List Int) (m : Mach) : Prop where
  la : m.at_.length = m.progs.length
  le : m.ended.length = m.progs.length
  lr : m.regs.length = m.progs.length
  lc : m.cells.length = cells0.length
  right : ∀ k, k < m.progs.length → RightL (m.progs.getD k []) cells0.length
  at_ : ∀ k, k < m.progs.length → 0 ≤ m.at_.getD k 0 ∧ m.at_.getD k 0 < (m.progs.getD k []).length
  regs : ∀ k, k < m.progs.length → (m.regs.getD k []).length = 8 ∧ ∀ v ∈ m.regs.getD k [], okU v
  cells : ∀ v ∈ m.cells, okU v
  lot : ∀ s ∈ m.lot, ∃ k : Nat, s.1 = k ∧ k < m.progs.length ∧ m.ended.getD k false = false ∧ 1 ≤ m.at_.getD k 0 ∧ ((m.progs.getD k []).getD (m.at_.getD k 0 - 1).toNat default).1 = 14 ∧ ((m.progs.getD k []).getD (m.at_.getD k 0 - 1).toNat default).2.1 = s.2
  once : m.lot.Pairwise fun a b => a.1 ≠ b.1
  acts : ActsOk cells0 m

/-- A thread goes on to p; nobody falls asleep. -/
theorem MOk.move {cells0 : List Int} {m m' : Mach} (h : MOk cells0 m) {k : Nat} (hk : k < m.progs.length) (hns : ∀ s ∈ m.lot, s.1 ≠ k) {p : Int} (hp : m'.progs = m.progs) (hat : m'.at_ = m.at_.set k p) (p0 : 0 ≤ p) (p1 : p < (m.progs.getD k []).length)
    (he : m'.ended = m.ended) (hr : m'.regs = m.regs ∨ ∃ R, m'.regs = m.regs.set k R ∧ R.length = 8 ∧ ∀ v ∈ R, okU v) (hc : m'.cells.length = m.cells.length) (hcU : ∀ v ∈ m'.cells, okU v) (hl : m'.lot.Sublist m.lot) (ha : ActsOk cells0 m') : MOk cells0 m' := by
  refine ⟨by rw [hat, hp, List.length_set]; exact h.la, by rw [he, hp]; exact h.le, ?_, by rw [hc]; exact h.lc, by rw [hp]; exact h.right, ?_, ?_, hcU, ?_, h.once.sublist hl, ha⟩
  · rw [hp]
    rcases hr with hr | ⟨R, hr, _⟩
    · rw [hr]; exact h.lr
    · rw [hr, List.length_set]; exact h.lr
  · rw [hp, hat]
    intro j hj
    by_cases e : k = j
    · subst e
      rw [getD_set_eq _ _ _ _ (by rw [h.la]; exact hk)]
      exact ⟨p0, p1⟩
    · rw [getD_set_ne _ _ _ _ _ e]
      exact h.at_ j hj
  · rw [hp]
    intro j hj
    rcases hr with hr | ⟨R, hr, hR⟩
    · rw [hr]; exact h.regs j hj
    · rw [hr]
      by_cases e : k = j
      · subst e
        rw [getD_set_eq _ _ _ _ (by rw [h.lr]; exact hk)]
        exact hR
      · rw [getD_set_ne _ _ _ _ _ e]
        exact h.regs j hj
  · intro s hs
    obtain ⟨j, e, h1, h2, h3, h4⟩ := h.lot s (hl.subset hs)
    have hjk : k ≠ j := fun e2 => hns s (hl.subset hs) (by rw [e, e2])
    refine ⟨j, e, by rw [hp]; exact h1, by rw [he]; exact h2, ?_⟩
    rw [hp, hat, getD_set_ne _ _ _ _ _ hjk]
    exact ⟨h3, h4⟩

theorem MOk.end_ {cells0 : List Int} {m m' : Mach} (h : MOk cells0 m) {k : Nat} (hns : ∀ s ∈ m.lot, s.1 ≠ k) (hp : m'.progs = m.progs) (hat : m'.at_ = m.at_) (he : m'.ended = m.ended.set k true) (hr : m'.regs = m.regs) (hc : m'.cells = m.cells) (hl : m'.lot = m.lot) (ha : ActsOk cells0 m') : MOk cells0 m' := by
  refine ⟨by rw [hat, hp]; exact h.la, by rw [he, hp, List.length_set]; exact h.le, by rw [hr, hp]; exact h.lr, by rw [hc]; exact h.lc, by rw [hp]; exact h.right, by rw [hp, hat]; exact h.at_, by rw [hp, hr]; exact h.regs, by rw [hc]; exact h.cells, ?_, by rw [hl]; exact h.once, ha⟩
  intro s hs
  rw [hl] at hs
  obtain ⟨j, e, h1, h2, h3, h4⟩ := h.lot s hs
  have hjk : k ≠ j := fun e2 => hns s hs (by rw [e, e2])
  refine ⟨j, e, by rw [hp]; exact h1, by rw [he, getD_set_ne _ _ _ _ _ hjk]; exact h2, ?_⟩
  rw [hp, hat]
  exact ⟨h3, h4⟩

theorem MOk.more {cells0 : List Int} {m : Mach} (h : MOk cells0 m) {k : Nat} (hk : k < m.progs.length) (h10 : (insOf m k).1 ≠ 10) (h0 : (insOf m k).1 ≠ 0) : 0 ≤ m.at_.getD k 0 + 1 ∧ m.at_.getD k 0 + 1 < (m.progs.getD k []).length := by
  obtain ⟨a0, a1⟩ := h.at_ k hk
  obtain ⟨_, _, _, _, _, hl⟩ := h.right k hk
  refine ⟨by omega, ?_⟩
  rcases Int.lt_or_le (m.at_.getD k 0 + 1) (m.progs.getD k []).length with h1 | h1
  · exact h1
  · have e : (m.at_.getD k 0).toNat = (m.progs.getD k []).length - 1 := by omega
    unfold insOf at h10 h0
    rw [e] at h10 h0
    rcases hl with hl | hl
    · exact absurd hl h0
    · exact absurd hl h10

theorem MOk.fit {cells0 : List Int} {m : Mach} (h : MOk cells0 m) {k : Nat} (hk : k < m.progs.length) : FitX (m.progs.getD k []).length m.cells.length (insOf m k) := by
  obtain ⟨a0, a1⟩ := h.at_ k hk
  obtain ⟨_, _, _, _, hg, _⟩ := h.right k hk
  rw [h.lc]
  exact fitX_of _ _ _ (hg _ (by omega))

theorem not_asleep {m : Mach} {t : Int} (h : asleepM m t = false) : ∀ s ∈ m.lot, s.1 ≠ t := by
  intro s hs e
  unfold asleepM at h
  rw [List.any_eq_false] at h
  exact h s hs (by simpa using e)

theorem set_okU {l : List Int} (h : ∀ v ∈ l, okU v) (k : Nat) (v : Int) (hv : okU v) : ∀ u ∈ l.set k v, okU u := fun u hu => by
  rcases List.mem_or_eq_of_mem_set hu with hu | rfl
  · exact h u hu
  · exact hv

theorem doEff_ok {cells0 : List Int} {m : Mach} (h : MOk cells0 m) {k : Nat} (hk : k < m.progs.length) (hend : m.ended.getD k false = false) (hns : asleepM m (k : Int) = false) (e : Eff) (he : EffGood (m.progs.getD k []).length m.cells (insOf m k) e) : MOk cells0 (doEff m k (insOf m k).1 e) := by
  have hno := not_asleep hns
  have hA : ActsOk cells0 (doEff m k (insOf m k).1 e) := actsOk_doEff h.acts k hk _ e (by
    cases e with
    | mem c now r => exact ⟨he.1, he.2.2.2.1⟩
    | _ => trivial)
  have hregs := h.regs k hk
  cases e with
  | halt => exact h.end_ hno rfl rfl rfl rfl rfl rfl hA
  | lost => exact h.end_ hno rfl rfl rfl rfl rfl rfl hA
  | set r v =>
    obtain ⟨q0, q1⟩ := h.more hk he.2.2.1 he.2.2.2
    exact h.move hk hno rfl rfl q0 q1 rfl (.inr ⟨_, rfl, by rw [List.length_set]; exact hregs.1, set_okU hregs.2 _ _ he.2.1⟩) rfl h.cells (List.Sublist.refl _) hA
  | mem c now r =>
    obtain ⟨e1, e2, e3, e4, e5, e6⟩ := he
    obtain ⟨q0, q1⟩ := h.more hk e5 e6
    cases r with
    | none => exact h.move hk hno rfl rfl q0 q1 rfl (.inl rfl) (List.length_set ..) (set_okU h.cells _ _ e2) (List.Sublist.refl _) hA
    | some rv => exact h.move hk hno rfl rfl q0 q1 rfl (.inr ⟨_, rfl, by rw [List.length_set]; exact hregs.1, set_okU hregs.2 _ _ (e3 _ rfl).2⟩) (List.length_set ..) (set_okU h.cells _ _ e2) (List.Sublist.refl _) hA
  | goto p => exact h.move hk hno rfl rfl he.1 he.2 rfl (.inl rfl) rfl h.cells (List.Sublist.refl _) hA
  | next =>
    obtain ⟨q0, q1⟩ := h.more hk he.1 he.2
    exact h.move hk hno rfl rfl q0 q1 rfl (.inl rfl) rfl h.cells (List.Sublist.refl _) hA
  | wake c n =>
    obtain ⟨q0, q1⟩ := h.more hk he.2.2.1 he.2.2.2
    exact h.move hk hno rfl rfl q0 q1 rfl (.inl rfl) rfl h.cells (wakeL_sub _ _ _) hA
  | say what v =>
    obtain ⟨q0, q1⟩ := h.more hk he.2.2.1 he.2.2.2
    exact h.move hk hno rfl rfl q0 q1 rfl (.inl rfl) rfl h.cells (List.Sublist.refl _) hA
  | sleep c =>
    obtain ⟨e1, e2, _, _⟩ := he
    obtain ⟨q0, q1⟩ := h.more hk (by rw [e1]; decide) (by rw [e1]; decide)
    have hb : MOk cells0 { doEff m k (insOf m k).1 (.sleep c) with lot := m.lot } := h.move hk hno rfl rfl q0 q1 rfl (.inl rfl) rfl h.cells (List.Sublist.refl _) hA
    refine ⟨hb.la, hb.le, hb.lr, hb.lc, hb.right, hb.at_, hb.regs, hb.cells, ?_, ?_, hA⟩
    · intro s hs
      rcases List.mem_append.1 (show s ∈ m.lot ++ [((k : Int), c)] from hs) with hs | hs
      · exact hb.lot s hs
      · obtain rfl := List.mem_singleton.1 hs
        refine ⟨k, rfl, hk, hend, ?_⟩
        show 1 ≤ (m.at_.set k (m.at_.getD k 0 + 1)).getD k 0 ∧ ((m.progs.getD k []).getD ((m.at_.set k (m.at_.getD k 0 + 1)).getD k 0 - 1).toNat default).1 = 14 ∧ ((m.progs.getD k []).getD ((m.at_.set k (m.at_.getD k 0 + 1)).getD k 0 - 1).toNat default).2.1 = c
        rw [getD_set_eq _ _ _ _ (by rw [h.la]; exact hk)]
        have := (h.at_ k hk).1
        rw [show m.at_.getD k 0 + 1 - 1 = m.at_.getD k 0 by omega]
        exact ⟨by omega, e1, e2⟩
    · show (m.lot ++ [((k : Int), c)]).Pairwise _
      rw [List.pairwise_append]
      exact ⟨h.once, List.pairwise_singleton .., fun a ha b hb => by rw [List.mem_singleton.1 hb]; exact hno a ha⟩

theorem stepM_ok (most : Nat) {cells0 : List Int} {m : Mach} (h : MOk cells0 m) (t : Int) : MOk cells0 (stepM most m t).2 := by
  rcases stepM_cases most m t with ⟨c, e, _⟩ | ⟨h0, h1, h2, h3, _, e⟩
  · rw [e]; exact h
  · rw [e]
    have hk : t.toNat < m.progs.length := by omega
    refine doEff_ok h hk h2 (by rw [Int.toNat_of_nonneg h0]; exact h3) _ ?_
    unfold effAt
    exact eff_good (h.fit hk) (h.regs _ hk).2 h.cells

theorem pokeM_ok {cells0 : List Int} {m : Mach} (h : MOk cells0 m) (t : Int) : MOk cells0 (pokeM m t).2 := by
  unfold pokeM
  split
  · exact h
  · split
    · have hs : (m.lot.eraseP fun s => s.1 == t).Sublist m.lot := List.eraseP_sublist
      exact ⟨h.la, h.le, h.lr, h.lc, h.right, h.at_, h.regs, h.cells, fun s hs' => h.lot s (hs.subset hs'), h.once.sublist hs, h.acts⟩
    · exact h

theorem newM_ok (p : List (List Ins5)) (cells : List Int) (hc : ∀ v ∈ cells, okU v) (hp : ∀ k, k < p.length → RightL (p.getD k []) cells.length) : MOk cells (newM p cells) := by
  have gm : ∀ {α : Type} (d v : α) (k : Nat), k < p.length → (p.map fun _ => v).getD k d = v := by
    intro α d v k hk
    rw [List.getD_eq_getElem?_getD, List.getElem?_map, List.getElem?_eq_getElem hk]
    rfl
  refine ⟨List.length_map .., List.length_map .., List.length_map .., rfl, hp, fun k hk => ?_, fun k hk => ?_, hc, (fun s hs => by cases hs), List.Pairwise.nil, ⟨0, rfl, Int.le_refl _⟩⟩
  · show 0 ≤ (p.map fun _ => (0 : Int)).getD k 0 ∧ (p.map fun _ => (0 : Int)).getD k 0 < _
    rw [gm 0 0 k hk]
    exact ⟨Int.le_refl _, by have := (hp k hk).2.2.1; show (0 : Int) < ((p.getD k []).length : Int); omega⟩
  · show ((p.map fun _ => List.replicate 8 (0 : Int)).getD k []).length = 8 ∧ _
    have e := gm [] (List.replicate 8 (0 : Int)) k hk
    refine ⟨by rw [e]; rfl, fun v hv => ?_⟩
    have hv' : v ∈ (p.map fun _ => List.replicate 8 (0 : Int)).getD k [] := hv
    rw [e] at hv'
    rw [(List.mem_replicate.1 hv').2]
    exact ⟨by decide, by decide⟩
end Go.Proofs.YtkhaeabbbhfloaaDoor

namespace Go.Proofs.YtkhaeabbbhfloaaDoor
set_option maxRecDepth 100000

/-- Where a thread sleeps, or -1. -/
def cellM (m : Mach) (t : Int) : Int := ((m.lot.find? fun s => s.1 == t).map (·.2)).getD (-1)
/-- WHO SLEEPS WAITS. -/
theorem sleeper {cells0 : List Int} {m : Mach} (h : MOk cells0 m) (k : Nat) (hc : 0 ≤ cellM m k) :
    k < m.progs.length ∧ m.ended.getD k false = false ∧ asleepM m k = true ∧ 1 ≤ m.at_.getD k 0 ∧ m.at_.getD k 0 < (m.progs.getD k []).length ∧ ((m.progs.getD k []).getD (m.at_.getD k 0 - 1).toNat default).1 = 14 ∧ ((m.progs.getD k []).getD (m.at_.getD k 0 - 1).toNat default).2.1 = cellM m k := by
  unfold cellM at hc ⊢
  cases hf : m.lot.find? (fun s => s.1 == (k : Int)) with
  | none => rw [hf] at hc; exact absurd hc (by decide)
  | some s =>
    have hm := List.mem_of_find?_eq_some hf
    have hp := List.find?_some hf
    simp only [beq_iff_eq] at hp
    obtain ⟨j, e, h1, h2, h3, h4, h5⟩ := h.lot s hm
    obtain rfl : j = k := by omega
    exact ⟨h1, h2, by unfold asleepM; rw [List.any_eq_true]; exact ⟨s, hm, by simpa using hp⟩, h3, (h.at_ j h1).2, h4, h5⟩

/-- Who is woken of those that sleep at c, as a filter (so park's contract says it). -/
theorem wakeL_filter (c : Int) : ∀ (l : List (Int × Int)) (n : Nat), l.Pairwise (fun a b => a.1 ≠ b.1) → (l.filter fun s => !(((l.filter fun s => s.2 == c).map (·.1)).take n).contains s.1) = wakeL l c n
  | [], n, _ => by simp [wakeL]
  | x :: l, 0, _ => by simp [wakeL]
  | x :: l, n + 1, h => by
    obtain ⟨h1, h2⟩ := List.pairwise_cons.1 h
    have hin : ∀ k, ¬ x.1 ∈ ((l.filter fun s => s.2 == c).map (·.1)).take k := by
      intro k hk
      obtain ⟨s, hs, e⟩ := List.mem_map.1 (List.mem_of_mem_take hk)
      exact h1 s (List.mem_filter.1 hs).1 e.symm
    unfold wakeL
    by_cases e : x.2 = c
    · rw [if_pos e, List.filter_cons_of_pos (p := fun s : Int × Int => s.2 == c) (by simpa using e), List.map_cons, List.take_succ_cons, List.filter_cons_of_neg (by simp)]
      rw [← wakeL_filter c l n h2]
      apply List.filter_congr
      intro s hs
      have := h1 s hs
      simp only [List.contains_cons, Bool.not_or]
      rw [show (s.1 == x.1) = false by simpa using fun e2 => this e2.symm]
      simp
    · rw [if_neg e, List.filter_cons_of_neg (p := fun s : Int × Int => s.2 == c) (by simpa using e)]
      rw [List.filter_cons_of_pos (by simpa using hin (n + 1)), wakeL_filter c l (n + 1) h2]
end Go.Proofs.YtkhaeabbbhfloaaDoor

namespace Go.Proofs.YtkhaeabbbhfloaaDoor
set_option maxRecDepth 100000

end Go.Proofs.YtkhaeabbbhfloaaDoor
