/-
  Barriers as programs of pieces: where a party is, what its step comes to (plain), and that the machine does it.
-/
import Derived.Test.YtkhaeabbbhfloaaDoorQF
namespace Go.Proofs.YtkhaeabbbhfloaaDoor
set_option maxRecDepth 100000

/-- What a party does in a round, in pieces. -/
inductive BOp where
  | tell (c k : Nat)
  | await (c : Nat)
  | meet (c s d : Nat)
  | opn (c s : Nat)
deriving DecidableEq, Inhabited

def opLen : BOp → Nat
  | .tell _ _ => 2
  | .await _ => 5
  | .meet _ _ _ => 8
  | .opn _ _ => 4
def offs (ops : List BOp) (i : Nat) : Nat := ((ops.take i).map opLen).sum
def awaitI (p c : Int) : List Ins5 := [(6, 1, c, 0, 0), (12, 1, 0, p + 3, 0), (10, p + 5, 0, 0, 0), (14, c, 1, 0, 0), (10, p, 0, 0, 0)]
def tellI (c k : Int) : List Ins5 := [(7, c, 0, -1, 0), (15, c, k, -1, 0)]
/-- A piece at the place p. -/
def compOp (ops : List BOp) (p : Int) : BOp → List Ins5
  | .tell c k => tellI c k
  | .await c => awaitI p c
  | .meet c s d => [(8, 1, (c : Int), 1, 0), (11, 1, (s : Int) - 1, p + 8, 0)] ++ awaitI (p + 2) ((c : Int) + 1) ++ [(10, 5 + (offs ops d : Int), 0, 0, 0)]
  | .opn c s => [(1, 2, 0, 0, 0), (7, (c : Int), 2, -1, 0)] ++ tellI ((c : Int) + 1) s
def bodyTo (ops : List BOp) (i : Nat) : List Ins5 := (List.range i).flatMap fun j => compOp ops (5 + (offs ops j : Int)) (ops.getD j default)
def bodyI (ops : List BOp) : List Ins5 := bodyTo ops ops.length
/-- A party's program. -/
def barP (rounds : Nat) (ops : List BOp) : List Ins5 := [(1, 0, 1, 0, 0), (1, 7, (rounds : Int) + 1, 0, 0), (12, 0, 7, 4, 0), (0, 0, 0, 0, 0), (16, 1, 0, 0, 0)] ++ bodyI ops ++ [(16, 2, 0, 0, 0), (3, 0, 0, 1, 0), (10, 2, 0, 0, 0)]

/-- Where in its program a party is. -/
inductive Ph where
  | b0 | b1 | less | halt | came
  | op (i k : Nat)
  | gone | plus | jump | fin
deriving DecidableEq

def pcOf (ops : List BOp) : Ph → Nat
  | .b0 => 0
  | .b1 => 1
  | .less => 2
  | .halt => 3
  | .came => 4
  | .op i k => 5 + offs ops i + k
  | .gone => 5 + offs ops ops.length
  | .plus => 6 + offs ops ops.length
  | .jump => 7 + offs ops ops.length
  | .fin => 3
/-- Piece i, or what is behind all pieces. -/
def nxt (ops : List BOp) (i : Nat) : Ph := if i < ops.length then .op i 0 else .gone
def okPh (ops : List BOp) : Ph → Prop
  | .op i k => i < ops.length ∧ k < opLen (ops.getD i default)
  | _ => True

end Go.Proofs.YtkhaeabbbhfloaaDoor

namespace Go.Proofs.YtkhaeabbbhfloaaDoor
set_option maxRecDepth 100000

/-- A party: where it is, in which round, what it read last, whether it sleeps. -/
structure Th where
  ph : Ph
  rd : Nat
  r1 : Int
  slp : Bool
def upd {α : Type} (f : Nat → α) (t : Nat) (x : α) : Nat → α := fun u => if u = t then x else f u
theorem upd_same {α : Type} (f : Nat → α) (t : Nat) (x : α) : upd f t x t = x := if_pos rfl
theorem upd_ne {α : Type} (f : Nat → α) {t u : Nat} (x : α) (h : u ≠ t) : upd f t x u = f u := if_neg h

/-- What a step of a party comes to: the party, what is done to a cell (op, cell, what it is then), whom it wakes, what it says. -/
structure Do where
  th : Th
  touch : Option (Nat × Nat × Int) := none
  wake : Option (Nat × Nat) := none
  say : Option Nat := none

def doAwait (cell : Nat → Int) (x : Th) (i k b c : Nat) (out : Ph) : Do :=
  if k = 0 then { th := { x with ph := .op i (b + 1), r1 := cell c }, touch := some (6, c, cell c) }
  else if k = 1 then { th := { x with ph := if x.r1 < x.rd then .op i (b + 3) else .op i (b + 2) } }
  else if k = 2 then { th := { x with ph := out } }
  else if k = 3 then { th := { x with ph := .op i (b + 4), slp := decide (cell c = x.r1) } }
  else { th := { x with ph := .op i b } }
def doOp (ops : List BOp) (cell : Nat → Int) (x : Th) (i k : Nat) : BOp → Do
  | .tell c s => if k = 0 then { th := { x with ph := .op i 1 }, touch := some (7, c, x.rd) } else { th := { x with ph := nxt ops (i + 1) }, wake := some (c, s) }
  | .await c => doAwait cell x i k 0 c (nxt ops (i + 1))
  | .meet c s d =>
    if k = 0 then { th := { x with ph := .op i 1, r1 := cell c }, touch := some (8, c, (cell c + 1) % m64) }
    else if k = 1 then { th := { x with ph := if x.r1 = ((s : Int) - 1) % m64 then nxt ops (i + 1) else .op i 2 } }
    else if k = 7 then { th := { x with ph := nxt ops d } }
    else doAwait cell x i (k - 2) 2 (c + 1) (.op i 7)
  | .opn c s =>
    if k = 0 then { th := { x with ph := .op i 1 } }
    else if k = 1 then { th := { x with ph := .op i 2 }, touch := some (7, c, 0) }
    else if k = 2 then { th := { x with ph := .op i 3 }, touch := some (7, c + 1, x.rd) }
    else { th := { x with ph := nxt ops (i + 1) }, wake := some (c + 1, s) }
def doTh (ops : List BOp) (rounds : Nat) (cell : Nat → Int) (x : Th) : Do :=
  match x.ph with
  | .b0 => { th := { x with ph := .b1, rd := 1 } }
  | .b1 => { th := { x with ph := .less } }
  | .less => { th := { x with ph := if x.rd < rounds + 1 then .came else .halt } }
  | .halt => { th := { x with ph := .fin } }
  | .came => { th := { x with ph := nxt ops 0 }, say := some 1 }
  | .op i k => doOp ops cell x i k (ops.getD i default)
  | .gone => { th := { x with ph := .plus }, say := some 2 }
  | .plus => { th := { x with ph := .jump, rd := x.rd + 1 } }
  | .jump => { th := { x with ph := .less } }
  | .fin => { th := x }

/-- At which cell who sleeps there sleeps. -/
def napOp : BOp → Nat → Option Nat
  | .await c, k => if k = 4 then some c else none
  | .meet c _ _, k => if k = 6 then some (c + 1) else none
  | .tell _ _, _ => none
  | .opn _ _, _ => none
def napCell (ops : List BOp) : Ph → Option Nat
  | .op i k => napOp (ops.getD i default) k
  | _ => none

structure BS where
  th : Nat → Th
  cell : Nat → Int

def wakeAll (ops : Nat → List BOp) (c : Nat) (th : Nat → Th) : Nat → Th := fun u => if napCell (ops u) (th u).ph = some c then { th u with slp := false } else th u
/-- A step of party t. -/
def stepS (ops : Nat → List BOp) (rounds : Nat) (t : Nat) (S : BS) : BS :=
  let d := doTh (ops t) rounds S.cell (S.th t)
  { th := upd (match d.wake with | some w => wakeAll ops w.1 S.th | none => S.th) t d.th,
    cell := match d.touch with | some q => upd S.cell q.2.1 q.2.2 | none => S.cell }

def inRound : Ph → Bool
  | .came => true
  | .op _ _ => true
  | .gone => true
  | .plus => true
  | _ => false

structure SimT (ops : List BOp) (rounds : Nat) (x : Th) (pc : Int) (fin : Bool) (regs : List Int) : Prop where
  pc : pc = pcOf ops x.ph
  fin : fin = decide (x.ph = .fin)
  len : regs.length = 8
  ok : okPh ops x.ph
  r0 : x.ph = .b0 ∨ regs.getD 0 0 = x.rd
  r7 : x.ph = .b0 ∨ x.ph = .b1 ∨ regs.getD 7 0 = (rounds : Int) + 1
  r1 : regs.getD 1 0 = x.r1
  r2 : ∀ i k c s, x.ph = .op i k → ops.getD i default = .opn c s → 1 ≤ k → regs.getD 2 0 = 0
  rd : x.rd ≤ rounds + 1 ∧ (inRound x.ph = true → x.rd ≤ rounds)
  nap : x.slp = true → ∃ c, napCell ops x.ph = some c

/-- The lot is who sleeps. -/
structure LotOK (ops : Nat → List BOp) (n : Nat) (th : Nat → Th) (lot : List (Int × Int)) : Prop where
  sound : ∀ s ∈ lot, ∃ t c : Nat, s = ((t : Int), (c : Int)) ∧ t < n ∧ (th t).slp = true ∧ napCell (ops t) (th t).ph = some c
  all : ∀ t c, t < n → (th t).slp = true → napCell (ops t) (th t).ph = some c → ((t : Int), (c : Int)) ∈ lot
  once : lot.Pairwise fun a b => a.1 ≠ b.1

/-- Pieces that may be. -/
def WFop (nc m : Nat) : BOp → Prop
  | .tell c _ => c < nc
  | .await c => c < nc
  | .meet c s d => c + 1 < nc ∧ 1 ≤ s ∧ s ≤ 16 ∧ d ≤ m
  | .opn c _ => c + 1 < nc
def WF (nc : Nat) (ops : List BOp) : Prop := ∀ i, i < ops.length → WFop nc ops.length (ops.getD i default)

structure Sim (ops : Nat → List BOp) (n nc rounds : Nat) (S : BS) (m : Mach) : Prop where
  progs : m.progs = (List.range n).map fun t => barP rounds (ops t)
  la : m.at_.length = n
  le : m.ended.length = n
  lr : m.regs.length = n
  lc : m.cells.length = nc
  th : ∀ t, t < n → SimT (ops t) rounds (S.th t) (m.at_.getD t 0) (m.ended.getD t false) (m.regs.getD t [])
  cell : ∀ c, c < nc → m.cells.getD c 0 = S.cell c
  lot : LotOK ops n S.th m.lot

theorem set_getD_selfK {α : Type} (l : List α) (t : Nat) (d : α) : l.set t (l.getD t d) = l := by
  rcases Nat.lt_or_ge t l.length with h | h
  · rw [List.getD_eq_getElem?_getD, List.getElem?_eq_getElem h]
    simp
  · rw [List.set_eq_of_length_le h]
theorem getD_set_eq' {α : Type} (l : List α) (k : Nat) (v d : α) (h : k < l.length) : (l.set k v).getD k d = v := by
  rw [List.getD_eq_getElem?_getD, List.getElem?_set_self h]
  rfl
theorem getD_set_ne' {α : Type} (l : List α) (k j : Nat) (v d : α) (h : k ≠ j) : (l.set k v).getD j d = l.getD j d := by
  rw [List.getD_eq_getElem?_getD, List.getD_eq_getElem?_getD, List.getElem?_set_ne h]

section
variable {ops : Nat → List BOp} {n nc rounds : Nat} {S : BS} {m m' : Mach} {t : Nat}

theorem Sim.prog (h : Sim ops n nc rounds S m) (ht : t < n) : m.progs.getD t [] = barP rounds (ops t) := by
  rw [h.progs, List.getD_eq_getElem?_getD, List.getElem?_map, List.getElem?_range ht]
  rfl
theorem Sim.plen (h : Sim ops n nc rounds S m) : m.progs.length = n := by rw [h.progs]; simp

/-- One party moved. -/
theorem Sim.put (h : Sim ops n nc rounds S m) (ht : t < n) {x : Th} {pc : Int} {f : Bool} {regs : List Int} {cell : Nat → Int} {th : Nat → Th} (hp : m'.progs = m.progs) (ha : m'.at_ = m.at_.set t pc) (he : m'.ended = m.ended.set t f) (hr : m'.regs = m.regs.set t regs)
    (hx : SimT (ops t) rounds x pc f regs) (hl : m'.cells.length = nc) (hc : ∀ c, c < nc → m'.cells.getD c 0 = cell c) (hth : ∀ u, u < n → u ≠ t → SimT (ops u) rounds (th u) (m.at_.getD u 0) (m.ended.getD u false) (m.regs.getD u [])) (hlot : LotOK ops n (upd th t x) m'.lot) : Sim ops n nc rounds ⟨upd th t x, cell⟩ m' := by
  refine ⟨hp.trans h.progs, by rw [ha]; simp [h.la], by rw [he]; simp [h.le], by rw [hr]; simp [h.lr], hl, fun u hu => ?_, hc, hlot⟩
  by_cases e : u = t
  · subst e
    rw [ha, he, hr, getD_set_eq' _ _ _ _ (by rw [h.la]; exact hu), getD_set_eq' _ _ _ _ (by rw [h.le]; exact hu), getD_set_eq' _ _ _ _ (by rw [h.lr]; exact hu)]
    show SimT _ _ (upd th u x u) _ _ _
    rw [upd_same]
    exact hx
  · rw [ha, he, hr, getD_set_ne' _ _ _ _ _ (Ne.symm e), getD_set_ne' _ _ _ _ _ (Ne.symm e), getD_set_ne' _ _ _ _ _ (Ne.symm e)]
    show SimT _ _ (upd th t x u) _ _ _
    rw [upd_ne _ _ e]
    exact hth u hu e

theorem lot_same {th : Nat → Th} {lot : List (Int × Int)} (h : LotOK ops n th lot) (hs : (th t).slp = false) {x : Th} (hx : x.slp = false) : LotOK ops n (upd th t x) lot := by
  refine ⟨fun s hm => ?_, fun u c hu h1 h2 => ?_, h.once⟩
  · obtain ⟨u, c, e, hu, h1, h2⟩ := h.sound s hm
    have hne : u ≠ t := fun e => by subst e; rw [hs] at h1; cases h1
    exact ⟨u, c, e, hu, by rw [upd_ne _ _ hne]; exact h1, by rw [upd_ne _ _ hne]; exact h2⟩
  · by_cases e : u = t
    · subst e
      rw [upd_same, hx] at h1
      cases h1
    · rw [upd_ne _ _ e] at h1 h2
      exact h.all u c hu h1 h2
end
end Go.Proofs.YtkhaeabbbhfloaaDoor

namespace Go.Proofs.YtkhaeabbbhfloaaDoor
set_option maxRecDepth 100000
set_option linter.unusedVariables false
set_option linter.unusedSimpArgs false

section
variable {ops : Nat → List BOp} {n nc rounds : Nat} {S : BS} {m m' : Mach} {t : Nat}

theorem opLen_pos (o : BOp) : 0 < opLen o := by cases o <;> exact Nat.succ_pos _
/-- Nothing but the party's own changed. -/
theorem Sim.calm (h : Sim ops n nc rounds S m) (ht : t < n) (hs : (S.th t).slp = false) {x : Th} {pc : Int} {f : Bool} {regs : List Int} (hxs : x.slp = false) (hp : m'.progs = m.progs) (ha : m'.at_ = m.at_.set t pc) (he : m'.ended = m.ended.set t f) (hr : m'.regs = m.regs.set t regs)
    (hc : m'.cells = m.cells) (hl : m'.lot = m.lot) (hx : SimT (ops t) rounds x pc f regs) : Sim ops n nc rounds ⟨upd S.th t x, S.cell⟩ m' :=
  h.put ht hp ha he hr hx (by rw [hc]; exact h.lc) (fun c hc' => by rw [hc]; exact h.cell c hc') (fun u hu _ => h.th u hu) (by rw [hl]; exact lot_same h.lot hs hxs)
/-- A cell changed, too. -/
theorem Sim.touch (h : Sim ops n nc rounds S m) (ht : t < n) (hs : (S.th t).slp = false) {x : Th} {pc : Int} {f : Bool} {regs : List Int} {c : Nat} {v : Int} (hxs : x.slp = false) (hcn : c < nc) (hp : m'.progs = m.progs) (ha : m'.at_ = m.at_.set t pc) (he : m'.ended = m.ended.set t f) (hr : m'.regs = m.regs.set t regs)
    (hc : m'.cells = m.cells.set c v) (hl : m'.lot = m.lot) (hx : SimT (ops t) rounds x pc f regs) : Sim ops n nc rounds ⟨upd S.th t x, upd S.cell c v⟩ m' :=
  h.put ht hp ha he hr hx (by rw [hc]; simp [h.lc]) (fun d hd => by
    rw [hc]
    by_cases e : d = c
    · subst e
      rw [upd_same, getD_set_eq' _ _ _ _ (by rw [h.lc]; exact hd)]
    · rw [upd_ne _ _ e, getD_set_ne' _ _ _ _ _ (Ne.symm e)]
      exact h.cell d hd) (fun u hu _ => h.th u hu) (by rw [hl]; exact lot_same h.lot hs hxs)

/-- What a step comes to, and what is told of it. -/
def Stepped (ops : Nat → List BOp) (n nc rounds : Nat) (S : BS) (m : Mach) (t : Nat) (m' : Mach) : Prop :=
  Sim ops n nc rounds (stepS ops rounds t S) m' ∧ m'.steps = m.steps + 1 ∧
  m'.events = m.events ++ (match (doTh (ops t) rounds S.cell (S.th t)).say with | some w => [((m.steps : Int) + 1, (w : Int), (t : Int), ((S.th t).rd : Int))] | none => []) ∧
  m'.acts = m.acts ++ (match (doTh (ops t) rounds S.cell (S.th t)).touch with | some q => [((m.steps : Int) + 1, (t : Int), (q.1 : Int), (q.2.1 : Int), S.cell q.2.1, q.2.2)] | none => [])

end
end Go.Proofs.YtkhaeabbbhfloaaDoor

namespace Go.Proofs.YtkhaeabbbhfloaaDoor
set_option maxRecDepth 100000
set_option linter.unusedVariables false
set_option linter.unusedSimpArgs false

section
variable {ops : Nat → List BOp} {n nc rounds : Nat} {S : BS} {m m' : Mach} {t : Nat}

theorem nxt_ok (l : List BOp) (i : Nat) : okPh l (nxt l i) := by
  unfold nxt
  split
  · exact ⟨by assumption, opLen_pos _⟩
  · trivial
theorem SimT.go {l : List BOp} {x : Th} {pc : Int} {R R' : List Int} {f : Bool} (hT : SimT l rounds x pc f R) (hin : inRound x.ph = true) {ph : Ph} (hph : inRound ph = true) (hok : okPh l ph) {r1 : Int} (hl : R'.length = 8) (h0 : R'.getD 0 0 = R.getD 0 0) (h7 : R'.getD 7 0 = R.getD 7 0) (h1 : R'.getD 1 0 = r1)
    (h2 : ∀ i k c s, ph = .op i k → l.getD i default = .opn c s → 1 ≤ k → R'.getD 2 0 = 0) : SimT l rounds ⟨ph, x.rd, r1, false⟩ (pcOf l ph) f R' := by
  have e0 := hT.r0.resolve_left (fun h => by rw [h] at hin; cases hin)
  have e7 := (hT.r7.resolve_left (fun h => by rw [h] at hin; cases hin)).resolve_left (fun h => by rw [h] at hin; cases hin)
  have hf : f = false := by rw [hT.fin]; exact decide_eq_false (fun h => by rw [h] at hin; cases hin)
  refine ⟨rfl, ?_, hl, hok, .inr (h0.trans e0), .inr (.inr (h7.trans e7)), h1, h2, ⟨hT.rd.1, fun _ => hT.rd.2 hin⟩, fun h => by cases h⟩
  rw [hf]
  exact (decide_eq_false (fun h => by dsimp only at h; rw [h] at hph; cases hph)).symm
theorem SimT.awake {l : List BOp} {x : Th} {pc : Int} {R : List Int} {f : Bool} (hT : SimT l rounds x pc f R) : SimT l rounds { x with slp := false } pc f R :=
  ⟨hT.pc, hT.fin, hT.len, hT.ok, hT.r0, hT.r7, hT.r1, hT.r2, hT.rd, fun h => by cases h⟩

end
end Go.Proofs.YtkhaeabbbhfloaaDoor

namespace Go.Proofs.YtkhaeabbbhfloaaDoor
set_option maxRecDepth 100000
set_option linter.unusedVariables false
set_option linter.unusedSimpArgs false

section
variable {ops : Nat → List BOp} {n nc rounds : Nat} {S : BS} {m m' : Mach} {t : Nat}

/-- Whether a step that wakes somebody wakes all who sleep there. -/
def WakesAll (ops : Nat → List BOp) (rounds : Nat) (S : BS) (m : Mach) (t : Nat) : Prop := ∀ c s, (doTh (ops t) rounds S.cell (S.th t)).wake = some (c, s) → (m.lot.filter fun z => z.2 == (c : Int)).length ≤ s

end
end Go.Proofs.YtkhaeabbbhfloaaDoor
