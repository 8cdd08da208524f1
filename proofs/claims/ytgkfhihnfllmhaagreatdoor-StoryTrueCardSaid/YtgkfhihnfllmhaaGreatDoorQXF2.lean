/-
  Barriers as programs of pieces: where a party is, what its step comes to (plain), and that the machine does it.
-/
import Derived.Test.YtgkfhihnfllmhaaGreatDoorQXF
namespace Go.Proofs.YtgkfhihnfllmhaaGreatDoor
set_option maxRecDepth 100000

/-- What a party does in a round, in pieces. -/
inductive BOp where
  | tell (c k : Nat)
  | await (c : Nat)
  | meet (c s d : Nat)
  | opn (c s : Nat)
deriving DecidableEq, Inhabited

def opLen : BOp → Nat
  | .tell _ _ => 2
  | .await _ => 5
  | .meet _ _ _ => 8
  | .opn _ _ => 4
def offs (ops : List BOp) (i : Nat) : Nat := ((ops.take i).map opLen).sum
def awaitI (p c : Int) : List Ins5 := [(6, 1, c, 0, 0), (12, 1, 0, p + 3, 0), (10, p + 5, 0, 0, 0), (14, c, 1, 0, 0), (10, p, 0, 0, 0)]
def tellI (c k : Int) : List Ins5 := [(7, c, 0, -1, 0), (15, c, k, -1, 0)]
/-- A piece at the place p. -/
def compOp (ops : List BOp) (p : Int) : BOp → List Ins5
  | .tell c k => tellI c k
  | .await c => awaitI p c
  | .meet c s d => [(8, 1, (c : Int), 1, 0), (11, 1, (s : Int) - 1, p + 8, 0)] ++ awaitI (p + 2) ((c : Int) + 1) ++ [(10, 5 + (offs ops d : Int), 0, 0, 0)]
  | .opn c s => [(1, 2, 0, 0, 0), (7, (c : Int), 2, -1, 0)] ++ tellI ((c : Int) + 1) s
def bodyTo (ops : List BOp) (i : Nat) : List Ins5 := (List.range i).flatMap fun j => compOp ops (5 + (offs ops j : Int)) (ops.getD j default)
def bodyI (ops : List BOp) : List Ins5 := bodyTo ops ops.length
/-- A party's program. -/
def barP (rounds : Nat) (ops : List BOp) : List Ins5 := [(1, 0, 1, 0, 0), (1, 7, (rounds : Int) + 1, 0, 0), (12, 0, 7, 4, 0), (0, 0, 0, 0, 0), (16, 1, 0, 0, 0)] ++ bodyI ops ++ [(16, 2, 0, 0, 0), (3, 0, 0, 1, 0), (10, 2, 0, 0, 0)]

theorem compOp_len (ops : List BOp) (p : Int) (o : BOp) : (compOp ops p o).length = opLen o := by cases o <;> rfl
theorem offs_succ (ops : List BOp) (i : Nat) (h : i < ops.length) : offs ops (i + 1) = offs ops i + opLen (ops.getD i default) := by
  unfold offs
  rw [List.take_add_one, List.map_append, List.sum_append, List.getElem?_eq_getElem h, List.getD_eq_getElem?_getD, List.getElem?_eq_getElem h]
  simp
theorem bodyTo_len (ops : List BOp) : ∀ i, i ≤ ops.length → (bodyTo ops i).length = offs ops i
  | 0, _ => rfl
  | i + 1, h => by
    unfold bodyTo
    rw [List.range_succ, List.flatMap_append, List.length_append, offs_succ ops i (by omega)]
    have := bodyTo_len ops i (by omega)
    unfold bodyTo at this
    rw [this]
    simp [compOp_len]
theorem bodyTo_at (ops : List BOp) (i : Nat) : ∀ j, i < j → ∃ r, bodyTo ops j = bodyTo ops i ++ compOp ops (5 + (offs ops i : Int)) (ops.getD i default) ++ r := by
  intro j hj
  obtain ⟨d, rfl⟩ : ∃ d, j = i + 1 + d := ⟨j - (i + 1), by omega⟩
  induction d with
  | zero => exact ⟨[], by unfold bodyTo; rw [List.range_succ, List.flatMap_append]; simp⟩
  | succ d ih =>
    obtain ⟨r, hr⟩ := ih (by omega)
    refine ⟨r ++ compOp ops (5 + (offs ops (i + 1 + d) : Int)) (ops.getD (i + 1 + d) default), ?_⟩
    unfold bodyTo at hr ⊢
    rw [show i + 1 + (d + 1) = i + 1 + d + 1 by omega, List.range_succ, List.flatMap_append, hr]
    simp

/-- Where in its program a party is. -/
inductive Ph where
  | b0 | b1 | less | halt | came
  | op (i k : Nat)
  | gone | plus | jump | fin
deriving DecidableEq

def pcOf (ops : List BOp) : Ph → Nat
  | .b0 => 0
  | .b1 => 1
  | .less => 2
  | .halt => 3
  | .came => 4
  | .op i k => 5 + offs ops i + k
  | .gone => 5 + offs ops ops.length
  | .plus => 6 + offs ops ops.length
  | .jump => 7 + offs ops ops.length
  | .fin => 3
/-- Piece i, or what is behind all pieces. -/
def nxt (ops : List BOp) (i : Nat) : Ph := if i < ops.length then .op i 0 else .gone
theorem pcOf_nxt (ops : List BOp) (i : Nat) (h : i ≤ ops.length) : pcOf ops (nxt ops i) = 5 + offs ops i := by
  unfold nxt
  split
  · rfl
  · rw [show i = ops.length by omega]
    rfl
def okPh (ops : List BOp) : Ph → Prop
  | .op i k => i < ops.length ∧ k < opLen (ops.getD i default)
  | _ => True

theorem bar_op (r : Nat) (ops : List BOp) (i k : Nat) (hi : i < ops.length) (hk : k < opLen (ops.getD i default)) : (barP r ops).getD (5 + offs ops i + k) default = (compOp ops (5 + (offs ops i : Int)) (ops.getD i default)).getD k default := by
  obtain ⟨q, hq⟩ := bodyTo_at ops i ops.length hi
  have hl := bodyTo_len ops i (by omega)
  have hc := compOp_len ops (5 + (offs ops i : Int)) (ops.getD i default)
  unfold barP bodyI
  rw [hq]
  generalize compOp ops (5 + (offs ops i : Int)) (ops.getD i default) = C at *
  generalize opLen (ops.getD i default) = L at *
  rw [List.getD_eq_getElem?_getD, List.getD_eq_getElem?_getD]
  congr 1
  rw [List.getElem?_append_left (by simp [hl]; omega), List.getElem?_append_right (by simp; omega)]
  simp only [List.length_cons, List.length_nil]
  rw [List.getElem?_append_left (by simp [hl]; omega), List.getElem?_append_right (by omega)]
  congr 1
  omega
theorem bar_tail (r : Nat) (ops : List BOp) (k : Nat) : (barP r ops).getD (5 + offs ops ops.length + k) default = ([(16, 2, 0, 0, 0), (3, 0, 0, 1, 0), (10, 2, 0, 0, 0)] : List Ins5).getD k default := by
  have hl := bodyTo_len ops ops.length (Nat.le_refl _)
  unfold barP bodyI
  rw [List.getD_eq_getElem?_getD, List.getD_eq_getElem?_getD]
  congr 1
  rw [List.getElem?_append_right (by simp [hl]; omega)]
  congr 1
  simp [hl]
  omega
theorem bar_head (r : Nat) (ops : List BOp) (k : Nat) (hk : k < 5) : (barP r ops).getD k default = ([(1, 0, 1, 0, 0), (1, 7, (r : Int) + 1, 0, 0), (12, 0, 7, 4, 0), (0, 0, 0, 0, 0), (16, 1, 0, 0, 0)] : List Ins5).getD k default := by
  unfold barP
  rw [List.append_assoc, List.getD_eq_getElem?_getD, List.getD_eq_getElem?_getD, List.getElem?_append_left (by simpa using hk)]
end Go.Proofs.YtgkfhihnfllmhaaGreatDoor

namespace Go.Proofs.YtgkfhihnfllmhaaGreatDoor
set_option maxRecDepth 100000

/-- A party: where it is, in which round, what it read last, whether it sleeps. -/
structure Th where
  ph : Ph
  rd : Nat
  r1 : Int
  slp : Bool
def upd {α : Type} (f : Nat → α) (t : Nat) (x : α) : Nat → α := fun u => if u = t then x else f u
theorem upd_same {α : Type} (f : Nat → α) (t : Nat) (x : α) : upd f t x t = x := if_pos rfl
theorem upd_ne {α : Type} (f : Nat → α) {t u : Nat} (x : α) (h : u ≠ t) : upd f t x u = f u := if_neg h

/-- What a step of a party comes to: the party, what is done to a cell (op, cell, what it is then), whom it wakes, what it says. -/
structure Do where
  th : Th
  touch : Option (Nat × Nat × Int) := none
  wake : Option (Nat × Nat) := none
  say : Option Nat := none

def doAwait (cell : Nat → Int) (x : Th) (i k b c : Nat) (out : Ph) : Do :=
  if k = 0 then { th := { x with ph := .op i (b + 1), r1 := cell c }, touch := some (6, c, cell c) }
  else if k = 1 then { th := { x with ph := if x.r1 < x.rd then .op i (b + 3) else .op i (b + 2) } }
  else if k = 2 then { th := { x with ph := out } }
  else if k = 3 then { th := { x with ph := .op i (b + 4), slp := decide (cell c = x.r1) } }
  else { th := { x with ph := .op i b } }
def doOp (ops : List BOp) (cell : Nat → Int) (x : Th) (i k : Nat) : BOp → Do
  | .tell c s => if k = 0 then { th := { x with ph := .op i 1 }, touch := some (7, c, x.rd) } else { th := { x with ph := nxt ops (i + 1) }, wake := some (c, s) }
  | .await c => doAwait cell x i k 0 c (nxt ops (i + 1))
  | .meet c s d =>
    if k = 0 then { th := { x with ph := .op i 1, r1 := cell c }, touch := some (8, c, (cell c + 1) % m64) }
    else if k = 1 then { th := { x with ph := if x.r1 = ((s : Int) - 1) % m64 then nxt ops (i + 1) else .op i 2 } }
    else if k = 7 then { th := { x with ph := nxt ops d } }
    else doAwait cell x i (k - 2) 2 (c + 1) (.op i 7)
  | .opn c s =>
    if k = 0 then { th := { x with ph := .op i 1 } }
    else if k = 1 then { th := { x with ph := .op i 2 }, touch := some (7, c, 0) }
    else if k = 2 then { th := { x with ph := .op i 3 }, touch := some (7, c + 1, x.rd) }
    else { th := { x with ph := nxt ops (i + 1) }, wake := some (c + 1, s) }
def doTh (ops : List BOp) (rounds : Nat) (cell : Nat → Int) (x : Th) : Do :=
  match x.ph with
  | .b0 => { th := { x with ph := .b1, rd := 1 } }
  | .b1 => { th := { x with ph := .less } }
  | .less => { th := { x with ph := if x.rd < rounds + 1 then .came else .halt } }
  | .halt => { th := { x with ph := .fin } }
  | .came => { th := { x with ph := nxt ops 0 }, say := some 1 }
  | .op i k => doOp ops cell x i k (ops.getD i default)
  | .gone => { th := { x with ph := .plus }, say := some 2 }
  | .plus => { th := { x with ph := .jump, rd := x.rd + 1 } }
  | .jump => { th := { x with ph := .less } }
  | .fin => { th := x }

/-- At which cell who sleeps there sleeps. -/
def napOp : BOp → Nat → Option Nat
  | .await c, k => if k = 4 then some c else none
  | .meet c _ _, k => if k = 6 then some (c + 1) else none
  | .tell _ _, _ => none
  | .opn _ _, _ => none
def napCell (ops : List BOp) : Ph → Option Nat
  | .op i k => napOp (ops.getD i default) k
  | _ => none

structure BS where
  th : Nat → Th
  cell : Nat → Int

def wakeAll (ops : Nat → List BOp) (c : Nat) (th : Nat → Th) : Nat → Th := fun u => if napCell (ops u) (th u).ph = some c then { th u with slp := false } else th u
/-- A step of party t. -/
def stepS (ops : Nat → List BOp) (rounds : Nat) (t : Nat) (S : BS) : BS :=
  let d := doTh (ops t) rounds S.cell (S.th t)
  { th := upd (match d.wake with | some w => wakeAll ops w.1 S.th | none => S.th) t d.th,
    cell := match d.touch with | some q => upd S.cell q.2.1 q.2.2 | none => S.cell }

def inRound : Ph → Bool
  | .came => true
  | .op _ _ => true
  | .gone => true
  | .plus => true
  | _ => false

structure SimT (ops : List BOp) (rounds : Nat) (x : Th) (pc : Int) (fin : Bool) (regs : List Int) : Prop where
  pc : pc = pcOf ops x.ph
  fin : fin = decide (x.ph = .fin)
  len : regs.length = 8
  ok : okPh ops x.ph
  r0 : x.ph = .b0 ∨ regs.getD 0 0 = x.rd
  r7 : x.ph = .b0 ∨ x.ph = .b1 ∨ regs.getD 7 0 = (rounds : Int) + 1
  r1 : regs.getD 1 0 = x.r1
  r2 : ∀ i k c s, x.ph = .op i k → ops.getD i default = .opn c s → 1 ≤ k → regs.getD 2 0 = 0
  rd : x.rd ≤ rounds + 1 ∧ (inRound x.ph = true → x.rd ≤ rounds)
  nap : x.slp = true → ∃ c, napCell ops x.ph = some c

/-- The lot is who sleeps. -/
structure LotOK (ops : Nat → List BOp) (n : Nat) (th : Nat → Th) (lot : List (Int × Int)) : Prop where
  sound : ∀ s ∈ lot, ∃ t c : Nat, s = ((t : Int), (c : Int)) ∧ t < n ∧ (th t).slp = true ∧ napCell (ops t) (th t).ph = some c
  all : ∀ t c, t < n → (th t).slp = true → napCell (ops t) (th t).ph = some c → ((t : Int), (c : Int)) ∈ lot
  once : lot.Pairwise fun a b => a.1 ≠ b.1

/-- Pieces that may be. -/
def WFop (nc m : Nat) : BOp → Prop
  | .tell c _ => c < nc
  | .await c => c < nc
  | .meet c s d => c + 1 < nc ∧ 1 ≤ s ∧ s ≤ 16 ∧ d ≤ m
  | .opn c _ => c + 1 < nc
def WF (nc : Nat) (ops : List BOp) : Prop := ∀ i, i < ops.length → WFop nc ops.length (ops.getD i default)

structure Sim (ops : Nat → List BOp) (n nc rounds : Nat) (S : BS) (m : Mach) : Prop where
  progs : m.progs = (List.range n).map fun t => barP rounds (ops t)
  la : m.at_.length = n
  le : m.ended.length = n
  lr : m.regs.length = n
  lc : m.cells.length = nc
  th : ∀ t, t < n → SimT (ops t) rounds (S.th t) (m.at_.getD t 0) (m.ended.getD t false) (m.regs.getD t [])
  cell : ∀ c, c < nc → m.cells.getD c 0 = S.cell c
  lot : LotOK ops n S.th m.lot

theorem set_getD_selfK {α : Type} (l : List α) (t : Nat) (d : α) : l.set t (l.getD t d) = l := by
  rcases Nat.lt_or_ge t l.length with h | h
  · rw [List.getD_eq_getElem?_getD, List.getElem?_eq_getElem h]
    simp
  · rw [List.set_eq_of_length_le h]
theorem getD_set_eq' {α : Type} (l : List α) (k : Nat) (v d : α) (h : k < l.length) : (l.set k v).getD k d = v := by
  rw [List.getD_eq_getElem?_getD, List.getElem?_set_self h]
  rfl
theorem getD_set_ne' {α : Type} (l : List α) (k j : Nat) (v d : α) (h : k ≠ j) : (l.set k v).getD j d = l.getD j d := by
  rw [List.getD_eq_getElem?_getD, List.getD_eq_getElem?_getD, List.getElem?_set_ne h]

section
variable {ops : Nat → List BOp} {n nc rounds : Nat} {S : BS} {m m' : Mach} {t : Nat}

theorem Sim.prog (h : Sim ops n nc rounds S m) (ht : t < n) : m.progs.getD t [] = barP rounds (ops t) := by
  rw [h.progs, List.getD_eq_getElem?_getD, List.getElem?_map, List.getElem?_range ht]
  rfl
theorem Sim.plen (h : Sim ops n nc rounds S m) : m.progs.length = n := by rw [h.progs]; simp

/-- One party moved. -/
theorem Sim.put (h : Sim ops n nc rounds S m) (ht : t < n) {x : Th} {pc : Int} {f : Bool} {regs : List Int} {cell : Nat → Int} {th : Nat → Th} (hp : m'.progs = m.progs) (ha : m'.at_ = m.at_.set t pc) (he : m'.ended = m.ended.set t f) (hr : m'.regs = m.regs.set t regs)
    (hx : SimT (ops t) rounds x pc f regs) (hl : m'.cells.length = nc) (hc : ∀ c, c < nc → m'.cells.getD c 0 = cell c) (hth : ∀ u, u < n → u ≠ t → SimT (ops u) rounds (th u) (m.at_.getD u 0) (m.ended.getD u false) (m.regs.getD u [])) (hlot : LotOK ops n (upd th t x) m'.lot) : Sim ops n nc rounds ⟨upd th t x, cell⟩ m' := by
  refine ⟨hp.trans h.progs, by rw [ha]; simp [h.la], by rw [he]; simp [h.le], by rw [hr]; simp [h.lr], hl, fun u hu => ?_, hc, hlot⟩
  by_cases e : u = t
  · subst e
    rw [ha, he, hr, getD_set_eq' _ _ _ _ (by rw [h.la]; exact hu), getD_set_eq' _ _ _ _ (by rw [h.le]; exact hu), getD_set_eq' _ _ _ _ (by rw [h.lr]; exact hu)]
    show SimT _ _ (upd th u x u) _ _ _
    rw [upd_same]
    exact hx
  · rw [ha, he, hr, getD_set_ne' _ _ _ _ _ (Ne.symm e), getD_set_ne' _ _ _ _ _ (Ne.symm e), getD_set_ne' _ _ _ _ _ (Ne.symm e)]
    show SimT _ _ (upd th t x u) _ _ _
    rw [upd_ne _ _ e]
    exact hth u hu e

theorem lot_same {th : Nat → Th} {lot : List (Int × Int)} (h : LotOK ops n th lot) (hs : (th t).slp = false) {x : Th} (hx : x.slp = false) : LotOK ops n (upd th t x) lot := by
  refine ⟨fun s hm => ?_, fun u c hu h1 h2 => ?_, h.once⟩
  · obtain ⟨u, c, e, hu, h1, h2⟩ := h.sound s hm
    have hne : u ≠ t := fun e => by subst e; rw [hs] at h1; cases h1
    exact ⟨u, c, e, hu, by rw [upd_ne _ _ hne]; exact h1, by rw [upd_ne _ _ hne]; exact h2⟩
  · by_cases e : u = t
    · subst e
      rw [upd_same, hx] at h1
      cases h1
    · rw [upd_ne _ _ e] at h1 h2
      exact h.all u c hu h1 h2
theorem lot_sleep {th : Nat → Th} {lot : List (Int × Int)} (h : LotOK ops n th lot) (ht : t < n) (hs : (th t).slp = false) {x : Th} {c : Nat} (hx : x.slp = true) (hn : napCell (ops t) x.ph = some c) : LotOK ops n (upd th t x) (lot ++ [((t : Int), (c : Int))]) := by
  refine ⟨fun s hm => ?_, fun u d hu h1 h2 => ?_, ?_⟩
  · rcases List.mem_append.1 hm with hm | hm
    · obtain ⟨u, d, e, hu, h1, h2⟩ := h.sound s hm
      have hne : u ≠ t := fun e => by subst e; rw [hs] at h1; cases h1
      exact ⟨u, d, e, hu, by rw [upd_ne _ _ hne]; exact h1, by rw [upd_ne _ _ hne]; exact h2⟩
    · rw [List.mem_singleton] at hm
      exact ⟨t, c, hm, ht, by rw [upd_same]; exact hx, by rw [upd_same]; exact hn⟩
  · by_cases e : u = t
    · subst e
      rw [upd_same, hn] at h2
      injection h2 with h2
      subst h2
      exact List.mem_append_right _ (List.mem_singleton_self _)
    · rw [upd_ne _ _ e] at h1 h2
      exact List.mem_append_left _ (h.all u d hu h1 h2)
  · refine List.pairwise_append.2 ⟨h.once, List.pairwise_singleton _ _, fun a ha b hb => ?_⟩
    obtain ⟨u, d, e, hu, h1, h2⟩ := h.sound a ha
    rw [List.mem_singleton] at hb
    rw [e, hb]
    intro h3
    have h4 : (u : Int) = t := h3
    have : u = t := by exact_mod_cast h4
    subst this
    rw [hs] at h1
    cases h1
theorem lot_wake {th : Nat → Th} {lot : List (Int × Int)} (h : LotOK ops n th lot) (c : Nat) : LotOK ops n (wakeAll ops c th) (lot.filter fun s => s.2 != (c : Int)) := by
  refine ⟨fun s hm => ?_, fun u d hu h1 h2 => ?_, h.once.filter _⟩
  · obtain ⟨hm, hc⟩ := List.mem_filter.1 hm
    obtain ⟨u, d, e, hu, h1, h2⟩ := h.sound s hm
    have hne : ¬ napCell (ops u) (th u).ph = some c := fun h3 => by
      rw [h2] at h3
      injection h3 with h3
      subst h3
      rw [e] at hc
      simp at hc
    exact ⟨u, d, e, hu, by unfold wakeAll; rw [if_neg hne]; exact h1, by unfold wakeAll; rw [if_neg hne]; exact h2⟩
  · unfold wakeAll at h1 h2
    split at h1
    · cases h1
    · rename_i hne
      rw [if_neg hne] at h2
      refine List.mem_filter.2 ⟨h.all u d hu h1 h2, ?_⟩
      rw [h2] at hne
      simp only [Option.some.injEq] at hne
      simp only [bne_iff_ne, ne_eq]
      intro e
      exact hne (by exact_mod_cast e)
theorem wakeL_all (c : Int) : ∀ (l : List (Int × Int)) (k : Nat), (l.filter fun s => s.2 == c).length ≤ k → wakeL l c k = l.filter fun s => s.2 != c
  | [], k, _ => by simp [wakeL]
  | s :: l, 0, h => by
    have h0 : (s :: l).filter (fun s => s.2 == c) = [] := List.eq_nil_of_length_eq_zero (by omega)
    rw [List.filter_eq_nil_iff] at h0
    unfold wakeL
    symm
    rw [List.filter_eq_self]
    intro a ha
    have := h0 a ha
    simpa using this
  | s :: l, k + 1, h => by
    unfold wakeL
    by_cases hs : s.2 = c
    · rw [if_pos hs, List.filter_cons_of_neg (by simp [hs])]
      rw [List.filter_cons_of_pos (by simp [hs]), List.length_cons] at h
      exact wakeL_all c l k (by omega)
    · rw [if_neg hs, List.filter_cons_of_pos (by simp [hs])]
      rw [List.filter_cons_of_neg (by simp [hs])] at h
      rw [wakeL_all c l (k + 1) h]
end
end Go.Proofs.YtgkfhihnfllmhaaGreatDoor

namespace Go.Proofs.YtgkfhihnfllmhaaGreatDoor
set_option maxRecDepth 100000
set_option linter.unusedVariables false
set_option linter.unusedSimpArgs false

section
variable {ops : Nat → List BOp} {n nc rounds : Nat} {S : BS} {m m' : Mach} {t : Nat}

theorem opLen_pos (o : BOp) : 0 < opLen o := by cases o <;> exact Nat.succ_pos _
/-- Nothing but the party's own changed. -/
theorem Sim.calm (h : Sim ops n nc rounds S m) (ht : t < n) (hs : (S.th t).slp = false) {x : Th} {pc : Int} {f : Bool} {regs : List Int} (hxs : x.slp = false) (hp : m'.progs = m.progs) (ha : m'.at_ = m.at_.set t pc) (he : m'.ended = m.ended.set t f) (hr : m'.regs = m.regs.set t regs)
    (hc : m'.cells = m.cells) (hl : m'.lot = m.lot) (hx : SimT (ops t) rounds x pc f regs) : Sim ops n nc rounds ⟨upd S.th t x, S.cell⟩ m' :=
  h.put ht hp ha he hr hx (by rw [hc]; exact h.lc) (fun c hc' => by rw [hc]; exact h.cell c hc') (fun u hu _ => h.th u hu) (by rw [hl]; exact lot_same h.lot hs hxs)
/-- A cell changed, too. -/
theorem Sim.touch (h : Sim ops n nc rounds S m) (ht : t < n) (hs : (S.th t).slp = false) {x : Th} {pc : Int} {f : Bool} {regs : List Int} {c : Nat} {v : Int} (hxs : x.slp = false) (hcn : c < nc) (hp : m'.progs = m.progs) (ha : m'.at_ = m.at_.set t pc) (he : m'.ended = m.ended.set t f) (hr : m'.regs = m.regs.set t regs)
    (hc : m'.cells = m.cells.set c v) (hl : m'.lot = m.lot) (hx : SimT (ops t) rounds x pc f regs) : Sim ops n nc rounds ⟨upd S.th t x, upd S.cell c v⟩ m' :=
  h.put ht hp ha he hr hx (by rw [hc]; simp [h.lc]) (fun d hd => by
    rw [hc]
    by_cases e : d = c
    · subst e
      rw [upd_same, getD_set_eq' _ _ _ _ (by rw [h.lc]; exact hd)]
    · rw [upd_ne _ _ e, getD_set_ne' _ _ _ _ _ (Ne.symm e)]
      exact h.cell d hd) (fun u hu _ => h.th u hu) (by rw [hl]; exact lot_same h.lot hs hxs)

/-- What a step comes to, and what is told of it. -/
def Stepped (ops : Nat → List BOp) (n nc rounds : Nat) (S : BS) (m : Mach) (t : Nat) (m' : Mach) : Prop :=
  Sim ops n nc rounds (stepS ops rounds t S) m' ∧ m'.steps = m.steps + 1 ∧
  m'.events = m.events ++ (match (doTh (ops t) rounds S.cell (S.th t)).say with | some w => [((m.steps : Int) + 1, (w : Int), (t : Int), ((S.th t).rd : Int))] | none => []) ∧
  m'.acts = m.acts ++ (match (doTh (ops t) rounds S.cell (S.th t)).touch with | some q => [((m.steps : Int) + 1, (t : Int), (q.1 : Int), (q.2.1 : Int), S.cell q.2.1, q.2.2)] | none => [])

theorem ins_at (h : Sim ops n nc rounds S m) (ht : t < n) : insOf m t = (barP rounds (ops t)).getD (pcOf (ops t) (S.th t).ph) default := by
  unfold insOf
  rw [h.prog ht, (h.th t ht).pc, Int.toNat_natCast]

theorem not_asleep_of (h : Sim ops n nc rounds S m) (hs : (S.th t).slp = false) : asleepM m t = false := by
  unfold asleepM
  rw [List.any_eq_false]
  intro s hm
  obtain ⟨u, c, e, hu, h1, h2⟩ := h.lot.sound s hm
  rw [e]
  intro h3
  have h4 : (u : Int) = t := by simpa using h3
  have : u = t := by exact_mod_cast h4
  subst this
  rw [hs] at h1
  cases h1

theorem sim_does (h : Sim ops n nc rounds S m) (ht : t < n) (hs : (S.th t).slp = false) (hf : (S.th t).ph ≠ .fin) (hst : m.steps < 20000) {e : Eff} {I : Ins5} (hi : insOf m t = I) (he : eff I (m.regs.getD t []) m.cells = e) : (stepM 20000 m t).2 = doEff m t I.1 e := by
  rw [← hi]
  refine stepM_does (by rw [h.plen]; exact ht) ?_ (not_asleep_of h hs) hst ?_
  · rw [(h.th t ht).fin]
    exact decide_eq_false hf
  · unfold effAt
    rw [hi, he]

theorem reg_set0 {l : List Int} (h : l.length = 8) (r : Nat) (hr : r < 8) (v : Int) (j : Nat) : (l.set r v).getD j 0 = if j = r then v else l.getD j 0 := by
  by_cases e : j = r
  · rw [if_pos e, e, getD_set_eq' _ _ _ _ (by omega)]
  · rw [if_neg e, getD_set_ne' _ _ _ _ _ (Ne.symm e)]

/-- Ahead of the pieces, and behind them. -/
theorem sim_frame (h : Sim ops n nc rounds S m) (ht : t < n) (hs : (S.th t).slp = false) (hst : m.steps < 20000) (hro : rounds ≤ 20) (hph : (S.th t).ph = .b0 ∨ (S.th t).ph = .b1 ∨ (S.th t).ph = .less ∨ (S.th t).ph = .halt ∨ (S.th t).ph = .came ∨ (S.th t).ph = .gone ∨ (S.th t).ph = .plus ∨ (S.th t).ph = .jump) :
    Stepped ops n nc rounds S m t (stepM 20000 m t).2 := by
  have hT := h.th t ht
  have hI := ins_at h ht
  obtain ⟨x, hx⟩ : ∃ x, S.th t = x := ⟨_, rfl⟩
  unfold Stepped stepS doTh
  rw [hx] at hT hI hs hph ⊢
  obtain ⟨ph, rd, r1, slp⟩ := x
  dsimp only at hs hph hI ⊢
  subst hs
  have hend : m.ended = m.ended.set t (m.ended.getD t false) := (set_getD_selfK _ _ _).symm
  have hreg : m.regs = m.regs.set t (m.regs.getD t []) := (set_getD_selfK _ _ _).symm
  have hpc := hT.pc
  have hfin := hT.fin
  have hlen := hT.len
  have e0 := hT.r0
  have e7 := hT.r7
  have e1 := hT.r1
  have hrd := hT.rd
  dsimp only at hpc hfin e0 e7 e1 hrd
  generalize hR : m.regs.getD t [] = R at *
  rcases hph with rfl | rfl | rfl | rfl | rfl | rfl | rfl | rfl
  · -- b0
    rw [show (pcOf (ops t) Ph.b0) = 0 from rfl, bar_head _ _ _ (by decide)] at hI
    have e := sim_does h ht (by rw [hx]) (by rw [hx]; simp) hst hI (e := .set 0 1) (by rw [hR]; rfl)
    rw [e]
    refine ⟨h.calm (x := ⟨.b1, 1, r1, false⟩) (pc := 1) (f := m.ended.getD t false) (regs := R.set 0 1) ht (by rw [hx]) rfl rfl (by show m.at_.set t (m.at_.getD t 0 + 1) = _; rw [hpc]; rfl) hend (by show m.regs.set t ((m.regs.getD t []).set 0 1) = _; rw [hR]) rfl rfl ?_, rfl, by simp [doEff], by simp [doEff]⟩
    refine ⟨rfl, by rw [hfin]; rfl, by simp [hlen], trivial, .inr ?_, .inr (.inl rfl), ?_, fun _ _ _ _ h => (by cases h), ⟨by dsimp only; omega, by intro h; cases h⟩, fun h => by cases h⟩
    · rw [reg_set0 hlen 0 (by decide)]; rfl
    · rw [reg_set0 hlen 0 (by decide)]; exact e1
  · -- b1
    rw [show (pcOf (ops t) Ph.b1) = 1 from rfl, bar_head _ _ _ (by decide)] at hI
    have e := sim_does h ht (by rw [hx]) (by rw [hx]; simp) hst hI (e := .set 7 (((rounds : Int) + 1) % m64)) (by rw [hR]; rfl)
    rw [e]
    refine ⟨h.calm (x := ⟨.less, rd, r1, false⟩) (pc := 2) (f := m.ended.getD t false) (regs := R.set 7 (((rounds : Int) + 1) % m64)) ht (by rw [hx]) rfl rfl (by show m.at_.set t (m.at_.getD t 0 + 1) = _; rw [hpc]; rfl) hend (by show m.regs.set t ((m.regs.getD t []).set 7 _) = _; rw [hR]) rfl rfl ?_, rfl, by simp [doEff], by simp [doEff]⟩
    refine ⟨rfl, by rw [hfin]; rfl, by simp [hlen], trivial, .inr ?_, .inr (.inr ?_), ?_, fun _ _ _ _ h => (by cases h), ⟨hrd.1, by intro h; cases h⟩, fun h => by cases h⟩
    · rw [reg_set0 hlen 7 (by decide)]; exact e0.resolve_left (by simp)
    · rw [reg_set0 hlen 7 (by decide)]; exact small_mod (by omega) (by omega)
    · rw [reg_set0 hlen 7 (by decide)]; exact e1
  · -- less
    rw [show (pcOf (ops t) Ph.less) = 2 from rfl, bar_head _ _ _ (by decide)] at hI
    have e0 := e0.resolve_left (by simp)
    have e7 := (e7.resolve_left (by simp)).resolve_left (by simp)
    by_cases hlt : rd < rounds + 1
    · have e := sim_does h ht (by rw [hx]) (by rw [hx]; simp) hst hI (e := .goto 4) (by
        rw [hR]
        show (if R.getD 0 0 < R.getD 7 0 then Eff.goto 4 else .next) = _
        rw [if_pos (by omega)])
      rw [e]
      refine ⟨by
        rw [if_pos hlt]
        exact h.calm (x := ⟨.came, rd, r1, false⟩) (pc := 4) (f := m.ended.getD t false) (regs := R) ht (by rw [hx]) rfl rfl rfl hend hreg rfl rfl ⟨rfl, by rw [hfin]; rfl, hlen, trivial, .inr e0, .inr (.inr e7), e1, fun _ _ _ _ h => (by cases h), ⟨hrd.1, by intro _; dsimp only; omega⟩, fun h => by cases h⟩, rfl, by simp [doEff], by simp [doEff]⟩
    · have e := sim_does h ht (by rw [hx]) (by rw [hx]; simp) hst hI (e := .next) (by
        rw [hR]
        show (if R.getD 0 0 < R.getD 7 0 then Eff.goto 4 else .next) = _
        rw [if_neg (by omega)])
      rw [e]
      refine ⟨by
        rw [if_neg hlt]
        exact h.calm (x := ⟨.halt, rd, r1, false⟩) (pc := 3) (f := m.ended.getD t false) (regs := R) ht (by rw [hx]) rfl rfl (by show m.at_.set t (m.at_.getD t 0 + 1) = _; rw [hpc]; rfl) hend hreg rfl rfl ⟨rfl, by rw [hfin]; rfl, hlen, trivial, .inr e0, .inr (.inr e7), e1, fun _ _ _ _ h => (by cases h), ⟨hrd.1, by intro h; cases h⟩, fun h => by cases h⟩, rfl, by simp [doEff], by simp [doEff]⟩
  · -- halt
    rw [show (pcOf (ops t) Ph.halt) = 3 from rfl, bar_head _ _ _ (by decide)] at hI
    have e := sim_does h ht (by rw [hx]) (by rw [hx]; simp) hst hI (e := .halt) (by rw [hR]; rfl)
    rw [e]
    refine ⟨h.calm (x := ⟨.fin, rd, r1, false⟩) (pc := m.at_.getD t 0) (f := true) (regs := R) ht (by rw [hx]) rfl rfl (set_getD_selfK _ _ _).symm rfl hreg rfl rfl ⟨by rw [hpc]; rfl, rfl, hlen, trivial, .inr (e0.resolve_left (by simp)), .inr (.inr ((e7.resolve_left (by simp)).resolve_left (by simp))), e1, fun _ _ _ _ h => (by cases h), ⟨hrd.1, by intro h; cases h⟩, fun h => by cases h⟩, rfl, by simp [doEff], by simp [doEff]⟩
  · -- came
    rw [show (pcOf (ops t) Ph.came) = 4 from rfl, bar_head _ _ _ (by decide)] at hI
    have e0 := e0.resolve_left (by simp)
    have e := sim_does h ht (by rw [hx]) (by rw [hx]; simp) hst hI (e := .say 1 rd) (by
      rw [hR]
      show Eff.say 1 (signed (R.getD 0 0)) = _
      rw [e0, small_signed (by have := hrd.1; omega)])
    rw [e]
    refine ⟨h.calm (x := ⟨nxt (ops t) 0, rd, r1, false⟩) (pc := 5) (f := m.ended.getD t false) (regs := R) ht (by rw [hx]) rfl rfl (by show m.at_.set t (m.at_.getD t 0 + 1) = _; rw [hpc]; rfl) hend hreg rfl rfl ?_, rfl, by simp [doEff], by simp [doEff]⟩
    have hn : nxt (ops t) 0 ≠ .fin ∧ (nxt (ops t) 0 = .gone ∨ ∃ i, nxt (ops t) 0 = .op i 0 ∧ i < (ops t).length) := by
      unfold nxt
      split
      · exact ⟨by simp, .inr ⟨0, rfl, by assumption⟩⟩
      · exact ⟨by simp, .inl rfl⟩
    refine ⟨by rw [pcOf_nxt _ _ (Nat.zero_le _)]; rfl, by rw [hfin]; simp [hn.1], hlen, ?_, .inr e0, .inr (.inr ((e7.resolve_left (by simp)).resolve_left (by simp))), e1, ?_, ⟨hrd.1, fun _ => hrd.2 rfl⟩, fun h => by cases h⟩
    · rcases hn.2 with e | ⟨i, e, hi⟩
      · dsimp only; rw [e]; trivial
      · dsimp only; rw [e]; exact ⟨hi, opLen_pos _⟩
    · intro i k c s h1 h2 h3
      rcases hn.2 with e | ⟨i', e, hi⟩
      · dsimp only at h1; rw [e] at h1; cases h1
      · dsimp only at h1; rw [e] at h1; injection h1 with _ h1; omega
  · -- gone
    rw [show (pcOf (ops t) Ph.gone) = 5 + offs (ops t) (ops t).length + 0 from rfl, bar_tail] at hI
    have e0 := e0.resolve_left (by simp)
    have e := sim_does h ht (by rw [hx]) (by rw [hx]; simp) hst hI (e := .say 2 rd) (by
      rw [hR]
      show Eff.say 2 (signed (R.getD 0 0)) = _
      rw [e0, small_signed (by have := hrd.1; omega)])
    rw [e]
    refine ⟨h.calm (x := ⟨.plus, rd, r1, false⟩) (pc := m.at_.getD t 0 + 1) (f := m.ended.getD t false) (regs := R) ht (by rw [hx]) rfl rfl rfl hend hreg rfl rfl ⟨by rw [hpc]; show ((5 + _ : Nat) : Int) + 1 = ((6 + _ : Nat) : Int); omega, by rw [hfin]; rfl, hlen, trivial, .inr e0, .inr (.inr ((e7.resolve_left (by simp)).resolve_left (by simp))), e1, fun _ _ _ _ h => (by cases h), ⟨hrd.1, fun _ => hrd.2 rfl⟩, fun h => by cases h⟩, rfl, by simp [doEff], by simp [doEff]⟩
  · -- plus
    rw [show (pcOf (ops t) Ph.plus) = 5 + offs (ops t) (ops t).length + 1 by show 6 + _ = _; omega, bar_tail] at hI
    have e0 := e0.resolve_left (by simp)
    have hr2 := hrd.2 rfl
    have e := sim_does h ht (by rw [hx]) (by rw [hx]; simp) hst hI (e := .set 0 ((rd : Int) + 1)) (by
      rw [hR]
      show Eff.set 0 ((R.getD 0 0 + 1) % m64) = _
      rw [e0, small_mod (by omega) (by omega)])
    rw [e]
    refine ⟨h.calm (x := ⟨.jump, rd + 1, r1, false⟩) (pc := m.at_.getD t 0 + 1) (f := m.ended.getD t false) (regs := R.set 0 ((rd : Int) + 1)) ht (by rw [hx]) rfl rfl rfl hend (by show m.regs.set t ((m.regs.getD t []).set 0 _) = _; rw [hR]) rfl rfl ?_, rfl, by simp [doEff], by simp [doEff]⟩
    refine ⟨by rw [hpc]; show ((6 + _ : Nat) : Int) + 1 = ((7 + _ : Nat) : Int); omega, by rw [hfin]; rfl, by simp [hlen], trivial, .inr ?_, .inr (.inr ?_), ?_, fun _ _ _ _ h => (by cases h), ⟨by dsimp only; omega, by intro h; cases h⟩, fun h => by cases h⟩
    · rw [reg_set0 hlen 0 (by decide)]; simp
    · rw [reg_set0 hlen 0 (by decide)]; exact (e7.resolve_left (by simp)).resolve_left (by simp)
    · rw [reg_set0 hlen 0 (by decide)]; exact e1
  · -- jump
    rw [show (pcOf (ops t) Ph.jump) = 5 + offs (ops t) (ops t).length + 2 by show 7 + _ = _; omega, bar_tail] at hI
    have e := sim_does h ht (by rw [hx]) (by rw [hx]; simp) hst hI (e := .goto 2) (by rw [hR]; rfl)
    rw [e]
    refine ⟨h.calm (x := ⟨.less, rd, r1, false⟩) (pc := 2) (f := m.ended.getD t false) (regs := R) ht (by rw [hx]) rfl rfl rfl hend hreg rfl rfl ⟨rfl, by rw [hfin]; rfl, hlen, trivial, .inr (e0.resolve_left (by simp)), .inr (.inr ((e7.resolve_left (by simp)).resolve_left (by simp))), e1, fun _ _ _ _ h => (by cases h), ⟨hrd.1, by intro h; cases h⟩, fun h => by cases h⟩, rfl, by simp [doEff], by simp [doEff]⟩
end
end Go.Proofs.YtgkfhihnfllmhaaGreatDoor

namespace Go.Proofs.YtgkfhihnfllmhaaGreatDoor
set_option maxRecDepth 100000
set_option linter.unusedVariables false
set_option linter.unusedSimpArgs false

section
variable {ops : Nat → List BOp} {n nc rounds : Nat} {S : BS} {m m' : Mach} {t : Nat}

theorem nxt_round (l : List BOp) (i : Nat) : inRound (nxt l i) = true := by unfold nxt; split <;> rfl
theorem nxt_ok (l : List BOp) (i : Nat) : okPh l (nxt l i) := by
  unfold nxt
  split
  · exact ⟨by assumption, opLen_pos _⟩
  · trivial
theorem nxt_r2 (l : List BOp) (j : Nat) {P : Prop} : ∀ i k c s, nxt l j = .op i k → l.getD i default = .opn c s → 1 ≤ k → P := by
  intro i k c s h _ h3
  unfold nxt at h
  split at h
  · injection h with _ h; omega
  · cases h
theorem SimT.go {l : List BOp} {x : Th} {pc : Int} {R R' : List Int} {f : Bool} (hT : SimT l rounds x pc f R) (hin : inRound x.ph = true) {ph : Ph} (hph : inRound ph = true) (hok : okPh l ph) {r1 : Int} (hl : R'.length = 8) (h0 : R'.getD 0 0 = R.getD 0 0) (h7 : R'.getD 7 0 = R.getD 7 0) (h1 : R'.getD 1 0 = r1)
    (h2 : ∀ i k c s, ph = .op i k → l.getD i default = .opn c s → 1 ≤ k → R'.getD 2 0 = 0) : SimT l rounds ⟨ph, x.rd, r1, false⟩ (pcOf l ph) f R' := by
  have e0 := hT.r0.resolve_left (fun h => by rw [h] at hin; cases hin)
  have e7 := (hT.r7.resolve_left (fun h => by rw [h] at hin; cases hin)).resolve_left (fun h => by rw [h] at hin; cases hin)
  have hf : f = false := by rw [hT.fin]; exact decide_eq_false (fun h => by rw [h] at hin; cases hin)
  refine ⟨rfl, ?_, hl, hok, .inr (h0.trans e0), .inr (.inr (h7.trans e7)), h1, h2, ⟨hT.rd.1, fun _ => hT.rd.2 hin⟩, fun h => by cases h⟩
  rw [hf]
  exact (decide_eq_false (fun h => by dsimp only at h; rw [h] at hph; cases hph)).symm
theorem SimT.awake {l : List BOp} {x : Th} {pc : Int} {R : List Int} {f : Bool} (hT : SimT l rounds x pc f R) : SimT l rounds { x with slp := false } pc f R :=
  ⟨hT.pc, hT.fin, hT.len, hT.ok, hT.r0, hT.r7, hT.r1, hT.r2, hT.rd, fun h => by cases h⟩

theorem pc_last {l : List BOp} {i k : Nat} (hi : i < l.length) (hk : k + 1 = opLen (l.getD i default)) : pcOf l (.op i k) + 1 = pcOf l (nxt l (i + 1)) := by
  rw [pcOf_nxt _ _ (by omega), offs_succ _ _ hi, ← hk]
  show 5 + offs l i + k + 1 = _
  omega

/-- Where a step goes on. -/
theorem op_frame (h : Sim ops n nc rounds S m) (ht : t < n) {i k : Nat} (hph : (S.th t).ph = .op i k) : i < (ops t).length ∧ k < opLen ((ops t).getD i default) ∧ insOf m t = (compOp (ops t) (5 + (offs (ops t) i : Int)) ((ops t).getD i default)).getD k default ∧ m.at_.getD t 0 = ((5 + offs (ops t) i + k : Nat) : Int) ∧ (m.regs.getD t []).getD 0 0 = (S.th t).rd ∧ (S.th t).rd ≤ rounds := by
  have hT := h.th t ht
  have hok := hT.ok
  rw [hph] at hok
  refine ⟨hok.1, hok.2, ?_, ?_, ?_, hT.rd.2 (by rw [hph]; rfl)⟩
  · rw [ins_at h ht, hph]
    exact bar_op rounds (ops t) i k hok.1 hok.2
  · rw [hT.pc, hph]
    rfl
  · exact hT.r0.resolve_left (by rw [hph]; simp)

/-- A step that changes the party alone. -/
theorem calm_step (h : Sim ops n nc rounds S m) (ht : t < n) (hs : (S.th t).slp = false) (hst : m.steps < 20000) {i k : Nat} (hph : (S.th t).ph = .op i k) {I : Ins5} (hI : insOf m t = I) {e : Eff} (he : eff I (m.regs.getD t []) m.cells = e) {ph : Ph} (hin : inRound ph = true) (hok : okPh (ops t) ph)
    (hd : doTh (ops t) rounds S.cell (S.th t) = { th := ⟨ph, (S.th t).rd, (S.th t).r1, false⟩ })
    (hee : (e = .goto (pcOf (ops t) ph : Int) ∧ ∀ i k c s, ph = .op i k → (ops t).getD i default = .opn c s → 1 ≤ k → (m.regs.getD t []).getD 2 0 = 0) ∨ (e = .next ∧ (pcOf (ops t) ph : Int) = m.at_.getD t 0 + 1 ∧ ∀ i k c s, ph = .op i k → (ops t).getD i default = .opn c s → 1 ≤ k → (m.regs.getD t []).getD 2 0 = 0) ∨ (e = .set 2 0 ∧ (pcOf (ops t) ph : Int) = m.at_.getD t 0 + 1)) : Stepped ops n nc rounds S m t (stepM 20000 m t).2 := by
  have hT := h.th t ht
  have hinx : inRound (S.th t).ph = true := by rw [hph]; rfl
  have hfin : (S.th t).ph ≠ .fin := by rw [hph]; simp
  have hend : m.ended = m.ended.set t (m.ended.getD t false) := (set_getD_selfK _ _ _).symm
  have hreg : m.regs = m.regs.set t (m.regs.getD t []) := (set_getD_selfK _ _ _).symm
  rw [sim_does h ht hs hfin hst hI he]
  unfold Stepped stepS
  rw [hd]
  dsimp only
  rcases hee with ⟨rfl, h2⟩ | ⟨rfl, hpc, h2⟩ | ⟨rfl, hpc⟩
  · exact ⟨h.calm ht hs rfl rfl rfl hend hreg rfl rfl (hT.go hinx hin hok hT.len rfl rfl hT.r1 h2), rfl, by simp [doEff], by simp [doEff]⟩
  · exact ⟨h.calm ht hs rfl rfl (by rw [hpc]; rfl) hend hreg rfl rfl (hT.go hinx hin hok hT.len rfl rfl hT.r1 h2), rfl, by simp [doEff], by simp [doEff]⟩
  · refine ⟨h.calm (regs := (m.regs.getD t []).set 2 0) ht hs rfl rfl (by rw [hpc]; rfl) hend rfl rfl rfl (hT.go hinx hin hok (by rw [List.length_set]; exact hT.len) ?_ ?_ ?_ (fun _ _ _ _ _ _ _ => ?_)), rfl, by simp [doEff], by simp [doEff]⟩
    · rw [reg_set0 hT.len 2 (by decide)]; rfl
    · rw [reg_set0 hT.len 2 (by decide)]; rfl
    · rw [reg_set0 hT.len 2 (by decide)]; exact hT.r1
    · rw [reg_set0 hT.len 2 (by decide)]; rfl

/-- A step that does something to a cell. -/
theorem touch_step (h : Sim ops n nc rounds S m) (ht : t < n) (hs : (S.th t).slp = false) (hst : m.steps < 20000) {i k : Nat} (hph : (S.th t).ph = .op i k) {I : Ins5} (hI : insOf m t = I) {c : Nat} {v : Int} {q : Option (Nat × Int)} (hc : c < nc) (he : eff I (m.regs.getD t []) m.cells = .mem c v q) {ph : Ph} (hin : inRound ph = true) (hok : okPh (ops t) ph) {r1 : Int} {o : Nat} (ho : I.1 = o)
    (hd : doTh (ops t) rounds S.cell (S.th t) = { th := ⟨ph, (S.th t).rd, r1, false⟩, touch := some (o, c, v) }) (hpc : (pcOf (ops t) ph : Int) = m.at_.getD t 0 + 1) (hq : (q = none ∧ r1 = (S.th t).r1) ∨ q = some (1, r1))
    (h2 : ∀ i k c s, ph = .op i k → (ops t).getD i default = .opn c s → 1 ≤ k → (m.regs.getD t []).getD 2 0 = 0) : Stepped ops n nc rounds S m t (stepM 20000 m t).2 := by
  have hT := h.th t ht
  have hinx : inRound (S.th t).ph = true := by rw [hph]; rfl
  have hfin : (S.th t).ph ≠ .fin := by rw [hph]; simp
  have hend : m.ended = m.ended.set t (m.ended.getD t false) := (set_getD_selfK _ _ _).symm
  have hreg : m.regs = m.regs.set t (m.regs.getD t []) := (set_getD_selfK _ _ _).symm
  rw [sim_does h ht hs hfin hst hI he, ho]
  unfold Stepped stepS
  rw [hd]
  dsimp only
  have hcell := h.cell c hc
  rcases hq with ⟨rfl, rfl⟩ | rfl
  · exact ⟨h.touch ht hs rfl hc rfl (by rw [hpc]; rfl) hend hreg rfl rfl (hT.go hinx hin hok hT.len rfl rfl hT.r1 h2), rfl, by simp [doEff], by show m.acts ++ [_] = _; rw [hcell]⟩
  · refine ⟨h.touch (regs := (m.regs.getD t []).set 1 r1) ht hs rfl hc rfl (by rw [hpc]; rfl) hend rfl rfl rfl (hT.go hinx hin hok (by rw [List.length_set]; exact hT.len) ?_ ?_ ?_ (fun i k c s e1 e2 e3 => ?_)), rfl, by simp [doEff], by show m.acts ++ [_] = _; rw [hcell]⟩
    · rw [reg_set0 hT.len 1 (by decide)]; rfl
    · rw [reg_set0 hT.len 1 (by decide)]; rfl
    · rw [reg_set0 hT.len 1 (by decide)]; rfl
    · rw [reg_set0 hT.len 1 (by decide)]; exact h2 i k c s e1 e2 e3

/-- A step that wakes all that sleep at a cell. -/
theorem wake_step (h : Sim ops n nc rounds S m) (ht : t < n) (hs : (S.th t).slp = false) (hst : m.steps < 20000) {i k : Nat} (hph : (S.th t).ph = .op i k) {I : Ins5} (hI : insOf m t = I) {c s : Nat} (he : eff I (m.regs.getD t []) m.cells = .wake c s) {ph : Ph} (hin : inRound ph = true) (hok : okPh (ops t) ph)
    (hd : doTh (ops t) rounds S.cell (S.th t) = { th := ⟨ph, (S.th t).rd, (S.th t).r1, false⟩, wake := some (c, s) }) (hpc : (pcOf (ops t) ph : Int) = m.at_.getD t 0 + 1) (hfew : (m.lot.filter fun z => z.2 == (c : Int)).length ≤ s)
    (h2 : ∀ i k c s, ph = .op i k → (ops t).getD i default = .opn c s → 1 ≤ k → (m.regs.getD t []).getD 2 0 = 0) : Stepped ops n nc rounds S m t (stepM 20000 m t).2 := by
  have hT := h.th t ht
  have hinx : inRound (S.th t).ph = true := by rw [hph]; rfl
  have hfin : (S.th t).ph ≠ .fin := by rw [hph]; simp
  have hend : m.ended = m.ended.set t (m.ended.getD t false) := (set_getD_selfK _ _ _).symm
  have hreg : m.regs = m.regs.set t (m.regs.getD t []) := (set_getD_selfK _ _ _).symm
  rw [sim_does h ht hs hfin hst hI he]
  unfold Stepped stepS
  rw [hd]
  dsimp only
  refine ⟨?_, rfl, by simp [doEff], by simp [doEff]⟩
  have hw : wakeL m.lot (c : Int) s = m.lot.filter fun z => z.2 != (c : Int) := wakeL_all _ _ _ hfew
  refine h.put ht rfl (by rw [hpc]; rfl) hend hreg (hT.go hinx hin hok hT.len rfl rfl hT.r1 h2) h.lc (fun d hd => h.cell d hd) (fun u hu hne => ?_) ?_
  · unfold wakeAll
    split
    · exact (h.th u hu).awake
    · exact h.th u hu
  · show LotOK ops n _ (wakeL m.lot (c : Int) ((s : Int)).toNat)
    rw [Int.toNat_natCast, hw]
    refine lot_same (lot_wake h.lot c) ?_ rfl
    unfold wakeAll
    split
    · rfl
    · exact hs

/-- A step by which a party falls asleep. -/
theorem sleep_step (h : Sim ops n nc rounds S m) (ht : t < n) (hs : (S.th t).slp = false) (hst : m.steps < 20000) {i k : Nat} (hph : (S.th t).ph = .op i k) {I : Ins5} (hI : insOf m t = I) {c : Nat} (he : eff I (m.regs.getD t []) m.cells = .sleep c) {ph : Ph} (hin : inRound ph = true) (hok : okPh (ops t) ph) (hnap : napCell (ops t) ph = some c)
    (hd : doTh (ops t) rounds S.cell (S.th t) = { th := ⟨ph, (S.th t).rd, (S.th t).r1, true⟩ }) (hpc : (pcOf (ops t) ph : Int) = m.at_.getD t 0 + 1)
    (h2 : ∀ i k c s, ph = .op i k → (ops t).getD i default = .opn c s → 1 ≤ k → (m.regs.getD t []).getD 2 0 = 0) : Stepped ops n nc rounds S m t (stepM 20000 m t).2 := by
  have hT := h.th t ht
  have hinx : inRound (S.th t).ph = true := by rw [hph]; rfl
  have hfin : (S.th t).ph ≠ .fin := by rw [hph]; simp
  have hend : m.ended = m.ended.set t (m.ended.getD t false) := (set_getD_selfK _ _ _).symm
  have hreg : m.regs = m.regs.set t (m.regs.getD t []) := (set_getD_selfK _ _ _).symm
  rw [sim_does h ht hs hfin hst hI he]
  unfold Stepped stepS
  rw [hd]
  dsimp only
  have hX := hT.go hinx hin hok hT.len rfl rfl hT.r1 h2
  exact ⟨h.put ht rfl (by rw [hpc]; rfl) hend hreg ⟨hX.pc, hX.fin, hX.len, hX.ok, hX.r0, hX.r7, hX.r1, hX.r2, hX.rd, fun _ => ⟨c, hnap⟩⟩ h.lc (fun d hd => h.cell d hd) (fun u hu _ => h.th u hu) (lot_sleep h.lot ht hs rfl hnap), rfl, by simp [doEff], by simp [doEff]⟩
end
end Go.Proofs.YtgkfhihnfllmhaaGreatDoor

namespace Go.Proofs.YtgkfhihnfllmhaaGreatDoor
set_option maxRecDepth 100000
set_option linter.unusedVariables false
set_option linter.unusedSimpArgs false

section
variable {ops : Nat → List BOp} {n nc rounds : Nat} {S : BS} {m m' : Mach} {t : Nat}

theorem op_r2 {l : List BOp} {i0 k0 : Nat} {P : Prop} (h : ∀ c s, l.getD i0 default = .opn c s → k0 = 0) : ∀ i k c s, Ph.op i0 k0 = .op i k → l.getD i default = .opn c s → 1 ≤ k → P := by
  intro i k c s e1 e2 e3
  injection e1 with e1 e4
  subst e1 e4
  have := h c s e2
  omega
theorem two_lit (p : Nat) : ((p : Int)).toNat = p := Int.toNat_natCast p

/-- The five steps of an Await, which begins at place b of piece i. -/
theorem await_steps (h : Sim ops n nc rounds S m) (ht : t < n) (hs : (S.th t).slp = false) (hst : m.steps < 20000) {i k b c : Nat} {out : Ph} (hph : (S.th t).ph = .op i (b + k)) (hk : k < 5) (hc : c < nc)
    (hI : insOf m t = (awaitI ((5 + offs (ops t) i + b : Nat) : Int) c).getD k default) (hd : doTh (ops t) rounds S.cell (S.th t) = doAwait S.cell (S.th t) i k b c out)
    (hopn : ∀ c s, (ops t).getD i default ≠ .opn c s) (hlen : b + 5 ≤ opLen ((ops t).getD i default)) (hnap : napCell (ops t) (.op i (b + 4)) = some c)
    (hin : inRound out = true) (hok : okPh (ops t) out) (hout : ∀ i k c s, out = .op i k → (ops t).getD i default = .opn c s → 1 ≤ k → (m.regs.getD t []).getD 2 0 = 0) (hpo : (pcOf (ops t) out : Int) = ((5 + offs (ops t) i + b + 5 : Nat) : Int)) : Stepped ops n nc rounds S m t (stepM 20000 m t).2 := by
  obtain ⟨hi, hkk, -, hat, hr0, hrd⟩ := op_frame h ht hph
  have hr1 := (h.th t ht).r1
  have hcell := h.cell c hc
  have r2 : ∀ j, ∀ i' k' c' s', Ph.op i j = .op i' k' → (ops t).getD i' default = .opn c' s' → 1 ≤ k' → (m.regs.getD t []).getD 2 0 = 0 := fun j => op_r2 (fun c s e => absurd e (hopn c s))
  have okp : ∀ j, j < 5 → okPh (ops t) (.op i (b + j)) := fun j hj => ⟨hi, by omega⟩
  have hx : S.th t = ⟨.op i (b + k), (S.th t).rd, (S.th t).r1, false⟩ := by
    rw [← hph, ← hs]
  match k, hk with
  | 0, _ =>
    refine touch_step h ht hs hst hph hI (c := c) (v := S.cell c) (q := some (1, S.cell c)) hc ?_ (ph := .op i (b + 1)) rfl (okp 1 (by decide)) (r1 := S.cell c) (o := 6) rfl ?_ ?_ (.inr rfl) (r2 _)
    · show Eff.mem (c : Int).toNat (m.cells.getD (c : Int).toNat 0) (some ((1 : Int).toNat, m.cells.getD (c : Int).toNat 0)) = _
      rw [two_lit, hcell]
      rfl
    · rw [hd]
      unfold doAwait
      rw [hx]
      rfl
    · rw [hat]
      rfl
  | 1, _ =>
    by_cases hlt : (S.th t).r1 < (S.th t).rd
    · refine calm_step h ht hs hst hph hI (e := .goto ((5 + offs (ops t) i + b : Nat) + 3)) ?_ (ph := .op i (b + 3)) rfl (okp 3 (by decide)) ?_ (.inl ⟨rfl, r2 _⟩)
      · show (if (m.regs.getD t []).getD 1 0 < (m.regs.getD t []).getD 0 0 then Eff.goto (((5 + offs (ops t) i + b : Nat) : Int) + 3) else .next) = _
        rw [hr1, hr0, if_pos hlt]
      · rw [hd]
        unfold doAwait
        rw [if_neg (by decide), if_pos rfl, if_pos hlt, hs]
    · refine calm_step h ht hs hst hph hI (e := .next) ?_ (ph := .op i (b + 2)) rfl (okp 2 (by decide)) ?_ (.inr (.inl ⟨rfl, by rw [hat]; rfl, r2 _⟩))
      · show (if (m.regs.getD t []).getD 1 0 < (m.regs.getD t []).getD 0 0 then Eff.goto _ else .next) = _
        rw [hr1, hr0, if_neg hlt]
      · rw [hd]
        unfold doAwait
        rw [if_neg (by decide), if_pos rfl, if_neg hlt, hs]
  | 2, _ =>
    refine calm_step h ht hs hst hph hI (e := .goto (pcOf (ops t) out)) ?_ hin hok ?_ (.inl ⟨rfl, hout⟩)
    · show Eff.goto ((5 + offs (ops t) i + b : Nat) + 5) = _
      rw [hpo]
      rfl
    · rw [hd]
      unfold doAwait
      rw [if_neg (by decide), if_neg (by decide), if_pos rfl, hs]
  | 3, _ =>
    by_cases he : S.cell c = (S.th t).r1
    · refine sleep_step h ht hs hst hph hI (c := c) ?_ (ph := .op i (b + 4)) rfl (okp 4 (by decide)) hnap ?_ (by rw [hat]; rfl) (r2 _)
      · show (if m.cells.getD (c : Int).toNat 0 = (m.regs.getD t []).getD 1 0 then Eff.sleep c else .next) = _
        rw [two_lit, hcell, hr1, if_pos he]
      · rw [hd]
        unfold doAwait
        rw [if_neg (by decide), if_neg (by decide), if_neg (by decide), if_pos rfl, decide_eq_true he]
    · refine calm_step h ht hs hst hph hI (e := .next) ?_ (ph := .op i (b + 4)) rfl (okp 4 (by decide)) ?_ (.inr (.inl ⟨rfl, by rw [hat]; rfl, r2 _⟩))
      · show (if m.cells.getD (c : Int).toNat 0 = (m.regs.getD t []).getD 1 0 then Eff.sleep c else .next) = _
        rw [two_lit, hcell, hr1, if_neg he]
      · rw [hd]
        unfold doAwait
        rw [if_neg (by decide), if_neg (by decide), if_neg (by decide), if_pos rfl, decide_eq_false he]
  | 4, _ =>
    refine calm_step h ht hs hst hph hI (e := .goto (5 + offs (ops t) i + b : Nat)) rfl (ph := .op i b) rfl (okp 0 (by decide)) ?_ (.inl ⟨by rfl, r2 _⟩)
    rw [hd]
    unfold doAwait
    rw [if_neg (by decide), if_neg (by decide), if_neg (by decide), if_neg (by decide), hs]

/-- Whether a step that wakes somebody wakes all who sleep there. -/
def WakesAll (ops : Nat → List BOp) (rounds : Nat) (S : BS) (m : Mach) (t : Nat) : Prop := ∀ c s, (doTh (ops t) rounds S.cell (S.th t)).wake = some (c, s) → (m.lot.filter fun z => z.2 == (c : Int)).length ≤ s

theorem sim_ops (h : Sim ops n nc rounds S m) (hwf : WF nc (ops t)) (ht : t < n) (hs : (S.th t).slp = false) (hst : m.steps < 20000) (hro : rounds ≤ 20) {i k : Nat} (hph : (S.th t).ph = .op i k) (hwk : WakesAll ops rounds S m t) : Stepped ops n nc rounds S m t (stepM 20000 m t).2 := by
  obtain ⟨hi, hkk, hI, hat, hr0, hrd⟩ := op_frame h ht hph
  have hw := hwf i hi
  have hT := h.th t ht
  have hd0 : doTh (ops t) rounds S.cell (S.th t) = doOp (ops t) S.cell (S.th t) i k ((ops t).getD i default) := by unfold doTh; rw [hph]
  unfold WakesAll at hwk
  rw [hd0] at hwk
  have hlast : k + 1 = opLen ((ops t).getD i default) → (pcOf (ops t) (nxt (ops t) (i + 1)) : Int) = m.at_.getD t 0 + 1 := fun e => by
    rw [← pc_last hi e, hat]
    rfl
  have hnext : (pcOf (ops t) (.op i (k + 1)) : Int) = m.at_.getD t 0 + 1 := by rw [hat]; rfl
  cases ho : (ops t).getD i default with
  | tell c s =>
    rw [ho] at hI hkk hw hd0 hlast hwk
    have hk2 : k < 2 := hkk
    have hc : c < nc := hw
    match k, hk2 with
    | 0, _ =>
      refine touch_step h ht hs hst hph hI (c := c) (v := (S.th t).rd) (q := none) hc ?_ (ph := .op i 1) rfl ⟨hi, by rw [ho]; show 1 < 2; decide⟩ (r1 := (S.th t).r1) (o := 7) rfl ?_ hnext (.inl ⟨rfl, rfl⟩) (op_r2 (fun c s e => by rw [ho] at e; cases e))
      · show (if placeOf (c : Int) (-1) (m.regs.getD t []) < m.cells.length then Eff.mem (placeOf (c : Int) (-1) (m.regs.getD t [])).toNat ((m.regs.getD t []).getD 0 0) none else .lost) = _
        unfold placeOf
        rw [if_pos rfl, h.lc, if_pos (by omega), two_lit, hr0]
      · rw [hd0]
        simp [doOp, hs]
    | 1, _ =>
      refine wake_step h ht hs hst hph hI (c := c) (s := s) ?_ (nxt_round _ _) (nxt_ok (ops t) (i + 1)) ?_ (hlast rfl) (hwk c s rfl) (nxt_r2 _ _)
      · show (if placeOf (c : Int) (-1) (m.regs.getD t []) < m.cells.length then Eff.wake (placeOf (c : Int) (-1) (m.regs.getD t [])) s else .lost) = _
        unfold placeOf
        rw [if_pos rfl, h.lc, if_pos (by omega)]
      · rw [hd0]
        simp [doOp, hs]
  | await c =>
    rw [ho] at hI hkk hw hd0
    have hk5 : k < 5 := hkk
    exact await_steps (b := 0) (k := k) h ht hs hst (by rw [hph, Nat.zero_add]) hk5 hw hI (by rw [hd0]; rfl) (fun c s e => by rw [ho] at e; cases e) (by rw [ho]; exact Nat.le_refl 5) (by show napOp ((ops t).getD i default) _ = _; rw [ho]; rfl) (nxt_round _ _) (nxt_ok _ _) (nxt_r2 _ _) (by rw [pcOf_nxt _ _ (by omega), offs_succ _ _ hi, ho]; show ((5 + (_ + 5) : Nat) : Int) = _; omega)
  | meet c s d =>
    rw [ho] at hI hkk hw hd0 hlast
    obtain ⟨hc1, hs1, hs16, hdm⟩ := hw
    have hk8 : k < 8 := hkk
    have r2 : ∀ j, ∀ i' k' c' s', Ph.op i j = .op i' k' → (ops t).getD i' default = .opn c' s' → 1 ≤ k' → (m.regs.getD t []).getD 2 0 = 0 := fun j => op_r2 (fun c s e => by rw [ho] at e; cases e)
    have okp : ∀ j, j < 8 → okPh (ops t) (.op i j) := fun j hj => ⟨hi, by rw [ho]; exact hj⟩
    by_cases hk0 : k = 0
    · subst hk0
      refine touch_step h ht hs hst hph hI (c := c) (v := (S.cell c + 1) % m64) (q := some (1, S.cell c)) (by omega) ?_ (ph := .op i 1) rfl (okp 1 (by decide)) (r1 := S.cell c) (o := 8) rfl ?_ hnext (.inr rfl) (r2 _)
      · show Eff.mem (c : Int).toNat ((m.cells.getD (c : Int).toNat 0 + 1) % m64) (some (1, m.cells.getD (c : Int).toNat 0)) = _
        rw [two_lit, h.cell c (by omega)]
      · rw [hd0]
        simp [doOp, hs]
    by_cases hk1 : k = 1
    · subst hk1
      by_cases he : (S.th t).r1 = ((s : Int) - 1) % m64
      · refine calm_step h ht hs hst hph hI (e := .goto (pcOf (ops t) (nxt (ops t) (i + 1)) : Int)) ?_ (nxt_round _ _) (nxt_ok _ _) ?_ (.inl ⟨rfl, nxt_r2 _ _⟩)
        · show (if (m.regs.getD t []).getD 1 0 = ((s : Int) - 1) % m64 then Eff.goto (5 + (offs (ops t) i : Int) + 8) else .next) = _
          rw [hT.r1, if_pos he, pcOf_nxt _ _ (by omega), offs_succ _ _ hi, ho]
          show Eff.goto (5 + (offs (ops t) i : Int) + 8) = Eff.goto ((5 + (_ + 8) : Nat) : Int)
          congr 1 <;> omega
        · rw [hd0]
          simp [doOp, hs, he]
      · refine calm_step h ht hs hst hph hI (e := .next) ?_ (ph := .op i 2) rfl (okp 2 (by decide)) ?_ (.inr (.inl ⟨rfl, hnext, r2 _⟩))
        · show (if (m.regs.getD t []).getD 1 0 = ((s : Int) - 1) % m64 then Eff.goto (5 + (offs (ops t) i : Int) + 8) else .next) = _
          rw [hT.r1, if_neg he]
        · rw [hd0]
          simp [doOp, hs, he]
    by_cases hk7 : k = 7
    · subst hk7
      refine calm_step h ht hs hst hph hI (e := .goto (pcOf (ops t) (nxt (ops t) d) : Int)) ?_ (nxt_round _ _) (nxt_ok _ _) ?_ (.inl ⟨rfl, nxt_r2 _ _⟩)
      · show Eff.goto (5 + (offs (ops t) d : Int)) = _
        rw [pcOf_nxt _ _ hdm]
        congr 1
      · rw [hd0]
        simp [doOp, hs]
    · obtain ⟨j, rfl⟩ : ∃ j, k = 2 + j := ⟨k - 2, by omega⟩
      refine await_steps (b := 2) (k := j) (c := c + 1) (out := .op i 7) h ht hs hst hph (by omega) hc1 ?_ ?_ (fun c s e => by rw [ho] at e; cases e) (by rw [ho]; show 7 ≤ 8; decide) (by show napOp ((ops t).getD i default) _ = _; rw [ho]; rfl) rfl (okp 7 (by decide)) (r2 _) (by show ((5 + _ + 7 : Nat) : Int) = _; omega)
      · rw [hI]
        have h5 : j < 5 := by omega
        rw [show ((5 + offs (ops t) i + 2 : Nat) : Int) = 5 + (offs (ops t) i : Int) + 2 by omega, show (((c + 1 : Nat)) : Int) = (c : Int) + 1 by omega]
        match j, h5 with
        | 0, _ | 1, _ | 2, _ | 3, _ | 4, _ => rfl
      · rw [hd0]
        have e0 : ¬ 2 + j = 0 := by omega
        have e1 : ¬ 2 + j = 1 := by omega
        have e7 : ¬ 2 + j = 7 := by omega
        have e2 : 2 + j - 2 = j := by omega
        simp only [doOp, if_neg e0, if_neg e1, if_neg e7, e2]
  | opn c s =>
    rw [ho] at hI hkk hw hd0 hlast hwk
    have hk4 : k < 4 := hkk
    have hc1 : c + 1 < nc := hw
    have okp : ∀ j, j < 4 → okPh (ops t) (.op i j) := fun j hj => ⟨hi, by rw [ho]; exact hj⟩
    match k, hk4 with
    | 0, _ =>
      refine calm_step h ht hs hst hph hI (e := .set 2 0) rfl (ph := .op i 1) rfl (okp 1 (by decide)) ?_ (.inr (.inr ⟨rfl, hnext⟩))
      rw [hd0]
      simp [doOp, hs]
    | 1, _ =>
      have hr2 := hT.r2 i 1 c s hph ho (by decide)
      refine touch_step h ht hs hst hph hI (c := c) (v := 0) (q := none) (by omega) ?_ (ph := .op i 2) rfl (okp 2 (by decide)) (r1 := (S.th t).r1) (o := 7) rfl ?_ hnext (.inl ⟨rfl, rfl⟩) (fun _ _ _ _ _ _ _ => hr2)
      · show (if placeOf (c : Int) (-1) (m.regs.getD t []) < m.cells.length then Eff.mem (placeOf (c : Int) (-1) (m.regs.getD t [])).toNat ((m.regs.getD t []).getD 2 0) none else .lost) = _
        unfold placeOf
        rw [if_pos rfl, h.lc, if_pos (by omega), two_lit, hr2]
      · rw [hd0]
        simp [doOp, hs]
    | 2, _ =>
      have hr2 := hT.r2 i 2 c s hph ho (by decide)
      refine touch_step h ht hs hst hph hI (c := c + 1) (v := (S.th t).rd) (q := none) hc1 ?_ (ph := .op i 3) rfl (okp 3 (by decide)) (r1 := (S.th t).r1) (o := 7) rfl ?_ hnext (.inl ⟨rfl, rfl⟩) (fun _ _ _ _ _ _ _ => hr2)
      · show (if placeOf ((c : Int) + 1) (-1) (m.regs.getD t []) < m.cells.length then Eff.mem (placeOf ((c : Int) + 1) (-1) (m.regs.getD t [])).toNat ((m.regs.getD t []).getD 0 0) none else .lost) = _
        unfold placeOf
        rw [if_pos rfl, h.lc, if_pos (by omega), hr0]
        congr 1
      · rw [hd0]
        simp [doOp, hs]
    | 3, _ =>
      refine wake_step h ht hs hst hph hI (c := c + 1) (s := s) ?_ (nxt_round _ _) (nxt_ok (ops t) (i + 1)) ?_ (hlast rfl) (hwk (c + 1) s rfl) (nxt_r2 _ _)
      · show (if placeOf ((c : Int) + 1) (-1) (m.regs.getD t []) < m.cells.length then Eff.wake (placeOf ((c : Int) + 1) (-1) (m.regs.getD t [])) s else .lost) = _
        unfold placeOf
        rw [if_pos rfl, h.lc, if_pos (by omega)]
        rfl
      · rw [hd0]
        simp [doOp, hs]

/-- A step of a party that is awake, and not at its end. -/
theorem sim_step (h : Sim ops n nc rounds S m) (hwf : WF nc (ops t)) (ht : t < n) (hs : (S.th t).slp = false) (hf : (S.th t).ph ≠ .fin) (hst : m.steps < 20000) (hro : rounds ≤ 20) (hwk : WakesAll ops rounds S m t) : Stepped ops n nc rounds S m t (stepM 20000 m t).2 := by
  cases hph : (S.th t).ph with
  | op i k => exact sim_ops h hwf ht hs hst hro hph hwk
  | fin => exact absurd hph hf
  | b0 | b1 | less | halt | came | gone | plus | jump => exact sim_frame h ht hs hst hro (by rw [hph]; simp)
end
end Go.Proofs.YtgkfhihnfllmhaaGreatDoor
