/-
  Threads that ask for calls, one behind the other: each call a piece of a program; runs of such threads A count that goes down, and those who wait for nought
-/
import Derived.Test.YtkhaeabbbhfloaaDoorQH5
namespace Go.Proofs.YtkhaeabbbhfloaaDoor
set_option maxRecDepth 100000
set_option linter.unusedVariables false
set_option linter.unusedSimpArgs false

/-! Threads that ask for calls, one behind the other: each call a piece of a program. -/
/-- What an instruction of a call comes to: as Eff, its places counted from where the call begins. -/
inductive DoK where
  | set (r : Nat) (v : Int)
  | mem (c : Nat) (now : Int) (r : Option (Nat × Int))
  | goto (j : Nat)
  | next
  | sleep (c : Nat)
  | wake (c n : Nat)
  | say (what v : Int)

def DoK.real (p : Nat) : DoK → Eff
  | .set r v => .set r v
  | .mem c now r => .mem c now r
  | .goto j => .goto ((p + j : Nat) : Int)
  | .next => .next
  | .sleep c => .sleep (c : Int)
  | .wake c n => .wake (c : Int) (n : Int)
  | .say w v => .say w v

def u64 (v : Int) : Prop := 0 ≤ v ∧ v < m64
/-- A call's instruction stays in its call, or goes on behind it. -/
def okD (len nc : Nat) : DoK → Prop
  | .set r v => r < 8 ∧ u64 v
  | .mem c now q => c < nc ∧ u64 now ∧ ∀ x, q = some x → x.1 < 8 ∧ u64 x.2
  | .goto j => j ≤ len
  | _ => True

/-- A family of calls. -/
structure Fam (κ : Type) where
  code : κ → Nat → List Ins5
  len : κ → Nat
  op : κ → Nat → Int
  dos : κ → Nat → (Nat → Int) → (Nat → Int) → DoK
  nc : Nat
  can : κ → Nat → (Nat → Int) → Prop := fun _ _ _ => True
  hlen : ∀ c p, (code c p).length = len c
  hpos : ∀ c, 0 < len c
  hop : ∀ c p j, j < len c → ((code c p).getD j default).1 = op c j
  hdo : ∀ c p j (regs cells : List Int), j < len c → cells.length = nc → can c j (fun i => regs.getD i 0) → eff ((code c p).getD j default) regs cells = (dos c j (fun i => cells.getD i 0) (fun i => regs.getD i 0)).real p
  hok : ∀ c j cell r, j < len c → (∀ i, u64 (cell i)) → (∀ i, u64 (r i)) → okD (len c) nc (dos c j cell r)

structure TK where
  k : Nat
  j : Nat
  en : Bool
  r : Nat → Int
structure CS where
  th : Nat → TK
  cell : Nat → Int
  lot : List (Nat × Nat)

section
variable {κ : Type} (F : Fam κ)

def offK (l : List κ) (k : Nat) : Nat := ((l.take k).map F.len).sum
def piecesK : Nat → List κ → List Ins5
  | _, [] => []
  | p, c :: l => F.code c p ++ piecesK (p + F.len c) l
def wholeK (l : List κ) : List Ins5 := piecesK F 0 l ++ [(0, 0, 0, 0, 0)]
def goK (len : Nat) (x : TK) (j : Nat) : TK := if j < len then { x with j := j } else { x with k := x.k + 1, j := 0 }
def wakeK : List (Nat × Nat) → Nat → Nat → List (Nat × Nat)
  | [], _, _ => []
  | s :: l, _, 0 => s :: l
  | s :: l, c, n + 1 => if s.2 = c then wakeK l c n else s :: wakeK l c (n + 1)
def slK (S : CS) (u : Nat) : Bool := S.lot.any fun s => s.1 == u

def doneK (len t : Nat) (S : CS) (x : TK) : DoK → CS
  | .set i v => { S with th := upd S.th t { goK len x (x.j + 1) with r := upd x.r i v } }
  | .mem a now none => { S with th := upd S.th t (goK len x (x.j + 1)), cell := upd S.cell a now }
  | .mem a now (some q) => { S with th := upd S.th t { goK len x (x.j + 1) with r := upd x.r q.1 q.2 }, cell := upd S.cell a now }
  | .goto j => { S with th := upd S.th t (goK len x j) }
  | .next => { S with th := upd S.th t (goK len x (x.j + 1)) }
  | .sleep a => { S with th := upd S.th t (goK len x (x.j + 1)), lot := S.lot ++ [(t, a)] }
  | .wake a n => { S with th := upd S.th t (goK len x (x.j + 1)), lot := wakeK S.lot a n }
  | .say _ _ => { S with th := upd S.th t (goK len x (x.j + 1)) }
def stepK (calls : Nat → List κ) (t : Nat) (S : CS) : CS :=
  match (calls t)[(S.th t).k]? with
  | none => { S with th := upd S.th t { S.th t with en := true } }
  | some c => doneK (F.len c) t S (S.th t) (F.dos c (S.th t).j S.cell (S.th t).r)
def actD (t : Nat) (op s : Int) (cell : Nat → Int) : DoK → List Act6
  | .mem a now _ => [(s, (t : Int), op, (a : Int), cell a, now)]
  | _ => []
def evD (t : Nat) (s : Int) : DoK → List Ev4
  | .say w v => [(s, w, (t : Int), v)]
  | _ => []
def actsK (calls : Nat → List κ) (t : Nat) (S : CS) (s : Int) : List Act6 :=
  match (calls t)[(S.th t).k]? with
  | none => []
  | some c => actD t (F.op c (S.th t).j) s S.cell (F.dos c (S.th t).j S.cell (S.th t).r)
def evsK (calls : Nat → List κ) (t : Nat) (S : CS) (s : Int) : List Ev4 :=
  match (calls t)[(S.th t).k]? with
  | none => []
  | some c => evD t s (F.dos c (S.th t).j S.cell (S.th t).r)
def pokeK (t : Nat) (S : CS) : CS := { S with lot := S.lot.eraseP fun s => s.1 == t }

structure TokK (l : List κ) (x : TK) : Prop where
  k : x.k ≤ l.length
  j : ∀ c, l[x.k]? = some c → x.j < F.len c
  j0 : l[x.k]? = none → x.j = 0
  fin : x.en = true → l[x.k]? = none
  rng : ∀ i, u64 (x.r i)
/-- What is so of all states. -/
structure WfK (n : Nat) (calls : Nat → List κ) (S : CS) : Prop where
  th : ∀ t, t < n → TokK F (calls t) (S.th t)
  cell : ∀ c, u64 (S.cell c)
  low : ∀ s ∈ S.lot, s.1 < n
  once : (S.lot.map (·.1)).Nodup
structure ThK (l : List κ) (x : TK) (pc : Int) (en : Bool) (regs : List Int) : Prop where
  pc : pc = ((offK F l x.k + x.j : Nat) : Int)
  en : en = x.en
  len : regs.length = 8
  r : x.r = fun i => regs.getD i 0
structure SimK (n : Nat) (calls : Nat → List κ) (S : CS) (m : Mach) : Prop where
  wf : WfK F n calls S
  progs : m.progs = (List.range n).map fun t => wholeK F (calls t)
  la : m.at_.length = n
  le : m.ended.length = n
  lr : m.regs.length = n
  lc : m.cells.length = F.nc
  cell : S.cell = fun c => m.cells.getD c 0
  th : ∀ t, t < n → ThK F (calls t) (S.th t) (m.at_.getD t 0) (m.ended.getD t false) (m.regs.getD t [])
  lot : m.lot = S.lot.map fun s => ((s.1 : Int), (s.2 : Int))
end

section
variable {κ : Type} {F : Fam κ} {n : Nat} {calls : Nat → List κ} {S : CS} {m : Mach} {t : Nat}

theorem piecesK_at : ∀ (l : List κ) (p k : Nat) (c : κ), l[k]? = some c → ∃ a b, piecesK F p l = a ++ F.code c (p + offK F l k) ++ b ∧ a.length = offK F l k
  | [], _, _, _, h => by simp at h
  | d :: l, p, 0, c, h => by
    injection h with h
    subst h
    exact ⟨[], piecesK F (p + F.len d) l, by simp [piecesK, offK], by simp [offK]⟩
  | d :: l, p, k + 1, c, h => by
    obtain ⟨a, b, h1, h2⟩ := piecesK_at l (p + F.len d) k c h
    have e : offK F (d :: l) (k + 1) = F.len d + offK F l k := by simp [offK]
    refine ⟨F.code d p ++ a, b, ?_, ?_⟩
    · show F.code d p ++ piecesK F (p + F.len d) l = _
      rw [h1, e, ← Nat.add_assoc]
      simp [List.append_assoc]
    · rw [List.length_append, F.hlen, h2, e]
theorem piecesK_len : ∀ (l : List κ) (p : Nat), (piecesK F p l).length = (l.map F.len).sum
  | [], _ => rfl
  | d :: l, p => by
    show (F.code d p ++ piecesK F (p + F.len d) l).length = _
    rw [List.length_append, F.hlen, piecesK_len l]
    simp
theorem wholeK_at {l : List κ} {k j : Nat} {c : κ} (hc : l[k]? = some c) (hj : j < F.len c) : (wholeK F l).getD (offK F l k + j) default = (F.code c (offK F l k)).getD j default := by
  obtain ⟨a, b, h1, h2⟩ := piecesK_at (F := F) l 0 k c hc
  rw [Nat.zero_add] at h1
  have hl : j < (F.code c (offK F l k)).length := by rw [F.hlen]; exact hj
  unfold wholeK
  rw [h1, List.getD_eq_getElem?_getD, List.getD_eq_getElem?_getD, List.append_assoc, List.append_assoc, List.getElem?_append_right (by omega), h2, Nat.add_sub_cancel_left, List.getElem?_append_left hl]
theorem wholeK_end {l : List κ} : (wholeK F l).getD (offK F l l.length) default = (0, 0, 0, 0, 0) := by
  have h : (piecesK F 0 l).length = offK F l l.length := by rw [piecesK_len]; unfold offK; rw [List.take_length]
  unfold wholeK
  rw [List.getD_eq_getElem?_getD, List.getElem?_append_right (by omega), h, Nat.sub_self]
  rfl
theorem offK_succ {l : List κ} {k : Nat} {c : κ} (hc : l[k]? = some c) : offK F l (k + 1) = offK F l k + F.len c := by
  have hk := (List.getElem?_eq_some_iff.1 hc).1
  have e := (List.getElem?_eq_some_iff.1 hc).2
  unfold offK
  rw [List.take_add_one, hc]
  simp

theorem SimK.prog (h : SimK F n calls S m) (ht : t < n) : m.progs.getD t [] = wholeK F (calls t) := by
  rw [h.progs, List.getD_eq_getElem?_getD, List.getElem?_map, List.getElem?_range ht]
  rfl
theorem SimK.plen (h : SimK F n calls S m) : m.progs.length = n := by rw [h.progs]; simp
theorem SimK.asleep (h : SimK F n calls S m) (u : Nat) : asleepM m (u : Int) = slK S u := by
  unfold asleepM slK
  rw [h.lot, List.any_map]
  congr 1
  funext s
  show (((s.1 : Int)) == (u : Int)) = (s.1 == u)
  by_cases e : s.1 = u
  · simp [e]
  · have : ¬ ((s.1 : Int) = (u : Int)) := by omega
    rw [beq_eq_false_iff_ne.2 e, beq_eq_false_iff_ne.2 this]

theorem wakeL_K : ∀ (l : List (Nat × Nat)) (c k : Nat), wakeL (l.map fun s => ((s.1 : Int), (s.2 : Int))) (c : Int) k = (wakeK l c k).map fun s => ((s.1 : Int), (s.2 : Int))
  | [], _, _ => by simp [wakeL, wakeK]
  | s :: l, c, 0 => by simp [wakeL, wakeK]
  | s :: l, c, k + 1 => by
    rw [List.map_cons]
    unfold wakeL wakeK
    by_cases e : s.2 = c
    · rw [if_pos e, if_pos (by simp [e])]
      exact wakeL_K l c k
    · rw [if_neg e, if_neg (by simp; omega), wakeL_K l c (k + 1)]
      rfl
theorem wakeK_sub : ∀ (l : List (Nat × Nat)) (c k : Nat), List.Sublist (wakeK l c k) l
  | [], _, _ => by simp [wakeK]
  | s :: l, c, 0 => by simp [wakeK]
  | s :: l, c, k + 1 => by
    unfold wakeK
    split
    · exact (wakeK_sub l c k).trans (List.sublist_cons_self _ _)
    · exact (wakeK_sub l c (k + 1)).cons_cons s

theorem u64_set {r : Nat → Int} {i : Nat} {v : Int} (h : ∀ i, u64 (r i)) (hv : u64 v) : ∀ q, u64 (upd r i v q) := fun q => by
  by_cases e : q = i
  · subst e; rw [upd_same]; exact hv
  · rw [upd_ne _ _ e]; exact h q
theorem goK_r (len : Nat) (x : TK) (j : Nat) : (goK len x j).r = x.r ∧ (goK len x j).en = x.en := by unfold goK; split <;> exact ⟨rfl, rfl⟩
theorem goK_tok {l : List κ} {x : TK} {c : κ} {j : Nat} (h : TokK F l x) (hc : l[x.k]? = some c) (hj : j ≤ F.len c) (he : x.en = false) {y : TK} (hy : y.k = (goK (F.len c) x j).k ∧ y.j = (goK (F.len c) x j).j ∧ y.en = (goK (F.len c) x j).en) (hr : ∀ i, u64 (y.r i)) : TokK F l y ∧ offK F l y.k + y.j = offK F l x.k + j := by
  have hk := (List.getElem?_eq_some_iff.1 hc).1
  obtain ⟨y1, y2, y3⟩ := hy
  rw [(goK_r _ _ _).2, he] at y3
  unfold goK at y1 y2
  by_cases e : j < F.len c
  · rw [if_pos e] at y1 y2
    have y1' : y.k = x.k := y1
    have y2' : y.j = j := y2
    refine ⟨⟨by rw [y1']; exact h.k, fun d hd => ?_, fun hd => ?_, fun e2 => ?_, hr⟩, by rw [y1', y2']⟩
    · rw [y1', hc] at hd
      injection hd with hd
      subst hd
      rw [y2']; exact e
    · rw [y1', hc] at hd; cases hd
    · rw [y3] at e2; cases e2
  · rw [if_neg e] at y1 y2
    have y1' : y.k = x.k + 1 := y1
    have y2' : y.j = 0 := y2
    refine ⟨⟨by rw [y1']; omega, fun d hd => by rw [y2']; exact F.hpos d, fun hd => y2', fun e2 => ?_, hr⟩, by rw [y1', y2', offK_succ hc]; omega⟩
    rw [y3] at e2; cases e2

/-- One thread moved. -/
theorem SimK.put (h : SimK F n calls S m) (ht : t < n) {m' : Mach} {S' : CS} {x : TK} {pc : Int} {en : Bool} {regs : List Int} (hp : m'.progs = m.progs) (ha : m'.at_ = m.at_.set t pc) (he : m'.ended = m.ended.set t en) (hr : m'.regs = m.regs.set t regs)
    (hl : m'.cells.length = F.nc) (hc : S'.cell = fun c => m'.cells.getD c 0) (hcu : ∀ c, u64 (S'.cell c)) (hth : S'.th = upd S.th t x) (hx : ThK F (calls t) x pc en regs) (hok : TokK F (calls t) x) (hlot : m'.lot = S'.lot.map fun s => ((s.1 : Int), (s.2 : Int))) (hlow : ∀ s ∈ S'.lot, s.1 < n) (honce : (S'.lot.map (·.1)).Nodup) : SimK F n calls S' m' := by
  refine ⟨⟨fun u hu => ?_, hcu, hlow, honce⟩, hp.trans h.progs, by rw [ha]; simp [h.la], by rw [he]; simp [h.le], by rw [hr]; simp [h.lr], hl, hc, fun u hu => ?_, hlot⟩
  · by_cases e : u = t
    · subst e
      rw [hth, upd_same]; exact hok
    · rw [hth, upd_ne _ _ e]; exact h.wf.th u hu
  · by_cases e : u = t
    · subst e
      rw [ha, he, hr, getD_set_eq' _ _ _ _ (by rw [h.la]; exact hu), getD_set_eq' _ _ _ _ (by rw [h.le]; exact hu), getD_set_eq' _ _ _ _ (by rw [h.lr]; exact hu), hth, upd_same]
      exact hx
    · rw [ha, he, hr, getD_set_ne' _ _ _ _ _ (Ne.symm e), getD_set_ne' _ _ _ _ _ (Ne.symm e), getD_set_ne' _ _ _ _ _ (Ne.symm e), hth, upd_ne _ _ e]
      exact h.th u hu

theorem regs_upd {regs : List Int} {i : Nat} {v : Int} (hl : regs.length = 8) (hi : i < 8) : upd (fun i => regs.getD i 0) i v = fun q => (regs.set i v).getD q 0 := by
  funext q
  by_cases e : q = i
  · subst e; rw [upd_same, getD_set_eq' _ _ _ _ (by omega)]
  · rw [upd_ne _ _ e, getD_set_ne' _ _ _ _ _ (Ne.symm e)]
theorem cells_upd {cells : List Int} {i nc : Nat} {v : Int} (hl : cells.length = nc) (hi : i < nc) : upd (fun i => cells.getD i 0) i v = fun q => (cells.set i v).getD q 0 := by
  funext q
  by_cases e : q = i
  · subst e; rw [upd_same, getD_set_eq' _ _ _ _ (by omega)]
  · rw [upd_ne _ _ e, getD_set_ne' _ _ _ _ _ (Ne.symm e)]

theorem simK_step (h : SimK F n calls S m) (ht : t < n) (he : (S.th t).en = false) (hs : slK S t = false) (hst : m.steps < 20000) (hcan : ∀ c, (calls t)[(S.th t).k]? = some c → F.can c (S.th t).j (S.th t).r) :
    SimK F n calls (stepK F calls t S) (stepM 20000 m t).2 ∧ (stepM 20000 m t).2.acts = m.acts ++ actsK F calls t S ((m.steps : Int) + 1) ∧ (stepM 20000 m t).2.events = m.events ++ evsK F calls t S ((m.steps : Int) + 1) ∧ (stepM 20000 m t).2.steps = m.steps + 1 := by
  have hT := h.th t ht
  have hW := h.wf.th t ht
  have hdo : (stepM 20000 m t).2 = doEff m t (insOf m t).1 (effAt m t) := by
    unfold stepM
    rw [if_neg (by rw [h.plen]; omega), if_neg (by rw [Int.toNat_natCast, hT.en, he]; decide), if_neg (by rw [h.asleep, hs]; decide), if_neg (by omega)]
    rfl
  rw [hdo]
  have hpc : (m.at_.getD t 0).toNat = offK F (calls t) (S.th t).k + (S.th t).j := by rw [hT.pc, Int.toNat_natCast]
  have hself : m.ended.set t (S.th t).en = m.ended := by rw [← hT.en]; exact set_getD_selfK _ _ _
  have hrself : m.regs.set t (m.regs.getD t []) = m.regs := set_getD_selfK _ _ _
  cases hc : (calls t)[(S.th t).k]? with
  | none =>
    have hk : (S.th t).k = (calls t).length := by
      have h1 := hW.k
      have h2 := List.getElem?_eq_none_iff.1 hc
      omega
    have hins : insOf m t = (0, 0, 0, 0, 0) := by
      unfold insOf
      rw [h.prog ht, hpc, hW.j0 hc, hk]
      exact wholeK_end
    have heff : effAt m t = .halt := by unfold effAt; rw [hins]; rfl
    have e1 : stepK F calls t S = { S with th := upd S.th t { S.th t with en := true } } := by unfold stepK; rw [hc]
    have e2 : actsK F calls t S ((m.steps : Int) + 1) = [] := by unfold actsK; rw [hc]
    have e3 : evsK F calls t S ((m.steps : Int) + 1) = [] := by unfold evsK; rw [hc]
    rw [heff, e1, e2, e3]
    refine ⟨?_, (List.append_nil _).symm, (List.append_nil _).symm, rfl⟩
    exact h.put ht (x := { S.th t with en := true }) (pc := m.at_.getD t 0) (en := true) (regs := m.regs.getD t []) rfl (set_getD_selfK _ _ _).symm rfl hrself.symm h.lc h.cell h.wf.cell rfl ⟨hT.pc, rfl, hT.len, hT.r⟩ ⟨hW.k, hW.j, hW.j0, fun _ => hc, hW.rng⟩ h.lot h.wf.low h.wf.once
  | some c =>
    have hj := hW.j c hc
    have hins : insOf m t = (F.code c (offK F (calls t) (S.th t).k)).getD (S.th t).j default := by
      unfold insOf
      rw [h.prog ht, hpc]
      exact wholeK_at hc hj
    have heff : effAt m t = (F.dos c (S.th t).j S.cell (S.th t).r).real (offK F (calls t) (S.th t).k) := by
      unfold effAt
      rw [hins, F.hdo c _ _ _ _ hj h.lc (by rw [← hT.r]; exact hcan c hc), ← h.cell, ← hT.r]
    have hop : (insOf m t).1 = F.op c (S.th t).j := by rw [hins]; exact F.hop c _ _ hj
    have hok := F.hok c (S.th t).j S.cell (S.th t).r hj h.wf.cell hW.rng
    have e1 : stepK F calls t S = doneK (F.len c) t S (S.th t) (F.dos c (S.th t).j S.cell (S.th t).r) := by unfold stepK; rw [hc]
    have e2 : actsK F calls t S ((m.steps : Int) + 1) = actD t (F.op c (S.th t).j) ((m.steps : Int) + 1) S.cell (F.dos c (S.th t).j S.cell (S.th t).r) := by unfold actsK; rw [hc]
    have e3 : evsK F calls t S ((m.steps : Int) + 1) = evD t ((m.steps : Int) + 1) (F.dos c (S.th t).j S.cell (S.th t).r) := by unfold evsK; rw [hc]
    rw [heff, e1, e2, e3, hop]
    generalize hD : F.dos c (S.th t).j S.cell (S.th t).r = D at hok ⊢
    have hnext : ∀ {regs : List Int} {r : Nat → Int}, regs.length = 8 → r = (fun i => regs.getD i 0) → (∀ i, u64 (r i)) → ∀ {j : Nat} {pc : Int}, j ≤ F.len c → pc = ((offK F (calls t) (S.th t).k + j : Nat) : Int) →
        ThK F (calls t) { goK (F.len c) (S.th t) j with r := r } pc (S.th t).en regs ∧ TokK F (calls t) { goK (F.len c) (S.th t) j with r := r } := fun {regs r} hl hr hu {j pc} hj' hpc' => by
      obtain ⟨g1, g2⟩ := goK_tok (y := { goK (F.len c) (S.th t) j with r := r }) hW hc hj' he ⟨rfl, rfl, rfl⟩ hu
      exact ⟨⟨by rw [hpc', g2], (goK_r _ _ _).2.symm, hl, hr⟩, g1⟩
    have hplain : ∀ {j : Nat} {pc : Int}, j ≤ F.len c → pc = ((offK F (calls t) (S.th t).k + j : Nat) : Int) →
        ThK F (calls t) (goK (F.len c) (S.th t) j) pc (S.th t).en (m.regs.getD t []) ∧ TokK F (calls t) (goK (F.len c) (S.th t) j) := fun {j pc} hj' hpc' => by
      have := hnext (r := (goK (F.len c) (S.th t) j).r) hT.len (by rw [(goK_r _ _ _).1]; exact hT.r) (by rw [(goK_r _ _ _).1]; exact hW.rng) hj' hpc'
      exact this
    have hone : m.at_.getD t 0 + 1 = ((offK F (calls t) (S.th t).k + ((S.th t).j + 1) : Nat) : Int) := by rw [hT.pc]; omega
    cases D with
    | set i v =>
      obtain ⟨q1, q2⟩ := hnext (regs := (m.regs.getD t []).set i v) (r := upd (S.th t).r i v) (by rw [List.length_set]; exact hT.len) (by rw [hT.r]; exact regs_upd hT.len hok.1) (u64_set hW.rng hok.2) (by omega) hone
      exact ⟨h.put ht rfl rfl hself.symm rfl h.lc h.cell h.wf.cell rfl q1 q2 h.lot h.wf.low h.wf.once, (List.append_nil _).symm, (List.append_nil _).symm, rfl⟩
    | mem a now q =>
      obtain ⟨k1, k2, k3⟩ := hok
      have hcell : upd S.cell a now = fun c => (m.cells.set a now).getD c 0 := by rw [h.cell]; exact cells_upd h.lc k1
      have hca : m.cells.getD a 0 = S.cell a := by rw [h.cell]
      cases q with
      | none =>
        obtain ⟨q1, q2⟩ := hplain (j := (S.th t).j + 1) (by omega) hone
        exact ⟨h.put ht rfl rfl hself.symm hrself.symm (by show (m.cells.set a now).length = _; rw [List.length_set]; exact h.lc) hcell (u64_set h.wf.cell k2) rfl q1 q2 h.lot h.wf.low h.wf.once, by show m.acts ++ [(_, _, _, _, m.cells.getD a 0, _)] = _; rw [hca]; rfl, (List.append_nil _).symm, rfl⟩
      | some q =>
        obtain ⟨k4, k5⟩ := k3 q rfl
        obtain ⟨q1, q2⟩ := hnext (regs := (m.regs.getD t []).set q.1 q.2) (r := upd (S.th t).r q.1 q.2) (by rw [List.length_set]; exact hT.len) (by rw [hT.r]; exact regs_upd hT.len k4) (u64_set hW.rng k5) (by omega) hone
        exact ⟨h.put ht rfl rfl hself.symm rfl (by show (m.cells.set a now).length = _; rw [List.length_set]; exact h.lc) hcell (u64_set h.wf.cell k2) rfl q1 q2 h.lot h.wf.low h.wf.once, by show m.acts ++ [(_, _, _, _, m.cells.getD a 0, _)] = _; rw [hca]; rfl, (List.append_nil _).symm, rfl⟩
    | goto j =>
      obtain ⟨q1, q2⟩ := hplain (j := j) hok rfl
      exact ⟨h.put ht rfl rfl hself.symm hrself.symm h.lc h.cell h.wf.cell rfl q1 q2 h.lot h.wf.low h.wf.once, (List.append_nil _).symm, (List.append_nil _).symm, rfl⟩
    | next =>
      obtain ⟨q1, q2⟩ := hplain (j := (S.th t).j + 1) (by omega) hone
      exact ⟨h.put ht rfl rfl hself.symm hrself.symm h.lc h.cell h.wf.cell rfl q1 q2 h.lot h.wf.low h.wf.once, (List.append_nil _).symm, (List.append_nil _).symm, rfl⟩
    | sleep a =>
      obtain ⟨q1, q2⟩ := hplain (j := (S.th t).j + 1) (by omega) hone
      refine ⟨h.put ht rfl rfl hself.symm hrself.symm h.lc h.cell h.wf.cell rfl q1 q2 ?_ ?_ ?_, (List.append_nil _).symm, (List.append_nil _).symm, rfl⟩
      · show m.lot ++ [((t : Int), (a : Int))] = (S.lot ++ [(t, a)]).map _
        rw [h.lot, List.map_append]
        rfl
      · intro s hs'
        rcases List.mem_append.1 hs' with h1 | h1
        · exact h.wf.low s h1
        · rw [List.mem_singleton.1 h1]; exact ht
      · show ((S.lot ++ [(t, a)]).map (·.1)).Nodup
        rw [List.map_append]
        refine List.nodup_append.2 ⟨h.wf.once, by simp, fun x hx y hy e => ?_⟩
        have hy' : y = t := by simpa using hy
        obtain ⟨s, hs1, hs2⟩ := List.mem_map.1 hx
        have : slK S t = true := List.any_eq_true.2 ⟨s, hs1, by rw [show s.1 = t from hs2.trans (e.trans hy')]; simp⟩
        rw [hs] at this
        cases this
    | wake a k =>
      obtain ⟨q1, q2⟩ := hplain (j := (S.th t).j + 1) (by omega) hone
      refine ⟨h.put ht rfl rfl hself.symm hrself.symm h.lc h.cell h.wf.cell rfl q1 q2 ?_ (fun s hs' => h.wf.low s ((wakeK_sub _ _ _).subset hs')) (((wakeK_sub _ _ _).map _).nodup h.wf.once), (List.append_nil _).symm, (List.append_nil _).symm, rfl⟩
      show wakeL m.lot (a : Int) (k : Int).toNat = _
      rw [h.lot, Int.toNat_natCast]
      exact wakeL_K _ _ _
    | say w v =>
      obtain ⟨q1, q2⟩ := hplain (j := (S.th t).j + 1) (by omega) hone
      exact ⟨h.put ht rfl rfl hself.symm hrself.symm h.lc h.cell h.wf.cell rfl q1 q2 h.lot h.wf.low h.wf.once, (List.append_nil _).symm, rfl, rfl⟩

theorem simK_poke (h : SimK F n calls S m) (ht : t < n) (hs : slK S t = true) : SimK F n calls (pokeK t S) (pokeM m t).2 ∧ (pokeM m t).2.acts = m.acts ∧ (pokeM m t).2.events = m.events ∧ (pokeM m t).2.steps = m.steps := by
  have hdo : (pokeM m t).2 = { m with lot := m.lot.eraseP fun s => s.1 == (t : Int) } := by
    unfold pokeM
    rw [if_neg (by rw [h.plen]; omega), if_pos (by rw [h.asleep, hs])]
  rw [hdo]
  refine ⟨⟨⟨h.wf.th, h.wf.cell, fun s hs' => h.wf.low s ((List.eraseP_sublist).subset hs'), ((List.eraseP_sublist).map _).nodup h.wf.once⟩, h.progs, h.la, h.le, h.lr, h.lc, h.cell, h.th, ?_⟩, rfl, rfl, rfl⟩
  show m.lot.eraseP _ = (S.lot.eraseP _).map _
  rw [h.lot, List.eraseP_map]
  congr 2
  funext s
  show (((s.1 : Int)) == (t : Int)) = (s.1 == t)
  by_cases e : s.1 = t
  · simp [e]
  · have : ¬ ((s.1 : Int) = (t : Int)) := by omega
    rw [beq_eq_false_iff_ne.2 e, beq_eq_false_iff_ne.2 this]

theorem stepK_eq {c : κ} (hc : (calls t)[(S.th t).k]? = some c) : stepK F calls t S = doneK (F.len c) t S (S.th t) (F.dos c (S.th t).j S.cell (S.th t).r) := by unfold stepK; rw [hc]
theorem actsK_eq {c : κ} (hc : (calls t)[(S.th t).k]? = some c) (s : Int) : actsK F calls t S s = actD t (F.op c (S.th t).j) s S.cell (F.dos c (S.th t).j S.cell (S.th t).r) := by unfold actsK; rw [hc]
theorem evsK_eq {c : κ} (hc : (calls t)[(S.th t).k]? = some c) (s : Int) : evsK F calls t S s = evD t s (F.dos c (S.th t).j S.cell (S.th t).r) := by unfold evsK; rw [hc]
theorem stepK_end (hc : (calls t)[(S.th t).k]? = none) : stepK F calls t S = { S with th := upd S.th t { S.th t with en := true } } := by unfold stepK; rw [hc]
theorem actsK_end (hc : (calls t)[(S.th t).k]? = none) (s : Int) : actsK F calls t S s = [] := by unfold actsK; rw [hc]
theorem evsK_end (hc : (calls t)[(S.th t).k]? = none) (s : Int) : evsK F calls t S s = [] := by unfold evsK; rw [hc]
theorem goK_in {len j : Nat} {x : TK} (h : j < len) : goK len x j = { x with j := j } := if_pos h
theorem goK_out {len j : Nat} {x : TK} (h : ¬ j < len) : goK len x j = { x with k := x.k + 1, j := 0 } := if_neg h
theorem slK_same {S' : CS} (h : S'.lot = S.lot) (u : Nat) : slK S' u = slK S u := by unfold slK; rw [h]
theorem slK_app {S' : CS} {a : Nat} (h : S'.lot = S.lot ++ [(t, a)]) {u : Nat} (hu : u ≠ t) : slK S' u = slK S u := by
  unfold slK
  rw [h, List.any_append]
  simp [Ne.symm hu]
theorem slK_self {S' : CS} {a : Nat} (h : S'.lot = S.lot ++ [(t, a)]) : slK S' t = true := by
  unfold slK
  rw [h, List.any_append]
  simp
theorem slK_mem {u : Nat} (h : slK S u = true) : ∃ a, (u, a) ∈ S.lot := by
  obtain ⟨s, h1, h2⟩ := List.any_eq_true.1 h
  obtain ⟨q, a⟩ := s
  have : q = u := by simpa using h2
  subst this
  exact ⟨a, h1⟩
theorem slK_of {u a : Nat} (h : (u, a) ∈ S.lot) : slK S u = true := List.any_eq_true.2 ⟨_, h, by simp⟩

def newK (cell : Nat → Int) : CS := ⟨fun _ => ⟨0, 0, false, fun _ => 0⟩, cell, []⟩
theorem simK_new (cells : List Int) (hl : cells.length = F.nc) (hu : ∀ v ∈ cells, u64 v) : SimK F n calls (newK fun c => cells.getD c 0) (newM ((List.range n).map fun t => wholeK F (calls t)) cells) := by
  have hz : u64 0 := ⟨by decide, by decide⟩
  have hm : ∀ {β : Type} (b : β) (d : β) (u : Nat), u < n → ((((List.range n).map fun t => wholeK F (calls t)).map fun _ => b).getD u d) = b := fun b d u hu => by
    rw [List.getD_eq_getElem?_getD, List.getElem?_map, List.getElem?_map, List.getElem?_range hu]
    rfl
  refine ⟨⟨fun u hu => ⟨Nat.zero_le _, fun c _ => F.hpos c, fun _ => rfl, fun e => (by cases e), fun _ => hz⟩, fun c => ?_, (fun s hs => by cases hs), List.nodup_nil⟩, rfl, by simp [newM], by simp [newM], by simp [newM], hl, rfl, fun u hu => ?_, rfl⟩
  · show u64 (cells.getD c 0)
    rw [List.getD_eq_getElem?_getD]
    cases e : cells[c]? with
    | none => exact hz
    | some v => exact hu v (List.mem_of_getElem? e)
  · have e1 : (newM ((List.range n).map fun t => wholeK F (calls t)) cells).at_.getD u 0 = 0 := hm 0 0 u hu
    have e2 : (newM ((List.range n).map fun t => wholeK F (calls t)) cells).ended.getD u false = false := hm false false u hu
    have e3 : (newM ((List.range n).map fun t => wholeK F (calls t)) cells).regs.getD u [] = List.replicate 8 0 := hm _ _ u hu
    rw [e1, e2, e3]
    refine ⟨by simp [newK, offK], rfl, List.length_replicate, ?_⟩
    funext i
    rw [List.getD_eq_getElem?_getD, List.getElem?_replicate]
    split <;> rfl
end
end Go.Proofs.YtkhaeabbbhfloaaDoor

namespace Go.Proofs.YtkhaeabbbhfloaaDoor
set_option maxRecDepth 100000
set_option linter.unusedVariables false
set_option linter.unusedSimpArgs false

/-! Runs of threads that ask for calls. -/
/-- What is kept by all steps, and how many more there can be. -/
structure KindF {κ : Type} (F : Fam κ) (n : Nat) (calls : Nat → List κ) (c0 : Nat → Int) where
  I : CS → List Act6 → List Ev4 → Prop
  pot : CS → Nat
  pk : Nat
  init : I (newK c0) [] []
  can : ∀ S a e t c, I S a e → t < n → (calls t)[(S.th t).k]? = some c → F.can c (S.th t).j (S.th t).r := by intros; exact trivial
  step : ∀ S a e s t, WfK F n calls S → WfK F n calls (stepK F calls t S) → I S a e → t < n → (S.th t).en = false → slK S t = false → I (stepK F calls t S) (a ++ actsK F calls t S s) (e ++ evsK F calls t S s) ∧ pot (stepK F calls t S) + 1 ≤ pot S
  poke : ∀ S a e t, WfK F n calls S → I S a e → t < n → slK S t = true → I (pokeK t S) a e ∧ pot (pokeK t S) ≤ pot S + pk

section
variable {κ : Type} {F : Fam κ} {n : Nat} {calls : Nat → List κ} {c0 : Nat → Int}

structure RanF (K : KindF F n calls c0) (p : Nat) (S : CS) (m : Mach) : Prop where
  sim : SimK F n calls S m
  inv : K.I S m.acts m.events
  few : m.steps + K.pot S ≤ K.pot (newK c0) + K.pk * p

variable {K : KindF F n calls c0} {p : Nat} {S : CS} {m : Mach} {t : Nat}

theorem ranF_new {cells : List Int} {K : KindF F n calls fun c => cells.getD c 0} (hl : cells.length = F.nc) (hu : ∀ v ∈ cells, u64 v) : RanF K 0 (newK fun c => cells.getD c 0) (newM ((List.range n).map fun t => wholeK F (calls t)) cells) :=
  ⟨simK_new cells hl hu, K.init, by show 0 + _ ≤ _; omega⟩
theorem RanF.steps_lt (h : RanF K p S m) (hp : K.pot (newK c0) + K.pk * p < 20000) : m.steps < 20000 := by have := h.few; omega
/-- Who can't go on. -/
def stillK (S : CS) (t : Nat) : Prop := (S.th t).en = true ∨ slK S t = true
theorem ranF_still (h : RanF K p S m) (ht : t < n) (hs : stillK S t) : (stepM 20000 m t).2 = m := by
  rcases Bool.eq_false_or_eq_true (S.th t).en with he | he
  · unfold stepM
    rw [if_neg (by rw [h.sim.plen]; omega), if_pos (by rw [Int.toNat_natCast, (h.sim.th t ht).en, he])]
  · rcases hs with hs | hs
    · rw [hs] at he; cases he
    · unfold stepM
      rw [if_neg (by rw [h.sim.plen]; omega), if_neg (by rw [Int.toNat_natCast, (h.sim.th t ht).en, he]; decide), if_pos (by rw [h.sim.asleep, hs])]
theorem ranF_step (h : RanF K p S m) (ht : t < n) (he : (S.th t).en = false) (hs : slK S t = false) (hst : m.steps < 20000) : RanF K p (stepK F calls t S) (stepM 20000 m t).2 ∧ (stepM 20000 m t).2.steps = m.steps + 1 := by
  obtain ⟨h1, h2, h3, h4⟩ := simK_step h.sim ht he hs hst (fun c hc => K.can S m.acts m.events t c h.inv ht hc)
  obtain ⟨i1, i2⟩ := K.step S m.acts m.events ((m.steps : Int) + 1) t h.sim.wf h1.wf h.inv ht he hs
  exact ⟨⟨h1, by rw [h2, h3]; exact i1, by rw [h4]; have := h.few; omega⟩, h4⟩
theorem ranF_move (h : RanF K p S m) (hp : K.pot (newK c0) + K.pk * p < 20000) (v : Int × Bool) : ∃ S', RanF K (p + if v.2 then 1 else 0) S' (moveM 20000 m v) := by
  obtain ⟨u, b⟩ := v
  by_cases hu : u < 0 ∨ (m.progs.length : Int) ≤ u
  · have e : moveM 20000 m (u, b) = m := by
      cases b
      · show (stepM 20000 m u).2 = m
        unfold stepM
        rw [if_pos hu]
      · show (pokeM m u).2 = m
        unfold pokeM
        rw [if_pos hu]
    rw [e]
    exact ⟨S, h.sim, h.inv, by have h1 := h.few; have : K.pk * p ≤ K.pk * (p + if b then 1 else 0) := Nat.mul_le_mul_left _ (by omega); show _ ≤ K.pot (newK c0) + K.pk * (p + if b then 1 else 0); omega⟩
  · rw [h.sim.plen] at hu
    obtain ⟨t, rfl⟩ : ∃ t : Nat, u = t := ⟨u.toNat, by omega⟩
    have ht : t < n := by omega
    cases b with
    | false =>
      show ∃ S', RanF K p S' (stepM 20000 m t).2
      rcases Bool.eq_false_or_eq_true (S.th t).en with he | he
      · rw [ranF_still h ht (.inl he)]; exact ⟨S, h⟩
      · rcases Bool.eq_false_or_eq_true (slK S t) with hs | hs
        · rw [ranF_still h ht (.inr hs)]; exact ⟨S, h⟩
        · exact ⟨_, (ranF_step h ht he hs (h.steps_lt hp)).1⟩
    | true =>
      show ∃ S', RanF K (p + 1) S' (pokeM m t).2
      rcases Bool.eq_false_or_eq_true (slK S t) with hs | hs
      · obtain ⟨h1, h2, h3, h4⟩ := simK_poke h.sim ht hs
        obtain ⟨i1, i2⟩ := K.poke S m.acts m.events t h.sim.wf h.inv ht hs
        exact ⟨_, h1, by rw [h2, h3]; exact i1, by rw [h4, Nat.mul_add]; have := h.few; omega⟩
      · have e : (pokeM m t).2 = m := by
          unfold pokeM
          rw [if_neg (by rw [h.sim.plen]; omega), if_neg (by rw [h.sim.asleep, hs]; decide)]
        rw [e]
        exact ⟨S, h.sim, h.inv, by rw [Nat.mul_add]; have := h.few; omega⟩
theorem ranF_moves : ∀ (l : List (Int × Bool)) (p : Nat) (S : CS) (m : Mach), RanF K p S m → K.pot (newK c0) + K.pk * (p + pokesM l) < 20000 → ∃ S', RanF K (p + pokesM l) S' (behindM 20000 m l)
  | [], p, S, m, h, _ => ⟨S, h⟩
  | v :: l, p, S, m, h, hp => by
    have e : pokesM (v :: l) = (if v.2 then 1 else 0) + pokesM l := by
      unfold pokesM
      rw [List.filter_cons]
      split <;> simp [Nat.add_comm]
    rw [e, ← Nat.add_assoc] at hp ⊢
    have hm : K.pk * p ≤ K.pk * (p + (if v.2 then 1 else 0) + pokesM l) := Nat.mul_le_mul_left _ (by omega)
    obtain ⟨S1, h1⟩ := ranF_move h (by omega) v
    exact ranF_moves l _ S1 _ h1 hp
theorem ranF_sweep (hp : K.pot (newK c0) + K.pk * p < 20000) : ∀ (l : List Nat) (S : CS) (m : Mach), RanF K p S m → (∀ t ∈ l, t < n) → ∃ S', RanF K p S' (sweepM l m) ∧ m.steps ≤ (sweepM l m).steps ∧ ((sweepM l m).steps = m.steps → sweepM l m = m ∧ ∀ t ∈ l, stillK S t)
  | [], S, m, h, _ => ⟨S, h, Nat.le_refl _, fun _ => ⟨rfl, fun _ h => by cases h⟩⟩
  | t :: l, S, m, h, hl => by
    have ht := hl t (.head _)
    have e2 : sweepM (t :: l) m = sweepM l (stepM 20000 m t).2 := rfl
    by_cases hs : stillK S t
    · rw [e2, ranF_still h ht hs]
      obtain ⟨S', a, b, c⟩ := ranF_sweep hp l S m h (fun u hu => hl u (.tail _ hu))
      refine ⟨S', a, b, fun e => ⟨(c e).1, fun u hu => ?_⟩⟩
      rcases List.mem_cons.1 hu with hu | hu
      · subst hu; exact hs
      · exact (c e).2 u hu
    · have he : (S.th t).en = false := by
        cases e : (S.th t).en with
        | true => exact absurd (.inl e) hs
        | false => rfl
      have hs' : slK S t = false := by
        cases e : slK S t with
        | true => exact absurd (.inr e) hs
        | false => rfl
      obtain ⟨h1, h2⟩ := ranF_step h ht he hs' (h.steps_lt hp)
      rw [e2]
      obtain ⟨S', a, b, c⟩ := ranF_sweep hp l _ _ h1 (fun u hu => hl u (.tail _ hu))
      exact ⟨S', a, by omega, fun e => by omega⟩
/-- Till none can. -/
theorem ranF_fin (hp : K.pot (newK c0) + K.pk * p < 20000) (h : RanF K p S m) {m' : Mach} (hf : Fin m m') : ∃ S', RanF K p S' m' ∧ ∀ t, t < n → stillK S' t := by
  obtain ⟨k, h1, h2⟩ := hf
  obtain ⟨S1, r1, _, _⟩ := ranF_sweep hp (List.replicate k (List.range m.progs.length)).flatten S m h (fun t ht => by
    obtain ⟨l, hl, ht⟩ := List.mem_flatten.1 ht
    rw [(List.mem_replicate.1 hl).2, h.sim.plen] at ht
    exact List.mem_range.1 ht)
  rw [← h1] at r1
  obtain ⟨S2, r2, _, c⟩ := ranF_sweep hp (List.range m'.progs.length) S1 m' r1 (fun t ht => by rw [r1.sim.plen] at ht; exact List.mem_range.1 ht)
  have hs : (sweepM (List.range m'.progs.length) m').steps = m'.steps := by
    show (roundM m').steps = _
    rw [h2]
  exact ⟨S1, r1, fun t ht => (c hs).2 t (by rw [r1.sim.plen]; exact List.mem_range.2 ht)⟩
theorem RanF.ended (h : RanF K p S m) (ht : t < n) : m.ended.getD t false = (S.th t).en := (h.sim.th t ht).en
end
end Go.Proofs.YtkhaeabbbhfloaaDoor

namespace Go.Proofs.YtkhaeabbbhfloaaDoor
set_option maxRecDepth 100000
set_option linter.unusedVariables false
set_option linter.unusedSimpArgs false

/-! A count that goes down, and those who wait for nought: false is Down, true is Await. -/
def latchI : Bool → Nat → List Ins5
  | false, p => [(6, 1, 0, 0, 0), (11, 1, 0, (p : Int) + 9, 0), (3, 2, 1, -1, 0), (9, 3, 0, 1, 2), (11, 3, 0, (p : Int), 0), (2, 1, 2, 0, 0), (11, 2, 0, (p : Int) + 8, 0), (10, (p : Int) + 9, 0, 0, 0), (15, 0, 16, -1, 0), (16, 3, 1, 0, 0)]
  | true, p => [(6, 1, 0, 0, 0), (11, 1, 0, (p : Int) + 4, 0), (14, 0, 1, 0, 0), (10, (p : Int), 0, 0, 0), (16, 3, 1, 0, 0)]
def latchD (b : Bool) (j : Nat) (cell r : Nat → Int) : DoK :=
  match b, j with
  | false, 0 => .mem 0 (cell 0) (some (1, cell 0))
  | false, 1 => if r 1 = 0 then .goto 9 else .next
  | false, 2 => .set 2 ((r 1 + -1) % m64)
  | false, 3 => if cell 0 = r 1 then .mem 0 (r 2) (some (3, 1)) else .mem 0 (cell 0) (some (3, 0))
  | false, 4 => if r 3 = 0 then .goto 0 else .next
  | false, 5 => .set 1 (r 2)
  | false, 6 => if r 2 = 0 then .goto 8 else .next
  | false, 7 => .goto 9
  | false, 8 => .wake 0 16
  | false, _ => .say 3 (signed (r 1))
  | true, 0 => .mem 0 (cell 0) (some (1, cell 0))
  | true, 1 => if r 1 = 0 then .goto 4 else .next
  | true, 2 => if cell 0 = r 1 then .sleep 0 else .next
  | true, 3 => .goto 0
  | true, _ => .say 3 (signed (r 1))
def latchLen : Bool → Nat
  | false => 10
  | true => 5

theorem real_if (q : Prop) [Decidable q] (a b : DoK) (p : Nat) : (if q then a else b).real p = if q then a.real p else b.real p := by split <;> rfl
theorem okD_if (q : Prop) [Decidable q] (a b : DoK) (l c : Nat) (h1 : okD l c a) (h2 : okD l c b) : okD l c (if q then a else b) := by split <;> assumption
theorem u64_mod (v : Int) : u64 (v % m64) := ⟨Int.emod_nonneg _ (by decide), Int.emod_lt_of_pos _ (by decide)⟩
theorem u64_0 : u64 0 := ⟨by decide, by decide⟩
theorem u64_1 : u64 1 := ⟨by decide, by decide⟩

def latchF : Fam Bool where
  code := latchI
  len := latchLen
  op b j := ((latchI b 0).getD j default).1
  dos := latchD
  nc := 1
  hlen c p := by cases c <;> rfl
  hpos c := by cases c <;> decide
  hop c p j hj := by
    cases c
    · match j, hj with
      | 0, _ | 1, _ | 2, _ | 3, _ | 4, _ | 5, _ | 6, _ | 7, _ | 8, _ | 9, _ => rfl
      | j + 10, h => exact absurd h (by simp [latchLen])
    · match j, hj with
      | 0, _ | 1, _ | 2, _ | 3, _ | 4, _ => rfl
      | j + 5, h => exact absurd h (by simp [latchLen])
  hdo c p j regs cells hj hc _ := by
    have h1 : (0 : Int) < (cells.length : Int) := by omega
    cases c
    · match j, hj with
      | 0, _ => rfl
      | 1, _ => simp only [latchD, real_if]; rfl
      | 2, _ => rfl
      | 3, _ => simp only [latchD, real_if]; rfl
      | 4, _ => simp only [latchD, real_if]; rfl
      | 5, _ => rfl
      | 6, _ => simp only [latchD, real_if]; rfl
      | 7, _ => rfl
      | 8, _ =>
        show (if (0 : Int) < (cells.length : Int) then Eff.wake 0 16 else Eff.lost) = _
        rw [if_pos h1]; rfl
      | 9, _ => rfl
      | j + 10, h => exact absurd h (by simp [latchLen])
    · match j, hj with
      | 0, _ => rfl
      | 1, _ => simp only [latchD, real_if]; rfl
      | 2, _ => simp only [latchD, real_if]; rfl
      | 3, _ => rfl
      | 4, _ => rfl
      | j + 5, h => exact absurd h (by simp [latchLen])
  hok c j cell r hj hc hr := by
    cases c
    · match j, hj with
      | 0, _ => exact ⟨by decide, hc 0, fun x e => by injection e with e; subst e; exact ⟨(by decide : (1 : Nat) < 8), hc 0⟩⟩
      | 1, _ => exact okD_if _ _ _ _ _ (Nat.le_of_ble_eq_true rfl) trivial
      | 2, _ => exact ⟨by decide, u64_mod _⟩
      | 3, _ => exact okD_if _ _ _ _ _ ⟨by decide, hr 2, fun x e => by injection e with e; subst e; exact ⟨(by decide : (3 : Nat) < 8), u64_1⟩⟩ ⟨by decide, hc 0, fun x e => by injection e with e; subst e; exact ⟨(by decide : (3 : Nat) < 8), u64_0⟩⟩
      | 4, _ => exact okD_if _ _ _ _ _ (Nat.le_of_ble_eq_true rfl) trivial
      | 5, _ => exact ⟨by decide, hr 2⟩
      | 6, _ => exact okD_if _ _ _ _ _ (Nat.le_of_ble_eq_true rfl) trivial
      | 7, _ => exact (by decide : (9 : Nat) ≤ 10)
      | 8, _ => trivial
      | 9, _ => trivial
      | j + 10, h => exact absurd h (by simp [latchLen])
    · match j, hj with
      | 0, _ => exact ⟨by decide, hc 0, fun x e => by injection e with e; subst e; exact ⟨(by decide : (1 : Nat) < 8), hc 0⟩⟩
      | 1, _ => exact okD_if _ _ _ _ _ (Nat.le_of_ble_eq_true rfl) trivial
      | 2, _ => exact okD_if _ _ _ _ _ trivial trivial
      | 3, _ => exact Nat.zero_le _
      | 4, _ => trivial
      | j + 5, h => exact absurd h (by simp [latchLen])
end Go.Proofs.YtkhaeabbbhfloaaDoor

namespace Go.Proofs.YtkhaeabbbhfloaaDoor
set_option maxRecDepth 100000
set_option linter.unusedVariables false
set_option linter.unusedSimpArgs false

theorem sumN_shift {n t a b : Nat} {f g : Nat → Nat} (ht : t < n) (h : ∀ u, u < n → u ≠ t → f u = g u) (hd : f t + a ≤ g t + b) : sumN n f + a ≤ sumN n g + b := by
  rcases Nat.le_total (f t) (g t) with h1 | h1
  · have := sumN_at (d := g t - f t) ht (fun u hu hne => (h u hu hne).symm) (by omega)
    omega
  · have := sumN_at (d := f t - g t) ht h (by omega)
    omega
theorem sumN_bulk {n t a b : Nat} {f g : Nat → Nat} (ht : t < n) (h : ∀ u, u < n → u ≠ t → f u ≤ g u + b) (hd : f t + a ≤ g t) : sumN n f + a + b ≤ sumN n g + n * b := by
  have h1 := sumN_drop (f := f) (g := fun u => g u + b) (d := a + b) ht h (by omega)
  have h2 : ∀ k, sumN k (fun u => g u + b) = sumN k g + k * b := fun k => by
    induction k with
    | zero => simp [sumN]
    | succ k ih => rw [sumN_succ, sumN_succ, ih, Nat.succ_mul]; omega
  rw [h2] at h1
  omega

/-- What a thread was told, in order. -/
def ansOf (e : List Ev4) (u : Nat) : List Int := (e.filter fun x => x.2.2.1 == (u : Int)).map (·.2.2.2)
theorem ansOf_self (e : List Ev4) (s w v : Int) (t : Nat) : ansOf (e ++ [(s, w, (t : Int), v)]) t = ansOf e t ++ [v] := by
  unfold ansOf
  rw [List.filter_append, List.map_append]
  simp
theorem ansOf_ne (e : List Ev4) (s w v : Int) {t u : Nat} (h : u ≠ t) : ansOf (e ++ [(s, w, (t : Int), v)]) u = ansOf e u := by
  unfold ansOf
  have : ((t : Int) == (u : Int)) = false := beq_eq_false_iff_ne.2 (by omega)
  rw [List.filter_append, List.map_append]
  simp [this]

def ltL (first v : Int) (o : Option Bool) (x : TK) : Prop :=
  match o with
  | none => True
  | some false => (x.j = 1 → v ≤ x.r 1 ∧ x.r 1 ≤ first) ∧ (x.j = 2 → v ≤ x.r 1 ∧ x.r 1 ≤ first ∧ x.r 1 ≠ 0) ∧ (x.j = 3 → v ≤ x.r 1 ∧ x.r 1 ≤ first ∧ x.r 1 ≠ 0 ∧ x.r 2 = x.r 1 - 1) ∧
    (x.j = 4 → x.r 3 = 0 ∨ (x.r 3 = 1 ∧ v ≤ x.r 2 ∧ x.r 2 < first)) ∧ (x.j = 5 → v ≤ x.r 2 ∧ x.r 2 < first) ∧ (x.j = 6 → x.r 1 = x.r 2 ∧ v ≤ x.r 2 ∧ x.r 2 < first) ∧
    (x.j = 7 → x.r 1 ≠ 0 ∧ v ≤ x.r 1 ∧ x.r 1 < first) ∧ (x.j = 8 → x.r 1 = 0 ∧ v ≤ 0 ∧ 0 < first) ∧ (x.j = 9 → v ≤ x.r 1 ∧ (x.r 1 = 0 ∨ x.r 1 < first))
  | some true => (x.j = 1 → v ≤ x.r 1 ∧ x.r 1 ≤ first) ∧ (x.j = 2 → v ≤ x.r 1 ∧ x.r 1 ≤ first ∧ x.r 1 ≠ 0) ∧ (x.j = 4 → x.r 1 = 0 ∧ v ≤ 0)
theorem ltL_mono {first v v' : Int} {o : Option Bool} {x : TK} (h : ltL first v o x) (hv : v' ≤ v) : ltL first v' o x := by
  cases o with
  | none => trivial
  | some b =>
    cases b
    · obtain ⟨h1, h2, h3, h4, h5, h6, h7, h8, h9⟩ := h
      refine ⟨fun e => ?_, fun e => ?_, fun e => ?_, fun e => ?_, fun e => ?_, fun e => ?_, fun e => ?_, fun e => ?_, fun e => ?_⟩
      · have := h1 e; omega
      · have := h2 e; omega
      · have := h3 e; omega
      · have := h4 e; omega
      · have := h5 e; omega
      · have := h6 e; omega
      · have := h7 e; omega
      · have := h8 e; omega
      · have := h9 e; omega
    · obtain ⟨h1, h2, h3⟩ := h
      refine ⟨fun e => ?_, fun e => ?_, fun e => ?_⟩
      · have := h1 e; omega
      · have := h2 e; omega
      · have := h3 e; omega
def tkL (o : Option Bool) (x : TK) : Nat := if o = some false ∧ ((x.j = 4 ∧ x.r 3 = 1) ∨ 5 ≤ x.j) then 1 else 0
def valL (o : Option Bool) (x : TK) (w : Int) : Nat := if o = some false ∧ (((x.j = 4 ∧ x.r 3 = 1 ∨ x.j = 5) ∧ x.r 2 = w) ∨ (6 ≤ x.j ∧ x.r 1 = w)) then 1 else 0
def pwL (o : Option Bool) (x : TK) : Prop := o = some false ∧ (((x.j = 4 ∧ x.r 3 = 1 ∨ x.j = 5 ∨ x.j = 6) ∧ x.r 2 = 0) ∨ x.j = 8)
def dnB (l : List Bool) (k : Nat) : Nat := (l.take k).count false
def wL (n : Nat) : Bool → Nat
  | false => 9 + 4 * n
  | true => 4
def locL (n : Nat) (v : Int) (o : Option Bool) (x : TK) (sl : Bool) : Nat :=
  match o, x.j with
  | none, _ => 0
  | some false, 0 => 9 + 4 * n
  | some false, 1 => if x.r 1 = v then 8 + 4 * n else 13 + 4 * n
  | some false, 2 => if x.r 1 = v then 7 + 4 * n else 12 + 4 * n
  | some false, 3 => if x.r 1 = v then 6 + 4 * n else 11 + 4 * n
  | some false, 4 => if x.r 3 = 0 then 10 + 4 * n else 5 + 4 * n
  | some false, 5 => 4 + 4 * n
  | some false, 6 => 3 + 4 * n
  | some false, 7 => 2
  | some false, 8 => 2 + 4 * n
  | some false, _ => 1
  | some true, 0 => 4
  | some true, 1 => if x.r 1 = v then 3 else 7
  | some true, 2 => if x.r 1 = v then 2 else 6
  | some true, 3 => if sl then 1 else 5
  | some true, _ => 1
def potL (n : Nat) (v : Int) (l : List Bool) (x : TK) (sl : Bool) : Nat := if x.en = true then 0 else 1 + locL n v l[x.k]? x sl + ((l.drop (x.k + 1)).map (wL n)).sum
theorem locL_bump (n : Nat) (v v' : Int) (o : Option Bool) (x : TK) (sl : Bool) : locL n v' o x sl ≤ locL n v o x sl + 5 := by
  unfold locL
  cases o with
  | none => simp
  | some b => cases b <;> (split <;> (try split) <;> (try split) <;> (try split) <;> first | omega | simp_all)
theorem locL_woke (n : Nat) (v : Int) (o : Option Bool) (x : TK) (sl sl' : Bool) : locL n v o x sl' ≤ locL n v o x sl + 4 := by
  unfold locL
  cases o with
  | none => simp
  | some b => cases b <;> (split <;> (try split) <;> (try split) <;> (try split) <;> first | omega | simp_all)
theorem potL_bump (n : Nat) (v v' : Int) (l : List Bool) (x : TK) (sl : Bool) : potL n v' l x sl ≤ potL n v l x sl + 5 := by
  have := locL_bump n v v' l[x.k]? x sl
  unfold potL
  split <;> omega
theorem potL_woke (n : Nat) (v : Int) (l : List Bool) (x : TK) (sl sl' : Bool) : potL n v l x sl' ≤ potL n v l x sl + 4 := by
  have := locL_woke n v l[x.k]? x sl sl'
  unfold potL
  split <;> omega

structure LatI (n : Nat) (calls : Nat → List Bool) (first : Int) (S : CS) (a : List Act6) (e : List Ev4) : Prop where
  cell : 0 ≤ S.cell 0 ∧ S.cell 0 ≤ first
  ok : ∀ u, u < n → ltL first (S.cell 0) (calls u)[(S.th u).k]? (S.th u)
  awt : ∀ u i : Nat, u < n → i < (S.th u).k → (calls u)[i]? = some true → S.cell 0 = 0
  dsum : S.cell 0 + (sumN n fun u => dnB (calls u) (S.th u).k + tkL (calls u)[(S.th u).k]? (S.th u) : Nat) = first ∨ (S.cell 0 = 0 ∧ first ≤ (sumN n fun u => dnB (calls u) (S.th u).k + tkL (calls u)[(S.th u).k]? (S.th u) : Nat))
  uni : ∀ w : Int, 0 < w → (sumN n fun u => (ansOf e u).count w + valL (calls u)[(S.th u).k]? (S.th u) w) + (if w < S.cell 0 then 1 else 0) ≤ 1
  lot : ∀ s ∈ S.lot, s.2 = 0 ∧ (calls s.1)[(S.th s.1).k]? = some true ∧ (S.th s.1).j = 3
  wk : S.cell 0 = 0 → S.lot = [] ∨ ∃ u, u < n ∧ pwL (calls u)[(S.th u).k]? (S.th u)
  evs : ∀ x ∈ e, ∃ s w : Int, ∃ u : Nat, u < n ∧ x = (s, 3, (u : Int), w)
  ans : ∀ u, u < n → (ansOf e u).length = (S.th u).k ∧ ∀ (i : Nat) (w : Int), (ansOf e u)[i]? = some w → 0 ≤ w ∧ (w = 0 ∨ w < first) ∧ ((calls u)[i]? = some true → w = 0)
  acts : ∀ x ∈ a, x.2.2.2.2.1 ≠ x.2.2.2.2.2 → x.2.2.1 = 9 ∧ (0 < x.2.2.2.2.1 ∧ x.2.2.2.2.1 ≤ first) ∧ x.2.2.2.2.2 = x.2.2.2.2.1 - 1

def potS (n : Nat) (calls : Nat → List Bool) (S : CS) : Nat := (sumN n fun u => potL n (S.cell 0) (calls u) (S.th u) (slK S u)) + 6 * n * (S.cell 0).toNat
end Go.Proofs.YtkhaeabbbhfloaaDoor

namespace Go.Proofs.YtkhaeabbbhfloaaDoor
set_option maxRecDepth 100000
set_option linter.unusedVariables false
set_option linter.unusedSimpArgs false

section
variable {n : Nat} {calls : Nat → List Bool} {first : Int} {S S' : CS} {a a' : List Act6} {e : List Ev4} {t : Nat} {x' : TK} {b : Bool}

theorem lat_quiet (h : LatI n calls first S a e) (ht : t < n) (hk : x'.k = (S.th t).k) (hth : S'.th = upd S.th t x') (hv : 0 ≤ S'.cell 0 ∧ S'.cell 0 ≤ S.cell 0)
    (hok : ltL first (S'.cell 0) (calls t)[(S.th t).k]? x')
    (hd : S'.cell 0 + (tkL (calls t)[(S.th t).k]? x' : Nat) = S.cell 0 + (tkL (calls t)[(S.th t).k]? (S.th t) : Nat) ∨ (S.cell 0 = 0 ∧ tkL (calls t)[(S.th t).k]? (S.th t) ≤ tkL (calls t)[(S.th t).k]? x'))
    (hu : ∀ w : Int, 0 < w → valL (calls t)[(S.th t).k]? x' w + (if w < S'.cell 0 then 1 else 0) ≤ valL (calls t)[(S.th t).k]? (S.th t) w + (if w < S.cell 0 then 1 else 0))
    (hl : ∀ s ∈ S'.lot, (s ∈ S.lot ∧ s.1 ≠ t) ∨ (s = (t, 0) ∧ (calls t)[(S.th t).k]? = some true ∧ x'.j = 3))
    (hw : S'.cell 0 = 0 → S'.lot = [] ∨ pwL (calls t)[(S.th t).k]? x' ∨ (S.cell 0 = 0 ∧ S'.lot = S.lot ∧ ¬ pwL (calls t)[(S.th t).k]? (S.th t)))
    (ha : ∀ x ∈ a', x ∈ a ∨ (x.2.2.2.2.1 ≠ x.2.2.2.2.2 → x.2.2.1 = 9 ∧ (0 < x.2.2.2.2.1 ∧ x.2.2.2.2.1 ≤ first) ∧ x.2.2.2.2.2 = x.2.2.2.2.1 - 1)) : LatI n calls first S' a' e := by
  have hne : ∀ u, u ≠ t → S'.th u = S.th u := fun u hu => by rw [hth, upd_ne _ _ hu]
  have hself : S'.th t = x' := by rw [hth, upd_same]
  have hkk : ∀ u, (S'.th u).k = (S.th u).k := fun u => by
    by_cases e : u = t
    · subst e; rw [hself, hk]
    · rw [hne u e]
  have hc := h.cell
  refine ⟨⟨hv.1, by omega⟩, fun u hu' => ?_, fun u i hu' hi hci => ?_, ?_, fun w hw' => ?_, fun s hs => ?_, fun e0 => ?_, h.evs, fun u hu' => ?_, fun x hx hn => ?_⟩
  · rw [hkk]
    by_cases e : u = t
    · subst e; rw [hself]; exact hok
    · rw [hne u e]; exact ltL_mono (h.ok u hu') hv.2
  · rw [hkk] at hi
    have := h.awt u i hu' hi hci
    omega
  · have hD : ∀ k1 k2, tkL (calls t)[(S.th t).k]? x' + k1 = tkL (calls t)[(S.th t).k]? (S.th t) + k2 → (sumN n fun u => dnB (calls u) (S'.th u).k + tkL (calls u)[(S'.th u).k]? (S'.th u)) + k1 = (sumN n fun u => dnB (calls u) (S.th u).k + tkL (calls u)[(S.th u).k]? (S.th u)) + k2 := fun k1 k2 hk12 => by
      refine Nat.le_antisymm (sumN_shift ht (fun u hu' hne' => by rw [hne u hne']) ?_) (sumN_shift ht (fun u hu' hne' => by rw [hne u hne']) ?_)
      · rw [hkk, hself]; omega
      · rw [hkk, hself]; omega
    generalize (sumN n fun u => dnB (calls u) (S'.th u).k + tkL (calls u)[(S'.th u).k]? (S'.th u)) = D' at hD ⊢
    have hds := h.dsum
    generalize (sumN n fun u => dnB (calls u) (S.th u).k + tkL (calls u)[(S.th u).k]? (S.th u)) = D at hD hds
    have h1 := hD (tkL (calls t)[(S.th t).k]? (S.th t)) (tkL (calls t)[(S.th t).k]? x') (by omega)
    rcases hd with hd | hd
    · rcases hds with hds | hds
      · left; omega
      · by_cases hz : S'.cell 0 = 0
        · right; omega
        · omega
    · have hz : S'.cell 0 = 0 := by omega
      right
      rcases hds with hds | hds <;> omega
  · have := h.uni w hw'
    have h2 : (sumN n fun u => (ansOf e u).count w + valL (calls u)[(S'.th u).k]? (S'.th u) w) + (if w < S'.cell 0 then 1 else 0) ≤ (sumN n fun u => (ansOf e u).count w + valL (calls u)[(S.th u).k]? (S.th u) w) + (if w < S.cell 0 then 1 else 0) := by
      refine sumN_shift ht (fun u hu' hne' => by rw [hne u hne']) ?_
      rw [hkk, hself]
      have := hu w hw'
      omega
    omega
  · rcases hl s hs with ⟨h1, h2⟩ | ⟨h1, h2, h3⟩
    · rw [hne _ h2]; exact h.lot s h1
    · subst h1
      show _ ∧ (calls t)[(S'.th t).k]? = _ ∧ (S'.th t).j = 3
      rw [hkk, hself]
      exact ⟨rfl, h2, h3⟩
  · rcases hw e0 with h1 | h1 | ⟨h1, h2, h3⟩
    · exact .inl h1
    · exact .inr ⟨t, ht, by rw [hkk, hself]; exact h1⟩
    · rcases h.wk h1 with h4 | ⟨u, hu1, hu2⟩
      · exact .inl (h2.trans h4)
      · have : u ≠ t := fun e => by subst e; exact h3 hu2
        exact .inr ⟨u, hu1, by rw [hne u this]; exact hu2⟩
  · rw [hkk]; exact h.ans u hu'
  · rcases ha x hx with h1 | h1
    · exact h.acts x h1 hn
    · exact h1 hn

theorem dnB_succ {l : List Bool} {k : Nat} (h : l[k]? = some b) : dnB l (k + 1) = dnB l k + if b = false then 1 else 0 := by
  unfold dnB
  rw [List.take_add_one, h]
  cases b <;> simp

theorem lat_say (h : LatI n calls first S a e) (ht : t < n) (hk : x'.k = (S.th t).k + 1) (hj : x'.j = 0) (hth : S'.th = upd S.th t x') (hc : S'.cell = S.cell) (hlot : S'.lot = S.lot) (hb : (calls t)[(S.th t).k]? = some b) (hjb : (b = false ∧ (S.th t).j = 9) ∨ (b = true ∧ (S.th t).j = 4))
    (hsl : slK S t = false) {w s : Int} (hw : w = (S.th t).r 1) (hw0 : 0 ≤ w) : LatI n calls first S' a (e ++ [(s, 3, (t : Int), w)]) := by
  have hne : ∀ u, u ≠ t → S'.th u = S.th u := fun u hu => by rw [hth, upd_ne _ _ hu]
  have hself : S'.th t = x' := by rw [hth, upd_same]
  have hloc := h.ok t ht
  rw [hb] at hloc
  have hfin : (b = true → w = 0) ∧ (w = 0 ∨ w < first) ∧ S.cell 0 ≤ w := by
    rcases hjb with ⟨rfl, hj9⟩ | ⟨rfl, hj4⟩
    · have := hloc.2.2.2.2.2.2.2.2 hj9
      exact ⟨fun e => (by cases e), by omega, by omega⟩
    · have := hloc.2.2 hj4
      exact ⟨fun _ => by omega, by omega, by omega⟩
  have htk : tkL (some b) (S.th t) = if b = false then 1 else 0 := by
    rcases hjb with ⟨rfl, hj9⟩ | ⟨rfl, hj4⟩
    · simp [tkL, hj9]
    · simp [tkL]
  have htk' : ∀ o, tkL o x' = 0 := fun o => by simp [tkL, hj]
  have hnt : ∀ s ∈ S.lot, s.1 ≠ t := fun s hs e => by
    have : slK S t = true := slK_of (a := s.2) (by rw [← e]; exact hs)
    rw [hsl] at this; cases this
  refine ⟨by rw [hc]; exact h.cell, fun u hu' => ?_, fun u i hu' hi hci => ?_, ?_, fun v hv' => ?_, fun s hs => ?_, fun e0 => ?_, fun x hx => ?_, fun u hu' => ?_, h.acts⟩
  · rw [hc]
    by_cases e : u = t
    · subst e; rw [hself]
      unfold ltL
      split
      · trivial
      · rw [hj]; refine ⟨?_, ?_, ?_, ?_, ?_, ?_, ?_, ?_, ?_⟩ <;> intro h <;> cases h
      · rw [hj]; refine ⟨?_, ?_, ?_⟩ <;> intro h <;> cases h
    · rw [hne u e]; exact h.ok u hu'
  · rw [hc]
    by_cases e : u = t
    · subst e
      rw [hself, hk] at hi
      by_cases e2 : i = (S.th u).k
      · subst e2
        rw [hb] at hci
        injection hci with hci
        have := hfin.1 hci
        have := h.cell
        omega
      · exact h.awt u i hu' (by omega) hci
    · rw [hne u e] at hi; exact h.awt u i hu' hi hci
  · have hD : (sumN n fun u => dnB (calls u) (S'.th u).k + tkL (calls u)[(S'.th u).k]? (S'.th u)) + 0 = (sumN n fun u => dnB (calls u) (S.th u).k + tkL (calls u)[(S.th u).k]? (S.th u)) + 0 := by
      refine Nat.le_antisymm (sumN_shift ht (fun u hu' hne' => by rw [hne u hne']) ?_) (sumN_shift ht (fun u hu' hne' => by rw [hne u hne']) ?_)
      · rw [hself, htk', hk, dnB_succ hb, hb, htk]; omega
      · rw [hself, htk', hk, dnB_succ hb, hb, htk]; omega
    simp only [Nat.add_zero] at hD
    rw [hc, hD]
    exact h.dsum
  · have := h.uni v hv'
    have h2 : (sumN n fun u => (ansOf (e ++ [(s, 3, (t : Int), w)]) u).count v + valL (calls u)[(S'.th u).k]? (S'.th u) v) + 0 ≤ (sumN n fun u => (ansOf e u).count v + valL (calls u)[(S.th u).k]? (S.th u) v) + 0 := by
      refine sumN_shift ht (fun u hu' hne' => by rw [hne u hne', ansOf_ne _ _ _ _ hne']) ?_
      rw [hself, ansOf_self, List.count_append, hb]
      have hz : ∀ o, valL o x' v = 0 := fun o => by simp [valL, hj]
      rw [hz]
      rcases hjb with ⟨rfl, hj9⟩ | ⟨rfl, hj4⟩
      · by_cases e : w = v
        · have : valL (some false) (S.th t) v = 1 := by unfold valL; rw [if_pos]; exact ⟨rfl, .inr ⟨by omega, by rw [← hw, e]⟩⟩
          rw [this]
          have : ([w] : List Int).count v ≤ 1 := List.count_le_length
          omega
        · rw [List.count_singleton, if_neg (by simpa using e)]
          omega
      · have : w ≠ v := by have := hfin.1 rfl; omega
        rw [List.count_singleton, if_neg (by simpa using this)]
        omega
    rw [hc]
    omega
  · rw [hlot] at hs
    rw [hne _ (hnt s hs)]
    exact h.lot s hs
  · rw [hlot]
    rw [hc] at e0
    rcases h.wk e0 with h4 | ⟨u, hu1, hu2⟩
    · exact .inl h4
    · by_cases e : u = t
      · subst e
        rw [hb] at hu2
        obtain ⟨p1, p2⟩ := hu2
        injection p1 with p1
        subst p1
        rcases hjb with ⟨_, hj9⟩ | ⟨h0, _⟩
        · omega
        · cases h0
      · exact .inr ⟨u, hu1, by rw [hne u e]; exact hu2⟩
  · rcases List.mem_append.1 hx with hx | hx
    · exact h.evs x hx
    · exact ⟨s, w, t, ht, List.mem_singleton.1 hx⟩
  · by_cases e : u = t
    · subst e
      obtain ⟨q1, q2⟩ := h.ans u hu'
      rw [hself, ansOf_self, hk]
      refine ⟨by simp [q1], fun i v hi => ?_⟩
      by_cases e2 : i < (S.th u).k
      · rw [List.getElem?_append_left (by omega)] at hi; exact q2 i v hi
      · rw [List.getElem?_append_right (by omega)] at hi
        have e3 : i = (S.th u).k := by
          rcases Nat.lt_or_ge (i - (ansOf e u).length) 1 with h1 | h1
          · omega
          · rw [List.getElem?_eq_none (by simpa using h1)] at hi; cases hi
        subst e3
        rw [q1, Nat.sub_self] at hi
        injection hi with hi
        subst hi
        refine ⟨hw0, hfin.2.1, fun e4 => ?_⟩
        rw [hb] at e4
        injection e4 with e4
        exact hfin.1 e4
    · rw [hne u e, ansOf_ne _ _ _ _ e]; exact h.ans u hu'

theorem lat_end (h : LatI n calls first S a e) (ht : t < n) : LatI n calls first { S with th := upd S.th t { S.th t with en := true } } a e := by
  have hv : ∀ u, ((upd S.th t { S.th t with en := true }) u).k = (S.th u).k ∧ ((upd S.th t { S.th t with en := true }) u).j = (S.th u).j ∧ ((upd S.th t { S.th t with en := true }) u).r = (S.th u).r := fun u => by
    by_cases e : u = t
    · subst e; rw [upd_same]; exact ⟨rfl, rfl, rfl⟩
    · rw [upd_ne _ _ e]; exact ⟨rfl, rfl, rfl⟩
  have ltc : ∀ (o : Option Bool) (x y : TK), x.j = y.j → x.r = y.r → ltL first (S.cell 0) o x = ltL first (S.cell 0) o y ∧ tkL o x = tkL o y ∧ pwL o x = pwL o y ∧ ∀ w, valL o x w = valL o y w := fun o x y e1 e2 => by
    refine ⟨?_, ?_, ?_, fun w => ?_⟩
    · unfold ltL; rw [e1, e2]
    · unfold tkL; rw [e1, e2]
    · unfold pwL; rw [e1, e2]
    · unfold valL; rw [e1, e2]
  have hx := fun u => ltc (calls u)[(S.th u).k]? _ _ (hv u).2.1 (hv u).2.2
  refine ⟨h.cell, fun u hu' => ?_, fun u i hu' hi hci => ?_, ?_, fun w hw' => ?_, fun s hs => ?_, fun e0 => ?_, h.evs, fun u hu' => ?_, h.acts⟩
  · show ltL first (S.cell 0) (calls u)[((upd S.th t { S.th t with en := true }) u).k]? ((upd S.th t { S.th t with en := true }) u)
    rw [(hv u).1, (hx u).1]; exact h.ok u hu'
  · exact h.awt u i hu' (by have h2 : i < ((upd S.th t { S.th t with en := true }) u).k := hi; rw [(hv u).1] at h2; exact h2) hci
  · have e1 : (fun u => dnB (calls u) ((upd S.th t { S.th t with en := true }) u).k + tkL (calls u)[((upd S.th t { S.th t with en := true }) u).k]? ((upd S.th t { S.th t with en := true }) u)) = fun u => dnB (calls u) (S.th u).k + tkL (calls u)[(S.th u).k]? (S.th u) := by
      funext u
      rw [(hv u).1, (hx u).2.1]
    show S.cell 0 + (sumN n (fun u => dnB (calls u) ((upd S.th t { S.th t with en := true }) u).k + tkL (calls u)[((upd S.th t { S.th t with en := true }) u).k]? ((upd S.th t { S.th t with en := true }) u)) : Nat) = first ∨ (S.cell 0 = 0 ∧ first ≤ (sumN n (fun u => dnB (calls u) ((upd S.th t { S.th t with en := true }) u).k + tkL (calls u)[((upd S.th t { S.th t with en := true }) u).k]? ((upd S.th t { S.th t with en := true }) u)) : Nat))
    rw [e1]; exact h.dsum
  · have e1 : (fun u => (ansOf e u).count w + valL (calls u)[((upd S.th t { S.th t with en := true }) u).k]? ((upd S.th t { S.th t with en := true }) u) w) = fun u => (ansOf e u).count w + valL (calls u)[(S.th u).k]? (S.th u) w := by
      funext u
      rw [(hv u).1, (hx u).2.2.2]
    show sumN n (fun u => (ansOf e u).count w + valL (calls u)[((upd S.th t { S.th t with en := true }) u).k]? ((upd S.th t { S.th t with en := true }) u) w) + (if w < S.cell 0 then 1 else 0) ≤ 1
    rw [e1]; exact h.uni w hw'
  · show s.2 = 0 ∧ (calls s.1)[((upd S.th t { S.th t with en := true }) s.1).k]? = some true ∧ ((upd S.th t { S.th t with en := true }) s.1).j = 3
    rw [(hv s.1).1, (hv s.1).2.1]; exact h.lot s hs
  · rcases h.wk e0 with h4 | ⟨u, hu1, hu2⟩
    · exact .inl h4
    · refine .inr ⟨u, hu1, ?_⟩
      show pwL (calls u)[((upd S.th t { S.th t with en := true }) u).k]? ((upd S.th t { S.th t with en := true }) u)
      rw [(hv u).1, (hx u).2.2.1]; exact hu2
  · show (ansOf e u).length = ((upd S.th t { S.th t with en := true }) u).k ∧ _
    rw [(hv u).1]; exact h.ans u hu'

/-! How many more steps. -/
theorem pot_same (ht : t < n) (hth : S'.th = upd S.th t x') (hc : S'.cell 0 = S.cell 0) (hl : ∀ u, u ≠ t → slK S' u = slK S u) (hp : potL n (S.cell 0) (calls t) x' (slK S' t) + 1 ≤ potL n (S.cell 0) (calls t) (S.th t) (slK S t)) : potS n calls S' + 1 ≤ potS n calls S := by
  have : (sumN n fun u => potL n (S'.cell 0) (calls u) (S'.th u) (slK S' u)) + 1 ≤ (sumN n fun u => potL n (S.cell 0) (calls u) (S.th u) (slK S u)) + 0 := sumN_shift ht (fun u hu hne => by rw [hc, hth, upd_ne _ _ hne, hl u hne]) (by rw [hc, hth, upd_same]; omega)
  unfold potS
  rw [hc] at this ⊢
  omega
theorem pot_down (ht : t < n) (hth : S'.th = upd S.th t x') (hv : 0 < S.cell 0) (hc : S'.cell 0 = S.cell 0 - 1) (hl : S'.lot = S.lot) (hp : potL n (S'.cell 0) (calls t) x' (slK S t) ≤ potL n (S.cell 0) (calls t) (S.th t) (slK S t)) : potS n calls S' + 1 ≤ potS n calls S := by
  have := sumN_bulk (n := n) (t := t) (a := 0) (b := 5) (f := fun u => potL n (S'.cell 0) (calls u) (S'.th u) (slK S' u)) (g := fun u => potL n (S.cell 0) (calls u) (S.th u) (slK S u)) ht (fun u hu hne => by rw [hth, upd_ne _ _ hne, slK_same hl]; exact potL_bump _ _ _ _ _ _) (by rw [hth, upd_same, slK_same hl]; omega)
  unfold potS
  obtain ⟨v, hv'⟩ : ∃ v : Nat, S.cell 0 = v + 1 := ⟨(S.cell 0).toNat - 1, by omega⟩
  have e1 : (S.cell 0).toNat = v + 1 := by omega
  have e2 : (S'.cell 0).toNat = v := by omega
  rw [e1, e2, Nat.mul_add]
  omega
theorem pot_wake (ht : t < n) (hth : S'.th = upd S.th t x') (hc : S'.cell 0 = S.cell 0) (hp : ∀ sl, potL n (S.cell 0) (calls t) x' sl + (4 * n + 1) ≤ potL n (S.cell 0) (calls t) (S.th t) (slK S t)) : potS n calls S' + 1 ≤ potS n calls S := by
  have := sumN_bulk (n := n) (t := t) (a := 4 * n + 1) (b := 4) (f := fun u => potL n (S'.cell 0) (calls u) (S'.th u) (slK S' u)) (g := fun u => potL n (S.cell 0) (calls u) (S.th u) (slK S u)) ht (fun u hu hne => by rw [hc, hth, upd_ne _ _ hne]; exact potL_woke _ _ _ _ _ _) (by rw [hc, hth, upd_same]; exact hp _)
  unfold potS
  rw [hc] at this ⊢
  omega
end
end Go.Proofs.YtkhaeabbbhfloaaDoor

namespace Go.Proofs.YtkhaeabbbhfloaaDoor
set_option maxRecDepth 100000
set_option linter.unusedVariables false
set_option linter.unusedSimpArgs false

section
variable {n : Nat} {calls : Nat → List Bool} {first : Int} {S S' : CS} {a a' : List Act6} {e : List Ev4} {t : Nat} {x' : TK} {b : Bool}

theorem potL_step {v v' : Int} {l : List Bool} {x x' : TK} {sl sl' : Bool} {d : Nat} (hk : x'.k = x.k) (he : x.en = false) (he' : x'.en = false) (h : locL n v' l[x.k]? x' sl' + d ≤ locL n v l[x.k]? x sl) : potL n v' l x' sl' + d ≤ potL n v l x sl := by
  unfold potL
  rw [he, he', hk, if_neg (by decide), if_neg (by decide)]
  omega
theorem potL_over {v : Int} {l : List Bool} {x x' : TK} (hk : x'.k = x.k + 1) (hj : x'.j = 0) (he : x.en = false) (he' : x'.en = false) {b : Bool} (hb : l[x.k]? = some b) (h : locL n v (some b) x false = 1) : potL n v l x' false + 1 ≤ potL n v l x false := by
  unfold potL
  rw [he, he', hk, if_neg (by decide), if_neg (by decide), hb, h]
  have h0 : ∀ o, locL n v o x' false = match o with | none => 0 | some b => wL n b := fun o => by
    unfold locL
    rw [hj]
    cases o with
    | none => rfl
    | some b => cases b <;> rfl
  rw [h0]
  cases hc : l[x.k + 1]? with
  | none =>
    have : l.drop (x.k + 1 + 1) = [] := List.drop_eq_nil_of_le (by have := List.getElem?_eq_none_iff.1 hc; omega)
    rw [this]
    simp
  | some c =>
    have h1 : l.drop (x.k + 1) = c :: l.drop (x.k + 1 + 1) := by
      rw [List.drop_eq_getElem_cons (List.getElem?_eq_some_iff.1 hc).1, (List.getElem?_eq_some_iff.1 hc).2]
    rw [h1]
    simp only [List.map_cons, List.sum_cons]
    omega

theorem signed_low {v : Int} (h : v ≤ 1000) : signed v = v := by unfold signed; rw [if_pos (by omega)]
theorem m64_less {v : Int} (h0 : 0 < v) (h1 : v ≤ 1000) : (v + -1) % m64 = v - 1 := by unfold m64; omega

theorem wake_all {c : Nat} : ∀ (l : List (Nat × Nat)) (k : Nat), (∀ s ∈ l, s.2 = c) → l.length ≤ k → wakeK l c k = []
  | [], _, _, _ => by simp [wakeK]
  | s :: l, 0, _, h => by simp at h
  | s :: l, k + 1, h, hk => by
    unfold wakeK
    rw [if_pos (h s (.head _))]
    exact wake_all l k (fun q hq => h q (.tail _ hq)) (by simpa using hk)
theorem lot_few {l : List (Nat × Nat)} {n : Nat} (h1 : ∀ s ∈ l, s.1 < n) (h2 : (l.map (·.1)).Nodup) : l.length ≤ n := by
  have h3 : (l.map (·.1)).length ≤ (List.range n).length := inj_le (f := id) _ _ h2 (fun _ _ _ _ e => e) (fun x hx => by
    obtain ⟨s, hs, rfl⟩ := List.mem_map.1 hx
    exact List.mem_range.2 (h1 s hs))
  simpa using h3

theorem lat_calm (h : LatI n calls first S a e) (ht : t < n) (hsl : slK S t = false) (hc : (calls t)[(S.th t).k]? = some b) (h1 : x'.k = (S.th t).k) (h2 : S'.th = upd S.th t x') (h3 : S'.cell 0 = S.cell 0) (h4 : S'.lot = S.lot) (h5 : ltL first (S.cell 0) (some b) x') (h6 : tkL (some b) x' = tkL (some b) (S.th t) ∨ (S.cell 0 = 0 ∧ tkL (some b) (S.th t) ≤ tkL (some b) x')) (h7 : ∀ w : Int, 0 < w → valL (some b) x' w ≤ valL (some b) (S.th t) w)
    (h8 : pwL (some b) (S.th t) → pwL (some b) x') (h9 : ∀ x ∈ a', x ∈ a ∨ x.2.2.2.2.1 = x.2.2.2.2.2) (he : (S.th t).en = false) (he' : x'.en = false) (hp : locL n (S.cell 0) (some b) x' false + 1 ≤ locL n (S.cell 0) (some b) (S.th t) false) : LatI n calls first S' a' e ∧ potS n calls S' + 1 ≤ potS n calls S := by
  have hcell := h.cell
  have hnt : ∀ s ∈ S.lot, s ∈ S.lot ∧ s.1 ≠ t := fun s hs => ⟨hs, fun e => by
    have : slK S t = true := slK_of (a := s.2) (by rw [← e]; exact hs)
    rw [hsl] at this; cases this⟩
  refine ⟨?_, pot_same ht h2 h3 (fun u _ => slK_same h4 u) (potL_step h1 he he' (by rw [hc, slK_same h4, hsl]; exact hp))⟩
  refine lat_quiet h ht h1 h2 (by rw [h3]; omega) (by rw [hc, h3]; exact h5) (by rw [hc, h3]; exact h6.imp (fun q => by rw [q]) id) (fun w hw => by rw [hc, h3]; have := h7 w hw; omega) (fun s hs => .inl (hnt s (by rw [← h4]; exact hs))) (fun e0 => ?_) (fun x hx => (h9 x hx).imp id fun e hne => absurd e hne)
  rw [hc, h4]
  rw [h3] at e0
  by_cases hp : pwL (some b) (S.th t)
  · exact .inr (.inl (h8 hp))
  · exact .inr (.inr ⟨e0, rfl, hp⟩)
theorem act_same {a : List Act6} {S : CS} {t : Nat} {op s : Int} {r : Option (Nat × Int)} : ∀ x ∈ a ++ actD t op s S.cell (.mem 0 (S.cell 0) r), x ∈ a ∨ x.2.2.2.2.1 = x.2.2.2.2.2 := fun x hx => by
  rcases List.mem_append.1 hx with hx | hx
  · exact .inl hx
  · rw [List.mem_singleton.1 hx]; exact .inr rfl
theorem act_none {a : List Act6} : ∀ x ∈ a, x ∈ a ∨ x.2.2.2.2.1 = x.2.2.2.2.2 := fun x hx => .inl hx

set_option maxHeartbeats 1000000 in
theorem lat_down (h : LatI n calls first S a e) (hf : first ≤ 1000) (hn : n ≤ 16) (hwf : WfK latchF n calls S) (ht : t < n) (he : (S.th t).en = false) (hsl : slK S t = false) (s : Int) (hc : (calls t)[(S.th t).k]? = some false) :
    LatI n calls first (doneK 10 t S (S.th t) (latchF.dos false (S.th t).j S.cell (S.th t).r)) (a ++ actD t (latchF.op false (S.th t).j) s S.cell (latchF.dos false (S.th t).j S.cell (S.th t).r)) (e ++ evD t s (latchF.dos false (S.th t).j S.cell (S.th t).r)) ∧ potS n calls (doneK 10 t S (S.th t) (latchF.dos false (S.th t).j S.cell (S.th t).r)) + 1 ≤ potS n calls S := by
  have hr1 := ((hwf.th t ht).rng 1).1
  have hr2 := ((hwf.th t ht).rng 2).1
  have hb := h.cell
  have hok := h.ok t ht
  rw [hc] at hok
  have hcs : upd S.cell 0 (S.cell 0) 0 = S.cell 0 := upd_same _ _ _
  have hjl : (S.th t).j < 10 := (hwf.th t ht).j _ hc
  have hgo : ∀ j, (S.th t).j = j → j < 10 → (LatI n calls first (doneK 10 t S (S.th t) (latchF.dos false j S.cell (S.th t).r)) (a ++ actD t (latchF.op false j) s S.cell (latchF.dos false j S.cell (S.th t).r)) (e ++ evD t s (latchF.dos false j S.cell (S.th t).r)) ∧ potS n calls (doneK 10 t S (S.th t) (latchF.dos false j S.cell (S.th t).r)) + 1 ≤ potS n calls S) := fun j hj hjj => by
    match j, hj, hjj with
    | 0, hj, _ =>
        have hd : latchF.dos false 0 S.cell (S.th t).r = .mem 0 (S.cell 0) (some (1, S.cell 0)) := rfl
        rw [hd]
        show LatI n calls first (doneK 10 t S (S.th t) (.mem 0 (S.cell 0) (some (1, S.cell 0)))) _ (e ++ []) ∧ _
        rw [List.append_nil]
        have hg : goK 10 (S.th t) ((S.th t).j + 1) = { S.th t with j := 1 } := by rw [goK_in (by first | decide | (rw [hj]; decide))]; rw [hj]
        refine lat_calm (x' := { S.th t with j := 1, r := upd (S.th t).r 1 (S.cell 0) }) h ht hsl hc rfl (by first | (show upd S.th t (goK 10 (S.th t) ((S.th t).j + 1)) = _; rw [hg]) | (show upd S.th t { goK 10 (S.th t) ((S.th t).j + 1) with r := _ } = _; rw [hg])) hcs rfl ?_ ?_ ?_ ?_ act_same he he ?_
        all_goals (simp [ltL, tkL, valL, pwL, hj, upd, locL]) <;> (first | omega | (split <;> omega) | skip)
    | 1, hj, _ =>
        simp [ltL, hj] at hok
        by_cases h0 : (S.th t).r 1 = 0
        · have hd : latchF.dos false 1 S.cell (S.th t).r = .goto 9 := if_pos h0
          rw [hd]
          show LatI n calls first (doneK 10 t S (S.th t) (.goto 9)) (a ++ []) (e ++ []) ∧ _
          rw [List.append_nil, List.append_nil]
          have hg : goK 10 (S.th t) 9 = { S.th t with j := 9 } := by rw [goK_in (by first | decide | (rw [hj]; decide))]
          refine lat_calm (x' := { S.th t with j := 9 }) h ht hsl hc rfl (by first | (show upd S.th t (goK 10 (S.th t) 9) = _; rw [hg]) | (show upd S.th t { goK 10 (S.th t) 9 with r := _ } = _; rw [hg])) rfl rfl ?_ ?_ ?_ ?_ act_none he he ?_
          all_goals (simp [ltL, tkL, valL, pwL, hj, upd, locL, h0]) <;> (first | omega | (split <;> omega) | skip)
        · have hd : latchF.dos false 1 S.cell (S.th t).r = .next := if_neg h0
          rw [hd]
          show LatI n calls first (doneK 10 t S (S.th t) (.next)) (a ++ []) (e ++ []) ∧ _
          rw [List.append_nil, List.append_nil]
          have hg : goK 10 (S.th t) ((S.th t).j + 1) = { S.th t with j := 2 } := by rw [goK_in (by first | decide | (rw [hj]; decide))]; rw [hj]
          refine lat_calm (x' := { S.th t with j := 2 }) h ht hsl hc rfl (by first | (show upd S.th t (goK 10 (S.th t) ((S.th t).j + 1)) = _; rw [hg]) | (show upd S.th t { goK 10 (S.th t) ((S.th t).j + 1) with r := _ } = _; rw [hg])) rfl rfl ?_ ?_ ?_ ?_ act_none he he ?_
          all_goals (simp [ltL, tkL, valL, pwL, hj, upd, locL]) <;> (first | omega | (split <;> omega) | skip)
    | 2, hj, _ =>
        simp [ltL, hj] at hok
        have hm := m64_less (v := (S.th t).r 1) (by omega) (by omega)
        have hd : latchF.dos false 2 S.cell (S.th t).r = .set 2 ((S.th t).r 1 - 1) := by show DoK.set 2 (((S.th t).r 1 + -1) % m64) = _; rw [hm]
        rw [hd]
        show LatI n calls first (doneK 10 t S (S.th t) (.set 2 ((S.th t).r 1 - 1))) (a ++ []) (e ++ []) ∧ _
        rw [List.append_nil, List.append_nil]
        have hg : goK 10 (S.th t) ((S.th t).j + 1) = { S.th t with j := 3 } := by rw [goK_in (by first | decide | (rw [hj]; decide))]; rw [hj]
        refine lat_calm (x' := { S.th t with j := 3, r := upd (S.th t).r 2 ((S.th t).r 1 - 1) }) h ht hsl hc rfl (by first | (show upd S.th t (goK 10 (S.th t) ((S.th t).j + 1)) = _; rw [hg]) | (show upd S.th t { goK 10 (S.th t) ((S.th t).j + 1) with r := _ } = _; rw [hg])) rfl rfl ?_ ?_ ?_ ?_ act_none he he ?_
        all_goals (simp [ltL, tkL, valL, pwL, hj, upd, locL]) <;> (first | omega | (split <;> omega) | skip)
    | 3, hj, _ =>
        simp [ltL, hj] at hok
        by_cases h0 : S.cell 0 = (S.th t).r 1
        · have hd : latchF.dos false 3 S.cell (S.th t).r = .mem 0 ((S.th t).r 2) (some (3, 1)) := if_pos h0
          rw [hd]
          show LatI n calls first (doneK 10 t S (S.th t) (.mem 0 ((S.th t).r 2) (some (3, 1)))) (a ++ [(s, (t : Int), 9, 0, S.cell 0, (S.th t).r 2)]) (e ++ []) ∧ _
          rw [List.append_nil]
          have hg : goK 10 (S.th t) ((S.th t).j + 1) = { S.th t with j := 4 } := by rw [goK_in (by rw [hj]; decide)]; rw [hj]
          have hth : (doneK 10 t S (S.th t) (.mem 0 ((S.th t).r 2) (some (3, 1)))).th = upd S.th t { S.th t with j := 4, r := upd (S.th t).r 3 1 } := by show upd S.th t { goK 10 (S.th t) ((S.th t).j + 1) with r := _ } = _; rw [hg]
          have hcell : (doneK 10 t S (S.th t) (.mem 0 ((S.th t).r 2) (some (3, 1)))).cell 0 = (S.th t).r 2 := by show upd S.cell 0 ((S.th t).r 2) 0 = _; exact upd_same _ _ _
          have hlot : (doneK 10 t S (S.th t) (.mem 0 ((S.th t).r 2) (some (3, 1)))).lot = S.lot := rfl
          generalize doneK 10 t S (S.th t) (.mem 0 ((S.th t).r 2) (some (3, 1))) = S' at *
          refine ⟨lat_quiet (x' := { S.th t with j := 4, r := upd (S.th t).r 3 1 }) h ht rfl hth (by rw [hcell]; omega) ?_ ?_ ?_ ?_ ?_ ?_, pot_down ht hth (by omega) (by rw [hcell]; omega) hlot (potL_step (d := 0) rfl he he ?_)⟩
          · rw [hc, hcell]; simp [ltL, upd]; omega
          · rw [hc, hcell]; left; simp [tkL, upd, hj]; omega
          · intro w hw
            rw [hc, hcell]
            have e1 : valL (some false) (S.th t) w = 0 := by simp [valL, hj]
            have e2 : valL (some false) { S.th t with j := 4, r := upd (S.th t).r 3 1 } w = if (S.th t).r 2 = w then 1 else 0 := by simp [valL, upd]
            rw [e1, e2]
            by_cases q : (S.th t).r 2 = w
            · rw [if_pos q, if_neg (by omega), if_pos (by omega)]; omega
            · rw [if_neg q]; split <;> split <;> omega
          · rw [hlot]
            refine fun q hq => .inl ⟨hq, fun e => ?_⟩
            have : slK S t = true := slK_of (a := q.2) (by rw [← e]; exact hq)
            rw [hsl] at this; cases this
          · intro e0
            rw [hcell] at e0
            right; left
            rw [hc]
            exact ⟨rfl, .inl ⟨.inl ⟨rfl, rfl⟩, e0⟩⟩
          · intro x hx
            rcases List.mem_append.1 hx with hx | hx
            · exact .inl hx
            · right
              rw [List.mem_singleton.1 hx]
              intro _
              exact ⟨rfl, by show 0 < S.cell 0 ∧ S.cell 0 ≤ first; omega, by show (S.th t).r 2 = S.cell 0 - 1; omega⟩
          · rw [hc, hcell]
            simp [locL, hj, upd, h0]
        · have hd : latchF.dos false 3 S.cell (S.th t).r = .mem 0 (S.cell 0) (some (3, 0)) := if_neg h0
          rw [hd]
          show LatI n calls first (doneK 10 t S (S.th t) (.mem 0 (S.cell 0) (some (3, 0)))) _ (e ++ []) ∧ _
          rw [List.append_nil]
          have hg : goK 10 (S.th t) ((S.th t).j + 1) = { S.th t with j := 4 } := by rw [goK_in (by first | decide | (rw [hj]; decide))]; rw [hj]
          refine lat_calm (x' := { S.th t with j := 4, r := upd (S.th t).r 3 0 }) h ht hsl hc rfl (by first | (show upd S.th t (goK 10 (S.th t) ((S.th t).j + 1)) = _; rw [hg]) | (show upd S.th t { goK 10 (S.th t) ((S.th t).j + 1) with r := _ } = _; rw [hg])) hcs rfl ?_ ?_ ?_ ?_ act_same he he ?_
          all_goals (simp [ltL, tkL, valL, pwL, hj, upd, locL, Ne.symm h0]) <;> (first | omega | (split <;> omega) | skip)
    | 4, hj, _ =>
        simp [ltL, hj] at hok
        by_cases h0 : (S.th t).r 3 = 0
        · have hd : latchF.dos false 4 S.cell (S.th t).r = .goto 0 := if_pos h0
          rw [hd]
          show LatI n calls first (doneK 10 t S (S.th t) (.goto 0)) (a ++ []) (e ++ []) ∧ _
          rw [List.append_nil, List.append_nil]
          have hg : goK 10 (S.th t) 0 = { S.th t with j := 0 } := by rw [goK_in (by first | decide | (rw [hj]; decide))]
          refine lat_calm (x' := { S.th t with j := 0 }) h ht hsl hc rfl (by first | (show upd S.th t (goK 10 (S.th t) 0) = _; rw [hg]) | (show upd S.th t { goK 10 (S.th t) 0 with r := _ } = _; rw [hg])) rfl rfl ?_ ?_ ?_ ?_ act_none he he ?_
          all_goals (simp [ltL, tkL, valL, pwL, hj, upd, locL, h0]) <;> (first | omega | (split <;> omega) | skip)
        · have h1 : (S.th t).r 3 = 1 := by omega
          have hd : latchF.dos false 4 S.cell (S.th t).r = .next := if_neg h0
          rw [hd]
          show LatI n calls first (doneK 10 t S (S.th t) (.next)) (a ++ []) (e ++ []) ∧ _
          rw [List.append_nil, List.append_nil]
          have hg : goK 10 (S.th t) ((S.th t).j + 1) = { S.th t with j := 5 } := by rw [goK_in (by first | decide | (rw [hj]; decide))]; rw [hj]
          refine lat_calm (x' := { S.th t with j := 5 }) h ht hsl hc rfl (by first | (show upd S.th t (goK 10 (S.th t) ((S.th t).j + 1)) = _; rw [hg]) | (show upd S.th t { goK 10 (S.th t) ((S.th t).j + 1) with r := _ } = _; rw [hg])) rfl rfl ?_ ?_ ?_ ?_ act_none he he ?_
          all_goals (simp [ltL, tkL, valL, pwL, hj, upd, locL, h1]) <;> (first | omega | (split <;> omega) | skip)
    | 5, hj, _ =>
        simp [ltL, hj] at hok
        have hd : latchF.dos false 5 S.cell (S.th t).r = .set 1 ((S.th t).r 2) := rfl
        rw [hd]
        show LatI n calls first (doneK 10 t S (S.th t) (.set 1 ((S.th t).r 2))) (a ++ []) (e ++ []) ∧ _
        rw [List.append_nil, List.append_nil]
        have hg : goK 10 (S.th t) ((S.th t).j + 1) = { S.th t with j := 6 } := by rw [goK_in (by first | decide | (rw [hj]; decide))]; rw [hj]
        refine lat_calm (x' := { S.th t with j := 6, r := upd (S.th t).r 1 ((S.th t).r 2) }) h ht hsl hc rfl (by first | (show upd S.th t (goK 10 (S.th t) ((S.th t).j + 1)) = _; rw [hg]) | (show upd S.th t { goK 10 (S.th t) ((S.th t).j + 1) with r := _ } = _; rw [hg])) rfl rfl ?_ ?_ ?_ ?_ act_none he he ?_
        all_goals (simp [ltL, tkL, valL, pwL, hj, upd, locL]) <;> (first | omega | (split <;> omega) | skip)
    | 6, hj, _ =>
        simp [ltL, hj] at hok
        by_cases h0 : (S.th t).r 2 = 0
        · have hd : latchF.dos false 6 S.cell (S.th t).r = .goto 8 := if_pos h0
          rw [hd]
          show LatI n calls first (doneK 10 t S (S.th t) (.goto 8)) (a ++ []) (e ++ []) ∧ _
          rw [List.append_nil, List.append_nil]
          have hg : goK 10 (S.th t) 8 = { S.th t with j := 8 } := by rw [goK_in (by first | decide | (rw [hj]; decide))]
          refine lat_calm (x' := { S.th t with j := 8 }) h ht hsl hc rfl (by first | (show upd S.th t (goK 10 (S.th t) 8) = _; rw [hg]) | (show upd S.th t { goK 10 (S.th t) 8 with r := _ } = _; rw [hg])) rfl rfl ?_ ?_ ?_ ?_ act_none he he ?_
          all_goals (simp [ltL, tkL, valL, pwL, hj, upd, locL, h0]) <;> (first | omega | (split <;> omega) | skip)
        · have hd : latchF.dos false 6 S.cell (S.th t).r = .next := if_neg h0
          rw [hd]
          show LatI n calls first (doneK 10 t S (S.th t) (.next)) (a ++ []) (e ++ []) ∧ _
          rw [List.append_nil, List.append_nil]
          have hg : goK 10 (S.th t) ((S.th t).j + 1) = { S.th t with j := 7 } := by rw [goK_in (by first | decide | (rw [hj]; decide))]; rw [hj]
          refine lat_calm (x' := { S.th t with j := 7 }) h ht hsl hc rfl (by first | (show upd S.th t (goK 10 (S.th t) ((S.th t).j + 1)) = _; rw [hg]) | (show upd S.th t { goK 10 (S.th t) ((S.th t).j + 1) with r := _ } = _; rw [hg])) rfl rfl ?_ ?_ ?_ ?_ act_none he he ?_
          all_goals (simp [ltL, tkL, valL, pwL, hj, upd, locL, h0]) <;> (first | omega | (split <;> omega) | skip)
    | 7, hj, _ =>
        simp [ltL, hj] at hok
        have hd : latchF.dos false 7 S.cell (S.th t).r = .goto 9 := rfl
        rw [hd]
        show LatI n calls first (doneK 10 t S (S.th t) (.goto 9)) (a ++ []) (e ++ []) ∧ _
        rw [List.append_nil, List.append_nil]
        have hg : goK 10 (S.th t) 9 = { S.th t with j := 9 } := by rw [goK_in (by first | decide | (rw [hj]; decide))]
        refine lat_calm (x' := { S.th t with j := 9 }) h ht hsl hc rfl (by first | (show upd S.th t (goK 10 (S.th t) 9) = _; rw [hg]) | (show upd S.th t { goK 10 (S.th t) 9 with r := _ } = _; rw [hg])) rfl rfl ?_ ?_ ?_ ?_ act_none he he ?_
        all_goals (simp [ltL, tkL, valL, pwL, hj, upd, locL, hok]) <;> (first | omega | (split <;> omega) | skip)
    | 8, hj, _ =>
        simp [ltL, hj] at hok
        have hd : latchF.dos false 8 S.cell (S.th t).r = .wake 0 16 := rfl
        rw [hd]
        show LatI n calls first (doneK 10 t S (S.th t) (.wake 0 16)) (a ++ []) (e ++ []) ∧ _
        rw [List.append_nil, List.append_nil]
        have hg : goK 10 (S.th t) ((S.th t).j + 1) = { S.th t with j := 9 } := by rw [goK_in (by rw [hj]; decide)]; rw [hj]
        have hth : (doneK 10 t S (S.th t) (.wake 0 16)).th = upd S.th t { S.th t with j := 9 } := by show upd S.th t (goK 10 (S.th t) ((S.th t).j + 1)) = _; rw [hg]
        have hcell : (doneK 10 t S (S.th t) (.wake 0 16)).cell 0 = S.cell 0 := rfl
        have hlot : (doneK 10 t S (S.th t) (.wake 0 16)).lot = [] := wake_all _ _ (fun q hq => (h.lot q hq).1) (by have := lot_few hwf.low hwf.once; omega)
        generalize doneK 10 t S (S.th t) (.wake 0 16) = S' at *
        refine ⟨lat_quiet (x' := { S.th t with j := 9 }) h ht rfl hth (by rw [hcell]; omega) ?_ ?_ ?_ ?_ (fun _ => .inl hlot) (fun x hx => .inl hx), pot_wake ht hth hcell (fun sl => potL_step rfl he he ?_)⟩
        · rw [hc, hcell]; simp [ltL]; omega
        · rw [hc, hcell]; left; simp [tkL, hj]
        · intro w hw; rw [hc, hcell]; simp [valL, hj]
        · rw [hlot]; intro q hq; cases hq
        · rw [hc, hsl]; simp [locL, hj]; omega
    | 9, hj, _ =>
        simp [ltL, hj] at hok
        have hlow : signed ((S.th t).r 1) = (S.th t).r 1 := signed_low (by omega)
        have hd : latchF.dos false 9 S.cell (S.th t).r = .say 3 (signed ((S.th t).r 1)) := rfl
        rw [hd, hlow]
        show LatI n calls first (doneK 10 t S (S.th t) (.say 3 ((S.th t).r 1))) (a ++ []) (e ++ [(s, 3, (t : Int), (S.th t).r 1)]) ∧ _
        rw [List.append_nil]
        have hg : goK 10 (S.th t) ((S.th t).j + 1) = { S.th t with k := (S.th t).k + 1, j := 0 } := goK_out (by rw [hj]; decide)
        have hth : (doneK 10 t S (S.th t) (.say 3 ((S.th t).r 1))).th = upd S.th t { S.th t with k := (S.th t).k + 1, j := 0 } := by show upd S.th t (goK 10 (S.th t) ((S.th t).j + 1)) = _; rw [hg]
        refine ⟨lat_say (x' := { S.th t with k := (S.th t).k + 1, j := 0 }) (w := (S.th t).r 1) h ht rfl rfl hth rfl rfl hc (.inl ⟨rfl, hj⟩) hsl rfl hr1, pot_same ht hth rfl (fun _ _ => rfl) ?_⟩
        rw [show slK (doneK 10 t S (S.th t) (.say 3 ((S.th t).r 1))) t = false from hsl, hsl]
        exact potL_over rfl rfl he he hc (by simp [locL, hj])
    | j + 10, _, h => exact absurd h (by omega)
  exact hgo _ rfl hjl

set_option maxHeartbeats 1000000 in
theorem lat_await (h : LatI n calls first S a e) (hf : first ≤ 1000) (hn : n ≤ 16) (hwf : WfK latchF n calls S) (ht : t < n) (he : (S.th t).en = false) (hsl : slK S t = false) (s : Int) (hc : (calls t)[(S.th t).k]? = some true) :
    LatI n calls first (doneK 5 t S (S.th t) (latchF.dos true (S.th t).j S.cell (S.th t).r)) (a ++ actD t (latchF.op true (S.th t).j) s S.cell (latchF.dos true (S.th t).j S.cell (S.th t).r)) (e ++ evD t s (latchF.dos true (S.th t).j S.cell (S.th t).r)) ∧ potS n calls (doneK 5 t S (S.th t) (latchF.dos true (S.th t).j S.cell (S.th t).r)) + 1 ≤ potS n calls S := by
  have hr1 := ((hwf.th t ht).rng 1).1
  have hr2 := ((hwf.th t ht).rng 2).1
  have hb := h.cell
  have hok := h.ok t ht
  rw [hc] at hok
  have hcs : upd S.cell 0 (S.cell 0) 0 = S.cell 0 := upd_same _ _ _
  have hjl : (S.th t).j < 5 := (hwf.th t ht).j _ hc
  have hgo : ∀ j, (S.th t).j = j → j < 5 → (LatI n calls first (doneK 5 t S (S.th t) (latchF.dos true j S.cell (S.th t).r)) (a ++ actD t (latchF.op true j) s S.cell (latchF.dos true j S.cell (S.th t).r)) (e ++ evD t s (latchF.dos true j S.cell (S.th t).r)) ∧ potS n calls (doneK 5 t S (S.th t) (latchF.dos true j S.cell (S.th t).r)) + 1 ≤ potS n calls S) := fun j hj hjj => by
    match j, hj, hjj with
    | 0, hj, _ =>
        have hd : latchF.dos true 0 S.cell (S.th t).r = .mem 0 (S.cell 0) (some (1, S.cell 0)) := rfl
        rw [hd]
        show LatI n calls first (doneK 5 t S (S.th t) (.mem 0 (S.cell 0) (some (1, S.cell 0)))) _ (e ++ []) ∧ _
        rw [List.append_nil]
        have hg : goK 5 (S.th t) ((S.th t).j + 1) = { S.th t with j := 1 } := by rw [goK_in (by first | decide | (rw [hj]; decide))]; rw [hj]
        refine lat_calm (x' := { S.th t with j := 1, r := upd (S.th t).r 1 (S.cell 0) }) h ht hsl hc rfl (by first | (show upd S.th t (goK 5 (S.th t) ((S.th t).j + 1)) = _; rw [hg]) | (show upd S.th t { goK 5 (S.th t) ((S.th t).j + 1) with r := _ } = _; rw [hg])) hcs rfl ?_ ?_ ?_ ?_ act_same he he ?_
        all_goals (simp [ltL, tkL, valL, pwL, hj, upd, locL]) <;> (first | omega | (split <;> omega) | skip)
    | 1, hj, _ =>
        simp [ltL, hj] at hok
        by_cases h0 : (S.th t).r 1 = 0
        · have hd : latchF.dos true 1 S.cell (S.th t).r = .goto 4 := if_pos h0
          rw [hd]
          show LatI n calls first (doneK 5 t S (S.th t) (.goto 4)) (a ++ []) (e ++ []) ∧ _
          rw [List.append_nil, List.append_nil]
          have hg : goK 5 (S.th t) 4 = { S.th t with j := 4 } := by rw [goK_in (by first | decide | (rw [hj]; decide))]
          refine lat_calm (x' := { S.th t with j := 4 }) h ht hsl hc rfl (by first | (show upd S.th t (goK 5 (S.th t) 4) = _; rw [hg]) | (show upd S.th t { goK 5 (S.th t) 4 with r := _ } = _; rw [hg])) rfl rfl ?_ ?_ ?_ ?_ act_none he he ?_
          all_goals (simp [ltL, tkL, valL, pwL, hj, upd, locL, h0]) <;> (first | omega | (split <;> omega) | skip)
        · have hd : latchF.dos true 1 S.cell (S.th t).r = .next := if_neg h0
          rw [hd]
          show LatI n calls first (doneK 5 t S (S.th t) (.next)) (a ++ []) (e ++ []) ∧ _
          rw [List.append_nil, List.append_nil]
          have hg : goK 5 (S.th t) ((S.th t).j + 1) = { S.th t with j := 2 } := by rw [goK_in (by first | decide | (rw [hj]; decide))]; rw [hj]
          refine lat_calm (x' := { S.th t with j := 2 }) h ht hsl hc rfl (by first | (show upd S.th t (goK 5 (S.th t) ((S.th t).j + 1)) = _; rw [hg]) | (show upd S.th t { goK 5 (S.th t) ((S.th t).j + 1) with r := _ } = _; rw [hg])) rfl rfl ?_ ?_ ?_ ?_ act_none he he ?_
          all_goals (simp [ltL, tkL, valL, pwL, hj, upd, locL]) <;> (first | omega | (split <;> omega) | skip)
    | 2, hj, _ =>
        simp [ltL, hj] at hok
        by_cases h0 : S.cell 0 = (S.th t).r 1
        · have hd : latchF.dos true 2 S.cell (S.th t).r = .sleep 0 := if_pos h0
          rw [hd]
          show LatI n calls first (doneK 5 t S (S.th t) (.sleep 0)) (a ++ []) (e ++ []) ∧ _
          rw [List.append_nil, List.append_nil]
          have hg : goK 5 (S.th t) ((S.th t).j + 1) = { S.th t with j := 3 } := by rw [goK_in (by rw [hj]; decide)]; rw [hj]
          have hth : (doneK 5 t S (S.th t) (.sleep 0)).th = upd S.th t { S.th t with j := 3 } := by show upd S.th t (goK 5 (S.th t) ((S.th t).j + 1)) = _; rw [hg]
          have hcell : (doneK 5 t S (S.th t) (.sleep 0)).cell 0 = S.cell 0 := rfl
          have hlot : (doneK 5 t S (S.th t) (.sleep 0)).lot = S.lot ++ [(t, 0)] := rfl
          generalize doneK 5 t S (S.th t) (.sleep 0) = S' at *
          refine ⟨lat_quiet (x' := { S.th t with j := 3 }) h ht rfl hth (by rw [hcell]; omega) ?_ ?_ ?_ ?_ ?_ (fun x hx => .inl hx), pot_same ht hth hcell (fun u hu => slK_app hlot hu) (potL_step rfl he he ?_)⟩
          · rw [hc, hcell]; simp [ltL]
          · rw [hc, hcell]; left; simp [tkL, hj]
          · intro w hw; rw [hc, hcell]; simp [valL, hj]
          · rw [hlot]
            intro q hq
            rcases List.mem_append.1 hq with hq | hq
            · refine .inl ⟨hq, fun e => ?_⟩
              have : slK S t = true := slK_of (a := q.2) (by rw [← e]; exact hq)
              rw [hsl] at this; cases this
            · exact .inr ⟨List.mem_singleton.1 hq, hc, rfl⟩
          · intro e0; rw [hcell] at e0; omega
          · rw [hc, slK_self hlot, hsl]; simp [locL, hj, h0]
        · have hd : latchF.dos true 2 S.cell (S.th t).r = .next := if_neg h0
          rw [hd]
          show LatI n calls first (doneK 5 t S (S.th t) (.next)) (a ++ []) (e ++ []) ∧ _
          rw [List.append_nil, List.append_nil]
          have hg : goK 5 (S.th t) ((S.th t).j + 1) = { S.th t with j := 3 } := by rw [goK_in (by first | decide | (rw [hj]; decide))]; rw [hj]
          refine lat_calm (x' := { S.th t with j := 3 }) h ht hsl hc rfl (by first | (show upd S.th t (goK 5 (S.th t) ((S.th t).j + 1)) = _; rw [hg]) | (show upd S.th t { goK 5 (S.th t) ((S.th t).j + 1) with r := _ } = _; rw [hg])) rfl rfl ?_ ?_ ?_ ?_ act_none he he ?_
          all_goals (simp [ltL, tkL, valL, pwL, hj, upd, locL, Ne.symm h0]) <;> (first | omega | (split <;> omega) | skip)
    | 3, hj, _ =>
        have hd : latchF.dos true 3 S.cell (S.th t).r = .goto 0 := rfl
        rw [hd]
        show LatI n calls first (doneK 5 t S (S.th t) (.goto 0)) (a ++ []) (e ++ []) ∧ _
        rw [List.append_nil, List.append_nil]
        have hg : goK 5 (S.th t) 0 = { S.th t with j := 0 } := by rw [goK_in (by first | decide | (rw [hj]; decide))]
        refine lat_calm (x' := { S.th t with j := 0 }) h ht hsl hc rfl (by first | (show upd S.th t (goK 5 (S.th t) 0) = _; rw [hg]) | (show upd S.th t { goK 5 (S.th t) 0 with r := _ } = _; rw [hg])) rfl rfl ?_ ?_ ?_ ?_ act_none he he ?_
        all_goals (simp [ltL, tkL, valL, pwL, hj, upd, locL]) <;> (first | omega | (split <;> omega) | skip)
    | 4, hj, _ =>
        simp [ltL, hj] at hok
        have hlow : signed ((S.th t).r 1) = (S.th t).r 1 := signed_low (by omega)
        have hd : latchF.dos true 4 S.cell (S.th t).r = .say 3 (signed ((S.th t).r 1)) := rfl
        rw [hd, hlow]
        show LatI n calls first (doneK 5 t S (S.th t) (.say 3 ((S.th t).r 1))) (a ++ []) (e ++ [(s, 3, (t : Int), (S.th t).r 1)]) ∧ _
        rw [List.append_nil]
        have hg : goK 5 (S.th t) ((S.th t).j + 1) = { S.th t with k := (S.th t).k + 1, j := 0 } := goK_out (by rw [hj]; decide)
        have hth : (doneK 5 t S (S.th t) (.say 3 ((S.th t).r 1))).th = upd S.th t { S.th t with k := (S.th t).k + 1, j := 0 } := by show upd S.th t (goK 5 (S.th t) ((S.th t).j + 1)) = _; rw [hg]
        refine ⟨lat_say (x' := { S.th t with k := (S.th t).k + 1, j := 0 }) (w := (S.th t).r 1) h ht rfl rfl hth rfl rfl hc (.inr ⟨rfl, hj⟩) hsl rfl hr1, pot_same ht hth rfl (fun _ _ => rfl) ?_⟩
        rw [show slK (doneK 5 t S (S.th t) (.say 3 ((S.th t).r 1))) t = false from hsl, hsl]
        exact potL_over rfl rfl he he hc (by simp [locL, hj])
    | j + 5, _, h => exact absurd h (by omega)
  exact hgo _ rfl hjl

theorem lat_step (h : LatI n calls first S a e) (hf : first ≤ 1000) (hn : n ≤ 16) (hwf : WfK latchF n calls S) (ht : t < n) (he : (S.th t).en = false) (hsl : slK S t = false) (s : Int) :
    LatI n calls first (stepK latchF calls t S) (a ++ actsK latchF calls t S s) (e ++ evsK latchF calls t S s) ∧ potS n calls (stepK latchF calls t S) + 1 ≤ potS n calls S := by
  cases hc : (calls t)[(S.th t).k]? with
  | none =>
    rw [stepK_end hc, actsK_end hc, evsK_end hc, List.append_nil, List.append_nil]
    refine ⟨lat_end h ht, pot_same ht rfl rfl (fun _ _ => rfl) ?_⟩
    unfold potL
    rw [if_pos rfl, he, if_neg (by decide)]
    omega
  | some b =>
    rw [stepK_eq hc, actsK_eq hc, evsK_eq hc]
    cases b
    · exact lat_down h hf hn hwf ht he hsl s hc
    · exact lat_await h hf hn hwf ht he hsl s hc
end
end Go.Proofs.YtkhaeabbbhfloaaDoor

namespace Go.Proofs.YtkhaeabbbhfloaaDoor
set_option maxRecDepth 100000
set_option linter.unusedVariables false
set_option linter.unusedSimpArgs false

section
variable {n : Nat} {calls : Nat → List Bool} {S : CS} {m : Mach} {p : Nat}

theorem newK_cell (f : Nat) : (newK fun c => ([(f : Int)] : List Int).getD c 0).cell 0 = f := rfl
theorem lat_init (f n : Nat) (calls : Nat → List Bool) : LatI n calls (f : Int) (newK fun c => ([(f : Int)] : List Int).getD c 0) [] [] := by
  have hz : (sumN n fun u => dnB (calls u) ((newK fun c => ([(f : Int)] : List Int).getD c 0).th u).k + tkL (calls u)[((newK fun c => ([(f : Int)] : List Int).getD c 0).th u).k]? ((newK fun c => ([(f : Int)] : List Int).getD c 0).th u)) = 0 := by
    have : sumN n (fun u => dnB (calls u) ((newK fun c => ([(f : Int)] : List Int).getD c 0).th u).k + tkL (calls u)[((newK fun c => ([(f : Int)] : List Int).getD c 0).th u).k]? ((newK fun c => ([(f : Int)] : List Int).getD c 0).th u)) ≤ sumN n fun _ => 0 := sumN_le fun u _ => by simp [newK, dnB, tkL]
    rw [sumN_const] at this
    omega
  refine ⟨⟨by rw [newK_cell]; omega, Int.le_of_eq (newK_cell f)⟩, fun u _ => ?_, fun u i _ hi => absurd hi (Nat.not_lt_zero _), .inl (by rw [hz, newK_cell]; simp), fun w hw => ?_, (fun s hs => by cases hs), fun _ => .inl rfl, (fun x hx => by cases hx), fun u _ => ⟨rfl, fun i w h => by simp [ansOf] at h⟩, (fun x hx => by cases hx)⟩
  · unfold ltL
    split
    · trivial
    · simp [newK]
    · simp [newK]
  · have : sumN n (fun u => (ansOf [] u).count w + valL (calls u)[((newK fun c => ([(f : Int)] : List Int).getD c 0).th u).k]? ((newK fun c => ([(f : Int)] : List Int).getD c 0).th u) w) ≤ sumN n fun _ => 0 := sumN_le fun u _ => by simp [newK, ansOf, valL]
    rw [sumN_const] at this
    split <;> omega
theorem lat_poke {first : Int} {S : CS} {a : List Act6} {e : List Ev4} {t : Nat} (h : LatI n calls first S a e) : LatI n calls first (pokeK t S) a e :=
  ⟨h.cell, h.ok, h.awt, h.dsum, h.uni, fun s hs => h.lot s (List.eraseP_sublist.subset hs), fun e0 => (h.wk e0).imp (fun q => by show S.lot.eraseP _ = []; rw [q]; rfl) id, h.evs, h.ans, h.acts⟩
theorem slK_poke {S : CS} {t u : Nat} (hu : u ≠ t) : slK (pokeK t S) u = slK S u := by
  unfold slK pokeK
  dsimp only
  induction S.lot with
  | nil => rfl
  | cons s l ih =>
    rw [List.eraseP_cons]
    by_cases e : s.1 = t
    · have e1 : (s.1 == t) = true := by simp [e]
      have e2 : (s.1 == u) = false := beq_eq_false_iff_ne.2 (by omega)
      rw [e1, cond_true, List.any_cons, e2, Bool.false_or]
    · have e1 : (s.1 == t) = false := beq_eq_false_iff_ne.2 e
      rw [e1, cond_false, List.any_cons, List.any_cons, ih]
theorem pot_poke {S : CS} {t : Nat} (ht : t < n) : potS n calls (pokeK t S) ≤ potS n calls S + 4 := by
  have := sumN_shift (n := n) (t := t) (a := 0) (b := 4) (f := fun u => potL n ((pokeK t S).cell 0) (calls u) ((pokeK t S).th u) (slK (pokeK t S) u)) (g := fun u => potL n (S.cell 0) (calls u) (S.th u) (slK S u)) ht (fun u hu hne => by rw [slK_poke hne]; rfl) (potL_woke n (S.cell 0) (calls t) (S.th t) (slK S t) (slK (pokeK t S) t))
  unfold potS
  show (sumN n fun u => potL n ((pokeK t S).cell 0) (calls u) ((pokeK t S).th u) (slK (pokeK t S) u)) + 6 * n * (S.cell 0).toNat ≤ _
  omega
def latK (f n : Nat) (calls : Nat → List Bool) (hf : f ≤ 1000) (hn : n ≤ 16) : KindF latchF n calls (fun c => ([(f : Int)] : List Int).getD c 0) where
  I := LatI n calls f
  pot := potS n calls
  pk := 4
  init := lat_init f n calls
  step S a e s t hwf _ h ht he hs := lat_step h (by omega) hn hwf ht he hs s
  poke S a e t hwf h ht hs := ⟨lat_poke h, pot_poke ht⟩
end
end Go.Proofs.YtkhaeabbbhfloaaDoor
