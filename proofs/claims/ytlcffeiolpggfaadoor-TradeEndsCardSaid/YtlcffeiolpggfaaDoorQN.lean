/-
  Two meet, and each has what the other one had
-/
import Derived.Test.YtlcffeiolpggfaaDoorQK
namespace Go.Proofs.YtlcffeiolpggfaaDoor
set_option maxRecDepth 100000
set_option linter.unusedVariables false
set_option linter.unusedSimpArgs false

/-! Two meet, and each has what the other one had: a trade is the cell of whose it is, and what that one has. -/
abbrev Trd := _root_.Fin 17 × _root_.Fin 1001
def mineT (c : Trd) : Int := ((c.1 : Nat) : Int)
def givT (c : Trd) : Int := ((c.2 : Nat) : Int) + 1
def offT (c : Trd) : Int := mineT c + 65536 * givT c
theorem mine_lt (c : Trd) : 0 ≤ mineT c ∧ mineT c < 17 := by
  have := c.1.2
  unfold mineT
  omega
theorem giv_lt (c : Trd) : 0 < givT c ∧ givT c ≤ 1001 := by
  have := c.2.2
  unfold givT
  omega
theorem giv_mod (c : Trd) : givT c % m64 = givT c := by
  have := giv_lt c
  unfold m64
  omega
theorem off_lt (c : Trd) : 65536 ≤ offT c ∧ offT c < 65601553 := by
  have := giv_lt c
  have := mine_lt c
  unfold offT
  omega
theorem off_mod (c : Trd) : offT c % m64 = offT c := by
  have := off_lt c
  unfold m64
  omega
theorem off_mine (c : Trd) : offT c % 65536 = mineT c := by
  have := giv_lt c
  have := mine_lt c
  unfold offT
  omega
theorem off_giv (c : Trd) : offT c / 65536 % 65536 = givT c := by
  have := giv_lt c
  have := mine_lt c
  unfold offT
  omega
theorem giv_less (c : Trd) : (givT c + -1) % m64 = givT c - 1 := by
  have := giv_lt c
  unfold m64
  omega

def tradeI (c : Trd) (p : Nat) : List Ins5 := [(1, 4, givT c, 0, 0), (1, 5, offT c, 0, 0), (6, 1, 0, 0, 0), (11, 1, 0, (p : Int) + 12, 0), (1, 2, 0, 0, 0), (9, 3, 0, 1, 2), (11, 3, 0, (p : Int) + 2, 0), (5, 6, 1, 0, 16), (7, 0, 4, 6, 0), (15, 0, 1, 6, 0), (5, 2, 1, 16, 16), (10, (p : Int) + 21, 0, 0, 0),
  (9, 3, 0, 1, 5), (11, 3, 0, (p : Int) + 2, 0), (6, 2, mineT c, 0, 0), (11, 2, 0, (p : Int) + 17, 0), (10, (p : Int) + 19, 0, 0, 0), (14, mineT c, 2, 0, 0), (10, (p : Int) + 14, 0, 0, 0), (1, 3, 0, 0, 0), (7, mineT c, 3, -1, 0), (3, 2, 2, -1, 0), (16, 3, 2, 0, 0)]
def tradeD (c : Trd) (j : Nat) (cell r : Nat → Int) : DoK :=
  match j with
  | 0 => .set 4 (givT c)
  | 1 => .set 5 (offT c)
  | 2 => .mem 0 (cell 0) (some (1, cell 0))
  | 3 => if r 1 = 0 then .goto 12 else .next
  | 4 => .set 2 0
  | 5 => if cell 0 = r 1 then .mem 0 (r 2) (some (3, 1)) else .mem 0 (cell 0) (some (3, 0))
  | 6 => if r 3 = 0 then .goto 2 else .next
  | 7 => .set 6 (r 1 % 65536)
  | 8 => if r 6 < 17 then .mem (min (r 6).toNat 16) (r 4) none else .next
  | 9 => if r 6 < 17 then .wake (r 6).toNat 1 else .next
  | 10 => .set 2 (r 1 / 65536 % 65536)
  | 11 => .goto 21
  | 12 => if cell 0 = r 1 then .mem 0 (r 5) (some (3, 1)) else .mem 0 (cell 0) (some (3, 0))
  | 13 => if r 3 = 0 then .goto 2 else .next
  | 14 => .mem c.1 (cell c.1) (some (2, cell c.1))
  | 15 => if r 2 = 0 then .goto 17 else .next
  | 16 => .goto 19
  | 17 => if cell c.1 = r 2 then .sleep c.1 else .next
  | 18 => .goto 14
  | 19 => .set 3 0
  | 20 => .mem c.1 (r 3) none
  | 21 => .set 2 ((r 2 + -1) % m64)
  | _ => .say 3 (signed (r 2))

theorem u64_few {v : Int} (h0 : 0 ≤ v) (h1 : v < 100000000) : u64 v := ⟨h0, by unfold m64; omega⟩
def tradeF : Fam Trd where
  code := tradeI
  len _ := 23
  op c j := ((tradeI c 0).getD j default).1
  dos := tradeD
  nc := 17
  can c j r := j = 8 ∨ j = 9 → 0 ≤ r 6 ∧ r 6 < 17
  hlen c p := rfl
  hpos c := by decide
  hop c p j hj := by
    match j, hj with
    | 0, _ | 1, _ | 2, _ | 3, _ | 4, _ | 5, _ | 6, _ | 7, _ | 8, _ | 9, _ | 10, _ | 11, _ | 12, _ | 13, _ | 14, _ | 15, _ | 16, _ | 17, _ | 18, _ | 19, _ | 20, _ | 21, _ | 22, _ => rfl
    | j + 23, h => exact absurd h (by omega)
  hdo c p j regs cells hj hc hcan := by
    match j, hj with
    | 0, _ => show Eff.set 4 (givT c % m64) = Eff.set 4 (givT c); rw [giv_mod]
    | 1, _ => show Eff.set 5 (offT c % m64) = Eff.set 5 (offT c); rw [off_mod]
    | 2, _ => rfl
    | 3, _ => simp only [tradeD, real_if]; rfl
    | 4, _ => rfl
    | 5, _ => simp only [tradeD, real_if]; rfl
    | 6, _ => simp only [tradeD, real_if]; rfl
    | 7, _ => show Eff.set 6 (regs.getD 1 0 / 1 % 65536) = Eff.set 6 (regs.getD 1 0 % 65536); rw [Int.ediv_one]
    | 8, _ =>
      have hr : 0 ≤ regs.getD 6 0 ∧ regs.getD 6 0 < 17 := hcan (.inl rfl)
      show (if 0 + regs.getD 6 0 < (cells.length : Int) then Eff.mem (0 + regs.getD 6 0).toNat (regs.getD 4 0) none else Eff.lost) = (if regs.getD 6 0 < 17 then DoK.mem (min (regs.getD 6 0).toNat 16) (regs.getD 4 0) none else DoK.next).real p
      rw [if_pos (by omega), if_pos hr.2, Int.zero_add, Nat.min_eq_left (by omega)]
      rfl
    | 9, _ =>
      have hr : 0 ≤ regs.getD 6 0 ∧ regs.getD 6 0 < 17 := hcan (.inr rfl)
      show (if 0 + regs.getD 6 0 < (cells.length : Int) then Eff.wake (0 + regs.getD 6 0) 1 else Eff.lost) = (if regs.getD 6 0 < 17 then DoK.wake (regs.getD 6 0).toNat 1 else DoK.next).real p
      rw [if_pos (by omega), if_pos hr.2, Int.zero_add]
      show _ = Eff.wake (((regs.getD 6 0).toNat : Nat) : Int) ((1 : Nat) : Int)
      rw [Int.toNat_of_nonneg hr.1]
      rfl
    | 10, _ => rfl
    | 11, _ => rfl
    | 12, _ => simp only [tradeD, real_if]; rfl
    | 13, _ => simp only [tradeD, real_if]; rfl
    | 14, _ => rfl
    | 15, _ => simp only [tradeD, real_if]; rfl
    | 16, _ => rfl
    | 17, _ => simp only [tradeD, real_if]; rfl
    | 18, _ => rfl
    | 19, _ => rfl
    | 20, _ =>
      have := mine_lt c
      show (if mineT c < (cells.length : Int) then Eff.mem (mineT c).toNat (regs.getD 3 0) none else Eff.lost) = _
      rw [if_pos (by omega)]
      rfl
    | 21, _ => rfl
    | 22, _ => rfl
    | j + 23, h => exact absurd h (by omega)
  hok c j cell r hj hc hr := by
    have h1 := giv_lt c
    have h2 := off_lt c
    have h3 := c.1.2
    have hmem : ∀ (a : Nat) (v : Int) (i : Nat) (w : Int), a < 17 → u64 v → i < 8 → u64 w → okD 23 17 (.mem a v (some (i, w))) := fun a v i w h1 h2 h3 h4 => ⟨h1, h2, fun x e => by injection e with e; subst e; exact ⟨h3, h4⟩⟩
    match j, hj with
    | 0, _ => exact ⟨by decide, u64_few (by omega) (by omega)⟩
    | 1, _ => exact ⟨by decide, u64_few (by omega) (by omega)⟩
    | 2, _ => exact hmem _ _ _ _ (by decide) (hc 0) (by decide) (hc 0)
    | 3, _ => exact okD_if _ _ _ _ _ (Nat.le_of_ble_eq_true rfl) trivial
    | 4, _ => exact ⟨by decide, u64_0⟩
    | 5, _ => exact okD_if _ _ _ _ _ (hmem _ _ _ _ (by decide) (hr 2) (by decide) u64_1) (hmem _ _ _ _ (by decide) (hc 0) (by decide) u64_0)
    | 6, _ => exact okD_if _ _ _ _ _ (Nat.le_of_ble_eq_true rfl) trivial
    | 7, _ => exact ⟨by decide, u64_few (Int.emod_nonneg _ (by decide)) (by have := Int.emod_lt_of_pos (r 1) (show (0 : Int) < 65536 by decide); omega)⟩
    | 8, _ => exact okD_if _ _ _ _ _ ⟨by omega, hr 4, fun x e => by cases e⟩ trivial
    | 9, _ => exact okD_if _ _ _ _ _ trivial trivial
    | 10, _ => exact ⟨by decide, u64_few (Int.emod_nonneg _ (by decide)) (by have := Int.emod_lt_of_pos (r 1 / 65536) (show (0 : Int) < 65536 by decide); omega)⟩
    | 11, _ => exact (by decide : (21 : Nat) ≤ 23)
    | 12, _ => exact okD_if _ _ _ _ _ (hmem _ _ _ _ (by decide) (hr 5) (by decide) u64_1) (hmem _ _ _ _ (by decide) (hc 0) (by decide) u64_0)
    | 13, _ => exact okD_if _ _ _ _ _ (Nat.le_of_ble_eq_true rfl) trivial
    | 14, _ => exact hmem _ _ _ _ h3 (hc _) (by decide) (hc _)
    | 15, _ => exact okD_if _ _ _ _ _ (Nat.le_of_ble_eq_true rfl) trivial
    | 16, _ => exact (by decide : (19 : Nat) ≤ 23)
    | 17, _ => exact okD_if _ _ _ _ _ trivial trivial
    | 18, _ => exact (by decide : (14 : Nat) ≤ 23)
    | 19, _ => exact ⟨by decide, u64_0⟩
    | 20, _ => exact ⟨h3, hr 3, fun x e => by cases e⟩
    | 21, _ => exact ⟨by decide, u64_mod _⟩
    | 22, _ => trivial
    | j + 23, h => exact absurd h (by omega)

/-- What a thread is at: 0: it looks, 1: it took an offer, 2: it left one, 3: it gave, or has. -/
def cls (x : TK) : Nat := if x.j ≤ 5 ∨ x.j = 12 then 0 else if x.j = 6 then (if x.r 3 = 1 then 1 else 0) else if x.j = 7 ∨ x.j = 8 then 1 else if x.j = 13 then (if x.r 3 = 1 then 2 else 0) else if 14 ≤ x.j ∧ x.j ≤ 20 then 2 else 3
def rgT (c : Trd) (cm : Int) (x : TK) : Prop :=
  (1 ≤ x.j → x.r 4 = givT c) ∧ (2 ≤ x.j → x.r 5 = offT c) ∧ (x.j = 4 ∨ x.j = 5 → x.r 1 ≠ 0) ∧ (x.j = 5 → x.r 2 = 0) ∧ (x.j = 12 → x.r 1 = 0) ∧ (x.j = 6 ∨ x.j = 13 → x.r 3 = 0 ∨ x.r 3 = 1) ∧ (x.j = 15 → x.r 2 = 0 ∨ x.r 2 = cm) ∧ (x.j = 16 ∨ x.j = 19 ∨ x.j = 20 → x.r 2 = cm ∧ cm ≠ 0) ∧ (x.j = 17 → x.r 2 = 0) ∧ (x.j = 20 → x.r 3 = 0)
def ptT (d : Trd) (x : TK) : Prop := (cls x = 1 → x.r 1 = offT d) ∧ (x.j = 8 → x.r 6 = mineT d) ∧ (x.j = 9 → x.r 6 = mineT d ∧ x.r 1 = offT d) ∧ (x.j = 10 → x.r 1 = offT d) ∧ (x.j = 11 ∨ x.j = 21 → x.r 2 = givT d) ∧ (x.j = 22 → x.r 2 = givT d - 1)

/-- Who met whom. -/
structure TrG (n : Nat) (calls : Nat → List Trd) (S : CS) (e : List Ev4) (pr : Nat → Nat → Option (Nat × Nat)) : Prop where
  sym : ∀ u k v l, pr u k = some (v, l) → pr v l = some (u, k) ∧ v ≠ u ∧ u < n ∧ k < (calls u).length
  past : ∀ u k, u < n → k < (S.th u).k → pr u k ≠ none
  next : ∀ u k, u < n → (S.th u).k < k → pr u k = none
  rg : ∀ u c, u < n → (calls u)[(S.th u).k]? = some c → rgT c (S.cell (u + 1)) (S.th u)
  out : ∀ u, u < n → cls (S.th u) ≠ 2 → S.cell (u + 1) = 0
  free : ∀ u, u < n → pr u (S.th u).k = none → cls (S.th u) = 0 ∨ (cls (S.th u) = 2 ∧ S.cell (u + 1) = 0 ∧ ∃ c, (calls u)[(S.th u).k]? = some c ∧ S.cell 0 = offT c)
  met : ∀ u v l, u < n → pr u (S.th u).k = some (v, l) → cls (S.th u) ≠ 0 ∧ ∃ d, (calls v)[l]? = some d ∧ ptT d (S.th u) ∧ (cls (S.th u) = 1 → (S.th v).k = l ∧ cls (S.th v) = 2 ∧ S.cell (v + 1) = 0) ∧ (cls (S.th u) = 2 → S.cell (u + 1) = givT d ∨ (S.cell (u + 1) = 0 ∧ (S.th v).k = l ∧ cls (S.th v) = 1))
  slot : S.cell 0 = 0 ∨ ∃ v c, v < n ∧ (calls v)[(S.th v).k]? = some c ∧ cls (S.th v) = 2 ∧ pr v (S.th v).k = none ∧ S.cell 0 = offT c
  high : ∀ i, n < i → S.cell i = 0
  lot : ∀ s ∈ S.lot, s.2 = s.1 + 1 ∧ (S.th s.1).j = 18 ∧ (calls s.1)[(S.th s.1).k]? ≠ none
  pend : ∀ s ∈ S.lot, S.cell s.2 ≠ 0 → ∃ v, v < n ∧ (calls v)[(S.th v).k]? ≠ none ∧ (S.th v).j = 9 ∧ (S.th v).r 6 = (s.2 : Int)
  ans : ∀ u, u < n → (ansOf e u).length = (S.th u).k ∧ ∀ k v l d, k < (S.th u).k → pr u k = some (v, l) → (calls v)[l]? = some d → (ansOf e u)[k]? = some (givT d - 1)
  evs : ∀ x ∈ e, ∃ s w : Int, ∃ u : Nat, u < n ∧ x = (s, 3, (u : Int), w)
  even : ∃ q, (sumN n fun u => (S.th u).k + (pr u (S.th u).k).isSome.toNat) = 2 * q
end Go.Proofs.YtlcffeiolpggfaaDoor

namespace Go.Proofs.YtlcffeiolpggfaaDoor
set_option maxRecDepth 100000
set_option linter.unusedVariables false
set_option linter.unusedSimpArgs false

def locJ (n : Nat) (v cm r1 r2 r3 : Int) (sl : Bool) : Nat → Nat
  | 0 => 14 + 9 * n
  | 1 => 13 + 9 * n
  | 2 => 12 + 9 * n
  | 3 => if r1 = v then 11 + 9 * n else 16 + 9 * n
  | 4 => if r1 = v then 10 + 9 * n else 15 + 9 * n
  | 5 => if r1 = v then 9 + 9 * n else 14 + 9 * n
  | 6 => if r3 = 0 then 13 + 9 * n else 8 + 4 * n
  | 7 => 7 + 4 * n
  | 8 => 6 + 4 * n
  | 9 => 5 + 4 * n
  | 10 => 4
  | 11 => 3
  | 12 => if r1 = v then 10 + 9 * n else 14 + 9 * n
  | 13 => if r3 = 0 then 13 + 9 * n else 13
  | 14 => if cm = 0 then 12 else 7
  | 15 => if r2 = 0 then (if cm = 0 then 11 else 10) else 6
  | 16 => 5
  | 17 => if cm = 0 then 10 else 9
  | 18 => if cm = 0 then (if sl then 9 else 13) else 8
  | 19 => 4
  | 20 => 3
  | 21 => 2
  | _ => 1
def locT (n : Nat) (v cm : Int) (o : Option Trd) (x : TK) (sl : Bool) : Nat :=
  match o with
  | none => 0
  | some _ => locJ n v cm (x.r 1) (x.r 2) (x.r 3) sl x.j
def potD (n : Nat) (v cm : Int) (l : List Trd) (x : TK) (sl : Bool) : Nat := if x.en = true then 0 else 1 + locT n v cm l[x.k]? x sl + (l.length - (x.k + 1)) * (14 + 9 * n)
theorem locJ_bump (n : Nat) (v v' cm r1 r2 r3 : Int) (sl : Bool) (j : Nat) : locJ n v' cm r1 r2 r3 sl j ≤ locJ n v cm r1 r2 r3 sl j + 5 := by
  unfold locJ
  split <;> (try split) <;> (try split) <;> (try split) <;> first | omega | simp_all
theorem locJ_woke (n : Nat) (v cm r1 r2 r3 : Int) (sl sl' : Bool) (j : Nat) : locJ n v cm r1 r2 r3 sl' j ≤ locJ n v cm r1 r2 r3 sl j + 4 := by
  unfold locJ
  split <;> (try split) <;> (try split) <;> (try split) <;> first | omega | simp_all
theorem locJ_gave (n : Nat) (v cm r1 r2 r3 : Int) (sl : Bool) (j : Nat) (h : cm ≠ 0) : locJ n v cm r1 r2 r3 sl j ≤ locJ n v 0 r1 r2 r3 sl j := by
  unfold locJ
  split <;> (try split) <;> (try split) <;> (try split) <;> first | omega | simp_all
theorem tpot_bump (n : Nat) (v v' cm : Int) (l : List Trd) (x : TK) (sl : Bool) : potD n v' cm l x sl ≤ potD n v cm l x sl + 5 := by
  have : locT n v' cm l[x.k]? x sl ≤ locT n v cm l[x.k]? x sl + 5 := by
    unfold locT
    split
    · omega
    · exact locJ_bump _ _ _ _ _ _ _ _ _
  unfold potD
  split <;> omega
theorem tpot_woke (n : Nat) (v cm : Int) (l : List Trd) (x : TK) (sl sl' : Bool) : potD n v cm l x sl' ≤ potD n v cm l x sl + 4 := by
  have : locT n v cm l[x.k]? x sl' ≤ locT n v cm l[x.k]? x sl + 4 := by
    unfold locT
    split
    · omega
    · exact locJ_woke _ _ _ _ _ _ _ _ _
  unfold potD
  split <;> omega
theorem tpot_gave (n : Nat) (v cm : Int) (l : List Trd) (x : TK) (sl : Bool) (h : cm ≠ 0) : potD n v cm l x sl ≤ potD n v 0 l x sl := by
  have : locT n v cm l[x.k]? x sl ≤ locT n v 0 l[x.k]? x sl := by
    unfold locT
    split
    · omega
    · exact locJ_gave _ _ _ _ _ _ _ _ h
  unfold potD
  split <;> omega
def potTr (n : Nat) (calls : Nat → List Trd) (S : CS) : Nat := sumN n fun u => potD n (S.cell 0) (S.cell (u + 1)) (calls u) (S.th u) (slK S u)

section
variable {n : Nat} {calls : Nat → List Trd} {S S' : CS} {e : List Ev4} {pr : Nat → Nat → Option (Nat × Nat)} {t : Nat} {x' : TK} {c : Trd}

theorem potTr_same (ht : t < n) (hth : S'.th = upd S.th t x') (hc : S'.cell = S.cell) (hl : ∀ u, u ≠ t → slK S' u = slK S u) (hp : potD n (S.cell 0) (S.cell (t + 1)) (calls t) x' (slK S' t) + 1 ≤ potD n (S.cell 0) (S.cell (t + 1)) (calls t) (S.th t) (slK S t)) : potTr n calls S' + 1 ≤ potTr n calls S := by
  have : (sumN n fun u => potD n (S'.cell 0) (S'.cell (u + 1)) (calls u) (S'.th u) (slK S' u)) + 1 ≤ (sumN n fun u => potD n (S.cell 0) (S.cell (u + 1)) (calls u) (S.th u) (slK S u)) + 0 := sumN_shift ht (fun u hu hne => by rw [hc, hth, upd_ne _ _ hne, hl u hne]) (by rw [hc, hth, upd_same]; omega)
  unfold potTr
  omega
theorem potTr_moves (ht : t < n) (hth : S'.th = upd S.th t x') (hc : ∀ u, S'.cell (u + 1) = S.cell (u + 1)) (hl : S'.lot = S.lot) (hp : potD n (S'.cell 0) (S.cell (t + 1)) (calls t) x' (slK S t) + (5 * n + 1) ≤ potD n (S.cell 0) (S.cell (t + 1)) (calls t) (S.th t) (slK S t)) : potTr n calls S' + 1 ≤ potTr n calls S := by
  have := sumN_bulk (n := n) (t := t) (a := 5 * n + 1) (b := 5) (f := fun u => potD n (S'.cell 0) (S'.cell (u + 1)) (calls u) (S'.th u) (slK S' u)) (g := fun u => potD n (S.cell 0) (S.cell (u + 1)) (calls u) (S.th u) (slK S u)) ht (fun u hu hne => by rw [hth, upd_ne _ _ hne, slK_same hl, hc]; exact tpot_bump _ _ _ _ _ _ _) (by rw [hth, upd_same, slK_same hl, hc]; omega)
  unfold potTr
  omega
theorem potTr_wake (ht : t < n) (hth : S'.th = upd S.th t x') (hc : S'.cell = S.cell) (hp : ∀ sl, potD n (S.cell 0) (S.cell (t + 1)) (calls t) x' sl + (4 * n + 1) ≤ potD n (S.cell 0) (S.cell (t + 1)) (calls t) (S.th t) (slK S t)) : potTr n calls S' + 1 ≤ potTr n calls S := by
  have := sumN_bulk (n := n) (t := t) (a := 4 * n + 1) (b := 4) (f := fun u => potD n (S'.cell 0) (S'.cell (u + 1)) (calls u) (S'.th u) (slK S' u)) (g := fun u => potD n (S.cell 0) (S.cell (u + 1)) (calls u) (S.th u) (slK S u)) ht (fun u hu hne => by rw [hc, hth, upd_ne _ _ hne]; exact tpot_woke _ _ _ _ _ _ _) (by rw [hc, hth, upd_same]; exact hp _)
  unfold potTr
  omega
theorem potTr_le (ht : t < n) (hth : S'.th = upd S.th t x') (hc : S'.cell 0 = S.cell 0) (hl : S'.lot = S.lot) (ho : ∀ u, u < n → u ≠ t → S'.cell (u + 1) = S.cell (u + 1) ∨ (S.cell (u + 1) = 0 ∧ S'.cell (u + 1) ≠ 0)) (hp : potD n (S.cell 0) (S'.cell (t + 1)) (calls t) x' (slK S t) + 1 ≤ potD n (S.cell 0) (S.cell (t + 1)) (calls t) (S.th t) (slK S t)) : potTr n calls S' + 1 ≤ potTr n calls S := by
  have := sumN_bulk (n := n) (t := t) (a := 1) (b := 0) (f := fun u => potD n (S'.cell 0) (S'.cell (u + 1)) (calls u) (S'.th u) (slK S' u)) (g := fun u => potD n (S.cell 0) (S.cell (u + 1)) (calls u) (S.th u) (slK S u)) ht (fun u hu hne => by
    rw [hth, upd_ne _ _ hne, slK_same hl, hc]
    rcases ho u hu hne with h | ⟨h, h2⟩
    · rw [h]; exact Nat.le_refl _
    · rw [h]; exact tpot_gave _ _ _ _ _ _ h2) (by rw [hth, upd_same, slK_same hl, hc]; omega)
  unfold potTr
  omega
theorem tpot_step {v v' cm cm' : Int} {l : List Trd} {x x' : TK} {sl sl' : Bool} {d : Nat} (hk : x'.k = x.k) (he : x.en = false) (he' : x'.en = false) (h : locT n v' cm' l[x.k]? x' sl' + d ≤ locT n v cm l[x.k]? x sl) : potD n v' cm' l x' sl' + d ≤ potD n v cm l x sl := by
  unfold potD
  rw [he, he', hk, if_neg (by decide), if_neg (by decide)]
  omega
theorem tpot_over {v cm : Int} {l : List Trd} {x x' : TK} {sl sl' : Bool} (hk : x'.k = x.k + 1) (hj : x'.j = 0) (he : x.en = false) (he' : x'.en = false) (hb : l[x.k]? = some c) (h : locT n v cm (some c) x sl = 1) : potD n v cm l x' sl' + 1 ≤ potD n v cm l x sl := by
  unfold potD
  rw [he, he', hk, if_neg (by decide), if_neg (by decide), hb, h]
  cases hc : l[x.k + 1]? with
  | none => 
    have h0 : l.length - (x.k + 1 + 1) = 0 := by have := List.getElem?_eq_none_iff.1 hc; omega
    rw [h0]
    simp [locT]
  | some d =>
    have h1 := (List.getElem?_eq_some_iff.1 hc).1
    have h2 : l.length - (x.k + 1) = (l.length - (x.k + 1 + 1)) + 1 := by omega
    rw [h2, Nat.succ_mul (l.length - (x.k + 1 + 1))]
    show 1 + locJ n v cm _ _ _ sl' x'.j + _ + 1 ≤ _
    rw [hj]
    simp [locJ]
    omega

theorem tr_nt (hsl : slK S t = false) : ∀ s ∈ S.lot, s ∈ S.lot ∧ s.1 ≠ t := fun s hs => ⟨hs, fun e => by
  have : slK S t = true := slK_of (a := s.2) (by rw [← e]; exact hs)
  rw [hsl] at this; cases this⟩

/-- A thread moved, but is at what it was at. -/
theorem tr_put (h : TrG n calls S e pr) (ht : t < n) (hk : x'.k = (S.th t).k) (hth : S'.th = upd S.th t x') (hcell : S'.cell = S.cell) (hcls : cls x' = cls (S.th t))
    (hrg : ∀ c, (calls t)[(S.th t).k]? = some c → rgT c (S.cell (t + 1)) x') (hpt : ∀ d, ptT d (S.th t) → ptT d x')
    (hl : ∀ s ∈ S'.lot, (s ∈ S.lot ∧ s.1 ≠ t) ∨ (s = (t, t + 1) ∧ (calls t)[(S.th t).k]? ≠ none ∧ x'.j = 18 ∧ S.cell (t + 1) = 0))
    (hw : (S.th t).j = 9 → ∀ s ∈ S'.lot, (s.2 : Int) ≠ (S.th t).r 6) : TrG n calls S' e pr := by
  have hne : ∀ u, u ≠ t → S'.th u = S.th u := fun u hu => by rw [hth, upd_ne _ _ hu]
  have hself : S'.th t = x' := by rw [hth, upd_same]
  have hkk : ∀ u, (S'.th u).k = (S.th u).k := fun u => by
    by_cases e : u = t
    · subst e; rw [hself, hk]
    · rw [hne u e]
  have hcc : ∀ u, cls (S'.th u) = cls (S.th u) := fun u => by
    by_cases e : u = t
    · subst e; rw [hself, hcls]
    · rw [hne u e]
  refine ⟨h.sym, fun u k hu hlt => h.past u k hu (by rw [← hkk]; exact hlt), fun u k hu hlt => h.next u k hu (by rw [← hkk]; exact hlt), fun u c hu hc => ?_, fun u hu hq => by rw [hcell]; exact h.out u hu (by rw [← hcc]; exact hq), fun u hu hq => ?_, fun u v l hu hq => ?_, ?_, fun i hi => by rw [hcell]; exact h.high i hi, fun s hs => ?_, fun s hs hz => ?_, fun u hu => by rw [hkk]; exact h.ans u hu, h.evs, ?_⟩
  · rw [hkk] at hc
    rw [hcell]
    by_cases e : u = t
    · subst e; rw [hself]; exact hrg c hc
    · rw [hne u e]; exact h.rg u c hu hc
  · rw [hkk] at hq ⊢
    rw [hcc, hcell]
    exact h.free u hu hq
  · rw [hkk] at hq
    rw [hcc u, hcc v, hkk v, hcell]
    obtain ⟨h1, d, h2, h3, h4, h5⟩ := h.met u v l hu hq
    refine ⟨h1, d, h2, ?_, h4, h5⟩
    by_cases e : u = t
    · subst e; rw [hself]; exact hpt d h3
    · rw [hne u e]; exact h3
  · rw [hcell]
    rcases h.slot with h0 | ⟨v, c, h1, h2, h3, h4, h5⟩
    · exact .inl h0
    · exact .inr ⟨v, c, h1, by rw [hkk]; exact h2, by rw [hcc]; exact h3, by rw [hkk]; exact h4, h5⟩
  · rcases hl s hs with ⟨h1, h2⟩ | ⟨h1, h2, h3, h4⟩
    · rw [hne _ h2]; exact h.lot s h1
    · subst h1
      show t + 1 = t + 1 ∧ (S'.th t).j = 18 ∧ (calls t)[(S'.th t).k]? ≠ none
      rw [hkk, hself]
      exact ⟨rfl, h3, h2⟩
  · rw [hcell] at hz
    rcases hl s hs with ⟨h1, h2⟩ | ⟨h1, h2, h3, h4⟩
    · obtain ⟨v, q1, q2, q3, q4⟩ := h.pend s h1 hz
      have hvt : v ≠ t := fun e => by subst e; exact hw q3 s hs q4.symm
      exact ⟨v, q1, by rw [hkk]; exact q2, by rw [hne v hvt]; exact q3, by rw [hne v hvt]; exact q4⟩
    · subst h1
      exact absurd h4 hz
  · obtain ⟨q, hq⟩ := h.even
    refine ⟨q, ?_⟩
    rw [← hq]
    congr 1
    funext u
    rw [hkk]

theorem tr_calm (h : TrG n calls S e pr) (ht : t < n) (hsl : slK S t = false) (hc : (calls t)[(S.th t).k]? = some c) (h1 : x'.k = (S.th t).k) (h2 : S'.th = upd S.th t x') (h3 : S'.cell = S.cell) (h4 : S'.lot = S.lot) (h5 : rgT c (S.cell (t + 1)) x') (h6 : cls x' = cls (S.th t)) (h7 : ∀ d, ptT d (S.th t) → ptT d x') (h8 : (S.th t).j ≠ 9)
    (he : (S.th t).en = false) (he' : x'.en = false) (hp : locJ n (S.cell 0) (S.cell (t + 1)) (x'.r 1) (x'.r 2) (x'.r 3) false x'.j + 1 ≤ locJ n (S.cell 0) (S.cell (t + 1)) ((S.th t).r 1) ((S.th t).r 2) ((S.th t).r 3) false (S.th t).j) : TrG n calls S' e pr ∧ potTr n calls S' + 1 ≤ potTr n calls S := by
  refine ⟨tr_put h ht h1 h2 h3 h6 (fun c' hc' => ?_) h7 (fun s hs => .inl (tr_nt hsl s (by rw [← h4]; exact hs))) (fun q => absurd q h8), potTr_same ht h2 h3 (fun u _ => slK_same h4 u) (tpot_step h1 he he' (by rw [hc, slK_same h4, hsl]; exact hp))⟩
  rw [hc] at hc'
  injection hc' with hc'
  subst hc'
  exact h5

theorem wakeK_one : ∀ {l : List (Nat × Nat)} {a : Nat}, (∀ s ∈ l, s.2 = s.1 + 1) → (l.map (·.1)).Nodup → ∀ s ∈ wakeK l a 1, s.2 ≠ a
  | [], _, _, _, s, h => by simp [wakeK] at h
  | x :: l, a, h1, h2, s, h => by
    rw [List.map_cons, List.nodup_cons] at h2
    unfold wakeK at h
    by_cases e : x.2 = a
    · rw [if_pos e] at h
      have hs : s ∈ l := (wakeK_sub l a 0).subset h
      intro q
      have a1 := h1 x (.head _)
      have a2 := h1 s (.tail _ hs)
      exact h2.1 (List.mem_map.2 ⟨s, hs, by omega⟩)
    · rw [if_neg e] at h
      rcases List.mem_cons.1 h with h | h
      · subst h; exact e
      · exact wakeK_one (fun s hs => h1 s (.tail _ hs)) h2.2 s h
end
end Go.Proofs.YtlcffeiolpggfaaDoor

namespace Go.Proofs.YtlcffeiolpggfaaDoor
set_option maxRecDepth 100000
set_option linter.unusedVariables false
set_option linter.unusedSimpArgs false

section
variable {n : Nat} {calls : Nat → List Trd} {S S' : CS} {e : List Ev4} {pr : Nat → Nat → Option (Nat × Nat)} {t : Nat} {x' : TK} {c : Trd}

theorem met_call (h : TrG n calls S e pr) {u k v l : Nat} (hp : pr u k = some (v, l)) : v < n ∧ ∃ d, (calls v)[l]? = some d := by
  obtain ⟨h1, _, _, _⟩ := h.sym u k v l hp
  obtain ⟨_, _, h3, h4⟩ := h.sym v l u k h1
  exact ⟨h3, _, List.getElem?_eq_getElem h4⟩
theorem tr_idle (h : TrG n calls S e pr) (ht : t < n) (hc : cls (S.th t) = 0) : pr t (S.th t).k = none := by
  cases hp : pr t (S.th t).k with
  | none => rfl
  | some q => exact absurd hc (h.met t q.1 q.2 ht hp).1
theorem off_inj (hm : ∀ u, u < n → ∀ c ∈ calls u, (c.1 : Nat) = u + 1) {u v k l : Nat} {c d : Trd} (hu : u < n) (hv : v < n) (hc : (calls u)[k]? = some c) (hd : (calls v)[l]? = some d) (e : offT c = offT d) : u = v := by
  have h1 := hm u hu c (List.mem_of_getElem? hc)
  have h2 := hm v hv d (List.mem_of_getElem? hd)
  have h3 := off_mine c
  have h4 := off_mine d
  rw [e, h4] at h3
  unfold mineT at h3
  omega

/-- One takes what another one left. -/
theorem tr_take (h : TrG n calls S e pr) (hm : ∀ u, u < n → ∀ c ∈ calls u, (c.1 : Nat) = u + 1) (ht : t < n) (hc : (calls t)[(S.th t).k]? = some c) (hsl : slK S t = false) (hj : (S.th t).j = 5) (h0 : S.cell 0 = (S.th t).r 1)
    (hk : x'.k = (S.th t).k) (hx : x'.j = 6 ∧ x'.r = upd (S.th t).r 3 1) (hth : S'.th = upd S.th t x') (hcell : S'.cell = upd S.cell 0 ((S.th t).r 2)) (hlot : S'.lot = S.lot) : ∃ pr', TrG n calls S' e pr' := by
  have hne : ∀ u, u ≠ t → S'.th u = S.th u := fun u hu => by rw [hth, upd_ne _ _ hu]
  have hself : S'.th t = x' := by rw [hth, upd_same]
  have hkk : ∀ u, (S'.th u).k = (S.th u).k := fun u => by
    by_cases e : u = t
    · subst e; rw [hself, hk]
    · rw [hne u e]
  have hcx : cls (S.th t) = 0 := by simp [cls, hj]
  have hcx' : cls x' = 1 := by simp [cls, hx.1, hx.2, upd]
  have hrg := h.rg t c ht hc
  have hr1 : (S.th t).r 1 ≠ 0 := hrg.2.2.1 (.inr hj)
  have hr2 : (S.th t).r 2 = 0 := hrg.2.2.2.1 hj
  rw [hr2] at hcell
  have hc0 : S'.cell 0 = 0 := by rw [hcell, upd_same]
  have hcs : ∀ i, S'.cell (i + 1) = S.cell (i + 1) := fun i => by rw [hcell, upd_ne _ _ (by omega)]
  obtain ⟨v, d, hv, hd, hv2, hpv, ho⟩ := h.slot.resolve_left (by rw [h0]; exact hr1)
  have hpt := tr_idle h ht hcx
  have hvt : v ≠ t := fun e => by subst e; rw [hcx] at hv2; cases hv2
  have hcv : S.cell (v + 1) = 0 := by
    rcases h.free v hv hpv with q | q
    · rw [hv2] at q; cases q
    · exact q.2.1
  have hlen := (List.getElem?_eq_some_iff.1 hc).1
  have hlenv := (List.getElem?_eq_some_iff.1 hd).1
  refine ⟨fun u k => if u = t ∧ k = (S.th t).k then some (v, (S.th v).k) else if u = v ∧ k = (S.th v).k then some (t, (S.th t).k) else pr u k, ?_⟩
  have pt : ∀ k, k = (S.th t).k → (if t = t ∧ k = (S.th t).k then some (v, (S.th v).k) else if t = v ∧ k = (S.th v).k then some (t, (S.th t).k) else pr t k) = some (v, (S.th v).k) := fun k q => if_pos ⟨rfl, q⟩
  have pv : ∀ k, k = (S.th v).k → (if v = t ∧ k = (S.th t).k then some (v, (S.th v).k) else if v = v ∧ k = (S.th v).k then some (t, (S.th t).k) else pr v k) = some (t, (S.th t).k) := fun k q => by rw [if_neg (fun q => hvt q.1), if_pos ⟨rfl, q⟩]
  have po : ∀ u k, ¬ (u = t ∧ k = (S.th t).k) → ¬ (u = v ∧ k = (S.th v).k) → (if u = t ∧ k = (S.th t).k then some (v, (S.th v).k) else if u = v ∧ k = (S.th v).k then some (t, (S.th t).k) else pr u k) = pr u k := fun u k q1 q2 => by rw [if_neg q1, if_neg q2]
  have pk : ∀ u, u ≠ t → u ≠ v → (if u = t ∧ (S'.th u).k = (S.th t).k then some (v, (S.th v).k) else if u = v ∧ (S'.th u).k = (S.th v).k then some (t, (S.th t).k) else pr u (S'.th u).k) = pr u (S.th u).k := fun u q1 q2 => by rw [po _ _ (fun q => q1 q.1) (fun q => q2 q.1), hkk]
  refine ⟨fun u k w l hp => ?_, fun u k hu hlt => ?_, fun u k hu hlt => ?_, fun u c' hu hc' => ?_, fun u hu hq => ?_, fun u hu hq => ?_, fun u w l hu hq => ?_, .inl hc0, fun i hi => ?_, fun s hs => ?_, fun s hs hz => ?_, fun u hu => ?_, h.evs, ?_⟩
  · by_cases q1 : u = t ∧ k = (S.th t).k
    · obtain ⟨rfl, rfl⟩ := q1
      rw [pt _ rfl] at hp
      injection hp with hp
      injection hp with hp1 hp2
      subst hp1 hp2
      exact ⟨pv _ rfl, hvt, ht, hlen⟩
    · by_cases q2 : u = v ∧ k = (S.th v).k
      · obtain ⟨rfl, rfl⟩ := q2
        rw [pv _ rfl] at hp
        injection hp with hp
        injection hp with hp1 hp2
        subst hp1 hp2
        exact ⟨pt _ rfl, Ne.symm hvt, hv, hlenv⟩
      · rw [po _ _ q1 q2] at hp
        obtain ⟨a1, a2, a3, a4⟩ := h.sym u k w l hp
        refine ⟨?_, a2, a3, a4⟩
        rw [po _ _ (fun q => ?_) (fun q => ?_)]
        · exact a1
        · obtain ⟨rfl, rfl⟩ := q
          rw [hpt] at a1; cases a1
        · obtain ⟨rfl, rfl⟩ := q
          rw [hpv] at a1; cases a1
  · rw [hkk] at hlt
    rw [po _ _ (fun q => by obtain ⟨rfl, rfl⟩ := q; omega) (fun q => by obtain ⟨rfl, rfl⟩ := q; omega)]
    exact h.past u k hu hlt
  · rw [hkk] at hlt
    rw [po _ _ (fun q => by obtain ⟨rfl, rfl⟩ := q; omega) (fun q => by obtain ⟨rfl, rfl⟩ := q; omega)]
    exact h.next u k hu hlt
  · rw [hkk] at hc'
    rw [hcs]
    by_cases q : u = t
    · subst q
      rw [hself]
      rw [hc] at hc'
      injection hc' with hc'
      subst hc'
      obtain ⟨g1, g2, _⟩ := hrg
      simp [rgT, hx.1, hx.2, upd]
      exact ⟨g1 (by omega), g2 (by omega)⟩
    · rw [hne u q]; exact h.rg u c' hu hc'
  · rw [hcs]
    by_cases q : u = t
    · subst q; exact h.out u hu (by rw [hcx]; decide)
    · rw [hne u q] at hq; exact h.out u hu hq
  · by_cases q1 : u = t
    · subst q1; rw [pt _ (hkk _)] at hq; cases hq
    · by_cases q2 : u = v
      · subst q2; rw [pv _ (hkk _)] at hq; cases hq
      · rw [pk u q1 q2] at hq
        rw [hne u q1]
        rcases h.free u hu hq with a | ⟨a1, a2, c', a3, a4⟩
        · exact .inl a
        · exfalso
          exact q2 (off_inj hm hu hv a3 hd (a4.symm.trans ho))
  · by_cases q1 : u = t
    · subst q1
      rw [pt _ (hkk _)] at hq
      injection hq with hq
      injection hq with hq1 hq2
      subst hq1 hq2
      rw [hself, hne v hvt]
      refine ⟨by rw [hcx']; decide, d, hd, ⟨fun _ => ?_, fun q => absurd q (by rw [hx.1]; decide), fun q => absurd q (by rw [hx.1]; decide), fun q => absurd q (by rw [hx.1]; decide), fun q => absurd q (by rw [hx.1]; decide), fun q => absurd q (by rw [hx.1]; decide)⟩, fun _ => ⟨rfl, hv2, by rw [hcs]; exact hcv⟩, fun q => absurd q (by rw [hcx']; decide)⟩
      rw [hx.2, upd_ne _ _ (by decide), ← h0]
      exact ho
    · by_cases q2 : u = v
      · subst q2
        rw [pv _ (hkk _)] at hq
        injection hq with hq
        injection hq with hq1 hq2
        subst hq1 hq2
        rw [hne u q1, hself]
        refine ⟨by rw [hv2]; decide, c, hc, ?_, fun q => absurd q (by rw [hv2]; decide), fun _ => .inr ⟨by rw [hcs]; exact hcv, hk, hcx'⟩⟩
        have hj2 : (14 ≤ (S.th u).j ∧ (S.th u).j ≤ 20) ∨ (S.th u).j = 13 := by
          unfold cls at hv2
          repeat' split at hv2
          all_goals first | omega | (exfalso; revert hv2; decide)
        exact ⟨fun q => absurd q (by rw [hv2]; decide), fun q => by omega, fun q => by omega, fun q => by omega, fun q => by omega, fun q => by omega⟩
      · rw [pk u q1 q2] at hq
        obtain ⟨a1, d', a2, a3, a4, a5⟩ := h.met u w l hu hq
        rw [hne u q1]
        refine ⟨a1, d', a2, a3, fun q => ?_, fun q => ?_⟩
        · obtain ⟨b1, b2, b3⟩ := a4 q
          have hwt : w ≠ t := fun e => by subst e; rw [hcx] at b2; cases b2
          rw [hne w hwt, hcs]
          exact ⟨b1, b2, b3⟩
        · rw [hcs]
          rcases a5 q with b | ⟨b1, b2, b3⟩
          · exact .inl b
          · have hwt : w ≠ t := fun e => by subst e; rw [hcx] at b3; cases b3
            rw [hne w hwt]
            exact .inr ⟨b1, b2, b3⟩
  · rw [show i = (i - 1) + 1 by omega, hcs, show (i - 1) + 1 = i by omega]; exact h.high i hi
  · rw [hlot] at hs
    rw [hne _ (tr_nt hsl s hs).2]
    exact h.lot s hs
  · rw [hlot] at hs
    have hs2 := (h.lot s hs).1
    rw [hs2, hcs, ← hs2] at hz
    obtain ⟨w, b1, b2, b3, b4⟩ := h.pend s hs hz
    have hwt : w ≠ t := fun e => by subst e; omega
    exact ⟨w, b1, by rw [hkk]; exact b2, by rw [hne w hwt]; exact b3, by rw [hne w hwt]; exact b4⟩
  · obtain ⟨a1, a2⟩ := h.ans u hu
    refine ⟨by rw [hkk]; exact a1, fun k w l d' hlt hp hd' => ?_⟩
    rw [hkk] at hlt
    rw [po _ _ (fun q => by obtain ⟨rfl, rfl⟩ := q; omega) (fun q => by obtain ⟨rfl, rfl⟩ := q; omega)] at hp
    exact a2 k w l d' hlt hp hd'
  · obtain ⟨q, hq⟩ := h.even
    refine ⟨q + 1, ?_⟩
    have s1 := sumN_shift (n := n) (t := t) (a := 0) (b := 1) (f := fun u => (S.th u).k + (if u = t then 1 else (pr u (S.th u).k).isSome.toNat)) (g := fun u => (S.th u).k + (pr u (S.th u).k).isSome.toNat) ht (fun u _ hne => by rw [if_neg hne]) (by rw [if_pos rfl, hpt]; exact Nat.le_refl _)
    have s1' := sumN_shift (n := n) (t := t) (a := 1) (b := 0) (g := fun u => (S.th u).k + (if u = t then 1 else (pr u (S.th u).k).isSome.toNat)) (f := fun u => (S.th u).k + (pr u (S.th u).k).isSome.toNat) ht (fun u _ hne => by rw [if_neg hne]) (by rw [if_pos rfl, hpt]; exact Nat.le_refl _)
    let F := fun u => (S'.th u).k + (if u = t ∧ (S'.th u).k = (S.th t).k then some (v, (S.th v).k) else if u = v ∧ (S'.th u).k = (S.th v).k then some (t, (S.th t).k) else pr u (S'.th u).k).isSome.toNat
    have Fo : ∀ u, u < n → u ≠ v → F u = (S.th u).k + (if u = t then 1 else (pr u (S.th u).k).isSome.toNat) := fun u _ hne => by
      by_cases q1 : u = t
      · subst q1
        show (S'.th u).k + (if u = u ∧ (S'.th u).k = (S.th u).k then some (v, (S.th v).k) else if u = v ∧ (S'.th u).k = (S.th v).k then some (u, (S.th u).k) else pr u (S'.th u).k).isSome.toNat = _
        rw [pt _ (hkk _), if_pos rfl, hkk]; rfl
      · show (S'.th u).k + (if u = t ∧ (S'.th u).k = (S.th t).k then some (v, (S.th v).k) else if u = v ∧ (S'.th u).k = (S.th v).k then some (t, (S.th t).k) else pr u (S'.th u).k).isSome.toNat = _
        rw [pk u q1 hne, if_neg q1, hkk]
    have Fv : F v = (S.th v).k + 1 := by
      show (S'.th v).k + (if v = t ∧ (S'.th v).k = (S.th t).k then some (v, (S.th v).k) else if v = v ∧ (S'.th v).k = (S.th v).k then some (t, (S.th t).k) else pr v (S'.th v).k).isSome.toNat = _
      rw [pv _ (hkk _), hkk]; rfl
    have s2 := sumN_shift (n := n) (t := v) (a := 0) (b := 1) (f := F) (g := fun u => (S.th u).k + (if u = t then 1 else (pr u (S.th u).k).isSome.toNat)) hv Fo (by rw [Fv, if_neg hvt, hpv]; exact Nat.le_refl _)
    have s2' := sumN_shift (n := n) (t := v) (a := 1) (b := 0) (g := F) (f := fun u => (S.th u).k + (if u = t then 1 else (pr u (S.th u).k).isSome.toNat)) hv (fun u h1 h2 => (Fo u h1 h2).symm) (by rw [Fv, if_neg hvt, hpv]; exact Nat.le_refl _)
    show sumN n F = _
    omega

/-- One leaves what it has. -/
theorem tr_leave (h : TrG n calls S e pr) (ht : t < n) (hc : (calls t)[(S.th t).k]? = some c) (hsl : slK S t = false) (hj : (S.th t).j = 12) (h0 : S.cell 0 = (S.th t).r 1)
    (hk : x'.k = (S.th t).k) (hx : x'.j = 13 ∧ x'.r = upd (S.th t).r 3 1) (hth : S'.th = upd S.th t x') (hcell : S'.cell = upd S.cell 0 ((S.th t).r 5)) (hlot : S'.lot = S.lot) : TrG n calls S' e pr := by
  have hne : ∀ u, u ≠ t → S'.th u = S.th u := fun u hu => by rw [hth, upd_ne _ _ hu]
  have hself : S'.th t = x' := by rw [hth, upd_same]
  have hkk : ∀ u, (S'.th u).k = (S.th u).k := fun u => by
    by_cases e : u = t
    · subst e; rw [hself, hk]
    · rw [hne u e]
  have hcx : cls (S.th t) = 0 := by simp [cls, hj]
  have hcx' : cls x' = 2 := by simp [cls, hx.1, hx.2, upd]
  have hrg := h.rg t c ht hc
  have hr1 : (S.th t).r 1 = 0 := hrg.2.2.2.2.1 hj
  have hr5 : (S.th t).r 5 = offT c := hrg.2.1 (by omega)
  rw [hr5] at hcell
  have hoff := off_lt c
  have hc0 : S'.cell 0 = offT c := by rw [hcell, upd_same]
  have hcs : ∀ i, S'.cell (i + 1) = S.cell (i + 1) := fun i => by rw [hcell, upd_ne _ _ (by omega)]
  have hpt := tr_idle h ht hcx
  refine ⟨h.sym, fun u k hu hlt => h.past u k hu (by rw [← hkk]; exact hlt), fun u k hu hlt => h.next u k hu (by rw [← hkk]; exact hlt), fun u c' hu hc' => ?_, fun u hu hq => ?_, fun u hu hq => ?_, fun u w l hu hq => ?_, .inr ⟨t, c, ht, by rw [hkk]; exact hc, by rw [hself]; exact hcx', by rw [hkk]; exact hpt, hc0⟩, fun i hi => ?_, fun s hs => ?_, fun s hs hz => ?_, fun u hu => by rw [hkk]; exact h.ans u hu, h.evs, ?_⟩
  · rw [hkk] at hc'
    rw [hcs]
    by_cases q : u = t
    · subst q
      rw [hself]
      rw [hc] at hc'
      injection hc' with hc'
      subst hc'
      obtain ⟨g1, g2, _⟩ := hrg
      simp [rgT, hx.1, hx.2, upd]
      exact ⟨g1 (by omega), g2 (by omega)⟩
    · rw [hne u q]; exact h.rg u c' hu hc'
  · rw [hcs]
    by_cases q : u = t
    · subst q; exact h.out u hu (by rw [hcx]; decide)
    · rw [hne u q] at hq; exact h.out u hu hq
  · rw [hkk] at hq
    by_cases q : u = t
    · subst q
      rw [hself, hcs, hk]
      exact .inr ⟨hcx', h.out u hu (by rw [hcx]; decide), c, hc, hc0⟩
    · rw [hne u q]
      rcases h.free u hu hq with a | ⟨a1, a2, c', a3, a4⟩
      · exact .inl a
      · exfalso
        have := off_lt c'
        omega
  · rw [hkk] at hq
    have hut : u ≠ t := fun e => by subst e; rw [hpt] at hq; cases hq
    obtain ⟨a1, d', a2, a3, a4, a5⟩ := h.met u w l hu hq
    rw [hne u hut]
    refine ⟨a1, d', a2, a3, fun q => ?_, fun q => ?_⟩
    · obtain ⟨b1, b2, b3⟩ := a4 q
      have hwt : w ≠ t := fun e => by subst e; rw [hcx] at b2; cases b2
      rw [hne w hwt, hcs]
      exact ⟨b1, b2, b3⟩
    · rw [hcs]
      rcases a5 q with b | ⟨b1, b2, b3⟩
      · exact .inl b
      · have hwt : w ≠ t := fun e => by subst e; rw [hcx] at b3; cases b3
        rw [hne w hwt]
        exact .inr ⟨b1, b2, b3⟩
  · rw [show i = (i - 1) + 1 by omega, hcs, show (i - 1) + 1 = i by omega]; exact h.high i hi
  · rw [hlot] at hs
    rw [hne _ (tr_nt hsl s hs).2]
    exact h.lot s hs
  · rw [hlot] at hs
    have hs2 := (h.lot s hs).1
    rw [hs2, hcs, ← hs2] at hz
    obtain ⟨w, b1, b2, b3, b4⟩ := h.pend s hs hz
    have hwt : w ≠ t := fun e => by subst e; omega
    exact ⟨w, b1, by rw [hkk]; exact b2, by rw [hne w hwt]; exact b3, by rw [hne w hwt]; exact b4⟩
  · obtain ⟨q, hq⟩ := h.even
    refine ⟨q, ?_⟩
    rw [← hq]
    congr 1
    funext u
    rw [hkk]

theorem tr_met (h : TrG n calls S e pr) (ht : t < n) (h0 : cls (S.th t) ≠ 0) (h2 : cls (S.th t) = 2 → S.cell (t + 1) ≠ 0) : ∃ v l d, pr t (S.th t).k = some (v, l) ∧ (calls v)[l]? = some d ∧ ptT d (S.th t) ∧ v < n ∧ v ≠ t := by
  cases hp : pr t (S.th t).k with
  | none =>
    rcases h.free t ht hp with q | ⟨q1, q2, _⟩
    · exact absurd q h0
    · exact absurd q2 (h2 q1)
  | some q =>
    obtain ⟨v, l⟩ := q
    obtain ⟨_, d, a2, a3, _⟩ := h.met t v l ht hp
    exact ⟨v, l, d, rfl, a2, a3, (met_call h hp).1, (h.sym _ _ _ _ hp).2.1⟩

/-- One gives what it has. -/
theorem tr_give (h : TrG n calls S e pr) (hm : ∀ u, u < n → ∀ c ∈ calls u, (c.1 : Nat) = u + 1) (ht : t < n) (hc : (calls t)[(S.th t).k]? = some c) (hsl : slK S t = false) (hj : (S.th t).j = 8)
    (hk : x'.k = (S.th t).k) (hx : x'.j = 9 ∧ x'.r = (S.th t).r) (hth : S'.th = upd S.th t x') (hcell : S'.cell = upd S.cell ((S.th t).r 6).toNat ((S.th t).r 4)) (hlot : S'.lot = S.lot) : TrG n calls S' e pr ∧ ∃ v, v < n ∧ v ≠ t ∧ S.cell (v + 1) = 0 ∧ (S.th t).r 6 = ((v + 1 : Nat) : Int) ∧ (S.th t).r 4 = givT c := by
  have hne : ∀ u, u ≠ t → S'.th u = S.th u := fun u hu => by rw [hth, upd_ne _ _ hu]
  have hself : S'.th t = x' := by rw [hth, upd_same]
  have hkk : ∀ u, (S'.th u).k = (S.th u).k := fun u => by
    by_cases e : u = t
    · subst e; rw [hself, hk]
    · rw [hne u e]
  have hcx : cls (S.th t) = 1 := by simp [cls, hj]
  have hcx' : cls x' = 3 := by simp [cls, hx.1]
  have hrg := h.rg t c ht hc
  have hr4 : (S.th t).r 4 = givT c := hrg.1 (by omega)
  have hgiv := giv_lt c
  obtain ⟨v, l, d, hp, hd, hptd, hv, hvt⟩ := tr_met h ht (by rw [hcx]; decide) (fun q => absurd q (by rw [hcx]; decide))
  obtain ⟨_, d', hd', _, m1, _⟩ := h.met t v l ht hp
  obtain ⟨hvk, hv2, hcv⟩ := m1 hcx
  have hr6 : (S.th t).r 6 = ((v + 1 : Nat) : Int) := by
    rw [hptd.2.1 hj, ← hm v hv d (List.mem_of_getElem? hd)]
    rfl
  rw [hr6, Int.toNat_natCast, hr4] at hcell
  have hpv : pr v (S.th v).k = some (t, (S.th t).k) := by rw [hvk]; exact (h.sym _ _ _ _ hp).1
  have hc0 : S'.cell 0 = S.cell 0 := by rw [hcell, upd_ne _ _ (by omega)]
  have hcv' : S'.cell (v + 1) = givT c := by rw [hcell, upd_same]
  have hcs : ∀ i, i ≠ v → S'.cell (i + 1) = S.cell (i + 1) := fun i hi => by rw [hcell, upd_ne _ _ (by omega)]
  refine ⟨⟨h.sym, fun u k hu hlt => h.past u k hu (by rw [← hkk]; exact hlt), fun u k hu hlt => h.next u k hu (by rw [← hkk]; exact hlt), fun u c' hu hc' => ?_, fun u hu hq => ?_, fun u hu hq => ?_, fun u w l' hu hq => ?_, ?_, fun i hi => ?_, fun s hs => ?_, fun s hs hz => ?_, fun u hu => by rw [hkk]; exact h.ans u hu, h.evs, ?_⟩, v, hv, hvt, hcv, hr6, hr4⟩
  · rw [hkk] at hc'
    by_cases q : u = t
    · subst q
      rw [hself, hcs u (Ne.symm hvt)]
      rw [hc] at hc'
      injection hc' with hc'
      subst hc'
      obtain ⟨g1, g2, _⟩ := hrg
      simp [rgT, hx.1, hx.2]
      exact ⟨g1 (by omega), g2 (by omega)⟩
    · rw [hne u q]
      by_cases q2 : u = v
      · subst q2
        obtain ⟨g1, g2, g3, g4, g5, g6, g7, g8, g9, g10⟩ := h.rg u c' hu hc'
        rw [hcv] at g7 g8
        exact ⟨g1, g2, g3, g4, g5, g6, fun q => .inl ((g7 q).elim id id), fun q => absurd rfl (g8 q).2, g9, g10⟩
      · rw [hcs u q2]; exact h.rg u c' hu hc'
  · by_cases q : u = t
    · subst q; rw [hcs u (Ne.symm hvt)]; exact h.out u hu (by rw [hcx]; decide)
    · rw [hne u q] at hq
      rw [hcs u (fun e => by subst e; exact hq hv2)]
      exact h.out u hu hq
  · rw [hkk] at hq
    have hut : u ≠ t := fun e => by subst e; rw [hp] at hq; cases hq
    have huv : u ≠ v := fun e => by subst e; rw [hpv] at hq; cases hq
    rw [hne u hut, hcs u huv, hc0]
    exact h.free u hu hq
  · rw [hkk] at hq
    by_cases q1 : u = t
    · subst q1
      rw [hp] at hq
      injection hq with hq
      injection hq with hq1 hq2
      subst hq1 hq2
      rw [hself]
      obtain ⟨p1, p2, p3, p4, p5, p6⟩ := hptd
      refine ⟨by rw [hcx']; decide, d, hd, ⟨fun q => absurd q (by rw [hcx']; decide), fun q => absurd q (by rw [hx.1]; decide), fun _ => ?_, fun q => absurd q (by rw [hx.1]; decide), fun q => absurd q (by rw [hx.1]; decide), fun q => absurd q (by rw [hx.1]; decide)⟩, fun q => absurd q (by rw [hcx']; decide), fun q => absurd q (by rw [hcx']; decide)⟩
      rw [hx.2]
      exact ⟨p2 hj, p1 hcx⟩
    · rw [hne u q1]
      obtain ⟨a1, d2, a2, a3, a4, a5⟩ := h.met u w l' hu hq
      refine ⟨a1, d2, a2, a3, fun q => ?_, fun q => ?_⟩
      · obtain ⟨b1, b2, b3⟩ := a4 q
        have hwt : w ≠ t := fun e => by subst e; rw [hcx] at b2; cases b2
        have hwv : w ≠ v := fun e => by
          subst e
          have := (h.sym _ _ _ _ hq).1
          rw [← b1, hpv] at this
          injection this with this
          injection this with this _
          exact q1 this.symm
        rw [hne w hwt, hcs w hwv]
        exact ⟨b1, b2, b3⟩
      · by_cases q2 : u = v
        · subst q2
          rw [hpv] at hq
          injection hq with hq
          injection hq with hq1 hq2
          subst hq1 hq2
          rw [hc] at a2
          injection a2 with a2
          subst a2
          exact .inl hcv'
        · rw [hcs u q2]
          rcases a5 q with b | ⟨b1, b2, b3⟩
          · exact .inl b
          · have hwt : w ≠ t := fun e => by
              subst e
              have := (h.sym _ _ _ _ hq).1
              rw [← b2, hp] at this
              injection this with this
              injection this with this _
              exact q2 this.symm
            rw [hne w hwt]
            exact .inr ⟨b1, b2, b3⟩
  · rw [hc0]
    rcases h.slot with b | ⟨w, d', b1, b2, b3, b4, b5⟩
    · exact .inl b
    · have hwt : w ≠ t := fun e => by subst e; rw [hcx] at b3; cases b3
      exact .inr ⟨w, d', b1, by rw [hkk]; exact b2, by rw [hne w hwt]; exact b3, by rw [hkk]; exact b4, b5⟩
  · rw [show i = (i - 1) + 1 by omega, hcs _ (by omega), show (i - 1) + 1 = i by omega]; exact h.high i hi
  · rw [hlot] at hs
    rw [hne _ (tr_nt hsl s hs).2]
    exact h.lot s hs
  · rw [hlot] at hs
    have hs2 := (h.lot s hs).1
    by_cases q : s.1 = v
    · exact ⟨t, ht, (fun e => by rw [hkk, hc] at e; cases e), by rw [hself]; exact hx.1, by rw [hself, hx.2, hs2, q]; exact hr6⟩
    · rw [hs2, hcs _ q, ← hs2] at hz
      obtain ⟨w, b1, b2, b3, b4⟩ := h.pend s hs hz
      have hwt : w ≠ t := fun e => by subst e; omega
      exact ⟨w, b1, by rw [hkk]; exact b2, by rw [hne w hwt]; exact b3, by rw [hne w hwt]; exact b4⟩
  · obtain ⟨q, hq⟩ := h.even
    refine ⟨q, ?_⟩
    rw [← hq]
    congr 1
    funext u
    rw [hkk]

/-- One takes away what it was given. -/
theorem tr_away (h : TrG n calls S e pr) (ht : t < n) (hc : (calls t)[(S.th t).k]? = some c) (hsl : slK S t = false) (hj : (S.th t).j = 20)
    (hk : x'.k = (S.th t).k) (hx : x'.j = 21 ∧ x'.r = (S.th t).r) (hth : S'.th = upd S.th t x') (hcell : S'.cell = upd S.cell (t + 1) ((S.th t).r 3)) (hlot : S'.lot = S.lot) : TrG n calls S' e pr := by
  have hne : ∀ u, u ≠ t → S'.th u = S.th u := fun u hu => by rw [hth, upd_ne _ _ hu]
  have hself : S'.th t = x' := by rw [hth, upd_same]
  have hkk : ∀ u, (S'.th u).k = (S.th u).k := fun u => by
    by_cases e : u = t
    · subst e; rw [hself, hk]
    · rw [hne u e]
  have hcx : cls (S.th t) = 2 := by simp [cls, hj]
  have hcx' : cls x' = 3 := by simp [cls, hx.1]
  have hrg := h.rg t c ht hc
  have hr3 : (S.th t).r 3 = 0 := hrg.2.2.2.2.2.2.2.2.2 hj
  obtain ⟨hr2, hcm⟩ := hrg.2.2.2.2.2.2.2.1 (.inr (.inr hj))
  rw [hr3] at hcell
  obtain ⟨v, l, d, hp, hd, hptd, hv, hvt⟩ := tr_met h ht (by rw [hcx]; decide) (fun _ => hcm)
  have hc0 : S'.cell 0 = S.cell 0 := by rw [hcell, upd_ne _ _ (by omega)]
  have hct : S'.cell (t + 1) = 0 := by rw [hcell, upd_same]
  have hcs : ∀ i, i ≠ t → S'.cell (i + 1) = S.cell (i + 1) := fun i hi => by rw [hcell, upd_ne _ _ (by omega)]
  refine ⟨h.sym, fun u k hu hlt => h.past u k hu (by rw [← hkk]; exact hlt), fun u k hu hlt => h.next u k hu (by rw [← hkk]; exact hlt), fun u c' hu hc' => ?_, fun u hu hq => ?_, fun u hu hq => ?_, fun u w l' hu hq => ?_, ?_, fun i hi => ?_, fun s hs => ?_, fun s hs hz => ?_, fun u hu => by rw [hkk]; exact h.ans u hu, h.evs, ?_⟩
  · rw [hkk] at hc'
    by_cases q : u = t
    · subst q
      rw [hself]
      rw [hc] at hc'
      injection hc' with hc'
      subst hc'
      obtain ⟨g1, g2, _⟩ := hrg
      simp [rgT, hx.1, hx.2]
      exact ⟨g1 (by omega), g2 (by omega)⟩
    · rw [hne u q, hcs u q]; exact h.rg u c' hu hc'
  · by_cases q : u = t
    · subst q; exact hct
    · rw [hne u q] at hq
      rw [hcs u q]
      exact h.out u hu hq
  · rw [hkk] at hq
    have hut : u ≠ t := fun e => by subst e; rw [hp] at hq; cases hq
    rw [hne u hut, hcs u hut, hc0]
    exact h.free u hu hq
  · rw [hkk] at hq
    by_cases q1 : u = t
    · subst q1
      obtain ⟨a1, d2, a2, a3, a4, a5⟩ := h.met u w l' hu hq
      rw [hself]
      refine ⟨by rw [hcx']; decide, d2, a2, ⟨fun q => absurd q (by rw [hcx']; decide), fun q => absurd q (by rw [hx.1]; decide), fun q => absurd q (by rw [hx.1]; decide), fun q => absurd q (by rw [hx.1]; decide), fun _ => ?_, fun q => absurd q (by rw [hx.1]; decide)⟩, fun q => absurd q (by rw [hcx']; decide), fun q => absurd q (by rw [hcx']; decide)⟩
      rw [hx.2, hr2]
      rcases a5 hcx with b | ⟨b1, _⟩
      · exact b
      · exact absurd b1 hcm
    · rw [hne u q1]
      obtain ⟨a1, d2, a2, a3, a4, a5⟩ := h.met u w l' hu hq
      refine ⟨a1, d2, a2, a3, fun q => ?_, fun q => ?_⟩
      · obtain ⟨b1, b2, b3⟩ := a4 q
        have hwt : w ≠ t := fun e => by subst e; exact hcm b3
        rw [hne w hwt, hcs w hwt]
        exact ⟨b1, b2, b3⟩
      · rw [hcs u q1]
        rcases a5 q with b | ⟨b1, b2, b3⟩
        · exact .inl b
        · have hwt : w ≠ t := fun e => by subst e; rw [hcx] at b3; cases b3
          rw [hne w hwt]
          exact .inr ⟨b1, b2, b3⟩
  · rw [hc0]
    rcases h.slot with b | ⟨w, d', b1, b2, b3, b4, b5⟩
    · exact .inl b
    · have hwt : w ≠ t := fun e => by subst e; rw [hp] at b4; cases b4
      exact .inr ⟨w, d', b1, by rw [hkk]; exact b2, by rw [hne w hwt]; exact b3, by rw [hkk]; exact b4, b5⟩
  · rw [show i = (i - 1) + 1 by omega, hcs _ (by omega), show (i - 1) + 1 = i by omega]; exact h.high i hi
  · rw [hlot] at hs
    rw [hne _ (tr_nt hsl s hs).2]
    exact h.lot s hs
  · rw [hlot] at hs
    have hs2 := (h.lot s hs).1
    rw [hs2, hcs _ (tr_nt hsl s hs).2, ← hs2] at hz
    obtain ⟨w, b1, b2, b3, b4⟩ := h.pend s hs hz
    have hwt : w ≠ t := fun e => by subst e; omega
    exact ⟨w, b1, by rw [hkk]; exact b2, by rw [hne w hwt]; exact b3, by rw [hne w hwt]; exact b4⟩
  · obtain ⟨q, hq⟩ := h.even
    refine ⟨q, ?_⟩
    rw [← hq]
    congr 1
    funext u
    rw [hkk]

/-- One tells what it was given. -/
theorem tr_say (h : TrG n calls S e pr) (ht : t < n) (hc : (calls t)[(S.th t).k]? = some c) (hsl : slK S t = false) (hj : (S.th t).j = 22)
    (hk : x'.k = (S.th t).k + 1) (hx : x'.j = 0) (hth : S'.th = upd S.th t x') (hcell : S'.cell = S.cell) (hlot : S'.lot = S.lot) (s : Int) {w : Int} (hw : w = (S.th t).r 2) : TrG n calls S' (e ++ [(s, 3, (t : Int), w)]) pr := by
  have hne : ∀ u, u ≠ t → S'.th u = S.th u := fun u hu => by rw [hth, upd_ne _ _ hu]
  have hself : S'.th t = x' := by rw [hth, upd_same]
  have hcx : cls (S.th t) = 3 := by simp [cls, hj]
  have hcx' : cls x' = 0 := by simp [cls, hx]
  obtain ⟨v, l, d, hp, hd, hptd, hv, hvt⟩ := tr_met h ht (by rw [hcx]; decide) (fun q => absurd q (by rw [hcx]; decide))
  have hr2 : (S.th t).r 2 = givT d - 1 := hptd.2.2.2.2.2 hj
  have hnx : pr t ((S.th t).k + 1) = none := h.next t _ ht (by omega)
  refine ⟨h.sym, fun u k hu hlt => ?_, fun u k hu hlt => ?_, fun u c' hu hc' => ?_, fun u hu hq => ?_, fun u hu hq => ?_, fun u w' l' hu hq => ?_, ?_, fun i hi => by rw [hcell]; exact h.high i hi, fun s hs => ?_, fun s hs hz => ?_, fun u hu => ?_, fun x hx => ?_, ?_⟩
  · by_cases q : u = t
    · subst q
      rw [hself, hk] at hlt
      by_cases q2 : k = (S.th u).k
      · rw [q2, hp]; intro e; cases e
      · exact h.past u k hu (by omega)
    · rw [hne u q] at hlt; exact h.past u k hu hlt
  · by_cases q : u = t
    · subst q
      rw [hself, hk] at hlt
      exact h.next u k hu (by omega)
    · rw [hne u q] at hlt; exact h.next u k hu hlt
  · rw [hcell]
    by_cases q : u = t
    · subst q
      rw [hself]
      simp [rgT, hx]
    · rw [hne u q] at hc' ⊢; exact h.rg u c' hu hc'
  · rw [hcell]
    by_cases q : u = t
    · subst q; exact h.out u hu (by rw [hcx]; decide)
    · rw [hne u q] at hq; exact h.out u hu hq
  · rw [hcell]
    by_cases q : u = t
    · subst q; rw [hself]; exact .inl hcx'
    · rw [hne u q] at hq ⊢; exact h.free u hu hq
  · rw [hcell]
    by_cases q : u = t
    · subst q; rw [hself, hk, hnx] at hq; cases hq
    · rw [hne u q] at hq ⊢
      obtain ⟨a1, d2, a2, a3, a4, a5⟩ := h.met u w' l' hu hq
      refine ⟨a1, d2, a2, a3, fun q => ?_, fun q => ?_⟩
      · obtain ⟨b1, b2, b3⟩ := a4 q
        have hwt : w' ≠ t := fun e => by subst e; rw [hcx] at b2; cases b2
        rw [hne w' hwt]
        exact ⟨b1, b2, b3⟩
      · rcases a5 q with b | ⟨b1, b2, b3⟩
        · exact .inl b
        · have hwt : w' ≠ t := fun e => by subst e; rw [hcx] at b3; cases b3
          rw [hne w' hwt]
          exact .inr ⟨b1, b2, b3⟩
  · rw [hcell]
    rcases h.slot with b | ⟨w', d', b1, b2, b3, b4, b5⟩
    · exact .inl b
    · have hwt : w' ≠ t := fun e => by subst e; rw [hcx] at b3; cases b3
      exact .inr ⟨w', d', b1, by rw [hne w' hwt]; exact b2, by rw [hne w' hwt]; exact b3, by rw [hne w' hwt]; exact b4, b5⟩
  · rw [hlot] at hs
    rw [hne _ (tr_nt hsl s hs).2]
    exact h.lot s hs
  · rw [hlot] at hs
    rw [hcell] at hz
    obtain ⟨w', b1, b2, b3, b4⟩ := h.pend s hs hz
    have hwt : w' ≠ t := fun e => by subst e; omega
    exact ⟨w', b1, by rw [hne w' hwt]; exact b2, by rw [hne w' hwt]; exact b3, by rw [hne w' hwt]; exact b4⟩
  · obtain ⟨a1, a2⟩ := h.ans u hu
    by_cases q : u = t
    · subst q
      rw [ansOf_self, hself, hk]
      refine ⟨by rw [List.length_append, a1]; rfl, fun k w' l' d' hlt hp' hd' => ?_⟩
      by_cases q2 : k = (S.th u).k
      · subst q2
        rw [hp] at hp'
        injection hp' with hp'
        injection hp' with p1 p2
        subst p1 p2
        rw [hd] at hd'
        injection hd' with hd'
        subst hd'
        rw [List.getElem?_append_right (by omega), a1, Nat.sub_self, hw, hr2]
        rfl
      · rw [List.getElem?_append_left (by omega)]
        exact a2 k w' l' d' (by omega) hp' hd'
    · rw [ansOf_ne _ _ _ _ q, hne u q]
      exact h.ans u hu
  · rcases List.mem_append.1 hx with hx | hx
    · exact h.evs x hx
    · exact ⟨s, w, t, ht, List.mem_singleton.1 hx⟩
  · obtain ⟨q, hq⟩ := h.even
    refine ⟨q, ?_⟩
    rw [← hq]
    congr 1
    funext u
    by_cases q : u = t
    · subst q
      rw [hself, hk, hnx, hp]
      rfl
    · rw [hne u q]

theorem tr_end (h : TrG n calls S e pr) : TrG n calls { S with th := upd S.th t { S.th t with en := true } } e pr := by
  have hv : ∀ u, ((upd S.th t { S.th t with en := true }) u).k = (S.th u).k ∧ ((upd S.th t { S.th t with en := true }) u).j = (S.th u).j ∧ ((upd S.th t { S.th t with en := true }) u).r = (S.th u).r := fun u => by
    by_cases e : u = t
    · subst e; rw [upd_same]; exact ⟨rfl, rfl, rfl⟩
    · rw [upd_ne _ _ e]; exact ⟨rfl, rfl, rfl⟩
  have hcl : ∀ u, cls ((upd S.th t { S.th t with en := true }) u) = cls (S.th u) := fun u => by unfold cls; rw [(hv u).2.1, (hv u).2.2]
  have hrg : ∀ u c cm, rgT c cm ((upd S.th t { S.th t with en := true }) u) ↔ rgT c cm (S.th u) := fun u c cm => by unfold rgT; rw [(hv u).2.1, (hv u).2.2]
  have hpt : ∀ u d, ptT d ((upd S.th t { S.th t with en := true }) u) ↔ ptT d (S.th u) := fun u d => by unfold ptT; rw [hcl, (hv u).2.1, (hv u).2.2]
  generalize upd S.th t { S.th t with en := true } = T at *
  refine ⟨h.sym, fun u k hu hlt => h.past u k hu (by rw [← (hv u).1]; exact hlt), fun u k hu hlt => h.next u k hu (by rw [← (hv u).1]; exact hlt), fun u c hu hc => ?_, fun u hu hq => h.out u hu (by rw [← hcl]; exact hq), fun u hu hq => ?_, fun u v l hu hq => ?_, ?_, h.high, fun s hs => ?_, fun s hs hz => ?_, fun u hu => ?_, h.evs, ?_⟩
  · show rgT c (S.cell (u + 1)) (T u)
    rw [hrg]
    exact h.rg u c hu (by rw [← (hv u).1]; exact hc)
  · show cls (T u) = 0 ∨ (cls (T u) = 2 ∧ S.cell (u + 1) = 0 ∧ ∃ c, (calls u)[(T u).k]? = some c ∧ S.cell 0 = offT c)
    rw [hcl, (hv u).1]
    exact h.free u hu (by rw [← (hv u).1]; exact hq)
  · show cls (T u) ≠ 0 ∧ ∃ d, (calls v)[l]? = some d ∧ ptT d (T u) ∧ (cls (T u) = 1 → (T v).k = l ∧ cls (T v) = 2 ∧ S.cell (v + 1) = 0) ∧ (cls (T u) = 2 → S.cell (u + 1) = givT d ∨ (S.cell (u + 1) = 0 ∧ (T v).k = l ∧ cls (T v) = 1))
    rw [hcl, hcl, (hv v).1]
    obtain ⟨a1, d, a2, a3, a4⟩ := h.met u v l hu (by rw [← (hv u).1]; exact hq)
    exact ⟨a1, d, a2, (hpt u d).2 a3, a4⟩
  · rcases h.slot with b | ⟨w, d', b1, b2, b3, b4, b5⟩
    · exact .inl b
    · exact .inr ⟨w, d', b1, by show (calls w)[(T w).k]? = _; rw [(hv w).1]; exact b2, by show cls (T w) = 2; rw [hcl]; exact b3, by show pr w (T w).k = none; rw [(hv w).1]; exact b4, b5⟩
  · show s.2 = s.1 + 1 ∧ (T s.1).j = 18 ∧ (calls s.1)[(T s.1).k]? ≠ none
    rw [(hv s.1).1, (hv s.1).2.1]; exact h.lot s hs
  · obtain ⟨w, b1, b2, b3, b4⟩ := h.pend s hs hz
    exact ⟨w, b1, by show (calls w)[(T w).k]? ≠ _; rw [(hv w).1]; exact b2, by show (T w).j = 9; rw [(hv w).2.1]; exact b3, by show (T w).r 6 = _; rw [(hv w).2.2]; exact b4⟩
  · show (ansOf e u).length = (T u).k ∧ ∀ k v l d, k < (T u).k → pr u k = some (v, l) → (calls v)[l]? = some d → (ansOf e u)[k]? = some (givT d - 1)
    rw [(hv u).1]; exact h.ans u hu
  · obtain ⟨q, hq⟩ := h.even
    refine ⟨q, ?_⟩
    rw [← hq]
    congr 1
    funext u
    show (T u).k + (pr u (T u).k).isSome.toNat = _
    rw [(hv u).1]
end
end Go.Proofs.YtlcffeiolpggfaaDoor

namespace Go.Proofs.YtlcffeiolpggfaaDoor
set_option maxRecDepth 100000
set_option linter.unusedVariables false
set_option linter.unusedSimpArgs false

section
variable {n : Nat} {calls : Nat → List Trd} {S S' : CS} {a : List Act6} {e : List Ev4} {pr : Nat → Nat → Option (Nat × Nat)} {t : Nat} {x' : TK} {c : Trd}

set_option maxHeartbeats 2000000 in
theorem tr_one (h : TrG n calls S e pr) (hm : ∀ u, u < n → ∀ c ∈ calls u, (c.1 : Nat) = u + 1) (hwf : WfK tradeF n calls S) (ht : t < n) (he : (S.th t).en = false) (hsl : slK S t = false) (s : Int) (hc : (calls t)[(S.th t).k]? = some c) :
    ∃ pr', TrG n calls (doneK 23 t S (S.th t) (tradeF.dos c (S.th t).j S.cell (S.th t).r)) (e ++ evD t s (tradeF.dos c (S.th t).j S.cell (S.th t).r)) pr' ∧ potTr n calls (doneK 23 t S (S.th t) (tradeF.dos c (S.th t).j S.cell (S.th t).r)) + 1 ≤ potTr n calls S := by
  have hrg := h.rg t c ht hc
  have hmc : (c.1 : Nat) = t + 1 := hm t ht c (List.mem_of_getElem? hc)
  have hjl : (S.th t).j < 23 := (hwf.th t ht).j _ hc
  have hgo : ∀ j, (S.th t).j = j → j < 23 → (∃ pr', TrG n calls (doneK 23 t S (S.th t) (tradeF.dos c j S.cell (S.th t).r)) (e ++ evD t s (tradeF.dos c j S.cell (S.th t).r)) pr' ∧ potTr n calls (doneK 23 t S (S.th t) (tradeF.dos c j S.cell (S.th t).r)) + 1 ≤ potTr n calls S) := fun j hj hjj => by
    match j, hj, hjj with
    | 0, hj, _ =>
        have hd : tradeF.dos c 0 S.cell (S.th t).r = .set 4 (givT c) := rfl
        rw [hd, show e ++ evD t s (.set 4 (givT c)) = e from List.append_nil e]
        have hg : goK 23 (S.th t) ((S.th t).j + 1) = { S.th t with j := 1 } := by rw [goK_in (by first | decide | (rw [hj]; decide))]; rw [hj]
        refine ⟨pr, tr_calm (x' := { S.th t with j := 1, r := upd (S.th t).r 4 (givT c) }) h ht hsl hc rfl (by show upd S.th t { goK 23 (S.th t) ((S.th t).j + 1) with r := _ } = _; rw [hg]) rfl rfl ?_ ?_ ?_ (by rw [hj]; decide) he he ?_⟩
        · simp [rgT, hj, upd] at hrg ⊢ <;> (first | exact hrg | omega | simp_all)
        · simp [cls, hj, upd] <;> (first | omega | simp_all)
        · intro d hd; simp [ptT, cls, hj, upd] at hd ⊢ <;> (first | exact hd | omega | simp_all)
        · simp [locJ, hj, upd] <;> (first | omega | (split <;> omega) | simp_all)
    | 1, hj, _ =>
        have hd : tradeF.dos c 1 S.cell (S.th t).r = .set 5 (offT c) := rfl
        rw [hd, show e ++ evD t s (.set 5 (offT c)) = e from List.append_nil e]
        have hg : goK 23 (S.th t) ((S.th t).j + 1) = { S.th t with j := 2 } := by rw [goK_in (by first | decide | (rw [hj]; decide))]; rw [hj]
        refine ⟨pr, tr_calm (x' := { S.th t with j := 2, r := upd (S.th t).r 5 (offT c) }) h ht hsl hc rfl (by show upd S.th t { goK 23 (S.th t) ((S.th t).j + 1) with r := _ } = _; rw [hg]) rfl rfl ?_ ?_ ?_ (by rw [hj]; decide) he he ?_⟩
        · simp [rgT, hj, upd] at hrg ⊢ <;> (first | exact hrg | omega | simp_all)
        · simp [cls, hj, upd] <;> (first | omega | simp_all)
        · intro d hd; simp [ptT, cls, hj, upd] at hd ⊢ <;> (first | exact hd | omega | simp_all)
        · simp [locJ, hj, upd] <;> (first | omega | (split <;> omega) | simp_all)
    | 2, hj, _ =>
        have hd : tradeF.dos c 2 S.cell (S.th t).r = .mem 0 (S.cell 0) (some (1, S.cell 0)) := rfl
        rw [hd, show e ++ evD t s (.mem 0 (S.cell 0) (some (1, S.cell 0))) = e from List.append_nil e]
        have hg : goK 23 (S.th t) ((S.th t).j + 1) = { S.th t with j := 3 } := by rw [goK_in (by first | decide | (rw [hj]; decide))]; rw [hj]
        refine ⟨pr, tr_calm (x' := { S.th t with j := 3, r := upd (S.th t).r 1 (S.cell 0) }) h ht hsl hc rfl (by show upd S.th t { goK 23 (S.th t) ((S.th t).j + 1) with r := _ } = _; rw [hg]) (upd_self _ _) rfl ?_ ?_ ?_ (by rw [hj]; decide) he he ?_⟩
        · simp [rgT, hj, upd] at hrg ⊢ <;> (first | exact hrg | omega | simp_all)
        · simp [cls, hj, upd] <;> (first | omega | simp_all)
        · intro d hd; simp [ptT, cls, hj, upd] at hd ⊢ <;> (first | exact hd | omega | simp_all)
        · simp [locJ, hj, upd] <;> (first | omega | (split <;> omega) | simp_all)
    | 3, hj, _ =>
        by_cases h0 : (S.th t).r 1 = 0
        · have hd : tradeF.dos c 3 S.cell (S.th t).r = .goto 12 := if_pos h0
          rw [hd, show e ++ evD t s (.goto 12) = e from List.append_nil e]
          have hg : goK 23 (S.th t) (12) = { S.th t with j := 12 } := by rw [goK_in (by first | decide | (rw [hj]; decide))]
          refine ⟨pr, tr_calm (x' := { S.th t with j := 12 }) h ht hsl hc rfl (by show upd S.th t (goK 23 (S.th t) (12)) = _; rw [hg]) rfl rfl ?_ ?_ ?_ (by rw [hj]; decide) he he ?_⟩
          · simp [rgT, hj, upd, h0] at hrg ⊢ <;> (first | exact hrg | omega | simp_all)
          · simp [cls, hj, upd, h0] <;> (first | omega | simp_all)
          · intro d hd; simp [ptT, cls, hj, upd, h0] at hd ⊢ <;> (first | exact hd | omega | simp_all)
          · simp [locJ, hj, upd, h0] <;> (first | omega | (split <;> omega) | simp_all)
        · have hd : tradeF.dos c 3 S.cell (S.th t).r = .next := if_neg h0
          rw [hd, show e ++ evD t s (.next) = e from List.append_nil e]
          have hg : goK 23 (S.th t) ((S.th t).j + 1) = { S.th t with j := 4 } := by rw [goK_in (by first | decide | (rw [hj]; decide))]; rw [hj]
          refine ⟨pr, tr_calm (x' := { S.th t with j := 4 }) h ht hsl hc rfl (by show upd S.th t (goK 23 (S.th t) ((S.th t).j + 1)) = _; rw [hg]) rfl rfl ?_ ?_ ?_ (by rw [hj]; decide) he he ?_⟩
          · simp [rgT, hj, upd, h0] at hrg ⊢ <;> (first | exact hrg | omega | simp_all)
          · simp [cls, hj, upd, h0] <;> (first | omega | simp_all)
          · intro d hd; simp [ptT, cls, hj, upd, h0] at hd ⊢ <;> (first | exact hd | omega | simp_all)
          · simp [locJ, hj, upd, h0] <;> (first | omega | (split <;> omega) | simp_all)
    | 4, hj, _ =>
        have hd : tradeF.dos c 4 S.cell (S.th t).r = .set 2 0 := rfl
        rw [hd, show e ++ evD t s (.set 2 0) = e from List.append_nil e]
        have hg : goK 23 (S.th t) ((S.th t).j + 1) = { S.th t with j := 5 } := by rw [goK_in (by first | decide | (rw [hj]; decide))]; rw [hj]
        refine ⟨pr, tr_calm (x' := { S.th t with j := 5, r := upd (S.th t).r 2 0 }) h ht hsl hc rfl (by show upd S.th t { goK 23 (S.th t) ((S.th t).j + 1) with r := _ } = _; rw [hg]) rfl rfl ?_ ?_ ?_ (by rw [hj]; decide) he he ?_⟩
        · simp [rgT, hj, upd] at hrg ⊢ <;> (first | exact hrg | omega | simp_all)
        · simp [cls, hj, upd] <;> (first | omega | simp_all)
        · intro d hd; simp [ptT, cls, hj, upd] at hd ⊢ <;> (first | exact hd | omega | simp_all)
        · simp [locJ, hj, upd] <;> (first | omega | (split <;> omega) | simp_all)
    | 5, hj, _ =>
        by_cases h0 : S.cell 0 = (S.th t).r 1
        · have hd : tradeF.dos c 5 S.cell (S.th t).r = .mem 0 ((S.th t).r 2) (some (3, 1)) := if_pos h0
          rw [hd, show e ++ evD t s (.mem 0 ((S.th t).r 2) (some (3, 1))) = e from List.append_nil e]
          have hg : goK 23 (S.th t) ((S.th t).j + 1) = { S.th t with j := 6 } := by rw [goK_in (by rw [hj]; decide)]; rw [hj]
          have hth : (doneK 23 t S (S.th t) (.mem 0 ((S.th t).r 2) (some (3, 1)))).th = upd S.th t { S.th t with j := 6, r := upd (S.th t).r 3 1 } := by show upd S.th t { goK 23 (S.th t) ((S.th t).j + 1) with r := _ } = _; rw [hg]
          obtain ⟨pr', hpr'⟩ := tr_take (x' := { S.th t with j := 6, r := upd (S.th t).r 3 1 }) (S' := doneK 23 t S (S.th t) (.mem 0 ((S.th t).r 2) (some (3, 1)))) h hm ht hc hsl hj h0 rfl ⟨rfl, rfl⟩ hth rfl rfl
          have hcell : (doneK 23 t S (S.th t) (.mem 0 ((S.th t).r 2) (some (3, 1)))).cell = upd S.cell 0 ((S.th t).r 2) := rfl
          refine ⟨pr', hpr', potTr_moves ht hth (fun u => by rw [hcell, upd_ne _ _ (by omega)]) rfl (tpot_step rfl he he ?_)⟩
          rw [hc, hcell, upd_same]
          simp [locT, locJ, hj, upd, h0]
          try omega
        · have hd : tradeF.dos c 5 S.cell (S.th t).r = .mem 0 (S.cell 0) (some (3, 0)) := if_neg h0
          rw [hd, show e ++ evD t s (.mem 0 (S.cell 0) (some (3, 0))) = e from List.append_nil e]
          have hg : goK 23 (S.th t) ((S.th t).j + 1) = { S.th t with j := 6 } := by rw [goK_in (by first | decide | (rw [hj]; decide))]; rw [hj]
          refine ⟨pr, tr_calm (x' := { S.th t with j := 6, r := upd (S.th t).r 3 0 }) h ht hsl hc rfl (by show upd S.th t { goK 23 (S.th t) ((S.th t).j + 1) with r := _ } = _; rw [hg]) (upd_self _ _) rfl ?_ ?_ ?_ (by rw [hj]; decide) he he ?_⟩
          · simp [rgT, hj, upd, h0, Ne.symm h0] at hrg ⊢ <;> (first | exact hrg | omega | simp_all)
          · simp [cls, hj, upd, h0, Ne.symm h0] <;> (first | omega | simp_all)
          · intro d hd; simp [ptT, cls, hj, upd, h0, Ne.symm h0] at hd ⊢ <;> (first | exact hd | omega | simp_all)
          · simp [locJ, hj, upd, h0, Ne.symm h0] <;> (first | omega | (split <;> omega) | simp_all)
    | 6, hj, _ =>
        by_cases h0 : (S.th t).r 3 = 0
        · have hd : tradeF.dos c 6 S.cell (S.th t).r = .goto 2 := if_pos h0
          rw [hd, show e ++ evD t s (.goto 2) = e from List.append_nil e]
          have hg : goK 23 (S.th t) (2) = { S.th t with j := 2 } := by rw [goK_in (by first | decide | (rw [hj]; decide))]
          refine ⟨pr, tr_calm (x' := { S.th t with j := 2 }) h ht hsl hc rfl (by show upd S.th t (goK 23 (S.th t) (2)) = _; rw [hg]) rfl rfl ?_ ?_ ?_ (by rw [hj]; decide) he he ?_⟩
          · simp [rgT, hj, upd, h0] at hrg ⊢ <;> (first | exact hrg | omega | simp_all)
          · simp [cls, hj, upd, h0] <;> (first | omega | simp_all)
          · intro d hd; simp [ptT, cls, hj, upd, h0] at hd ⊢ <;> (first | exact hd | omega | simp_all)
          · simp [locJ, hj, upd, h0] <;> (first | omega | (split <;> omega) | simp_all)
        · have h31 : (S.th t).r 3 = 1 := (hrg.2.2.2.2.2.1 (.inl hj)).resolve_left h0
          have hd : tradeF.dos c 6 S.cell (S.th t).r = .next := if_neg h0
          rw [hd, show e ++ evD t s (.next) = e from List.append_nil e]
          have hg : goK 23 (S.th t) ((S.th t).j + 1) = { S.th t with j := 7 } := by rw [goK_in (by first | decide | (rw [hj]; decide))]; rw [hj]
          refine ⟨pr, tr_calm (x' := { S.th t with j := 7 }) h ht hsl hc rfl (by show upd S.th t (goK 23 (S.th t) ((S.th t).j + 1)) = _; rw [hg]) rfl rfl ?_ ?_ ?_ (by rw [hj]; decide) he he ?_⟩
          · simp [rgT, hj, upd, h0, h31] at hrg ⊢ <;> (first | exact hrg | omega | simp_all)
          · simp [cls, hj, upd, h0, h31] <;> (first | omega | simp_all)
          · intro d hd; simp [ptT, cls, hj, upd, h0, h31] at hd ⊢ <;> (first | exact hd | omega | simp_all)
          · simp [locJ, hj, upd, h0, h31] <;> (first | omega | (split <;> omega) | simp_all)
    | 7, hj, _ =>
        have hd : tradeF.dos c 7 S.cell (S.th t).r = .set 6 ((S.th t).r 1 % 65536) := rfl
        rw [hd, show e ++ evD t s (.set 6 ((S.th t).r 1 % 65536)) = e from List.append_nil e]
        have hg : goK 23 (S.th t) ((S.th t).j + 1) = { S.th t with j := 8 } := by rw [goK_in (by first | decide | (rw [hj]; decide))]; rw [hj]
        refine ⟨pr, tr_calm (x' := { S.th t with j := 8, r := upd (S.th t).r 6 ((S.th t).r 1 % 65536) }) h ht hsl hc rfl (by show upd S.th t { goK 23 (S.th t) ((S.th t).j + 1) with r := _ } = _; rw [hg]) rfl rfl ?_ ?_ ?_ (by rw [hj]; decide) he he ?_⟩
        · simp [rgT, hj, upd] at hrg ⊢ <;> (first | exact hrg | omega | simp_all)
        · simp [cls, hj, upd] <;> (first | omega | simp_all)
        · intro d hd; simp [ptT, cls, hj, upd] at hd ⊢ <;> (first | exact hd | omega | simp_all [off_mine])
        · simp [locJ, hj, upd] <;> (first | omega | (split <;> omega) | simp_all)
    | 8, hj, _ =>
        have hcx : cls (S.th t) = 1 := by simp [cls, hj]
        obtain ⟨v0, l0, d0, hp0, hd0, hpt0, hv0, hvt0⟩ := tr_met h ht (by rw [hcx]; decide) (fun q => absurd q (by rw [hcx]; decide))
        have h6 := hpt0.2.1 hj
        have hml := mine_lt d0
        have hd : tradeF.dos c 8 S.cell (S.th t).r = .mem ((S.th t).r 6).toNat ((S.th t).r 4) none := by
          show (if (S.th t).r 6 < 17 then DoK.mem (min ((S.th t).r 6).toNat 16) ((S.th t).r 4) none else DoK.next) = _
          rw [if_pos (by omega), Nat.min_eq_left (by omega)]
        rw [hd, show e ++ evD t s (.mem ((S.th t).r 6).toNat ((S.th t).r 4) none) = e from List.append_nil e]
        have hg : goK 23 (S.th t) ((S.th t).j + 1) = { S.th t with j := 9 } := by rw [goK_in (by rw [hj]; decide)]; rw [hj]
        have hth : (doneK 23 t S (S.th t) (.mem ((S.th t).r 6).toNat ((S.th t).r 4) none)).th = upd S.th t { S.th t with j := 9 } := by show upd S.th t (goK 23 (S.th t) ((S.th t).j + 1)) = _; rw [hg]
        obtain ⟨hg', v, hv, hvt, hcv, hr6, hr4⟩ := tr_give (x' := { S.th t with j := 9 }) (S' := doneK 23 t S (S.th t) (.mem ((S.th t).r 6).toNat ((S.th t).r 4) none)) h hm ht hc hsl hj rfl ⟨rfl, rfl⟩ hth rfl rfl
        have hgl := giv_lt c
        have hcell : (doneK 23 t S (S.th t) (.mem ((S.th t).r 6).toNat ((S.th t).r 4) none)).cell = upd S.cell (v + 1) (givT c) := by show upd S.cell ((S.th t).r 6).toNat ((S.th t).r 4) = _; rw [hr6, hr4, Int.toNat_natCast]
        refine ⟨pr, hg', potTr_le ht hth (by rw [hcell, upd_ne _ _ (by omega)]) rfl (fun u hu hne => ?_) (tpot_step rfl he he ?_)⟩
        · by_cases q : u = v
          · subst q; rw [hcell, upd_same]; exact .inr ⟨hcv, by omega⟩
          · rw [hcell, upd_ne _ _ (by omega)]; exact .inl rfl
        · rw [hc]
          simp [locT, locJ, hj]
          try omega
    | 9, hj, _ =>
        have hcx : cls (S.th t) = 3 := by simp [cls, hj]
        obtain ⟨v0, l0, d0, hp0, hd0, hpt0, hv0, hvt0⟩ := tr_met h ht (by rw [hcx]; decide) (fun q => absurd q (by rw [hcx]; decide))
        have h6 := hpt0.2.2.1 hj
        have hml := mine_lt d0
        have hd : tradeF.dos c 9 S.cell (S.th t).r = .wake ((S.th t).r 6).toNat 1 := if_pos (by omega)
        rw [hd, show e ++ evD t s (.wake ((S.th t).r 6).toNat 1) = e from List.append_nil e]
        have hg : goK 23 (S.th t) ((S.th t).j + 1) = { S.th t with j := 10 } := by rw [goK_in (by rw [hj]; decide)]; rw [hj]
        have hth : (doneK 23 t S (S.th t) (.wake ((S.th t).r 6).toNat 1)).th = upd S.th t { S.th t with j := 10 } := by show upd S.th t (goK 23 (S.th t) ((S.th t).j + 1)) = _; rw [hg]
        refine ⟨pr, tr_put (x' := { S.th t with j := 10 }) h ht rfl hth rfl ?_ (fun c' hc' => ?_) (fun d hd => ?_) (fun q hq => .inl (tr_nt hsl q ((wakeK_sub _ _ _).subset hq))) (fun _ q hq => ?_), potTr_wake ht hth rfl (fun sl => tpot_step rfl he he ?_)⟩
        · simp [cls, hj]
        · rw [hc] at hc'
          injection hc' with hc'
          subst hc'
          simp [rgT, hj] at hrg ⊢
          exact hrg
        · simp [ptT, cls, hj] at hd ⊢
          exact hd.2
        · have := wakeK_one (fun s hs => (h.lot s hs).1) hwf.once q hq
          intro e1
          exact this (by omega)
        · rw [hc]
          simp [locT, locJ, hj]
          try omega
    | 10, hj, _ =>
        have hd : tradeF.dos c 10 S.cell (S.th t).r = .set 2 ((S.th t).r 1 / 65536 % 65536) := rfl
        rw [hd, show e ++ evD t s (.set 2 ((S.th t).r 1 / 65536 % 65536)) = e from List.append_nil e]
        have hg : goK 23 (S.th t) ((S.th t).j + 1) = { S.th t with j := 11 } := by rw [goK_in (by first | decide | (rw [hj]; decide))]; rw [hj]
        refine ⟨pr, tr_calm (x' := { S.th t with j := 11, r := upd (S.th t).r 2 ((S.th t).r 1 / 65536 % 65536) }) h ht hsl hc rfl (by show upd S.th t { goK 23 (S.th t) ((S.th t).j + 1) with r := _ } = _; rw [hg]) rfl rfl ?_ ?_ ?_ (by rw [hj]; decide) he he ?_⟩
        · simp [rgT, hj, upd] at hrg ⊢ <;> (first | exact hrg | omega | simp_all)
        · simp [cls, hj, upd] <;> (first | omega | simp_all)
        · intro d hd; simp [ptT, cls, hj, upd] at hd ⊢ <;> (first | exact hd | (rw [hd]; exact off_giv d))
        · simp [locJ, hj, upd] <;> (first | omega | (split <;> omega) | simp_all)
    | 11, hj, _ =>
        have hd : tradeF.dos c 11 S.cell (S.th t).r = .goto 21 := rfl
        rw [hd, show e ++ evD t s (.goto 21) = e from List.append_nil e]
        have hg : goK 23 (S.th t) (21) = { S.th t with j := 21 } := by rw [goK_in (by first | decide | (rw [hj]; decide))]
        refine ⟨pr, tr_calm (x' := { S.th t with j := 21 }) h ht hsl hc rfl (by show upd S.th t (goK 23 (S.th t) (21)) = _; rw [hg]) rfl rfl ?_ ?_ ?_ (by rw [hj]; decide) he he ?_⟩
        · simp [rgT, hj, upd] at hrg ⊢ <;> (first | exact hrg | omega | simp_all)
        · simp [cls, hj, upd] <;> (first | omega | simp_all)
        · intro d hd; simp [ptT, cls, hj, upd] at hd ⊢ <;> (first | exact hd | omega | simp_all)
        · simp [locJ, hj, upd] <;> (first | omega | (split <;> omega) | simp_all)
    | 12, hj, _ =>
        by_cases h0 : S.cell 0 = (S.th t).r 1
        · have hd : tradeF.dos c 12 S.cell (S.th t).r = .mem 0 ((S.th t).r 5) (some (3, 1)) := if_pos h0
          rw [hd, show e ++ evD t s (.mem 0 ((S.th t).r 5) (some (3, 1))) = e from List.append_nil e]
          have hg : goK 23 (S.th t) ((S.th t).j + 1) = { S.th t with j := 13 } := by rw [goK_in (by rw [hj]; decide)]; rw [hj]
          have hth : (doneK 23 t S (S.th t) (.mem 0 ((S.th t).r 5) (some (3, 1)))).th = upd S.th t { S.th t with j := 13, r := upd (S.th t).r 3 1 } := by show upd S.th t { goK 23 (S.th t) ((S.th t).j + 1) with r := _ } = _; rw [hg]
          have hpr' := tr_leave (x' := { S.th t with j := 13, r := upd (S.th t).r 3 1 }) (S' := doneK 23 t S (S.th t) (.mem 0 ((S.th t).r 5) (some (3, 1)))) h ht hc hsl hj h0 rfl ⟨rfl, rfl⟩ hth rfl rfl
          have hcell : (doneK 23 t S (S.th t) (.mem 0 ((S.th t).r 5) (some (3, 1)))).cell = upd S.cell 0 ((S.th t).r 5) := rfl
          refine ⟨pr, hpr', potTr_moves ht hth (fun u => by rw [hcell, upd_ne _ _ (by omega)]) rfl (tpot_step rfl he he ?_)⟩
          rw [hc, hcell, upd_same]
          simp [locT, locJ, hj, upd, h0]
          try omega
        · have hd : tradeF.dos c 12 S.cell (S.th t).r = .mem 0 (S.cell 0) (some (3, 0)) := if_neg h0
          rw [hd, show e ++ evD t s (.mem 0 (S.cell 0) (some (3, 0))) = e from List.append_nil e]
          have hg : goK 23 (S.th t) ((S.th t).j + 1) = { S.th t with j := 13 } := by rw [goK_in (by first | decide | (rw [hj]; decide))]; rw [hj]
          refine ⟨pr, tr_calm (x' := { S.th t with j := 13, r := upd (S.th t).r 3 0 }) h ht hsl hc rfl (by show upd S.th t { goK 23 (S.th t) ((S.th t).j + 1) with r := _ } = _; rw [hg]) (upd_self _ _) rfl ?_ ?_ ?_ (by rw [hj]; decide) he he ?_⟩
          · simp [rgT, hj, upd, h0, Ne.symm h0] at hrg ⊢ <;> (first | exact hrg | omega | simp_all)
          · simp [cls, hj, upd, h0, Ne.symm h0] <;> (first | omega | simp_all)
          · intro d hd; simp [ptT, cls, hj, upd, h0, Ne.symm h0] at hd ⊢ <;> (first | exact hd | omega | simp_all)
          · simp [locJ, hj, upd, h0, Ne.symm h0] <;> (first | omega | (split <;> omega) | simp_all)
    | 13, hj, _ =>
        by_cases h0 : (S.th t).r 3 = 0
        · have hd : tradeF.dos c 13 S.cell (S.th t).r = .goto 2 := if_pos h0
          rw [hd, show e ++ evD t s (.goto 2) = e from List.append_nil e]
          have hg : goK 23 (S.th t) (2) = { S.th t with j := 2 } := by rw [goK_in (by first | decide | (rw [hj]; decide))]
          refine ⟨pr, tr_calm (x' := { S.th t with j := 2 }) h ht hsl hc rfl (by show upd S.th t (goK 23 (S.th t) (2)) = _; rw [hg]) rfl rfl ?_ ?_ ?_ (by rw [hj]; decide) he he ?_⟩
          · simp [rgT, hj, upd, h0] at hrg ⊢ <;> (first | exact hrg | omega | simp_all)
          · simp [cls, hj, upd, h0] <;> (first | omega | simp_all)
          · intro d hd; simp [ptT, cls, hj, upd, h0] at hd ⊢ <;> (first | exact hd | omega | simp_all)
          · simp [locJ, hj, upd, h0] <;> (first | omega | (split <;> omega) | simp_all)
        · have h31 : (S.th t).r 3 = 1 := (hrg.2.2.2.2.2.1 (.inr hj)).resolve_left h0
          have hd : tradeF.dos c 13 S.cell (S.th t).r = .next := if_neg h0
          rw [hd, show e ++ evD t s (.next) = e from List.append_nil e]
          have hg : goK 23 (S.th t) ((S.th t).j + 1) = { S.th t with j := 14 } := by rw [goK_in (by first | decide | (rw [hj]; decide))]; rw [hj]
          refine ⟨pr, tr_calm (x' := { S.th t with j := 14 }) h ht hsl hc rfl (by show upd S.th t (goK 23 (S.th t) ((S.th t).j + 1)) = _; rw [hg]) rfl rfl ?_ ?_ ?_ (by rw [hj]; decide) he he ?_⟩
          · simp [rgT, hj, upd, h0, h31] at hrg ⊢ <;> (first | exact hrg | omega | simp_all)
          · simp [cls, hj, upd, h0, h31] <;> (first | omega | simp_all)
          · intro d hd; simp [ptT, cls, hj, upd, h0, h31] at hd ⊢ <;> (first | exact hd | omega | simp_all)
          · simp [locJ, hj, upd, h0, h31] <;> (first | omega | (split <;> omega) | simp_all)
    | 14, hj, _ =>
        have hd : tradeF.dos c 14 S.cell (S.th t).r = .mem (t + 1) (S.cell (t + 1)) (some (2, S.cell (t + 1))) := by rw [← hmc]; rfl
        rw [hd, show e ++ evD t s (.mem (t + 1) (S.cell (t + 1)) (some (2, S.cell (t + 1)))) = e from List.append_nil e]
        have hg : goK 23 (S.th t) ((S.th t).j + 1) = { S.th t with j := 15 } := by rw [goK_in (by first | decide | (rw [hj]; decide))]; rw [hj]
        refine ⟨pr, tr_calm (x' := { S.th t with j := 15, r := upd (S.th t).r 2 (S.cell (t + 1)) }) h ht hsl hc rfl (by show upd S.th t { goK 23 (S.th t) ((S.th t).j + 1) with r := _ } = _; rw [hg]) (upd_self _ _) rfl ?_ ?_ ?_ (by rw [hj]; decide) he he ?_⟩
        · simp [rgT, hj, upd] at hrg ⊢ <;> (first | exact hrg | omega | simp_all)
        · simp [cls, hj, upd] <;> (first | omega | simp_all)
        · intro d hd; simp [ptT, cls, hj, upd] at hd ⊢ <;> (first | exact hd | omega | simp_all)
        · simp [locJ, hj, upd] <;> (first | omega | (split <;> omega) | simp_all)
    | 15, hj, _ =>
        by_cases h0 : (S.th t).r 2 = 0
        · have hd : tradeF.dos c 15 S.cell (S.th t).r = .goto 17 := if_pos h0
          rw [hd, show e ++ evD t s (.goto 17) = e from List.append_nil e]
          have hg : goK 23 (S.th t) (17) = { S.th t with j := 17 } := by rw [goK_in (by first | decide | (rw [hj]; decide))]
          refine ⟨pr, tr_calm (x' := { S.th t with j := 17 }) h ht hsl hc rfl (by show upd S.th t (goK 23 (S.th t) (17)) = _; rw [hg]) rfl rfl ?_ ?_ ?_ (by rw [hj]; decide) he he ?_⟩
          · simp [rgT, hj, upd, h0] at hrg ⊢ <;> (first | exact hrg | omega | simp_all)
          · simp [cls, hj, upd, h0] <;> (first | omega | simp_all)
          · intro d hd; simp [ptT, cls, hj, upd, h0] at hd ⊢ <;> (first | exact hd | omega | simp_all)
          · simp [locJ, hj, upd, h0] <;> (first | omega | (split <;> omega) | simp_all)
        · have h21 : (S.th t).r 2 = S.cell (t + 1) := (hrg.2.2.2.2.2.2.1 hj).resolve_left h0
          have h22 : S.cell (t + 1) ≠ 0 := by rw [← h21]; exact h0
          have hd : tradeF.dos c 15 S.cell (S.th t).r = .next := if_neg h0
          rw [hd, show e ++ evD t s (.next) = e from List.append_nil e]
          have hg : goK 23 (S.th t) ((S.th t).j + 1) = { S.th t with j := 16 } := by rw [goK_in (by first | decide | (rw [hj]; decide))]; rw [hj]
          refine ⟨pr, tr_calm (x' := { S.th t with j := 16 }) h ht hsl hc rfl (by show upd S.th t (goK 23 (S.th t) ((S.th t).j + 1)) = _; rw [hg]) rfl rfl ?_ ?_ ?_ (by rw [hj]; decide) he he ?_⟩
          · simp [rgT, hj, upd, h21, h22] at hrg ⊢ <;> (first | exact hrg | omega | simp_all)
          · simp [cls, hj, upd, h21, h22] <;> (first | omega | simp_all)
          · intro d hd; simp [ptT, cls, hj, upd, h21, h22] at hd ⊢ <;> (first | exact hd | omega | simp_all)
          · simp [locJ, hj, upd, h21, h22] <;> (first | omega | (split <;> omega) | simp_all)
    | 16, hj, _ =>
        have hd : tradeF.dos c 16 S.cell (S.th t).r = .goto 19 := rfl
        rw [hd, show e ++ evD t s (.goto 19) = e from List.append_nil e]
        have hg : goK 23 (S.th t) (19) = { S.th t with j := 19 } := by rw [goK_in (by first | decide | (rw [hj]; decide))]
        have h22 : S.cell (t + 1) ≠ 0 := (hrg.2.2.2.2.2.2.2.1 (.inl hj)).2
        refine ⟨pr, tr_calm (x' := { S.th t with j := 19 }) h ht hsl hc rfl (by show upd S.th t (goK 23 (S.th t) (19)) = _; rw [hg]) rfl rfl ?_ ?_ ?_ (by rw [hj]; decide) he he ?_⟩
        · simp [rgT, hj, upd] at hrg ⊢ <;> (first | exact hrg | omega | simp_all)
        · simp [cls, hj, upd] <;> (first | omega | simp_all)
        · intro d hd; simp [ptT, cls, hj, upd] at hd ⊢ <;> (first | exact hd | omega | simp_all)
        · simp [locJ, hj, upd] <;> (first | omega | (split <;> omega) | simp_all)
    | 17, hj, _ =>
        have h20 : (S.th t).r 2 = 0 := hrg.2.2.2.2.2.2.2.2.1 hj
        by_cases h0 : S.cell (t + 1) = (S.th t).r 2
        · have hd : tradeF.dos c 17 S.cell (S.th t).r = .sleep (t + 1) := by
            show (if S.cell c.1 = (S.th t).r 2 then DoK.sleep c.1 else DoK.next) = _
            rw [hmc, if_pos h0]
          rw [hd, show e ++ evD t s (.sleep (t + 1)) = e from List.append_nil e]
          have hg : goK 23 (S.th t) ((S.th t).j + 1) = { S.th t with j := 18 } := by rw [goK_in (by rw [hj]; decide)]; rw [hj]
          have hth : (doneK 23 t S (S.th t) (.sleep (t + 1))).th = upd S.th t { S.th t with j := 18 } := by show upd S.th t (goK 23 (S.th t) ((S.th t).j + 1)) = _; rw [hg]
          have hlt : (doneK 23 t S (S.th t) (.sleep (t + 1))).lot = S.lot ++ [(t, t + 1)] := rfl
          refine ⟨pr, tr_put (x' := { S.th t with j := 18 }) h ht rfl hth rfl ?_ (fun c' hc' => ?_) (fun d hd => ?_) (fun q hq => ?_) (fun q => absurd q (by rw [hj]; decide)), potTr_same ht hth rfl (fun u hu => slK_app hlt hu) (tpot_step rfl he he ?_)⟩
          · simp [cls, hj]
          · rw [hc] at hc'
            injection hc' with hc'
            subst hc'
            simp [rgT, hj] at hrg ⊢
            exact ⟨hrg.1, hrg.2.1⟩
          · simp [ptT, cls, hj]
          · rw [hlt] at hq
            rcases List.mem_append.1 hq with hq | hq
            · exact .inl (tr_nt hsl q hq)
            · exact .inr ⟨List.mem_singleton.1 hq, (by rw [hc]; exact Option.some_ne_none _), rfl, by rw [h0, h20]⟩
          · rw [hc, slK_self hlt, hsl]
            rw [h20] at h0
            simp [locT, locJ, hj, h0]
        · have h01 : S.cell (t + 1) ≠ 0 := by rw [← h20]; exact h0
          have hd : tradeF.dos c 17 S.cell (S.th t).r = .next := by
            show (if S.cell c.1 = (S.th t).r 2 then DoK.sleep c.1 else DoK.next) = _
            rw [hmc, if_neg h0]
          rw [hd, show e ++ evD t s (.next) = e from List.append_nil e]
          have hg : goK 23 (S.th t) ((S.th t).j + 1) = { S.th t with j := 18 } := by rw [goK_in (by first | decide | (rw [hj]; decide))]; rw [hj]
          refine ⟨pr, tr_calm (x' := { S.th t with j := 18 }) h ht hsl hc rfl (by show upd S.th t (goK 23 (S.th t) ((S.th t).j + 1)) = _; rw [hg]) rfl rfl ?_ ?_ ?_ (by rw [hj]; decide) he he ?_⟩
          · simp [rgT, hj, upd, h01] at hrg ⊢ <;> (first | exact hrg | omega | simp_all)
          · simp [cls, hj, upd, h01] <;> (first | omega | simp_all)
          · intro d hd; simp [ptT, cls, hj, upd, h01] at hd ⊢ <;> (first | exact hd | omega | simp_all)
          · simp [locJ, hj, upd, h01] <;> (first | omega | (split <;> omega) | simp_all)
    | 18, hj, _ =>
        have hd : tradeF.dos c 18 S.cell (S.th t).r = .goto 14 := rfl
        rw [hd, show e ++ evD t s (.goto 14) = e from List.append_nil e]
        have hg : goK 23 (S.th t) (14) = { S.th t with j := 14 } := by rw [goK_in (by first | decide | (rw [hj]; decide))]
        refine ⟨pr, tr_calm (x' := { S.th t with j := 14 }) h ht hsl hc rfl (by show upd S.th t (goK 23 (S.th t) (14)) = _; rw [hg]) rfl rfl ?_ ?_ ?_ (by rw [hj]; decide) he he ?_⟩
        · simp [rgT, hj, upd] at hrg ⊢ <;> (first | exact hrg | omega | simp_all)
        · simp [cls, hj, upd] <;> (first | omega | simp_all)
        · intro d hd; simp [ptT, cls, hj, upd] at hd ⊢ <;> (first | exact hd | omega | simp_all)
        · simp [locJ, hj, upd] <;> (first | omega | (split <;> omega) | simp_all)
    | 19, hj, _ =>
        have hd : tradeF.dos c 19 S.cell (S.th t).r = .set 3 0 := rfl
        rw [hd, show e ++ evD t s (.set 3 0) = e from List.append_nil e]
        have hg : goK 23 (S.th t) ((S.th t).j + 1) = { S.th t with j := 20 } := by rw [goK_in (by first | decide | (rw [hj]; decide))]; rw [hj]
        refine ⟨pr, tr_calm (x' := { S.th t with j := 20, r := upd (S.th t).r 3 0 }) h ht hsl hc rfl (by show upd S.th t { goK 23 (S.th t) ((S.th t).j + 1) with r := _ } = _; rw [hg]) rfl rfl ?_ ?_ ?_ (by rw [hj]; decide) he he ?_⟩
        · simp [rgT, hj, upd] at hrg ⊢ <;> (first | exact hrg | omega | simp_all)
        · simp [cls, hj, upd] <;> (first | omega | simp_all)
        · intro d hd; simp [ptT, cls, hj, upd] at hd ⊢ <;> (first | exact hd | omega | simp_all)
        · simp [locJ, hj, upd] <;> (first | omega | (split <;> omega) | simp_all)
    | 20, hj, _ =>
        have h22 := hrg.2.2.2.2.2.2.2.1 (.inr (.inr hj))
        have hd : tradeF.dos c 20 S.cell (S.th t).r = .mem (t + 1) ((S.th t).r 3) none := by rw [← hmc]; rfl
        rw [hd, show e ++ evD t s (.mem (t + 1) ((S.th t).r 3) none) = e from List.append_nil e]
        have hg : goK 23 (S.th t) ((S.th t).j + 1) = { S.th t with j := 21 } := by rw [goK_in (by rw [hj]; decide)]; rw [hj]
        have hth : (doneK 23 t S (S.th t) (.mem (t + 1) ((S.th t).r 3) none)).th = upd S.th t { S.th t with j := 21 } := by show upd S.th t (goK 23 (S.th t) ((S.th t).j + 1)) = _; rw [hg]
        have hcell : (doneK 23 t S (S.th t) (.mem (t + 1) ((S.th t).r 3) none)).cell = upd S.cell (t + 1) ((S.th t).r 3) := rfl
        refine ⟨pr, tr_away (x' := { S.th t with j := 21 }) (S' := doneK 23 t S (S.th t) (.mem (t + 1) ((S.th t).r 3) none)) h ht hc hsl hj rfl ⟨rfl, rfl⟩ hth rfl rfl, potTr_le ht hth (by rw [hcell, upd_ne _ _ (by omega)]) rfl (fun u hu hne => .inl (by rw [hcell, upd_ne _ _ (by omega)])) (tpot_step rfl he he ?_)⟩
        rw [hc]
        simp [locT, locJ, hj]
    | 21, hj, _ =>
        have hd : tradeF.dos c 21 S.cell (S.th t).r = .set 2 (((S.th t).r 2 + -1) % m64) := rfl
        rw [hd, show e ++ evD t s (.set 2 (((S.th t).r 2 + -1) % m64)) = e from List.append_nil e]
        have hg : goK 23 (S.th t) ((S.th t).j + 1) = { S.th t with j := 22 } := by rw [goK_in (by first | decide | (rw [hj]; decide))]; rw [hj]
        refine ⟨pr, tr_calm (x' := { S.th t with j := 22, r := upd (S.th t).r 2 (((S.th t).r 2 + -1) % m64) }) h ht hsl hc rfl (by show upd S.th t { goK 23 (S.th t) ((S.th t).j + 1) with r := _ } = _; rw [hg]) rfl rfl ?_ ?_ ?_ (by rw [hj]; decide) he he ?_⟩
        · simp [rgT, hj, upd] at hrg ⊢ <;> (first | exact hrg | omega | simp_all)
        · simp [cls, hj, upd] <;> (first | omega | simp_all)
        · intro d hd; simp [ptT, cls, hj, upd] at hd ⊢ <;> (first | exact hd | (rw [hd]; exact giv_less d))
        · simp [locJ, hj, upd] <;> (first | omega | (split <;> omega) | simp_all)
    | 22, hj, _ =>
        have hcx : cls (S.th t) = 3 := by simp [cls, hj]
        obtain ⟨v0, l0, d0, hp0, hd0, hpt0, hv0, hvt0⟩ := tr_met h ht (by rw [hcx]; decide) (fun q => absurd q (by rw [hcx]; decide))
        have h2 := hpt0.2.2.2.2.2 hj
        have hgl := giv_lt d0
        have hd : tradeF.dos c 22 S.cell (S.th t).r = .say 3 ((S.th t).r 2) := by
          show DoK.say 3 (signed ((S.th t).r 2)) = _
          unfold signed
          rw [if_pos (by omega)]
        rw [hd]
        have hg : goK 23 (S.th t) ((S.th t).j + 1) = { S.th t with k := (S.th t).k + 1, j := 0 } := goK_out (by rw [hj]; decide)
        have hth : (doneK 23 t S (S.th t) (.say 3 ((S.th t).r 2))).th = upd S.th t { S.th t with k := (S.th t).k + 1, j := 0 } := by show upd S.th t (goK 23 (S.th t) ((S.th t).j + 1)) = _; rw [hg]
        refine ⟨pr, tr_say (x' := { S.th t with k := (S.th t).k + 1, j := 0 }) (S' := doneK 23 t S (S.th t) (.say 3 ((S.th t).r 2))) h ht hc hsl hj rfl rfl hth rfl rfl s rfl, potTr_same ht hth rfl (fun _ _ => rfl) (tpot_over rfl rfl he he hc ?_)⟩
        simp [locT, locJ, hj]
    | j + 23, _, h => exact absurd h (by omega)
  exact hgo _ rfl hjl
end
end Go.Proofs.YtlcffeiolpggfaaDoor

namespace Go.Proofs.YtlcffeiolpggfaaDoor
set_option maxRecDepth 100000
set_option linter.unusedVariables false
set_option linter.unusedSimpArgs false

/-- What an act does where the first one leaves what it has. -/
def actT (x : Act6) : Prop := x.2.2.2.1 = 0 → x.2.2.2.2.1 ≠ x.2.2.2.2.2 → x.2.2.1 = 9 ∧ (x.2.2.2.2.1 = 0 ∨ x.2.2.2.2.2 = 0) ∧ (x.2.2.2.2.2 ≠ 0 → x.2.2.2.2.2 % 65536 - 1 = x.2.1) ∧ (x.2.2.2.2.1 ≠ 0 → x.2.2.2.2.1 % 65536 - 1 ≠ x.2.1) ∧ (0 ≤ x.2.2.2.2.1 ∧ x.2.2.2.2.1 < 100000000 ∧ 0 ≤ x.2.2.2.2.2 ∧ x.2.2.2.2.2 < 100000000)

section
variable {n : Nat} {calls : Nat → List Trd} {S S' : CS} {a : List Act6} {e : List Ev4} {pr : Nat → Nat → Option (Nat × Nat)} {t : Nat} {x' : TK} {c : Trd}

theorem act_still (s op : Int) (i : Nat) (r : Option (Nat × Int)) : ∀ x ∈ actD t op s S.cell (.mem i (S.cell i) r), actT x := fun x hx => by
  rw [List.mem_singleton.1 hx]
  exact fun _ q => absurd rfl q
theorem act_other (s op v : Int) (i : Nat) (hi : i ≠ 0) (r : Option (Nat × Int)) : ∀ x ∈ actD t op s S.cell (.mem i v r), actT x := fun x hx => by
  rw [List.mem_singleton.1 hx]
  exact fun (q : ((i : Nat) : Int) = 0) _ => absurd q (by omega)
theorem tr_acts (h : TrG n calls S e pr) (hm : ∀ u, u < n → ∀ c ∈ calls u, (c.1 : Nat) = u + 1) (ht : t < n) (s : Int) (hc : (calls t)[(S.th t).k]? = some c) :
    ∀ x ∈ actD t (tradeF.op c (S.th t).j) s S.cell (tradeF.dos c (S.th t).j S.cell (S.th t).r), actT x := by
  have hrg := h.rg t c ht hc
  have hmc : (c.1 : Nat) = t + 1 := hm t ht c (List.mem_of_getElem? hc)
  have hnil : ∀ op d, actD t op s S.cell d = [] → ∀ x ∈ actD t op s S.cell d, actT x := fun op d q x hx => by rw [q] at hx; cases hx
  have hif : ∀ (q : Prop) [Decidable q] op d1 d2, actD t op s S.cell d1 = [] → actD t op s S.cell d2 = [] → ∀ x ∈ actD t op s S.cell (if q then d1 else d2), actT x := fun q _ op d1 d2 h1 h2 => by
    split
    · exact hnil _ _ h1
    · exact hnil _ _ h2
  have hgo : ∀ j, (S.th t).j = j → ∀ x ∈ actD t (tradeF.op c j) s S.cell (tradeF.dos c j S.cell (S.th t).r), actT x := fun j hj => by
    match j, hj with
    | 0, _ => exact hnil _ _ rfl
    | 1, _ => exact hnil _ _ rfl
    | 2, _ => exact act_still _ _ _ _
    | 3, _ => exact hif _ _ _ _ rfl rfl
    | 4, _ => exact hnil _ _ rfl
    | 5, hj =>
      by_cases h0 : S.cell 0 = (S.th t).r 1
      · have hd : tradeF.dos c 5 S.cell (S.th t).r = .mem 0 ((S.th t).r 2) (some (3, 1)) := if_pos h0
        rw [hd]
        intro x hx
        rw [List.mem_singleton.1 hx]
        have hr1 : (S.th t).r 1 ≠ 0 := hrg.2.2.1 (.inr hj)
        have hr2 : (S.th t).r 2 = 0 := hrg.2.2.2.1 hj
        obtain ⟨v, d, hv, hd, hv2, hpv, ho⟩ := h.slot.resolve_left (by rw [h0]; exact hr1)
        have hvt : v ≠ t := fun e => by subst e; simp [cls, hj] at hv2
        have hdm := hm v hv d (List.mem_of_getElem? hd)
        have hol := off_lt d
        have hbd : 0 ≤ S.cell 0 ∧ S.cell 0 < 100000000 ∧ 0 ≤ (S.th t).r 2 ∧ (S.th t).r 2 < 100000000 := by
          rw [ho, hr2]
          omega
        refine fun _ _ => ⟨rfl, .inr hr2, fun q => absurd hr2 q, fun _ => ?_, hbd⟩
        show S.cell 0 % 65536 - 1 ≠ (t : Int)
        rw [ho, off_mine]
        unfold mineT
        omega
      · have hd : tradeF.dos c 5 S.cell (S.th t).r = .mem 0 (S.cell 0) (some (3, 0)) := if_neg h0
        rw [hd]
        exact act_still _ _ _ _
    | 6, _ => exact hif _ _ _ _ rfl rfl
    | 7, _ => exact hnil _ _ rfl
    | 8, hj =>
      have hcx : cls (S.th t) = 1 := by simp [cls, hj]
      obtain ⟨v0, l0, d0, hp0, hd0, hpt0, hv0, hvt0⟩ := tr_met h ht (by rw [hcx]; decide) (fun q => absurd q (by rw [hcx]; decide))
      have h6 := hpt0.2.1 hj
      have hm0 := hm v0 hv0 d0 (List.mem_of_getElem? hd0)
      have hmv : mineT d0 = ((v0 + 1 : Nat) : Int) := by unfold mineT; rw [hm0]
      show ∀ x ∈ actD t _ s S.cell (if (S.th t).r 6 < 17 then DoK.mem (min ((S.th t).r 6).toNat 16) ((S.th t).r 4) none else DoK.next), actT x
      split
      · refine act_other _ _ _ _ ?_ _
        omega
      · exact hnil _ _ rfl
    | 9, _ => exact hif _ _ _ _ rfl rfl
    | 10, _ => exact hnil _ _ rfl
    | 11, _ => exact hnil _ _ rfl
    | 12, hj =>
      by_cases h0 : S.cell 0 = (S.th t).r 1
      · have hd : tradeF.dos c 12 S.cell (S.th t).r = .mem 0 ((S.th t).r 5) (some (3, 1)) := if_pos h0
        rw [hd]
        intro x hx
        rw [List.mem_singleton.1 hx]
        have hr1 : (S.th t).r 1 = 0 := hrg.2.2.2.2.1 hj
        have hr5 : (S.th t).r 5 = offT c := hrg.2.1 (by omega)
        have hol := off_lt c
        have hbd : 0 ≤ S.cell 0 ∧ S.cell 0 < 100000000 ∧ 0 ≤ (S.th t).r 5 ∧ (S.th t).r 5 < 100000000 := by
          rw [h0, hr1, hr5]
          omega
        refine fun _ _ => ⟨rfl, .inl (h0.trans hr1), fun _ => ?_, fun q => absurd (h0.trans hr1) q, hbd⟩
        show (S.th t).r 5 % 65536 - 1 = (t : Int)
        rw [hr5, off_mine]
        unfold mineT
        omega
      · have hd : tradeF.dos c 12 S.cell (S.th t).r = .mem 0 (S.cell 0) (some (3, 0)) := if_neg h0
        rw [hd]
        exact act_still _ _ _ _
    | 13, _ => exact hif _ _ _ _ rfl rfl
    | 14, _ => exact act_still _ _ _ _
    | 15, _ => exact hif _ _ _ _ rfl rfl
    | 16, _ => exact hnil _ _ rfl
    | 17, _ => exact hif _ _ _ _ rfl rfl
    | 18, _ => exact hnil _ _ rfl
    | 19, _ => exact hnil _ _ rfl
    | 20, _ => exact act_other _ _ _ _ (by omega) _
    | 21, _ => exact hnil _ _ rfl
    | j + 22, _ => exact hnil _ _ rfl
  exact hgo _ rfl

structure TrI (n : Nat) (calls : Nat → List Trd) (S : CS) (a : List Act6) (e : List Ev4) : Prop where
  g : ∃ pr, TrG n calls S e pr
  acts : ∀ x ∈ a, actT x
theorem tr_step (h : TrI n calls S a e) (hm : ∀ u, u < n → ∀ c ∈ calls u, (c.1 : Nat) = u + 1) (hwf : WfK tradeF n calls S) (ht : t < n) (he : (S.th t).en = false) (hsl : slK S t = false) (s : Int) :
    TrI n calls (stepK tradeF calls t S) (a ++ actsK tradeF calls t S s) (e ++ evsK tradeF calls t S s) ∧ potTr n calls (stepK tradeF calls t S) + 1 ≤ potTr n calls S := by
  obtain ⟨⟨pr, h⟩, ha⟩ := h
  cases hc : (calls t)[(S.th t).k]? with
  | none =>
    rw [stepK_end hc, actsK_end hc, evsK_end hc, List.append_nil, List.append_nil]
    refine ⟨⟨⟨pr, tr_end h⟩, ha⟩, potTr_same ht rfl rfl (fun _ _ => rfl) ?_⟩
    unfold potD
    rw [if_pos rfl, he, if_neg (by decide)]
    omega
  | some c =>
    rw [stepK_eq hc, actsK_eq hc, evsK_eq hc]
    obtain ⟨pr', h1, h2⟩ := tr_one h hm hwf ht he hsl s hc
    refine ⟨⟨⟨pr', h1⟩, fun x hx => ?_⟩, h2⟩
    rcases List.mem_append.1 hx with hx | hx
    · exact ha x hx
    · exact tr_acts h hm ht s hc x hx
theorem tr_init (n : Nat) (calls : Nat → List Trd) : TrI n calls (newK fun c => (List.replicate 17 (0 : Int)).getD c 0) [] [] := by
  have hz : ∀ i : Nat, (List.replicate 17 (0 : Int)).getD i 0 = 0 := fun i => by
    rw [List.getD_eq_getElem?_getD, List.getElem?_replicate]
    split <;> rfl
  have hz' : ∀ i : Nat, (newK fun c => (List.replicate 17 (0 : Int)).getD c 0).cell i = 0 := hz
  refine ⟨⟨fun _ _ => none, (fun u k v l h => by cases h), (fun u k hu h => absurd h (Nat.not_lt_zero _)), fun _ _ _ _ => rfl, fun u c hu hc => ?_, fun u _ _ => hz' _, fun u hu _ => .inl rfl, (fun u v l hu h => by cases h), .inl (hz' 0), fun i _ => hz' i, (fun s hs => by cases hs), (fun s hs => by cases hs), fun u hu => ⟨rfl, fun k v l d h => absurd h (Nat.not_lt_zero _)⟩, (fun x hx => by cases hx), 0, ?_⟩, (fun x hx => by cases hx)⟩
  · simp [rgT, newK]
  · exact sumN_zero fun u _ => rfl
theorem tr_poke (h : TrI n calls S a e) : TrI n calls (pokeK t S) a e := by
  obtain ⟨⟨pr, h⟩, ha⟩ := h
  exact ⟨⟨pr, h.sym, h.past, h.next, h.rg, h.out, h.free, h.met, h.slot, h.high, fun s hs => h.lot s (List.eraseP_sublist.subset hs), fun s hs => h.pend s (List.eraseP_sublist.subset hs), h.ans, h.evs, h.even⟩, ha⟩
theorem potTr_poke (ht : t < n) : potTr n calls (pokeK t S) ≤ potTr n calls S + 4 := by
  have := sumN_shift (n := n) (t := t) (a := 0) (b := 4) (f := fun u => potD n ((pokeK t S).cell 0) ((pokeK t S).cell (u + 1)) (calls u) ((pokeK t S).th u) (slK (pokeK t S) u)) (g := fun u => potD n (S.cell 0) (S.cell (u + 1)) (calls u) (S.th u) (slK S u)) ht (fun u hu hne => by rw [slK_poke hne]; rfl) (tpot_woke n (S.cell 0) (S.cell (t + 1)) (calls t) (S.th t) (slK S t) (slK (pokeK t S) t))
  unfold potTr
  omega
def trK (n : Nat) (calls : Nat → List Trd) (hm : ∀ u, u < n → ∀ c ∈ calls u, (c.1 : Nat) = u + 1) : KindF tradeF n calls (fun c => (List.replicate 17 (0 : Int)).getD c 0) where
  I := TrI n calls
  pot := potTr n calls
  pk := 4
  init := tr_init n calls
  can S a e t c h ht hc := by
    obtain ⟨⟨pr, h⟩, _⟩ := h
    intro hj
    have hcx : cls (S.th t) ≠ 0 ∧ cls (S.th t) ≠ 2 := by rcases hj with hj | hj <;> simp [cls, hj]
    obtain ⟨v, l, d, _, _, hp, _⟩ := tr_met h ht hcx.1 (fun q => absurd q hcx.2)
    have hl := mine_lt d
    rcases hj with hj | hj
    · rw [hp.2.1 hj]; exact hl
    · rw [(hp.2.2.1 hj).1]; exact hl
  step S a e s t hwf _ h ht he hs := tr_step h hm hwf ht he hs s
  poke S a e t hwf h ht hs := ⟨tr_poke h, potTr_poke ht⟩
theorem trK_pot {hm : ∀ u, u < n → ∀ c ∈ calls u, (c.1 : Nat) = u + 1} (hn : n ≤ 8) (hl : ∀ u, (calls u).length ≤ 6) : (trK n calls hm).pot (newK fun c => (List.replicate 17 (0 : Int)).getD c 0) ≤ 4200 := by
  have hp : ∀ u, potD n ((newK fun c => (List.replicate 17 (0 : Int)).getD c 0).cell 0) ((newK fun c => (List.replicate 17 (0 : Int)).getD c 0).cell (u + 1)) (calls u) ((newK fun c => (List.replicate 17 (0 : Int)).getD c 0).th u) (slK (newK fun c => (List.replicate 17 (0 : Int)).getD c 0) u) ≤ 517 := fun u => by
    have hw : 14 + 9 * n ≤ 86 := by omega
    generalize 14 + 9 * n = w at hw
    have h0 : ∀ v cm o, locT n v cm o (⟨0, 0, false, fun _ => 0⟩ : TK) false ≤ if o = none then 0 else 14 + 9 * n := fun v cm o => by
      cases o with
      | none => exact Nat.le_refl _
      | some b => exact Nat.le_refl _
    show (if false = true then 0 else 1 + locT n _ _ (calls u)[0]? ⟨0, 0, false, fun _ => 0⟩ _ + ((calls u).length - 1) * (14 + 9 * n)) ≤ 517
    have h1 := hl u
    have h2 := h0 ((newK fun c => (List.replicate 17 (0 : Int)).getD c 0).cell 0) ((newK fun c => (List.replicate 17 (0 : Int)).getD c 0).cell (u + 1)) (calls u)[0]?
    rw [if_neg (by decide)]
    cases hc : calls u with
    | nil =>
      rw [hc] at h2
      simp at h2 ⊢
      simp [newK, slK, locT]
    | cons b l =>
      rw [hc] at h1 h2
      have h3 : (l.length) * (14 + 9 * n) ≤ 5 * 86 := Nat.mul_le_mul (by simp at h1; omega) (by omega)
      have h4 : (if (b :: l)[0]? = none then 0 else 14 + 9 * n) ≤ 86 := by simp; omega
      have h5 : (b :: l).length - 1 = l.length := by simp
      rw [h5]
      have h6 : locT n ((newK fun c => (List.replicate 17 (0 : Int)).getD c 0).cell 0) ((newK fun c => (List.replicate 17 (0 : Int)).getD c 0).cell (u + 1)) (b :: l)[0]? ⟨0, 0, false, fun _ => 0⟩ (slK (newK fun c => (List.replicate 17 (0 : Int)).getD c 0) u) ≤ 86 := Nat.le_trans h2 h4
      omega
  have h4 : (sumN n fun u => potD n ((newK fun c => (List.replicate 17 (0 : Int)).getD c 0).cell 0) ((newK fun c => (List.replicate 17 (0 : Int)).getD c 0).cell (u + 1)) (calls u) ((newK fun c => (List.replicate 17 (0 : Int)).getD c 0).th u) (slK (newK fun c => (List.replicate 17 (0 : Int)).getD c 0) u)) ≤ sumN n fun _ => 517 := sumN_le fun u _ => hp u
  rw [sumN_const] at h4
  show potTr _ _ _ ≤ _
  unfold potTr
  have : n * 517 ≤ 8 * 517 := Nat.mul_le_mul_right _ hn
  omega

/-- Nobody can go on. -/
theorem tr_over (h : TrG n calls S e pr) (hwf : WfK tradeF n calls S) (hm : ∀ u, u < n → ∀ c ∈ calls u, (c.1 : Nat) = u + 1) (hq : ∀ t, t < n → stillK S t) :
    (∀ u, u < n → S.cell (u + 1) = 0) ∧ (∀ u, u < n → (S.th u).en = false → ∃ c, (calls u)[(S.th u).k]? = some c ∧ S.cell 0 = offT c) ∧
    (S.cell 0 ≠ 0 → ∃ u, u < n ∧ (S.th u).en = false) ∧ (∃ q, (sumN n fun u => (S.th u).k) = 2 * q) := by
  have hen : ∀ u, u < n → (S.th u).en = true → cls (S.th u) = 0 := fun u hu he => by
    have hj := (hwf.th u hu).j0 ((hwf.th u hu).fin he)
    simp [cls, hj]
  have hsl : ∀ u, u < n → (S.th u).en = false → (S.th u).j = 18 ∧ cls (S.th u) = 2 ∧ ∃ c, (calls u)[(S.th u).k]? = some c ∧ slK S u = true := fun u hu he => by
    rcases hq u hu with q | q
    · rw [he] at q; cases q
    · obtain ⟨b, hb⟩ := slK_mem q
      obtain ⟨a1, a2, a3⟩ := h.lot _ hb
      obtain ⟨c, hc⟩ := Option.ne_none_iff_exists'.1 a3
      exact ⟨a2, by simp [cls, a2], c, hc, q⟩
  have hcs : ∀ u, u < n → cls (S.th u) = 0 ∨ (cls (S.th u) = 2 ∧ (S.th u).j = 18) := fun u hu => by
    cases he : (S.th u).en with
    | true => exact .inl (hen u hu he)
    | false => exact .inr ⟨(hsl u hu he).2.1, (hsl u hu he).1⟩
  have hcell : ∀ u, u < n → S.cell (u + 1) = 0 := fun u hu => by
    cases he : (S.th u).en with
    | true => exact h.out u hu (by rw [hen u hu he]; decide)
    | false =>
      obtain ⟨_, _, c, _, q⟩ := hsl u hu he
      obtain ⟨b, hb⟩ := slK_mem q
      have hb2 : b = u + 1 := (h.lot _ hb).1
      subst hb2
      by_cases hz : S.cell (u + 1) = 0
      · exact hz
      · exfalso
        obtain ⟨v, hv, hvo, hv9, _⟩ := h.pend _ hb hz
        rcases hcs v hv with q | ⟨_, q⟩
        · have : cls (S.th v) = 3 := by simp [cls, hv9]
          omega
        · omega
  have hpn : ∀ u, u < n → (S.th u).en = false → pr u (S.th u).k = none := fun u hu he => by
    obtain ⟨_, hc2, c, hc, _⟩ := hsl u hu he
    cases hp : pr u (S.th u).k with
    | none => rfl
    | some q =>
      exfalso
      obtain ⟨v, l⟩ := q
      obtain ⟨_, d, _, _, _, a5⟩ := h.met u v l hu hp
      have hgl := giv_lt d
      rcases a5 hc2 with b | ⟨b1, b2, b3⟩
      · rw [hcell u hu] at b; omega
      · rcases hcs v (met_call h hp).1 with q | ⟨q, _⟩ <;> omega
  refine ⟨hcell, fun u hu he => ?_, fun hz => ?_, ?_⟩
  · obtain ⟨_, hc2, c, hc, _⟩ := hsl u hu he
    rcases h.free u hu (hpn u hu he) with q | ⟨_, _, q⟩
    · omega
    · exact q
  · obtain ⟨v, c, hv, hc, hv2, _⟩ := h.slot.resolve_left hz
    refine ⟨v, hv, ?_⟩
    cases he : (S.th v).en with
    | false => rfl
    | true => rw [hen v hv he] at hv2; cases hv2
  · obtain ⟨q, hq⟩ := h.even
    refine ⟨q, ?_⟩
    rw [← hq]
    refine Nat.le_antisymm (sumN_le fun u hu => by omega) (sumN_le fun u hu => ?_)
    have : pr u (S.th u).k = none := by
      cases he : (S.th u).en with
      | false => exact hpn u hu he
      | true => exact tr_idle h hu (hen u hu he)
    rw [this]
    exact Nat.le_refl _
/-- At most one is left. -/
theorem tr_open (h : TrG n calls S e pr) (hwf : WfK tradeF n calls S) (hm : ∀ u, u < n → ∀ c ∈ calls u, (c.1 : Nat) = u + 1) (hq : ∀ t, t < n → stillK S t) {u v : Nat} (hu : u < n) (hv : v < n) (h1 : (S.th u).en = false) (h2 : (S.th v).en = false) : u = v := by
  obtain ⟨_, h3, _⟩ := tr_over h hwf hm hq
  obtain ⟨c, hc, e1⟩ := h3 u hu h1
  obtain ⟨d, hd, e2⟩ := h3 v hv h2
  exact off_inj hm hu hv hc hd (e1.symm.trans e2)
/-- What each was told is what another one had. -/
theorem tr_told (h : TrG n calls S e pr) {u k : Nat} (hu : u < n) (hk : k < (S.th u).k) : ∃ v l d, pr u k = some (v, l) ∧ (calls v)[l]? = some d ∧ v < n ∧ v ≠ u ∧ l ≤ (S.th v).k ∧ (ansOf e u)[k]? = some (givT d - 1) := by
  cases hp : pr u k with
  | none => exact absurd hp (h.past u k hu hk)
  | some q =>
    obtain ⟨v, l⟩ := q
    obtain ⟨hv, d, hd⟩ := met_call h hp
    refine ⟨v, l, d, rfl, hd, hv, (h.sym _ _ _ _ hp).2.1, ?_, (h.ans u hu).2 k v l d hk hp hd⟩
    have h1 := (h.sym _ _ _ _ hp).1
    by_cases q : (S.th v).k < l
    · rw [h.next v l hv q] at h1; cases h1
    · omega
end
end Go.Proofs.YtlcffeiolpggfaaDoor
